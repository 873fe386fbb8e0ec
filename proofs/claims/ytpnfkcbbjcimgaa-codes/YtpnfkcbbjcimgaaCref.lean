import Derived.Test.YtpnfkcbbjcimgaaWin
namespace Go.Proofs.Ytpnfkcbbjcimgaa
open Go.RowKit
theorem B_zero : B 0 = 0 := rfl
/-- A byte at a place; what lies beyond is 0. -/
def byteAt (l : List (BitVec 8)) (i : Nat) : BitVec 8 := l.getD i 0
/-- The number of so many bytes at a place. -/
def numAt (l : List (BitVec 8)) (i : Nat) : Nat → Int
  | 0 => 0
  | k + 1 => numAt l i k * 256 + B (byteAt l (i + k))
theorem numAt_bound (l : List (BitVec 8)) (i : Nat) : ∀ k, 0 ≤ numAt l i k ∧ numAt l i k < 256 ^ k
  | 0 => ⟨Int.le_refl 0, by show (0 : Int) < 256 ^ 0; decide⟩
  | k + 1 => by
    obtain ⟨h0, h1⟩ := numAt_bound l i k
    have b0 := B_nonneg (byteAt l (i + k))
    have b1 := B_lt (byteAt l (i + k))
    show 0 ≤ numAt l i k * 256 + B (byteAt l (i + k)) ∧ numAt l i k * 256 + B (byteAt l (i + k)) < 256 ^ (k + 1)
    rw [Int.pow_succ]
    exact ⟨by omega, by omega⟩
theorem numAt_small (l : List (BitVec 8)) (i k : Nat) (hk : k ≤ 4) : 0 ≤ numAt l i k ∧ numAt l i k < 4294967296 := by
  obtain ⟨h0, h1⟩ := numAt_bound l i k
  have h : k = 0 ∨ k = 1 ∨ k = 2 ∨ k = 3 ∨ k = 4 := by omega
  refine ⟨h0, ?_⟩
  rcases h with rfl | rfl | rfl | rfl | rfl <;> omega
set_option maxRecDepth 100000 in
set_option maxHeartbeats 1000000 in
theorem number_ref (l : List (BitVec 8)) (hl : l.length ≤ 140737488355328) (x y : Int) (i n : Nat) (hx : x = (i : Int)) (hy : y = (n : Int)) (hi : i ≤ 100000) (hn : n ≤ 4) (w : World) :
    Calls Try.prog 56 #[.string (strB l), .int .i64 x, .int .i64 y] w fun e w' => e = .returned (.int .i64 (numAt l i n)) ∧ w' = w := by
  subst hx hy
  have hsz := strB_size l
  go_enter Try.func56, Try.ntmps56
  go_wp2_with fail
  go_loop [7, 8] (fun v k => ∃ j : Nat, j ≤ n ∧ k = .int .i64 j ∧ v = .int .i64 (numAt l i j)) (fun _ k => n - (intOf k).toNat)
  case atStart => exact ⟨0, Nat.zero_le _, rfl, rfl⟩
  case round =>
    obtain ⟨j, hj, rfl, rfl⟩ := hrel
    by_cases hlt : j < n
    · have HS : Hid (numAt l i (j + 1) = numAt l i j * 256 + B (byteAt l (i + j))) := rfl
      obtain ⟨q0, q1⟩ := numAt_bound l i j
      have q2 : numAt l i j < 16777216 := by
        have h : j = 0 ∨ j = 1 ∨ j = 2 ∨ j = 3 := by omega
        rcases h with rfl | rfl | rfl | rfl <;> omega
      clear q1
      by_cases hin : i + j < l.length
      · have hx1 := B_nonneg (byteAt l (i + j))
        have hy1 := B_lt (byteAt l (i + j))
        have hix : Hid (∀ h : i + j < (strB l).size, (((strB l)[i + j]).toNat : Int) = B (byteAt l (i + j))) := fun h => str_index l (i + j) h
        go_wp2
        go_round
        case rel => exact ⟨j + 1, by omega, by go_num, by rw [hix.out (by omega), wrap64_B, HS.out, show wrap64 (numAt l i j * 256 + B (byteAt l (i + j))) = numAt l i j * 256 + B (byteAt l (i + j)) from by unfold wrap64; omega]⟩
        case measure => simp [intOf]; omega
      · have h0 : Hid (byteAt l (i + j) = 0) := by show _ = _; unfold byteAt; rw [List.getD, List.getElem?_eq_none (by omega)]; rfl
        go_wp2
        go_round
        case rel => exact ⟨j + 1, by omega, by go_num, by rw [HS.out, h0.out, B_zero]; go_num⟩
        case measure => simp [intOf]; omega
    · have e : j = n := by omega
      subst e
      go_wp2
      go_ret
      exact ⟨rfl, rfl⟩
set_option maxHeartbeats 1000000 in
theorem tail_ref (l : List (BitVec 8)) (_hl : l.length ≤ 140737488355328) (x : Int) (i : Nat) (hx : x = (i : Int)) (hi : i ≤ 100000) (w : World) :
    Calls Try.prog 57 #[.string (strB l), .int .i64 x] w fun e w' => e = .returned (.string (strB (l.drop i))) ∧ w' = w := by
  subst hx
  have hsz := strB_size l
  by_cases h : l.length < i
  · have e : l.drop i = [] := List.drop_of_length_le (by omega)
    rw [e]
    clear e
    go_enter Try.func57, Try.ntmps57
    go_wp2
    go_ret
    exact ⟨rfl, rfl⟩
  · have hd := strB_drop l i
    go_enter Try.func57, Try.ntmps57
    go_wp2
    go_ret
    exact ⟨by first | rfl | (rw [← hd]; rfl) | (rw [← hd, ← hsz]; rfl), rfl⟩
end Go.Proofs.Ytpnfkcbbjcimgaa
