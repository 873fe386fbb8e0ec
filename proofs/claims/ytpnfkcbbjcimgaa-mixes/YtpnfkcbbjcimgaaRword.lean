import Derived.Test.YtpnfkcbbjcimgaaWrot
namespace Go.Proofs.Ytpnfkcbbjcimgaa
open Go.RowKit
attribute [local go_sem] U_add U_xor
def numOf (v : Value) : Nat := (intOf v + 1).toNat
set_option maxRecDepth 100000 in
set_option maxHeartbeats 400000 in
theorem refword_core (blk len cap a : Nat) (g : Nat → BitVec 8) (f : Nat → BitVec 64) (w : World)
    (hc : Hid (∀ i, i < 8 → w.cell? ⟨blk, a + i, none⟩ = some (.int .u8 (B (g i)))))
    (hlen : a + 8 ≤ len) (hlen2 : len ≤ 16) (hf8 : Hid (f 8 = 0))
    (hf : Hid (∀ j, j < 8 → IntKind.u64.wrap (IntKind.u64.wrap (U (f (j + 1)) * 256) + B (g j)) = U (f j))) :
    Calls Try.prog 28 #[.slice (some ⟨blk, 0, none⟩) len cap, .int .i64 (a : Int)] w fun e w' => e = .returned (.int .u64 (U (f 0))) ∧ w' = w := by
  go_enter Try.func28, Try.ntmps28
  go_wp2
  go_loop [5, 6] (fun n i => ∃ j : Nat, j ≤ 8 ∧ i = .int .i64 ((j : Int) - 1) ∧ n = .int .u64 (U (f j))) (fun _ i => numOf i)
  case atStart => exact ⟨8, Nat.le_refl _, rfl, by rw [hf8.out]; rfl⟩
  case round =>
    rename_i hw
    clear hw
    obtain ⟨j, hj, rfl, rfl⟩ := hrel
    by_cases hlt : 0 < j
    · obtain ⟨j, rfl⟩ : ∃ k, j = k + 1 := ⟨j - 1, by omega⟩
      have hx1 := B_nonneg (g j)
      have hy1 := B_lt (g j)
      have hcj := hc.out j (by omega)
      have e1 : ((j + 1 : Nat) : Int) - 1 = (j : Int) := by omega
      rw [e1]
      have e2 : ((a : Int) + (j : Int)).toNat = a + j := by omega
      go_wp2
      go_round
      case rel => exact ⟨j, by omega, by go_num, by rw [← hf.out j (by omega)]⟩
      case measure => simp [numOf, intOf]
    · have e : j = 0 := by omega
      subst e
      go_wp2
      go_ret
      exact ⟨rfl, rfl⟩
/-- Eight bytes of a slice from a place on, as a word. -/
theorem refword_any (blk len cap a : Nat) (at0 : Int) (hat : at0 = (a : Int)) (b0 b1 b2 b3 b4 b5 b6 b7 : BitVec 8) (w : World)
    (h0 : w.cell? ⟨blk, a + 0, none⟩ = some (.int .u8 (B b0))) (h1 : w.cell? ⟨blk, a + 1, none⟩ = some (.int .u8 (B b1))) (h2 : w.cell? ⟨blk, a + 2, none⟩ = some (.int .u8 (B b2))) (h3 : w.cell? ⟨blk, a + 3, none⟩ = some (.int .u8 (B b3)))
    (h4 : w.cell? ⟨blk, a + 4, none⟩ = some (.int .u8 (B b4))) (h5 : w.cell? ⟨blk, a + 5, none⟩ = some (.int .u8 (B b5))) (h6 : w.cell? ⟨blk, a + 6, none⟩ = some (.int .u8 (B b6))) (h7 : w.cell? ⟨blk, a + 7, none⟩ = some (.int .u8 (B b7)))
    (hlen : a + 8 ≤ len) (hlen2 : len ≤ 16) :
    Calls Try.prog 28 #[.slice (some ⟨blk, 0, none⟩) len cap, .int .i64 at0] w fun e w' => e = .returned (.int .u64 (U (leW [b0, b1, b2, b3, b4, b5, b6, b7]))) ∧ w' = w := by
  subst hat
  refine refword_core blk len cap a (fun k => [b0, b1, b2, b3, b4, b5, b6, b7].getD k 0) (fun k => leW ([b0, b1, b2, b3, b4, b5, b6, b7].drop k)) w ?_ hlen hlen2 rfl ?_
  · intro i hi
    rcases (show i = 0 ∨ i = 1 ∨ i = 2 ∨ i = 3 ∨ i = 4 ∨ i = 5 ∨ i = 6 ∨ i = 7 from by omega) with rfl | rfl | rfl | rfl | rfl | rfl | rfl | rfl <;> assumption
  · intro j hj
    have e : [b0, b1, b2, b3, b4, b5, b6, b7].drop j = [b0, b1, b2, b3, b4, b5, b6, b7].getD j 0 :: [b0, b1, b2, b3, b4, b5, b6, b7].drop (j + 1) := by
      rw [List.drop_eq_getElem_cons (by simpa using hj)]
      simp [List.getD, List.getElem?_eq_getElem (show j < [b0, b1, b2, b3, b4, b5, b6, b7].length from by simpa using hj)]
    have hl : ([b0, b1, b2, b3, b4, b5, b6, b7].drop (j + 1)).length < 8 := by rw [List.length_drop]; simp; omega
    show _ = U (leW (List.drop j _))
    rw [e]
    exact refword_step _ _ hl
end Go.Proofs.Ytpnfkcbbjcimgaa
