import Derived.Test.YtpnfkcbbjcimgaaCnum
namespace Go.Proofs.Ytpnfkcbbjcimgaa
open Go.RowKit
theorem wrap_byte (n : Int) (hn : 0 ≤ n) : IntKind.u8.wrap (n.tmod 256) = B (BitVec.ofInt 8 n) := by
  rw [B_ofInt, Int.tmod_eq_emod_of_nonneg hn]
  show (n % 256) % 256 = n % 256
  omega
theorem conv_now (n : Int) (hn : 0 ≤ n) (W : World) : (convert 65 9 (.slice (some ⟨W.heap.size, 0, none⟩) 1 1)).run Try.prog (W.alloc (.cells #[.int .u8 (IntKind.u8.wrap (n.tmod 256))] 5)) = .ok (.string (strB [BitVec.ofInt 8 n])) (W.alloc (.cells #[.int .u8 (IntKind.u8.wrap (n.tmod 256))] 5)) := by
  refine conv1 _ _ _ ?_
  rw [← wrap_byte n hn]
  exact Row.of (blk_newest (w := W) rfl _) 0
theorem conv_drew (n : Int) (hn : 0 ≤ n) (W : World) : (convert 65 9 (.slice (some ⟨W.heap.size, 0, none⟩) 1 1)).run Try.prog (W.alloc (.cells #[.int .u8 (IntKind.u8.wrap (n.tmod 256))] 5)).drew = .ok (.string (strB [BitVec.ofInt 8 n])) (W.alloc (.cells #[.int .u8 (IntKind.u8.wrap (n.tmod 256))] 5)).drew := by
  refine conv1 _ _ _ ?_
  rw [← wrap_byte n hn]
  exact Row.of (blk_newest (w := W) rfl _) 0
theorem conv_later (n : Int) (hn : 0 ≤ n) {W w1 : World} {g : Nat} (hg : W.heap.size = g) (hb : Below (W.alloc (.cells #[.int .u8 (IntKind.u8.wrap (n.tmod 256))] 5)).drew.heap.size (W.alloc (.cells #[.int .u8 (IntKind.u8.wrap (n.tmod 256))] 5)).drew w1) : (convert 65 9 (.slice (some ⟨g, 0, none⟩) 1 1)).run Try.prog w1 = .ok (.string (strB [BitVec.ofInt 8 n])) w1 := by
  subst hg
  refine conv1 _ _ _ (cell_later hb ?_)
  rw [← wrap_byte n hn]
  exact Row.of (blk_newest (w := W) rfl _) 0
theorem wrap_quo (n : Int) (hn : 0 ≤ n) (hn2 : n ≤ 9223372036854775807) : IntKind.i64.wrap (n.tdiv 256) = n / 256 := by
  rw [Int.tdiv_eq_ediv_of_nonneg hn, IntKind.wrap_i64]
  go_num
set_option maxRecDepth 100000 in
theorem wrap_nat (k : Nat) (hk : k < 8) : IntKind.i64.wrap (k : Int) = (k : Int) := by
  have h : k = 0 ∨ k = 1 ∨ k = 2 ∨ k = 3 ∨ k = 4 ∨ k = 5 ∨ k = 6 ∨ k = 7 := by omega
  rcases h with rfl | rfl | rfl | rfl | rfl | rfl | rfl | rfl <;> rfl
set_option maxRecDepth 100000 in
set_option maxHeartbeats 1000000 in
theorem written_succ (n : Int) (k : Nat) (hn : 0 ≤ n) (hn2 : n ≤ 9223372036854775807) (hk : k < 8) (w : World)
    (ih : ∀ x y w, x = n / 256 → y = (k : Int) → Calls Try.prog 32 #[.int .i64 x, .int .i64 y] w fun e w' => e = .returned (.string (strB (numTo (n / 256) k k))) ∧ Below w.heap.size w w') :
    Calls Try.prog 32 #[.int .i64 n, .int .i64 ((k : Int) + 1)] w fun e w' => e = .returned (.string (strB (numTo n (k + 1) (k + 1)))) ∧ Below w.heap.size w w' := by
  rw [numTo_cons n k, ← strB_append]
  have hs := strB_size (numTo (n / 256) k k)
  rw [numTo_length] at hs
  have hs1 : (strB [BitVec.ofInt 8 n]).size = 1 := strB_size _
  have hnow := conv_now n hn
  have hdrew := conv_drew n hn
  go_enter Try.func32, Try.ntmps32
  go_wp2
  go_region_with (go_at_call 32; refine (ih _ _ _ (wrap_quo n hn hn2) (wrap_nat k hk)).mono ?_; rintro e w1 ⟨rfl, hb1⟩; try (have hc2 := conv_later n hn (g := w.heap.size) rfl hb1))
  all_goals (go_wp2; go_ret)
  all_goals refine ⟨rfl, ?_⟩
  all_goals have hz : w.heap.size ≤ w1.heap.size := Nat.le_trans (by simp) hb1.size
  all_goals first
    | exact Below.alloc (((Below.refl _ w).drew).trans hb1) hz _
    | exact (((Below.refl _ w).alloc (Nat.le_refl _) _).drew).trans (hb1.mono (by simp))
    | exact ((((Below.refl _ w).alloc (Nat.le_refl _) _).drew).trans (hb1.mono (by simp))).drew
set_option maxHeartbeats 400000 in
theorem written_zero (n : Int) (w : World) : Calls Try.prog 32 #[.int .i64 n, .int .i64 0] w fun e w' => e = .returned (.string (strB [])) ∧ Below w.heap.size w w' := by
  go_enter Try.func32, Try.ntmps32
  go_wp2
  go_ret
  exact ⟨rfl, Below.refl _ _⟩
/-- A number as so many bytes. -/
theorem written_any : ∀ (k : Nat) (n x : Int), 0 ≤ n → n ≤ 9223372036854775807 → k ≤ 8 → x = (k : Int) → ∀ w, Calls Try.prog 32 #[.int .i64 n, .int .i64 x] w fun e w' => e = .returned (.string (strB (numTo n k k))) ∧ Below w.heap.size w w'
  | 0, n, _, _, _, _, rfl, w => written_zero n w
  | k + 1, n, _, h0, h1, hk, rfl, w => written_succ n k h0 h1 (by omega) w fun x y w hx hy => by
    subst hx
    exact written_any k (n / 256) y (by omega) (by omega) (by omega) hy w
end Go.Proofs.Ytpnfkcbbjcimgaa
