import Derived.Test.YtpnfkcbbjcimgaaMathc
namespace Go.Proofs.Ytpnfkcbbjcimgaa
open Go.RowKit
set_option maxRecDepth 100000 in
set_option maxHeartbeats 1000000 in
theorem sameClaims_true (sa sb : Option Addr) (sn sc sd : Nat) (cl : List (Int × Int)) (w : World) (hn : sn ≤ 9223372036854775807) (h1 : Cl w sa sn cl) (h2 : Cl w sb sn cl) :
    Calls Try.prog 12 #[.slice sa sn sc, .slice sb sn sd] w fun e w' => e = .returned (.bool true) ∧ Below w.heap.size w w' := by
  have H1 : Hid (Cl w sa sn cl) := h1
  have H2 : Hid (Cl w sb sn cl) := h2
  clear h1 h2
  go_enter Try.func12, Try.ntmps12
  go_wp2
  go_loopw [5] (fun i wr => ∃ k : Nat, k ≤ sn ∧ i = .int .i64 k ∧ Below w.heap.size w wr) (fun i _ => sn - (intOf i).toNat)
  case atStart => exact ⟨0, Nat.zero_le _, rfl, Below.refl _ _⟩
  case round =>
    obtain ⟨k, hk, rfl, hb⟩ := hrel
    have BB : Hid (Below w.heap.size w wr) := hb
    clear hb
    by_cases hlt : k < sn
    · obtain ⟨b, off, hs, hcell⟩ := H1.out.2.resolve_left (by omega)
      obtain ⟨b', off', hs', hcell'⟩ := H2.out.2.resolve_left (by omega)
      subst hs hs'
      have c1 := cell_later BB.out (hcell k hlt).1
      have c2 := cell_later BB.out (hcell k hlt).2
      have e1 := cell_later BB.out (hcell' k hlt).1
      have e2 := cell_later BB.out (hcell' k hlt).2
      clear hcell hcell'
      generalize cl.getD k (0, 0) = c at *
      obtain ⟨d, r⟩ := c
      dsimp only at c1 c2 e1 e2
      go_wp2_with fail
      go_quiet (fail)
      go_wp2
      go_roundw
      case rel => exact ⟨k + 1, by omega, by go_num, BB.out.trans ⟨rfl, rfl, rfl, Nat.le_refl _, fun _ _ => rfl⟩⟩
      case measure => simp [intOf]; omega
    · go_wp2
      go_ret
      exact ⟨rfl, BB.out⟩
/-- The same request with another list. -/
def Rq.withSl (q : Rq) (sa : Option Addr) (sn sc : Nat) : Rq := ⟨q.kd, q.ac, q.dv, q.rg, q.cu, q.mo, q.k, q.m, sa, sn, sc, q.tx⟩
theorem self22 (q : Rq) (w : World) : (Op.equalIn 10000 22 (.agg #[.int .u8 (B (q.k 0)), .int .u8 (B (q.k 1)), .int .u8 (B (q.k 2)), .int .u8 (B (q.k 3)), .int .u8 (B (q.k 4)), .int .u8 (B (q.k 5)), .int .u8 (B (q.k 6)), .int .u8 (B (q.k 7)), .int .u8 (B (q.k 8)), .int .u8 (B (q.k 9)), .int .u8 (B (q.k 10)), .int .u8 (B (q.k 11)), .int .u8 (B (q.k 12)), .int .u8 (B (q.k 13)), .int .u8 (B (q.k 14)), .int .u8 (B (q.k 15))]) (.agg #[.int .u8 (B (q.k 0)), .int .u8 (B (q.k 1)), .int .u8 (B (q.k 2)), .int .u8 (B (q.k 3)), .int .u8 (B (q.k 4)), .int .u8 (B (q.k 5)), .int .u8 (B (q.k 6)), .int .u8 (B (q.k 7)), .int .u8 (B (q.k 8)), .int .u8 (B (q.k 9)), .int .u8 (B (q.k 10)), .int .u8 (B (q.k 11)), .int .u8 (B (q.k 12)), .int .u8 (B (q.k 13)), .int .u8 (B (q.k 14)), .int .u8 (B (q.k 15))])).run Try.prog w = .ok true w := by
  have h := eq22 q.key q.key rfl rfl w
  have e : ((List.range 16).all fun i => q.key.getD i 0 == q.key.getD i 0) = true := by rw [List.all_eq_true]; intro i _; exact beq_self_eq_true _
  rw [e] at h
  exact h
theorem self23 (q : Rq) (w : World) : (Op.equalIn 10000 23 (.agg #[.int .u8 (B (q.m 0)), .int .u8 (B (q.m 1)), .int .u8 (B (q.m 2)), .int .u8 (B (q.m 3)), .int .u8 (B (q.m 4)), .int .u8 (B (q.m 5)), .int .u8 (B (q.m 6)), .int .u8 (B (q.m 7))]) (.agg #[.int .u8 (B (q.m 0)), .int .u8 (B (q.m 1)), .int .u8 (B (q.m 2)), .int .u8 (B (q.m 3)), .int .u8 (B (q.m 4)), .int .u8 (B (q.m 5)), .int .u8 (B (q.m 6)), .int .u8 (B (q.m 7))])).run Try.prog w = .ok true w := by
  have h := eq23 q.mac q.mac rfl rfl w
  have e : ((List.range 8).all fun i => q.mac.getD i 0 == q.mac.getD i 0) = true := by rw [List.all_eq_true]; intro i _; exact beq_self_eq_true _
  rw [e] at h
  exact h
attribute [local go_sem] row_0 row_1 row_2 row_3 row_4 row_5 row_6 row_7 row_8 row_9 row_10 row_11 row_12 row_13 row_14 row_15 row_16 row_17 row_18 row_19 row_20 row_21 row_22 row_23 row_24 row_25 row_26 row_27 row_28 row_29 row_30 row_31 Rq.withSl
set_option maxRecDepth 100000 in
set_option maxHeartbeats 2000000 in
theorem sameRequest_true (q : Rq) (sa : Option Addr) (sn sc : Nat) (cl : List (Int × Int)) (w : World) (hn : sn ≤ 9223372036854775807) (h1 : Cl w sa sn cl) (h2 : Cl w q.sa q.sn cl) :
    Calls Try.prog 22 #[.agg (q.withSl sa sn sc).row, .agg q.row] w fun e w' => e = .returned (.bool true) ∧ Below w.heap.size w w' := by
  have hnn : q.sn = sn := h2.1.symm.trans h1.1
  have B0 : Hid (Below w.heap.size w ((w.alloc (.cells (q.withSl sa sn sc).row 28)).alloc (.cells q.row 28))) := ((Below.refl _ _).alloc (Nat.le_refl _) _).alloc (by simp) _
  have H1 : Hid (Cl w sa sn cl) := h1
  have H2 : Hid (Cl w q.sa sn cl) := hnn ▸ h2
  have HN : Hid (q.sn = sn) := hnn
  have q1 := self22 q
  have q2 := self23 q
  clear h1 h2 hnn
  go_enter Try.func22, Try.ntmps22
  go_wp2_with fail
  rw [HN.out]
  refine (sameClaims_true _ _ _ _ _ cl _ hn (H1.out.later B0.out) (H2.out.later B0.out)).mono ?_
  rintro e w1 ⟨rfl, hb1⟩
  have R1 := Row.of (blk_later hb1 (by simp; omega) (blk_alloc (by simp) (blk_newest (w := w) rfl (.cells (q.withSl sa sn sc).row 28)) (.cells q.row 28)))
  have R2 := Row.of (blk_later hb1 (by simp) (blk_newest (w := w.alloc (.cells (q.withSl sa sn sc).row 28)) (n := w.heap.size + 1) (by simp) (.cells q.row 28)))
  have B1 : Hid (Below w.heap.size w w1) := B0.out.trans (hb1.mono (by simp; omega))
  unfold Row at R1 R2
  clear hb1 B0
  go_wp2
  go_ret
  exact ⟨rfl, B1.out⟩
theorem row_same {q : Rq} {cl : List (Int × Int)} {d : Dat} (s : Same q cl d) (sa : Option Addr) (sn sc : Nat) : (d.rq sa sn sc).row = (q.withSl sa sn sc).row := by
  have ht : strB d.tx = q.tx := by rw [s.tx, strB_txB]
  unfold Rq.row Rq.withSl Dat.rq
  dsimp only
  rw [s.kd, s.ac, s.dv, s.rg, s.cu, s.mo, ht, s.k 0 (by omega), s.k 1 (by omega), s.k 2 (by omega), s.k 3 (by omega), s.k 4 (by omega), s.k 5 (by omega), s.k 6 (by omega), s.k 7 (by omega), s.k 8 (by omega), s.k 9 (by omega), s.k 10 (by omega), s.k 11 (by omega), s.k 12 (by omega), s.k 13 (by omega), s.k 14 (by omega), s.k 15 (by omega), s.m 0 (by omega), s.m 1 (by omega), s.m 2 (by omega), s.m 3 (by omega), s.m 4 (by omega), s.m 5 (by omega), s.m 6 (by omega), s.m 7 (by omega)]
end Go.Proofs.Ytpnfkcbbjcimgaa
