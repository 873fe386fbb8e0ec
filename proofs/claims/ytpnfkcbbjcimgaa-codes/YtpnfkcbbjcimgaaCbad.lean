import Derived.Test.YtpnfkcbbjcimgaaCstand
namespace Go.Proofs.Ytpnfkcbbjcimgaa
open Go.RowKit
attribute [local go_sem] row_0 row_1 row_2 row_3 row_4 row_5 row_6 row_7 row_8 row_9 row_10 row_11 row_12 row_13 row_14 row_15 row_16 row_17 row_18 row_19 row_20 row_21 row_22 row_23 row_24 row_25 row_26 row_27 row_28 row_29 row_31
set_option maxRecDepth 100000 in
set_option maxHeartbeats 4000000 in
theorem rmay_bad (q : Rq) (cl : List (Int × Int)) (w : World) (v : Option Addr) (hv : q.row[30]? = some (.slice v q.sn q.sc)) (hcl : Cl w v q.sn cl) (h : firstB q = true) (hbad : Hid (clOk (-1) cl = false)) :
    Calls Try.prog 30 #[.agg q.row] w fun e w' => e = .returned (.bool false) ∧ Below w.heap.size w w' := by
  have HC : Hid (Cl w v q.sn cl) := hcl
  obtain ⟨⟨a0, a1⟩, a2, a3, a4, a5, a6, a7, a8⟩ := first_facts h
  clear hcl h
  go_enter Try.func30, Try.ntmps30
  go_wp2_with (go_at_call 50; refine (in_any _ _ _).mono ?_; rintro e w' ⟨rfl, rfl⟩)
  go_loopw [6] (fun i wr => ∃ k : Nat, k ≤ q.sn ∧ i = .int .i64 k ∧ clOk (-1) cl = clOk (before cl k) (cl.drop k) ∧ Stand w q wr) (fun i _ => q.sn - (intOf i).toNat)
  case atStart =>
    exact ⟨0, Nat.zero_le _, rfl, rfl, blk_alloc (by simp; omega) (blk_alloc (by simp) (blk_newest rfl _) _) _, blk_alloc (by simp) (blk_newest (by simp) _) _, blk_newest (by simp) _, (((Below.refl _ _).alloc (Nat.le_refl _) _).alloc (by simp) _).alloc (by simp; omega) _⟩
  case round =>
    obtain ⟨k, hk, rfl, he, hb⟩ := hrel
    have BB : Hid (Stand w q wr) := hb
    have EE : Hid (clOk (-1) cl = clOk (before cl k) (cl.drop k)) := he
    have R := Row.of hb.req
    unfold Row at R
    clear hb he
    by_cases hlt : k < q.sn
    · have hl := HC.out.1
      obtain ⟨b, off, hs, hcell⟩ := HC.out.2.resolve_left (by omega)
      subst hs
      have c1 := cell_later BB.out.bel (hcell k hlt).1
      have c2 := cell_later BB.out.bel (hcell k hlt).2
      have HD : Hid (cl.drop k = cl.getD k (0, 0) :: cl.drop (k + 1)) := by
        show _ = _
        rw [List.drop_eq_getElem_cons (by omega)]
        simp [List.getD, List.getElem?_eq_getElem (show k < cl.length from by omega)]
      have HB : Hid (before cl (k + 1) = (cl.getD k (0, 0)).1) := rfl
      by_cases hd : inB (cl.getD k (0, 0)).1 255 = false
      · have HF : Hid (clOk (-1) cl = false) := by show _ = _; rw [EE.out, HD.out]; simp only [clOk, hd, Bool.and_false, Bool.false_and]
        clear hcell hl HD HB
        generalize (cl.getD k (0, 0)).1 = d at *
        generalize (cl.getD k (0, 0)).2 = r at *
        go_wp2_with fail
        go_quiet (first | (go_at_call 50; exact Calls.quiet_of_same (in_any _ _ _)))
        go_wp2
        go_ret
        exact ⟨rfl, (BB.out.drewN _).bel⟩
      have hd : inB (cl.getD k (0, 0)).1 255 = true := by simpa using hd
      by_cases hr : inB (cl.getD k (0, 0)).2 65535 = false
      · have HF : Hid (clOk (-1) cl = false) := by show _ = _; rw [EE.out, HD.out]; simp only [clOk, hr, Bool.and_false, Bool.false_and]
        clear hcell hl HD HB
        generalize (cl.getD k (0, 0)).1 = d at *
        generalize (cl.getD k (0, 0)).2 = r at *
        go_wp2_with fail
        go_quiet (first | (go_at_call 50; exact Calls.quiet_of_same (in_any _ _ _)))
        go_wp2
        go_ret
        exact ⟨rfl, (BB.out.drewN _).bel⟩
      have hr : inB (cl.getD k (0, 0)).2 65535 = true := by simpa using hr
      cases k with
      | zero =>
        have HF : Hid (clOk (-1) cl = clOk (before cl (0 + 1)) (cl.drop (0 + 1))) := by
          show _ = _
          have h0 := (inB_iff.1 hd).1
          rw [EE.out, HD.out, HB.out]
          have : ¬ (cl.getD 0 (0, 0)).1 ≤ -1 := by omega
          simp only [clOk, before, hd, hr, this, decide_false, Bool.not_false, Bool.true_and]
        clear hcell hl HD HB
        simp only [Nat.zero_mul, Nat.add_zero] at c1 c2
        generalize (cl.getD 0 (0, 0)).1 = d at *
        generalize (cl.getD 0 (0, 0)).2 = r at *
        go_wp2_with fail
        go_quiet (first | (go_at_call 50; exact Calls.quiet_of_same (in_any _ _ _)))
        go_wp2
        go_roundw
        case rel => exact ⟨0 + 1, by omega, by go_num, HF.out, BB.out.drewN _⟩
        case measure => simp [intOf]; omega
      | succ m =>
        have c3 := cell_later BB.out.bel (hcell m (by omega)).1
        have hp : before cl (m + 1) = (cl.getD m (0, 0)).1 := rfl
        by_cases hdd : (cl.getD (m + 1) (0, 0)).1 ≤ (cl.getD m (0, 0)).1
        · have HF : Hid (clOk (-1) cl = false) := by show _ = _; rw [EE.out, HD.out, hp]; simp only [clOk, hdd, decide_true, Bool.not_true, Bool.false_and]
          clear hcell hl HD HB hp
          generalize (cl.getD m (0, 0)).1 = p at *
          generalize (cl.getD (m + 1) (0, 0)).1 = d at *
          generalize (cl.getD (m + 1) (0, 0)).2 = r at *
          go_wp2_with fail
          go_quiet (first | (go_at_call 50; exact Calls.quiet_of_same (in_any _ _ _)))
          go_wp2
          go_ret
          exact ⟨rfl, (BB.out.drewN _).bel⟩
        · have HF : Hid (clOk (-1) cl = clOk (before cl (m + 1 + 1)) (cl.drop (m + 1 + 1))) := by
            show _ = _
            rw [EE.out, HD.out, hp, HB.out]
            simp only [clOk, hd, hr, hdd, decide_false, Bool.not_false, Bool.true_and]
          clear hcell hl HD HB hp
          generalize (cl.getD m (0, 0)).1 = p at *
          generalize (cl.getD (m + 1) (0, 0)).1 = d at *
          generalize (cl.getD (m + 1) (0, 0)).2 = r at *
          go_wp2_with fail
          go_quiet (first | (go_at_call 50; exact Calls.quiet_of_same (in_any _ _ _)))
          go_wp2
          go_roundw
          case rel => exact ⟨m + 1 + 1, by omega, by go_num, HF.out, BB.out.drewN _⟩
          case measure => simp [intOf]; omega
    · exfalso
      have e : cl.drop k = [] := List.drop_of_length_le (by have := HC.out.1; omega)
      have := EE.out
      rw [e, hbad.out] at this
      exact Bool.noConfusion this
end Go.Proofs.Ytpnfkcbbjcimgaa
