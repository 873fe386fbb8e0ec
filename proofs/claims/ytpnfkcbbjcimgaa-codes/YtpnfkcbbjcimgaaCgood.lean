import Derived.Test.YtpnfkcbbjcimgaaCstand
namespace Go.Proofs.Ytpnfkcbbjcimgaa
open Go.RowKit
attribute [local go_sem] row_0 row_1 row_2 row_3 row_4 row_5 row_6 row_7 row_8 row_9 row_10 row_11 row_12 row_13 row_14 row_15 row_16 row_17 row_18 row_19 row_20 row_21 row_22 row_23 row_24 row_25 row_26 row_27 row_28 row_29 row_31
set_option maxRecDepth 100000 in
set_option maxHeartbeats 4000000 in
theorem rmay_good (q : Rq) (cl : List (Int × Int)) (w : World) (v : Option Addr) (hv : q.row[30]? = some (.slice v q.sn q.sc)) (hcl : Cl w v q.sn cl) (h : firstB q = true) (hok : Hid (clOk (-1) cl = true)) :
    Calls Try.prog 30 #[.agg q.row] w fun e w' => e = .returned (.bool (tailB q)) ∧ Below w.heap.size w w' := by
  have HC : Hid (Cl w v q.sn cl) := hcl
  obtain ⟨⟨a0, a1⟩, a2, a3, a4, a5, a6, a7, a8⟩ := first_facts h
  clear hcl h
  go_enter Try.func30, Try.ntmps30
  go_wp2_with (go_at_call 50; refine (in_any _ _ _).mono ?_; rintro e w' ⟨rfl, rfl⟩)
  go_loopw [6] (fun i wr => ∃ k : Nat, k ≤ q.sn ∧ i = .int .i64 k ∧ clOk (-1) cl = clOk (before cl k) (cl.drop k) ∧ Stand w q wr) (fun i _ => q.sn - (intOf i).toNat)
  case atStart =>
    exact ⟨0, Nat.zero_le _, rfl, rfl, blk_alloc (by simp; omega) (blk_alloc (by simp) (blk_newest rfl _) _) _, blk_alloc (by simp) (blk_newest (by simp) _) _, blk_newest (by simp) _, (((Below.refl _ _).alloc (Nat.le_refl _) _).alloc (by simp) _).alloc (by simp; omega) _⟩
  case round =>
    obtain ⟨k, hk, rfl, he, hb⟩ := hrel
    have BB : Hid (Stand w q wr) := hb
    have EE : Hid (clOk (-1) cl = clOk (before cl k) (cl.drop k)) := he
    have R := Row.of hb.req
    unfold Row at R
    clear hb he
    by_cases hlt : k < q.sn
    · as_aux_lemma =>
        have hl := HC.out.1
        obtain ⟨b, off, hs, hcell⟩ := HC.out.2.resolve_left (by omega)
        subst hs
        have c1 := cell_later BB.out.bel (hcell k hlt).1
        have c2 := cell_later BB.out.bel (hcell k hlt).2
        have HD : Hid (cl.drop k = cl.getD k (0, 0) :: cl.drop (k + 1)) := by
          show _ = _
          rw [List.drop_eq_getElem_cons (by omega)]
          simp [List.getD, List.getElem?_eq_getElem (show k < cl.length from by omega)]
        have HB : Hid (before cl (k + 1) = (cl.getD k (0, 0)).1) := rfl
        by_cases hd : inB (cl.getD k (0, 0)).1 255 = false
        · have HF : Hid (clOk (-1) cl = false) := by show _ = _; rw [EE.out, HD.out]; simp only [clOk, hd, Bool.and_false, Bool.false_and]
          have := hok.out
          rw [HF.out] at this
          exact Bool.noConfusion this
        have hd : inB (cl.getD k (0, 0)).1 255 = true := by simpa using hd
        by_cases hr : inB (cl.getD k (0, 0)).2 65535 = false
        · have HF : Hid (clOk (-1) cl = false) := by show _ = _; rw [EE.out, HD.out]; simp only [clOk, hr, Bool.and_false, Bool.false_and]
          have := hok.out
          rw [HF.out] at this
          exact Bool.noConfusion this
        have hr : inB (cl.getD k (0, 0)).2 65535 = true := by simpa using hr
        cases k with
        | zero =>
          have HF : Hid (clOk (-1) cl = clOk (before cl (0 + 1)) (cl.drop (0 + 1))) := by
            show _ = _
            have h0 := (inB_iff.1 hd).1
            rw [EE.out, HD.out, HB.out]
            have : ¬ (cl.getD 0 (0, 0)).1 ≤ -1 := by omega
            simp only [clOk, before, hd, hr, this, decide_false, Bool.not_false, Bool.true_and]
          clear hcell hl HD HB
          simp only [Nat.zero_mul, Nat.add_zero] at c1 c2
          generalize (cl.getD 0 (0, 0)).1 = d at *
          generalize (cl.getD 0 (0, 0)).2 = r at *
          go_wp2_with fail
          go_quiet (first | (go_at_call 50; exact Calls.quiet_of_same (in_any _ _ _)))
          go_wp2
          go_roundw
          case rel => exact ⟨0 + 1, by omega, by go_num, HF.out, BB.out.drewN _⟩
          case measure => simp [intOf]; omega
        | succ m =>
          have c3 := cell_later BB.out.bel (hcell m (by omega)).1
          have hp : before cl (m + 1) = (cl.getD m (0, 0)).1 := rfl
          by_cases hdd : (cl.getD (m + 1) (0, 0)).1 ≤ (cl.getD m (0, 0)).1
          · have HF : Hid (clOk (-1) cl = false) := by show _ = _; rw [EE.out, HD.out, hp]; simp only [clOk, hdd, decide_true, Bool.not_true, Bool.false_and]
            have := hok.out
            rw [HF.out] at this
            exact Bool.noConfusion this
          · have HF : Hid (clOk (-1) cl = clOk (before cl (m + 1 + 1)) (cl.drop (m + 1 + 1))) := by
              show _ = _
              rw [EE.out, HD.out, hp, HB.out]
              simp only [clOk, hd, hr, hdd, decide_false, Bool.not_false, Bool.true_and]
            clear hcell hl HD HB hp
            generalize (cl.getD m (0, 0)).1 = p at *
            generalize (cl.getD (m + 1) (0, 0)).1 = d at *
            generalize (cl.getD (m + 1) (0, 0)).2 = r at *
            go_wp2_with fail
            go_quiet (first | (go_at_call 50; exact Calls.quiet_of_same (in_any _ _ _)))
            go_wp2
            go_roundw
            case rel => exact ⟨m + 1 + 1, by omega, by go_num, HF.out, BB.out.drewN _⟩
            case measure => simp [intOf]; omega
    · have RK := Row.of BB.out.key
      have RM := Row.of BB.out.mac
      have hrg := (inB_iff.1 a5).1
      have q1 : ∀ W, _ = Result.ok (zB q.key) W := eqKey (q.k 0) (q.k 1) (q.k 2) (q.k 3) (q.k 4) (q.k 5) (q.k 6) (q.k 7) (q.k 8) (q.k 9) (q.k 10) (q.k 11) (q.k 12) (q.k 13) (q.k 14) (q.k 15)
      have q2 : ∀ W, _ = Result.ok (zB q.mac) W := eqMac (q.m 0) (q.m 1) (q.m 2) (q.m 3) (q.m 4) (q.m 5) (q.m 6) (q.m 7)
      unfold Row at RK RM
      clear EE hok HC
      go_upto_region 11 with fail
      go_cut [5, 7] from 14 to 209 (fun a c wx => a = .int .i64 q.kd ∧ c = .bool (acOk q) ∧ wr = wx)
      case first =>
        by_cases g1 : 1 ≤ q.kd ∧ q.kd ≤ 1
        · obtain ⟨g, g'⟩ := g1
          have hk : Hid (q.kd = 1) := (by omega : q.kd = 1)
          as_aux_lemma =>
            go_wp2
            go_meet
            case rel => exact ⟨by first | rfl | rw [hk.out], by have h2 := hk.out; simp [acOk, h2], rfl⟩
        by_cases g2 : 2 ≤ q.kd ∧ q.kd ≤ 2
        · obtain ⟨g, g'⟩ := g2
          have hk : Hid (q.kd = 2) := (by omega : q.kd = 2)
          as_aux_lemma =>
            go_wp2
            go_meet
            case rel => exact ⟨by first | rfl | rw [hk.out], by have h2 := hk.out; simp [acOk, h2], rfl⟩
        by_cases g4 : 4 ≤ q.kd ∧ q.kd ≤ 4
        · obtain ⟨g, g'⟩ := g4
          have hk : Hid (q.kd = 4) := (by omega : q.kd = 4)
          as_aux_lemma =>
            go_wp2
            go_meet
            case rel => exact ⟨by first | rfl | rw [hk.out], by have h2 := hk.out; simp [acOk, h2], rfl⟩
        have hk : Hid (q.kd ≠ 1 ∧ q.kd ≠ 2 ∧ q.kd ≠ 4) := (by omega : q.kd ≠ 1 ∧ q.kd ≠ 2 ∧ q.kd ≠ 4)
        have n1 : q.kd ≠ 1 := by omega
        clear g1
        have n2 : q.kd ≠ 2 := by omega
        clear g2
        have n4 : q.kd ≠ 4 := by omega
        clear g4
        as_aux_lemma =>
          go_wp2
          go_meet
          case rel => exact ⟨rfl, by have h2 := hk.out; simp [acOk, h2], rfl⟩
      obtain ⟨ha, hc, hw⟩ := hcut
      subst hw
      subst hc
      subst ha
      go_upto_region 12 with fail
      go_cut [5, 8] from 14 to 209 (fun a c wx => a = .int .i64 q.kd ∧ c = .bool (dvOk q) ∧ wr = wx)
      case first =>
        by_cases g1 : 1 ≤ q.kd ∧ q.kd ≤ 1
        · obtain ⟨g, g'⟩ := g1
          have hk : Hid (q.kd = 1) := (by omega : q.kd = 1)
          as_aux_lemma =>
            go_wp2
            go_meet
            case rel => exact ⟨by first | rfl | rw [hk.out], by have h2 := hk.out; simp [dvOk, h2], rfl⟩
        by_cases g2 : 2 ≤ q.kd ∧ q.kd ≤ 2
        · obtain ⟨g, g'⟩ := g2
          have hk : Hid (q.kd = 2) := (by omega : q.kd = 2)
          as_aux_lemma =>
            go_wp2
            go_meet
            case rel => exact ⟨by first | rfl | rw [hk.out], by have h2 := hk.out; simp [dvOk, h2], rfl⟩
        by_cases g3 : 3 ≤ q.kd ∧ q.kd ≤ 3
        · obtain ⟨g, g'⟩ := g3
          have hk : Hid (q.kd = 3) := (by omega : q.kd = 3)
          as_aux_lemma =>
            go_wp2
            go_meet
            case rel => exact ⟨by first | rfl | rw [hk.out], by have h2 := hk.out; simp [dvOk, h2], rfl⟩
        have hk : Hid (q.kd ≠ 1 ∧ q.kd ≠ 2 ∧ q.kd ≠ 3) := (by omega : q.kd ≠ 1 ∧ q.kd ≠ 2 ∧ q.kd ≠ 3)
        have n1 : q.kd ≠ 1 := by omega
        clear g1
        have n2 : q.kd ≠ 2 := by omega
        clear g2
        have n3 : q.kd ≠ 3 := by omega
        clear g3
        as_aux_lemma =>
          go_wp2
          go_meet
          case rel => exact ⟨rfl, by have h2 := hk.out; simp [dvOk, h2], rfl⟩
      obtain ⟨ha, hc, hw⟩ := hcut
      subst hw
      subst hc
      subst ha
      go_upto_region 13 with fail
      go_cut [5, 9] from 14 to 209 (fun a c wx => a = .int .i64 q.kd ∧ c = .bool (rgOk q) ∧ wr = wx)
      case first =>
        by_cases g1 : 1 ≤ q.kd ∧ q.kd ≤ 1
        · obtain ⟨g, g'⟩ := g1
          have hk : Hid (q.kd = 1) := (by omega : q.kd = 1)
          as_aux_lemma =>
            go_wp2
            go_meet
            case rel => exact ⟨by first | rfl | rw [hk.out], by have h2 := hk.out; simp [rgOk, h2], rfl⟩
        have hk : Hid (q.kd ≠ 1) := (by omega : q.kd ≠ 1)
        have n1 : q.kd ≠ 1 := by omega
        clear g1
        by_cases hr : q.rg ≤ 0
        · have hr' : Hid (q.rg = 0) := (by omega : q.rg = 0)
          as_aux_lemma =>
            go_wp2
            go_meet
            case rel => exact ⟨rfl, by have h1 := hr'.out; have h2 := hk.out; simp [rgOk, h1, h2], rfl⟩
        · have hr' : Hid (¬ q.rg = 0) := (by omega : ¬ q.rg = 0)
          as_aux_lemma =>
            go_wp2
            go_meet
            case rel => exact ⟨rfl, by have h1 := hr'.out; have h2 := hk.out; have h3 : (q.kd == 1) = false := beq_eq_false_iff_ne.2 h2; have h4 : (q.rg == 0) = false := beq_eq_false_iff_ne.2 h1; simp [rgOk, h2, h3, h4], rfl⟩
      obtain ⟨ha, hc, hw⟩ := hcut
      subst hw
      subst hc
      subst ha
      go_upto_region 14 with fail
      go_cut [5, 10] from 14 to 209 (fun a c wx => a = .int .i64 q.kd ∧ c = .bool (mcOk q) ∧ wr = wx)
      case first =>
        by_cases g2 : 2 ≤ q.kd ∧ q.kd ≤ 2
        · obtain ⟨g, g'⟩ := g2
          have hk : Hid (q.kd = 2) := (by omega : q.kd = 2)
          as_aux_lemma =>
            go_wp2
            go_meet
            case rel => exact ⟨by first | rfl | rw [hk.out], by have h2 := hk.out; simp [mcOk, h2], rfl⟩
        have hk : Hid (q.kd ≠ 2) := (by omega : q.kd ≠ 2)
        have n2 : q.kd ≠ 2 := by omega
        clear g2
        as_aux_lemma =>
          go_wp2
          go_meet
          case rel => exact ⟨rfl, by have h2 := hk.out; simp [mcOk, h2], rfl⟩
      obtain ⟨ha, hc, hw⟩ := hcut
      subst hw
      subst hc
      subst ha
      go_upto_region 15 with fail
      go_cut [5, 11] from 14 to 209 (fun a c wx => a = .int .i64 q.kd ∧ c = .bool (sdOk q) ∧ wr = wx)
      case first =>
        by_cases g4 : 4 ≤ q.kd ∧ q.kd ≤ 4
        · obtain ⟨g, g'⟩ := g4
          have hk : Hid (q.kd = 4) := (by omega : q.kd = 4)
          as_aux_lemma =>
            go_wp2
            go_meet
            case rel => exact ⟨by first | rfl | rw [hk.out], by have h2 := hk.out; simp [sdOk, h2], rfl⟩
        have hk : Hid (q.kd ≠ 4) := (by omega : q.kd ≠ 4)
        have n4 : q.kd ≠ 4 := by omega
        clear g4
        by_cases hr : q.sn ≤ 0
        · have hr' : Hid (q.sn = 0) := (by omega : q.sn = 0)
          as_aux_lemma =>
            go_wp2
            go_meet
            case rel => exact ⟨rfl, by have h1 := hr'.out; have h2 := hk.out; simp [sdOk, h1, h2, tx_empty], rfl⟩
        · have hr' : Hid (¬ q.sn = 0) := (by omega : ¬ q.sn = 0)
          as_aux_lemma =>
            go_wp2
            go_meet
            case rel => exact ⟨rfl, by have h1 := hr'.out; have h2 := hk.out; simp [sdOk, h1, h2], rfl⟩
      obtain ⟨ha, hc, hw⟩ := hcut
      subst hw
      subst hc
      subst ha
      go_upto_region 16 with fail
      go_cut [5, 12] from 14 to 209 (fun a c wx => a = .int .i64 q.kd ∧ c = .bool (cuOk q) ∧ wr = wx)
      case first =>
        by_cases g5 : 5 ≤ q.kd ∧ q.kd ≤ 5
        · obtain ⟨g, g'⟩ := g5
          have hk : Hid (q.kd = 5) := (by omega : q.kd = 5)
          as_aux_lemma =>
            go_wp2
            go_meet
            case rel => exact ⟨by first | rfl | rw [hk.out], by have h2 := hk.out; simp [cuOk, h2], rfl⟩
        by_cases g6 : 6 ≤ q.kd ∧ q.kd ≤ 6
        · obtain ⟨g, g'⟩ := g6
          have hk : Hid (q.kd = 6) := (by omega : q.kd = 6)
          as_aux_lemma =>
            go_wp2
            go_meet
            case rel => exact ⟨by first | rfl | rw [hk.out], by have h2 := hk.out; simp [cuOk, h2], rfl⟩
        have hk : Hid (q.kd ≠ 5 ∧ q.kd ≠ 6) := (by omega : q.kd ≠ 5 ∧ q.kd ≠ 6)
        have n5 : q.kd ≠ 5 := by omega
        clear g5
        have n6 : q.kd ≠ 6 := by omega
        clear g6
        as_aux_lemma =>
          go_wp2
          go_meet
          case rel => exact ⟨rfl, by have h2 := hk.out; simp [cuOk, h2], rfl⟩
      obtain ⟨ha, hc, hw⟩ := hcut
      subst hw
      subst hc
      subst ha
      go_upto_region 17 with fail
      go_cut [5, 13] from 14 to 209 (fun a c wx => a = .int .i64 q.kd ∧ c = .bool (moOk q) ∧ wr = wx)
      case first =>
        by_cases g5 : 5 ≤ q.kd ∧ q.kd ≤ 5
        · obtain ⟨g, g'⟩ := g5
          have hk : Hid (q.kd = 5) := (by omega : q.kd = 5)
          as_aux_lemma =>
            go_wp2
            go_meet
            case rel => exact ⟨by first | rfl | rw [hk.out], by have h2 := hk.out; simp [moOk, h2], rfl⟩
        have hk : Hid (q.kd ≠ 5) := (by omega : q.kd ≠ 5)
        have n5 : q.kd ≠ 5 := by omega
        clear g5
        as_aux_lemma =>
          go_wp2
          go_meet
          case rel => exact ⟨rfl, by have h2 := hk.out; simp [moOk, h2], rfl⟩
      obtain ⟨ha, hc, hw⟩ := hcut
      subst hw
      subst hc
      subst ha
      clear R RK RM q1 q2 a2 a3 a4 a5 a6 a7 a8 hrg
      by_cases b0 : acOk q = false
      · have HF : Hid (tailB q = false) := by show _ = _; unfold tailB; simp [b0]
        as_aux_lemma =>
          go_wp2
          go_ret
          exact ⟨by rw [HF.out]; rfl, BB.out.bel⟩
      have b0 : acOk q = true := by simpa using b0
      by_cases b1 : dvOk q = false
      · have HF : Hid (tailB q = false) := by show _ = _; unfold tailB; simp [b1]
        as_aux_lemma =>
          go_wp2
          go_ret
          exact ⟨by rw [HF.out]; rfl, BB.out.bel⟩
      have b1 : dvOk q = true := by simpa using b1
      by_cases b2 : rgOk q = false
      · have HF : Hid (tailB q = false) := by show _ = _; unfold tailB; simp [b2]
        as_aux_lemma =>
          go_wp2
          go_ret
          exact ⟨by rw [HF.out]; rfl, BB.out.bel⟩
      have b2 : rgOk q = true := by simpa using b2
      by_cases b3 : mcOk q = false
      · have HF : Hid (tailB q = false) := by show _ = _; unfold tailB; simp [b3]
        as_aux_lemma =>
          go_wp2
          go_ret
          exact ⟨by rw [HF.out]; rfl, BB.out.bel⟩
      have b3 : mcOk q = true := by simpa using b3
      by_cases b4 : sdOk q = false
      · have HF : Hid (tailB q = false) := by show _ = _; unfold tailB; simp [b4]
        as_aux_lemma =>
          go_wp2
          go_ret
          exact ⟨by rw [HF.out]; rfl, BB.out.bel⟩
      have b4 : sdOk q = true := by simpa using b4
      by_cases b5 : cuOk q = false
      · have HF : Hid (tailB q = false) := by show _ = _; unfold tailB; simp [b5]
        as_aux_lemma =>
          go_wp2
          go_ret
          exact ⟨by rw [HF.out]; rfl, BB.out.bel⟩
      have b5 : cuOk q = true := by simpa using b5
      by_cases b6 : moOk q = false
      · have HF : Hid (tailB q = false) := by show _ = _; unfold tailB; simp [b6]
        as_aux_lemma =>
          go_wp2
          go_ret
          exact ⟨by rw [HF.out]; rfl, BB.out.bel⟩
      have b6 : moOk q = true := by simpa using b6
      have HF : Hid (tailB q = true) := by show _ = _; unfold tailB; rw [b0, b1, b2, b3, b4, b5, b6]; rfl
      as_aux_lemma =>
        go_wp2
        go_ret
        exact ⟨by rw [HF.out]; rfl, BB.out.bel⟩
end Go.Proofs.Ytpnfkcbbjcimgaa
