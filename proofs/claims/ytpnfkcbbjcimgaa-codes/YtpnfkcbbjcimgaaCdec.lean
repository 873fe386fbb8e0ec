import Derived.Test.YtpnfkcbbjcimgaaCreg
import Derived.Test.YtpnfkcbbjcimgaaCenc
namespace Go.Proofs.Ytpnfkcbbjcimgaa
open Go.RowKit
attribute [local go_sem] zk_kd row_0 row_1 row_2 row_3 row_4 row_5 row_30 row_31
set_option maxRecDepth 100000 in
set_option maxHeartbeats 8000000 in
theorem rdec_core (l : List (BitVec 8)) (n : Int) (hl : l.length ≤ 140737488355328) (w : World) (hk : Hid (numAt l 0 1 = n)) (mb eb : Bool) (hmb : Hid (mayB ((refD l).rq none (refD l).cl.length 0) (refD l).cl = mb)) (heb : Hid (decide (bodyOf ((refD l).rq none (refD l).cl.length 0) (refD l).cl = l) = eb)) :
    Calls Try.prog 36 #[.string (strB l)] w fun e w' => Below w.heap.size w w' ∧ ((mb && eb) = true → ∃ sa sn sc, e = .returned (.tuple #[.agg ((refD l).rq sa sn sc).row, .int .i64 0]) ∧ OwnC w' w.heap.size (.slice sa sn sc) (refD l).cl) ∧
      ((mb && eb) = false → e = .returned (.tuple #[.agg z0.row, .int .i64 6])) := by
  go_enter Try.func36, Try.ntmps36
  go_wp2_with (refine wpList_alloc_req rfl rfl ?_)
  refine (number_ref l hl _ _ 0 1 rfl rfl (by omega) (by omega) _).mono ?_
  rintro e w1 ⟨he, rfl⟩
  rw [hk.out] at he
  subst he
  have U : Hid (Bur w ((w.alloc (.cells z0.row 28)).alloc (.cells (zk n).row 28)) (zk n)) :=
    ⟨blk_alloc (by simp) (blk_newest rfl _) _, blk_newest (by simp) _, ((Below.refl _ _).alloc (Nat.le_refl _) _).alloc (by simp) _, by simp⟩
  go_upto_block 0 with (first | (refine wpList_alloc_req rfl rfl ?_) | (refine wpList_build_req rfl (.tmp 12) rfl n (by rfl) ?_) | (refine wpList_store_fresh rfl (.tmp 4) (.tmp 13) rfl (w.alloc (.cells z0.row 28)).heap.size (by rfl) rfl z0 (zk n) (by rfl) ?_))
  generalize (w.alloc (.cells z0.row 28)).alloc (.cells (zk n).row 28) = W at *
  go_cut [] (fun wx => ∃ sa sn sc, Bur w wx ((refD l).rq sa sn sc) ∧ OwnC wx w.heap.size (.slice sa sn sc) (refD l).cl ∧ ∀ a, sa = some a → w.heap.size + 1 < a.block)
  case first =>
    have R := Row.of U.out.req
    have F := frz_row U.out.req
    unfold Row at R
    by_cases h1 : n = 1
    · subst h1
      have HR : Hid (refD l = (⟨1, numAt l 1 1, numAt l 2 1, numAt l 19 2, 0, 0, fun i => byteAt l (3 + i), zf, [], [], [], false⟩ : Dat)) := by show _ = _; unfold refD; simp [hk.out]
      go_wp2_with fail
      refine (number_ref l hl _ _ 1 1 rfl rfl (by omega) (by omega) _).mono ?_
      rintro e _ ⟨rfl, h9⟩
      rw [h9]
      clear h9
      go_wp2_with fail
      refine (number_ref l hl _ _ 2 1 rfl rfl (by omega) (by omega) _).mono ?_
      rintro e _ ⟨rfl, h9⟩
      rw [h9]
      clear h9
      go_upto_region 7 with fail
      have V : Hid (Bur w ((W.setCell ⟨w.heap.size + 1, 1, none⟩ (.int .i64 (numAt l 1 1))).setCell ⟨w.heap.size + 1, 2, none⟩ (.int .i64 (numAt l 2 1))) (⟨1, numAt l 1 1, numAt l 2 1, 0, 0, 0, upTo l 0, zf, none, 0, 0, ⟨#[]⟩⟩ : Rq)) := (U.out.set 1 _ ⟨1, numAt l 1 1, 0, 0, 0, 0, zf, zf, none, 0, 0, ⟨#[]⟩⟩ (by kernel_rfl)).set 2 _ _ (by kernel_rfl)
      clear R F U
      generalize (W.setCell ⟨w.heap.size + 1, 1, none⟩ (.int .i64 (numAt l 1 1))).setCell ⟨w.heap.size + 1, 2, none⟩ (.int .i64 (numAt l 2 1)) = V0 at *
      go_wp2_with fail
      go_loopw [5] (fun i wr => ∃ k : Nat, k ≤ 16 ∧ i = .int .i64 k ∧ Bur w wr (⟨1, numAt l 1 1, numAt l 2 1, 0, 0, 0, upTo l k, zf, none, 0, 0, ⟨#[]⟩⟩ : Rq)) (fun i _ => 16 - (intOf i).toNat)
      case atStart => exact ⟨0, Nat.zero_le _, rfl, V.out⟩
      case round =>
        obtain ⟨k, hk16, rfl, hb⟩ := hrel
        have V1 : Hid (Bur w wr (⟨1, numAt l 1 1, numAt l 2 1, 0, 0, 0, upTo l k, zf, none, 0, 0, ⟨#[]⟩⟩ : Rq)) := hb
        have R1 := Row.of hb.req
        have F1 := frz_row hb.req
        unfold Row at R1
        clear hb V
        by_cases hlt : k < 16
        · go_wp2_with fail
          refine (number_ref l hl _ _ (3 + k) 1 (by go_num) rfl (by omega) (by omega) _).mono ?_
          rintro e _ ⟨rfl, h9⟩
          rw [h9]
          clear h9
          rw [numAt_one]
          have hwr := wrap8_B (byteAt l (3 + k))
          have hhas := key_has l (numAt l 1 1) (numAt l 2 1) k hlt
          go_wp2
          go_roundw
          case rel => exact ⟨k + 1, by omega, by go_num, V1.out.set _ _ _ (key_put l _ _ k hlt)⟩
          case measure => simp [intOf]; omega
        · have hke : k = 16 := by omega
          subst hke
          clear hk16 hlt
          go_wp2_with fail
          generalize wr = V0 at *
          go_loopw [6] (fun i wr => i = .int .i64 0 ∧ wr = V0) (fun _ _ => 0)
          case atStart => exact ⟨rfl, rfl⟩
          case round =>
            obtain ⟨rfl, rfl⟩ := hrel
            go_wp2_with fail
            refine (number_ref l hl _ _ 19 2 rfl rfl (by omega) (by omega) _).mono ?_
            rintro e _ ⟨rfl, h9⟩
            rw [h9]
            clear h9
            go_wp2_with fail
            go_meet
            case rel => exact ⟨none, 0, 0, by rw [HR.out]; exact (V1.out.set 3 _ ⟨1, numAt l 1 1, numAt l 2 1, numAt l 19 2, 0, 0, upTo l 16, zf, none, 0, 0, ⟨#[]⟩⟩ (by kernel_rfl)).row _ (key_full l _ _ _), by rw [HR.out]; exact ⟨OwnC.nil _ _, fun a ha => by cases ha⟩⟩
    by_cases h2 : n = 2
    · subst h2
      have HR : Hid (refD l = (⟨2, numAt l 1 1, numAt l 2 1, 0, 0, 0, zf, fun i => byteAt l (3 + i), [], [], [], false⟩ : Dat)) := by show _ = _; unfold refD; simp [hk.out]
      go_wp2_with fail
      refine (number_ref l hl _ _ 1 1 rfl rfl (by omega) (by omega) _).mono ?_
      rintro e _ ⟨rfl, h9⟩
      rw [h9]
      clear h9
      go_wp2_with fail
      refine (number_ref l hl _ _ 2 1 rfl rfl (by omega) (by omega) _).mono ?_
      rintro e _ ⟨rfl, h9⟩
      rw [h9]
      clear h9
      go_upto_region 7 with fail
      have V : Hid (Bur w ((W.setCell ⟨w.heap.size + 1, 1, none⟩ (.int .i64 (numAt l 1 1))).setCell ⟨w.heap.size + 1, 2, none⟩ (.int .i64 (numAt l 2 1))) (⟨2, numAt l 1 1, numAt l 2 1, 0, 0, 0, zf, upTo l 0, none, 0, 0, ⟨#[]⟩⟩ : Rq)) := (U.out.set 1 _ ⟨2, numAt l 1 1, 0, 0, 0, 0, zf, zf, none, 0, 0, ⟨#[]⟩⟩ (by kernel_rfl)).set 2 _ _ (by kernel_rfl)
      clear R F U
      generalize (W.setCell ⟨w.heap.size + 1, 1, none⟩ (.int .i64 (numAt l 1 1))).setCell ⟨w.heap.size + 1, 2, none⟩ (.int .i64 (numAt l 2 1)) = V0 at *
      go_wp2_with fail
      have R2 := Row.of V.out.req
      unfold Row at R2
      go_loopw [5] (fun i wr => i = .int .i64 0 ∧ wr = V0) (fun _ _ => 0)
      case atStart => exact ⟨rfl, rfl⟩
      case round =>
        obtain ⟨rfl, rfl⟩ := hrel
        go_wp2_with fail
        go_loopw [6] (fun i wr => ∃ k : Nat, k ≤ 8 ∧ i = .int .i64 k ∧ Bur w wr (⟨2, numAt l 1 1, numAt l 2 1, 0, 0, 0, zf, upTo l k, none, 0, 0, ⟨#[]⟩⟩ : Rq)) (fun i _ => 8 - (intOf i).toNat)
        case atStart => exact ⟨0, Nat.zero_le _, rfl, V.out⟩
        case round =>
          obtain ⟨k, hk16, rfl, hb⟩ := hrel
          have V1 : Hid (Bur w wr (⟨2, numAt l 1 1, numAt l 2 1, 0, 0, 0, zf, upTo l k, none, 0, 0, ⟨#[]⟩⟩ : Rq)) := hb
          have R1 := Row.of hb.req
          have F1 := frz_row hb.req
          unfold Row at R1
          clear hb V
          by_cases hlt : k < 8
          · go_wp2_with fail
            refine (number_ref l hl _ _ (3 + k) 1 (by go_num) rfl (by omega) (by omega) _).mono ?_
            rintro e _ ⟨rfl, h9⟩
            rw [h9]
            clear h9
            rw [numAt_one]
            have hwr := wrap8_B (byteAt l (3 + k))
            have hhas := mac_has l (numAt l 1 1) (numAt l 2 1) k hlt
            go_wp2
            go_roundw
            case rel => exact ⟨k + 1, by omega, by go_num, V1.out.set _ _ _ (mac_put l _ _ k hlt)⟩
            case measure => simp [intOf]; omega
          · have hke : k = 8 := by omega
            subst hke
            clear hk16 hlt
            go_wp2_with fail
            go_meet
            case rel => exact ⟨none, 0, 0, by rw [HR.out]; exact V1.out.row _ (mac_full l _ _), by rw [HR.out]; exact ⟨OwnC.nil _ _, fun a ha => by cases ha⟩⟩
    by_cases h3 : n = 3
    · subst h3
      have HR : Hid (refD l = (⟨3, 0, numAt l 1 1, 0, 0, 0, zf, zf, [], [], [], false⟩ : Dat)) := by show _ = _; unfold refD; simp [hk.out]
      go_wp2_with fail
      refine (number_ref l hl _ _ 1 1 rfl rfl (by omega) (by omega) _).mono ?_
      rintro e _ ⟨rfl, h9⟩
      rw [h9]
      clear h9
      go_wp2_with fail
      go_meet
      case rel => exact ⟨none, 0, 0, by rw [HR.out]; exact U.out.set 2 _ ((⟨3, 0, numAt l 1 1, 0, 0, 0, zf, zf, [], [], [], false⟩ : Dat).rq none 0 0) (by kernel_rfl), by rw [HR.out]; exact ⟨OwnC.nil _ _, fun a ha => by cases ha⟩⟩
    by_cases h4 : n = 4
    · subst h4
      have HR : Hid (refD l = (⟨4, numAt l 1 1, 0, 0, 0, 0, zf, zf, clAt l (numAt l 2 1).toNat, l.drop (4 + 3 * (numAt l 2 1).toNat), [], false⟩ : Dat)) := by show _ = _; unfold refD; simp [hk.out]
      go_wp2_with fail
      refine (number_ref l hl _ _ 1 1 rfl rfl (by omega) (by omega) _).mono ?_
      rintro e _ ⟨rfl, h9⟩
      rw [h9]
      clear h9
      go_wp2_with fail
      refine (number_ref l hl _ _ 2 1 rfl rfl (by omega) (by omega) _).mono ?_
      rintro e _ ⟨rfl, h9⟩
      rw [h9]
      clear h9
      obtain ⟨cnt, hcnt⟩ : ∃ c : Nat, Hid (numAt l 2 1 = (c : Int)) := ⟨(numAt l 2 1).toNat, (Int.toNat_of_nonneg (numAt_bound l 2 1).1).symm⟩
      have hc256 : cnt ≤ 255 := by have h := clAt_small l; rw [hcnt.out, Int.toNat_natCast] at h; exact h
      have HT : Hid ((numAt l 2 1).toNat = cnt) := by show _ = _; rw [hcnt.out, Int.toNat_natCast]
      rw [hcnt.out]
      go_upto_region 22 with fail
      have V : Hid (Bur w (W.setCell ⟨w.heap.size + 1, 1, none⟩ (.int .i64 (numAt l 1 1))) (⟨4, numAt l 1 1, 0, 0, 0, 0, zf, zf, none, 0, 0, ⟨#[]⟩⟩ : Rq)) := U.out.set 1 _ _ (by kernel_rfl)
      clear R F U
      generalize W.setCell ⟨w.heap.size + 1, 1, none⟩ (.int .i64 (numAt l 1 1)) = V0 at *
      go_wp2_with fail
      go_loopw [8] (fun i wr => ∃ (k : Nat) (sa : Option Addr) (sn sc : Nat), k ≤ cnt ∧ i = .int .i64 k ∧ Bur w wr (⟨4, numAt l 1 1, 0, 0, 0, 0, zf, zf, sa, sn, sc, ⟨#[]⟩⟩ : Rq) ∧ OwnC wr (w.heap.size + 1 + 1) (.slice sa sn sc) (clAt l k)) (fun i _ => cnt - (intOf i).toNat)
      case atStart => exact ⟨0, none, 0, 0, Nat.zero_le _, rfl, V.out, OwnC.nil _ _⟩
      case round =>
        obtain ⟨k, sa, sn, sc, hkc, rfl, hb, ho⟩ := hrel
        have V1 : Hid (Bur w wr (⟨4, numAt l 1 1, 0, 0, 0, 0, zf, zf, sa, sn, sc, ⟨#[]⟩⟩ : Rq)) := hb
        have O1 : Hid (OwnC wr (w.heap.size + 1 + 1) (.slice sa sn sc) (clAt l k)) := ho
        have R1 := Row.of hb.req
        have F1 := frz_row hb.req
        have hzr := hb.siz
        unfold Row at R1
        clear hb ho V
        by_cases hlt : k < cnt
        · have hlen : (clAt l k).length + 1 ≤ 100000 := by rw [clAt_length]; omega
          have O1d : Hid (OwnC wr.drew (w.heap.size + 1 + 1) (.slice sa sn sc) (clAt l k)) := O1.out
          have hld1 := (Row.of V1.out.drew.req 30).trans (row_30 _)
          have hld2 := (Row.of (V1.out.drew.later ((Below.refl _ _).alloc (Nat.le_refl _) (.cells #[.int .i64 (numAt l (3 + 3 * k) 1), .int .i64 (numAt l (4 + 3 * k) 2)] 69))).req 30).trans (row_30 _)
          have hw3 := wrap3 k (by omega)
          have hw33 := wrap33 k (by omega)
          have hw43 := wrap43 k (by omega)
          go_upto_region 25 with fail
          refine wp_region_held (S := fun _ => True) (by kernel_rfl) ?_
          refine take_at (i := 0) (d := 82) (v := (.pointer (some ⟨w.heap.size + 1, 30, none⟩))) rfl (by kernel_rfl) (by kernel_rfl) (by kernel_rfl) (by kernel_rfl) (fun _ _ _ h => h) (.inl ⟨by kernel_rfl, fun w' _ => by kernel_rfl⟩) trivial ?_
          simp only [Act.put, List.setIfInBounds_toArray, List.set_cons_zero, List.set_cons_succ]
          refine take_at (i := 2) (d := 84) (v := (.string (strB l))) rfl (by kernel_rfl) (by kernel_rfl) (by kernel_rfl) (by kernel_rfl) (fun _ _ _ h => h) (.inl ⟨by kernel_rfl, fun w' _ => by kernel_rfl⟩) trivial ?_
          simp only [Act.put, List.setIfInBounds_toArray, List.set_cons_zero, List.set_cons_succ]
          refine take_at (i := 3) (d := 85) (v := (.int .i64 k)) rfl (by kernel_rfl) (by kernel_rfl) (by kernel_rfl) (by kernel_rfl) (fun _ _ _ h => h) (.inl ⟨by kernel_rfl, fun w' _ => by kernel_rfl⟩) trivial ?_
          simp only [Act.put, List.setIfInBounds_toArray, List.set_cons_zero, List.set_cons_succ]
          refine take_at (i := 4) (d := 86) (v := (.int .i64 (3 * (k : Int)))) rfl (by kernel_rfl) (by kernel_rfl) (by kernel_rfl) (by kernel_rfl) (fun _ _ _ h => h) (.inl ⟨by kernel_rfl, fun w' _ => by go_simp⟩) trivial ?_
          simp only [Act.put, List.setIfInBounds_toArray, List.set_cons_zero, List.set_cons_succ]
          refine take_at (i := 5) (d := 87) (v := (.int .i64 (3 + 3 * (k : Int)))) rfl (by kernel_rfl) (by kernel_rfl) (by kernel_rfl) (by kernel_rfl) (fun _ _ _ h => h) (.inl ⟨by kernel_rfl, fun w' _ => by go_simp⟩) trivial ?_
          simp only [Act.put, List.setIfInBounds_toArray, List.set_cons_zero, List.set_cons_succ]
          refine take_at (i := 7) (d := 89) (v := (.string (strB l))) rfl (by kernel_rfl) (by kernel_rfl) (by kernel_rfl) (by kernel_rfl) (fun _ _ _ h => h) (.inl ⟨by kernel_rfl, fun w' _ => by kernel_rfl⟩) trivial ?_
          simp only [Act.put, List.setIfInBounds_toArray, List.set_cons_zero, List.set_cons_succ]
          refine take_at (i := 8) (d := 90) (v := (.int .i64 k)) rfl (by kernel_rfl) (by kernel_rfl) (by kernel_rfl) (by kernel_rfl) (fun _ _ _ h => h) (.inl ⟨by kernel_rfl, fun w' _ => by kernel_rfl⟩) trivial ?_
          simp only [Act.put, List.setIfInBounds_toArray, List.set_cons_zero, List.set_cons_succ]
          refine take_at (i := 9) (d := 91) (v := (.int .i64 (3 * (k : Int)))) rfl (by kernel_rfl) (by kernel_rfl) (by kernel_rfl) (by kernel_rfl) (fun _ _ _ h => h) (.inl ⟨by kernel_rfl, fun w' _ => by go_simp⟩) trivial ?_
          simp only [Act.put, List.setIfInBounds_toArray, List.set_cons_zero, List.set_cons_succ]
          refine take_at (i := 10) (d := 92) (v := (.int .i64 (4 + 3 * (k : Int)))) rfl (by kernel_rfl) (by kernel_rfl) (by kernel_rfl) (by kernel_rfl) (fun _ _ _ h => h) (.inl ⟨by kernel_rfl, fun w' _ => by go_simp⟩) trivial ?_
          simp only [Act.put, List.setIfInBounds_toArray, List.set_cons_zero, List.set_cons_succ]
          refine wpAnyH_all (rs := [1, 6]) (by kernel_rfl) (by simp) ?_
          intro j hj
          simp only [List.mem_cons, List.not_mem_nil, or_false] at hj
          rcases hj with rfl | rfl
          · skip
            refine wpOp_val rfl (by kernel_rfl) (.slice sa sn sc) wr.drew (by have := hld1; go_simp) ⟨trivial, ?_⟩
            simp only [Act.put, List.setIfInBounds_toArray]
            refine wpAnyH_all (rs := [6]) (by kernel_rfl) (by simp) ?_
            intro j hj
            simp only [List.mem_singleton] at hj
            subst hj
            refine wpOp_call rfl (by kernel_rfl) (.int .i64 (numAt l (3 + 3 * k) 1)) 56 #[.string (strB l), .int .i64 (3 + 3 * (k : Int)), .int .i64 1] (by kernel_rfl) (number_ref l hl _ _ (3 + 3 * k) 1 (by omega) rfl (by omega) (by omega) _) ⟨trivial, ?_⟩
            simp only [Act.put]
            refine wpAnyH_all (rs := [11]) (by kernel_rfl) (by simp) ?_
            intro j hj
            simp only [List.mem_singleton] at hj
            subst hj
            refine wpOp_call rfl (by kernel_rfl) (.int .i64 (numAt l (4 + 3 * k) 2)) 56 #[.string (strB l), .int .i64 (4 + 3 * (k : Int)), .int .i64 2] (by kernel_rfl) (number_ref l hl _ _ (4 + 3 * k) 2 (by omega) rfl (by omega) (by omega) _) ⟨trivial, ?_⟩
            simp only [Act.put]
            refine wpAnyH_all (rs := [12]) (by kernel_rfl) (by simp) ?_
            intro j hj
            simp only [List.mem_singleton] at hj
            subst hj
            refine wpOp_val rfl (by kernel_rfl) (.agg #[.int .i64 (numAt l (3 + 3 * k) 1), .int .i64 (numAt l (4 + 3 * k) 2)]) wr.drew (by kernel_rfl) ⟨trivial, ?_⟩
            simp only [Act.put]
            refine wpAnyH_all (rs := [13]) (by kernel_rfl) (by simp) ?_
            intro j hj
            simp only [List.mem_singleton] at hj
            subst hj
            refine wpOp_val rfl (by kernel_rfl) (.slice (some ⟨wr.heap.size, 0, none⟩) 1 1) (wr.drew.alloc (.cells #[.int .i64 (numAt l (3 + 3 * k) 1), .int .i64 (numAt l (4 + 3 * k) 2)] 69)) (by kernel_rfl) ⟨trivial, ?_⟩
            simp only [Act.put]
            refine wpAnyH_all (rs := [14]) (by kernel_rfl) (by simp) ?_
            intro j hj
            simp only [List.mem_singleton] at hj
            subst hj
            refine wpOp_appC rfl (by kernel_rfl) (.tmp 83) (.tmp 95) rfl (w.heap.size + 1 + 1) (.slice sa sn sc) (clAt l k) [(numAt l (3 + 3 * k) 1, numAt l (4 + 3 * k) 2)] (by kernel_rfl) (O1d.out.alloc _) ⟨wr.heap.size, 0, none⟩ 1 1 (by kernel_rfl) rfl (news_claim rfl) hlen (by simp; omega) ?_
            intro v4 w4 hown4 hgrow4
            refine ⟨trivial, ?_⟩
            obtain ⟨sa4, sn4, sc4, rfl, _, _, _⟩ := hown4.cl
            have V4 : Hid (Bur w w4 (⟨4, numAt l 1 1, 0, 0, 0, 0, zf, zf, sa, sn, sc, ⟨#[]⟩⟩ : Rq)) := (V1.out.drew.later ((Below.refl _ _).alloc (Nat.le_refl _) _)).grown hgrow4 (fun j hj => by have := (World.ownsRow.lt O1.out j hj).1; omega)
            have O4 : Hid (OwnC w4 (w.heap.size + 1 + 1) (.slice sa4 sn4 sc4) (clAt l (k + 1))) := by show OwnC _ _ _ _; rw [clAt_succ]; exact hown4
            have c4 := Row.of V4.out.req 30
            have f4 := frz_row V4.out.req 30
            rw [row_30] at c4
            clear hown4 hgrow4
            simp only [Act.put]
            refine wpAnyH_all (rs := [15]) (by kernel_rfl) (by simp) ?_
            intro j hj
            simp only [List.mem_singleton] at hj
            subst hj
            refine wpOp_val rfl (by kernel_rfl) (.pointer (some ⟨w.heap.size + 1, 30, none⟩)) w4 (by kernel_rfl) ⟨trivial, ?_⟩
            simp only [Act.put]
            refine wpAnyH_all (rs := [16]) (by kernel_rfl) (by simp) ?_
            intro j hj
            simp only [List.mem_singleton] at hj
            subst hj
            refine wpOp_skip rfl (by kernel_rfl) (w4.setCell ⟨w.heap.size + 1, 30, none⟩ (.slice sa4 sn4 sc4)) (by go_simp) ⟨trivial, ?_⟩
            simp only [Act.put]
            refine wpAnyH_done (by kernel_rfl) ?_ _
            clear c4 f4
            go_wp2
            go_roundw
            case rel => exact ⟨k + 1, sa4, sn4, sc4, by omega, by go_num, V4.out.set 30 _ _ (by kernel_rfl), OwnC.keepSet O4.out⟩
            case measure => simp [intOf]; omega
          · skip
            refine wpOp_call rfl (by kernel_rfl) (.int .i64 (numAt l (3 + 3 * k) 1)) 56 #[.string (strB l), .int .i64 (3 + 3 * (k : Int)), .int .i64 1] (by kernel_rfl) (number_ref l hl _ _ (3 + 3 * k) 1 (by omega) rfl (by omega) (by omega) _) ⟨trivial, ?_⟩
            simp only [Act.put, List.setIfInBounds_toArray]
            refine wpAnyH_all (rs := [1, 11]) (by kernel_rfl) (by simp) ?_
            intro j hj
            simp only [List.mem_cons, List.not_mem_nil, or_false] at hj
            rcases hj with rfl | rfl
            · skip
              refine wpOp_val rfl (by kernel_rfl) (.slice sa sn sc) wr.drew (by have := hld1; go_simp) ⟨trivial, ?_⟩
              simp only [Act.put]
              refine wpAnyH_all (rs := [11]) (by kernel_rfl) (by simp) ?_
              intro j hj
              simp only [List.mem_singleton] at hj
              subst hj
              refine wpOp_call rfl (by kernel_rfl) (.int .i64 (numAt l (4 + 3 * k) 2)) 56 #[.string (strB l), .int .i64 (4 + 3 * (k : Int)), .int .i64 2] (by kernel_rfl) (number_ref l hl _ _ (4 + 3 * k) 2 (by omega) rfl (by omega) (by omega) _) ⟨trivial, ?_⟩
              simp only [Act.put]
              refine wpAnyH_all (rs := [12]) (by kernel_rfl) (by simp) ?_
              intro j hj
              simp only [List.mem_singleton] at hj
              subst hj
              refine wpOp_val rfl (by kernel_rfl) (.agg #[.int .i64 (numAt l (3 + 3 * k) 1), .int .i64 (numAt l (4 + 3 * k) 2)]) wr.drew (by kernel_rfl) ⟨trivial, ?_⟩
              simp only [Act.put]
              refine wpAnyH_all (rs := [13]) (by kernel_rfl) (by simp) ?_
              intro j hj
              simp only [List.mem_singleton] at hj
              subst hj
              refine wpOp_val rfl (by kernel_rfl) (.slice (some ⟨wr.heap.size, 0, none⟩) 1 1) (wr.drew.alloc (.cells #[.int .i64 (numAt l (3 + 3 * k) 1), .int .i64 (numAt l (4 + 3 * k) 2)] 69)) (by kernel_rfl) ⟨trivial, ?_⟩
              simp only [Act.put]
              refine wpAnyH_all (rs := [14]) (by kernel_rfl) (by simp) ?_
              intro j hj
              simp only [List.mem_singleton] at hj
              subst hj
              refine wpOp_appC rfl (by kernel_rfl) (.tmp 83) (.tmp 95) rfl (w.heap.size + 1 + 1) (.slice sa sn sc) (clAt l k) [(numAt l (3 + 3 * k) 1, numAt l (4 + 3 * k) 2)] (by kernel_rfl) (O1d.out.alloc _) ⟨wr.heap.size, 0, none⟩ 1 1 (by kernel_rfl) rfl (news_claim rfl) hlen (by simp; omega) ?_
              intro v4 w4 hown4 hgrow4
              refine ⟨trivial, ?_⟩
              obtain ⟨sa4, sn4, sc4, rfl, _, _, _⟩ := hown4.cl
              have V4 : Hid (Bur w w4 (⟨4, numAt l 1 1, 0, 0, 0, 0, zf, zf, sa, sn, sc, ⟨#[]⟩⟩ : Rq)) := (V1.out.drew.later ((Below.refl _ _).alloc (Nat.le_refl _) _)).grown hgrow4 (fun j hj => by have := (World.ownsRow.lt O1.out j hj).1; omega)
              have O4 : Hid (OwnC w4 (w.heap.size + 1 + 1) (.slice sa4 sn4 sc4) (clAt l (k + 1))) := by show OwnC _ _ _ _; rw [clAt_succ]; exact hown4
              have c4 := Row.of V4.out.req 30
              have f4 := frz_row V4.out.req 30
              rw [row_30] at c4
              clear hown4 hgrow4
              simp only [Act.put]
              refine wpAnyH_all (rs := [15]) (by kernel_rfl) (by simp) ?_
              intro j hj
              simp only [List.mem_singleton] at hj
              subst hj
              refine wpOp_val rfl (by kernel_rfl) (.pointer (some ⟨w.heap.size + 1, 30, none⟩)) w4 (by kernel_rfl) ⟨trivial, ?_⟩
              simp only [Act.put]
              refine wpAnyH_all (rs := [16]) (by kernel_rfl) (by simp) ?_
              intro j hj
              simp only [List.mem_singleton] at hj
              subst hj
              refine wpOp_skip rfl (by kernel_rfl) (w4.setCell ⟨w.heap.size + 1, 30, none⟩ (.slice sa4 sn4 sc4)) (by go_simp) ⟨trivial, ?_⟩
              simp only [Act.put]
              refine wpAnyH_done (by kernel_rfl) ?_ _
              clear c4 f4
              go_wp2
              go_roundw
              case rel => exact ⟨k + 1, sa4, sn4, sc4, by omega, by go_num, V4.out.set 30 _ _ (by kernel_rfl), OwnC.keepSet O4.out⟩
              case measure => simp [intOf]; omega
            · skip
              refine wpOp_call rfl (by kernel_rfl) (.int .i64 (numAt l (4 + 3 * k) 2)) 56 #[.string (strB l), .int .i64 (4 + 3 * (k : Int)), .int .i64 2] (by kernel_rfl) (number_ref l hl _ _ (4 + 3 * k) 2 (by omega) rfl (by omega) (by omega) _) ⟨trivial, ?_⟩
              simp only [Act.put]
              refine wpAnyH_all (rs := [1, 12]) (by kernel_rfl) (by simp) ?_
              intro j hj
              simp only [List.mem_cons, List.not_mem_nil, or_false] at hj
              rcases hj with rfl | rfl
              · skip
                refine wpOp_val rfl (by kernel_rfl) (.slice sa sn sc) wr.drew (by have := hld1; go_simp) ⟨trivial, ?_⟩
                simp only [Act.put]
                refine wpAnyH_all (rs := [12]) (by kernel_rfl) (by simp) ?_
                intro j hj
                simp only [List.mem_singleton] at hj
                subst hj
                refine wpOp_val rfl (by kernel_rfl) (.agg #[.int .i64 (numAt l (3 + 3 * k) 1), .int .i64 (numAt l (4 + 3 * k) 2)]) wr.drew (by kernel_rfl) ⟨trivial, ?_⟩
                simp only [Act.put]
                refine wpAnyH_all (rs := [13]) (by kernel_rfl) (by simp) ?_
                intro j hj
                simp only [List.mem_singleton] at hj
                subst hj
                refine wpOp_val rfl (by kernel_rfl) (.slice (some ⟨wr.heap.size, 0, none⟩) 1 1) (wr.drew.alloc (.cells #[.int .i64 (numAt l (3 + 3 * k) 1), .int .i64 (numAt l (4 + 3 * k) 2)] 69)) (by kernel_rfl) ⟨trivial, ?_⟩
                simp only [Act.put]
                refine wpAnyH_all (rs := [14]) (by kernel_rfl) (by simp) ?_
                intro j hj
                simp only [List.mem_singleton] at hj
                subst hj
                refine wpOp_appC rfl (by kernel_rfl) (.tmp 83) (.tmp 95) rfl (w.heap.size + 1 + 1) (.slice sa sn sc) (clAt l k) [(numAt l (3 + 3 * k) 1, numAt l (4 + 3 * k) 2)] (by kernel_rfl) (O1d.out.alloc _) ⟨wr.heap.size, 0, none⟩ 1 1 (by kernel_rfl) rfl (news_claim rfl) hlen (by simp; omega) ?_
                intro v4 w4 hown4 hgrow4
                refine ⟨trivial, ?_⟩
                obtain ⟨sa4, sn4, sc4, rfl, _, _, _⟩ := hown4.cl
                have V4 : Hid (Bur w w4 (⟨4, numAt l 1 1, 0, 0, 0, 0, zf, zf, sa, sn, sc, ⟨#[]⟩⟩ : Rq)) := (V1.out.drew.later ((Below.refl _ _).alloc (Nat.le_refl _) _)).grown hgrow4 (fun j hj => by have := (World.ownsRow.lt O1.out j hj).1; omega)
                have O4 : Hid (OwnC w4 (w.heap.size + 1 + 1) (.slice sa4 sn4 sc4) (clAt l (k + 1))) := by show OwnC _ _ _ _; rw [clAt_succ]; exact hown4
                have c4 := Row.of V4.out.req 30
                have f4 := frz_row V4.out.req 30
                rw [row_30] at c4
                clear hown4 hgrow4
                simp only [Act.put]
                refine wpAnyH_all (rs := [15]) (by kernel_rfl) (by simp) ?_
                intro j hj
                simp only [List.mem_singleton] at hj
                subst hj
                refine wpOp_val rfl (by kernel_rfl) (.pointer (some ⟨w.heap.size + 1, 30, none⟩)) w4 (by kernel_rfl) ⟨trivial, ?_⟩
                simp only [Act.put]
                refine wpAnyH_all (rs := [16]) (by kernel_rfl) (by simp) ?_
                intro j hj
                simp only [List.mem_singleton] at hj
                subst hj
                refine wpOp_skip rfl (by kernel_rfl) (w4.setCell ⟨w.heap.size + 1, 30, none⟩ (.slice sa4 sn4 sc4)) (by go_simp) ⟨trivial, ?_⟩
                simp only [Act.put]
                refine wpAnyH_done (by kernel_rfl) ?_ _
                clear c4 f4
                go_wp2
                go_roundw
                case rel => exact ⟨k + 1, sa4, sn4, sc4, by omega, by go_num, V4.out.set 30 _ _ (by kernel_rfl), OwnC.keepSet O4.out⟩
                case measure => simp [intOf]; omega
              · skip
                refine wpOp_val rfl (by kernel_rfl) (.agg #[.int .i64 (numAt l (3 + 3 * k) 1), .int .i64 (numAt l (4 + 3 * k) 2)]) wr.drew (by kernel_rfl) ⟨trivial, ?_⟩
                simp only [Act.put]
                refine wpAnyH_all (rs := [1, 13]) (by kernel_rfl) (by simp) ?_
                intro j hj
                simp only [List.mem_cons, List.not_mem_nil, or_false] at hj
                rcases hj with rfl | rfl
                · skip
                  refine wpOp_val rfl (by kernel_rfl) (.slice sa sn sc) wr.drew (by have := hld1; go_simp) ⟨trivial, ?_⟩
                  simp only [Act.put]
                  refine wpAnyH_all (rs := [13]) (by kernel_rfl) (by simp) ?_
                  intro j hj
                  simp only [List.mem_singleton] at hj
                  subst hj
                  refine wpOp_val rfl (by kernel_rfl) (.slice (some ⟨wr.heap.size, 0, none⟩) 1 1) (wr.drew.alloc (.cells #[.int .i64 (numAt l (3 + 3 * k) 1), .int .i64 (numAt l (4 + 3 * k) 2)] 69)) (by kernel_rfl) ⟨trivial, ?_⟩
                  simp only [Act.put]
                  refine wpAnyH_all (rs := [14]) (by kernel_rfl) (by simp) ?_
                  intro j hj
                  simp only [List.mem_singleton] at hj
                  subst hj
                  refine wpOp_appC rfl (by kernel_rfl) (.tmp 83) (.tmp 95) rfl (w.heap.size + 1 + 1) (.slice sa sn sc) (clAt l k) [(numAt l (3 + 3 * k) 1, numAt l (4 + 3 * k) 2)] (by kernel_rfl) (O1d.out.alloc _) ⟨wr.heap.size, 0, none⟩ 1 1 (by kernel_rfl) rfl (news_claim rfl) hlen (by simp; omega) ?_
                  intro v4 w4 hown4 hgrow4
                  refine ⟨trivial, ?_⟩
                  obtain ⟨sa4, sn4, sc4, rfl, _, _, _⟩ := hown4.cl
                  have V4 : Hid (Bur w w4 (⟨4, numAt l 1 1, 0, 0, 0, 0, zf, zf, sa, sn, sc, ⟨#[]⟩⟩ : Rq)) := (V1.out.drew.later ((Below.refl _ _).alloc (Nat.le_refl _) _)).grown hgrow4 (fun j hj => by have := (World.ownsRow.lt O1.out j hj).1; omega)
                  have O4 : Hid (OwnC w4 (w.heap.size + 1 + 1) (.slice sa4 sn4 sc4) (clAt l (k + 1))) := by show OwnC _ _ _ _; rw [clAt_succ]; exact hown4
                  have c4 := Row.of V4.out.req 30
                  have f4 := frz_row V4.out.req 30
                  rw [row_30] at c4
                  clear hown4 hgrow4
                  simp only [Act.put]
                  refine wpAnyH_all (rs := [15]) (by kernel_rfl) (by simp) ?_
                  intro j hj
                  simp only [List.mem_singleton] at hj
                  subst hj
                  refine wpOp_val rfl (by kernel_rfl) (.pointer (some ⟨w.heap.size + 1, 30, none⟩)) w4 (by kernel_rfl) ⟨trivial, ?_⟩
                  simp only [Act.put]
                  refine wpAnyH_all (rs := [16]) (by kernel_rfl) (by simp) ?_
                  intro j hj
                  simp only [List.mem_singleton] at hj
                  subst hj
                  refine wpOp_skip rfl (by kernel_rfl) (w4.setCell ⟨w.heap.size + 1, 30, none⟩ (.slice sa4 sn4 sc4)) (by go_simp) ⟨trivial, ?_⟩
                  simp only [Act.put]
                  refine wpAnyH_done (by kernel_rfl) ?_ _
                  clear c4 f4
                  go_wp2
                  go_roundw
                  case rel => exact ⟨k + 1, sa4, sn4, sc4, by omega, by go_num, V4.out.set 30 _ _ (by kernel_rfl), OwnC.keepSet O4.out⟩
                  case measure => simp [intOf]; omega
                · skip
                  refine wpOp_val rfl (by kernel_rfl) (.slice (some ⟨wr.heap.size, 0, none⟩) 1 1) (wr.drew.alloc (.cells #[.int .i64 (numAt l (3 + 3 * k) 1), .int .i64 (numAt l (4 + 3 * k) 2)] 69)) (by kernel_rfl) ⟨trivial, ?_⟩
                  simp only [Act.put]
                  refine wpAnyH_all (rs := [1]) (by kernel_rfl) (by simp) ?_
                  intro j hj
                  simp only [List.mem_singleton] at hj
                  subst hj
                  refine wpOp_val rfl (by kernel_rfl) (.slice sa sn sc) (wr.drew.alloc (.cells #[.int .i64 (numAt l (3 + 3 * k) 1), .int .i64 (numAt l (4 + 3 * k) 2)] 69)) (by have := hld2; go_simp) ⟨trivial, ?_⟩
                  simp only [Act.put]
                  refine wpAnyH_all (rs := [14]) (by kernel_rfl) (by simp) ?_
                  intro j hj
                  simp only [List.mem_singleton] at hj
                  subst hj
                  refine wpOp_appC rfl (by kernel_rfl) (.tmp 83) (.tmp 95) rfl (w.heap.size + 1 + 1) (.slice sa sn sc) (clAt l k) [(numAt l (3 + 3 * k) 1, numAt l (4 + 3 * k) 2)] (by kernel_rfl) (O1d.out.alloc _) ⟨wr.heap.size, 0, none⟩ 1 1 (by kernel_rfl) rfl (news_claim rfl) hlen (by simp; omega) ?_
                  intro v4 w4 hown4 hgrow4
                  refine ⟨trivial, ?_⟩
                  obtain ⟨sa4, sn4, sc4, rfl, _, _, _⟩ := hown4.cl
                  have V4 : Hid (Bur w w4 (⟨4, numAt l 1 1, 0, 0, 0, 0, zf, zf, sa, sn, sc, ⟨#[]⟩⟩ : Rq)) := (V1.out.drew.later ((Below.refl _ _).alloc (Nat.le_refl _) _)).grown hgrow4 (fun j hj => by have := (World.ownsRow.lt O1.out j hj).1; omega)
                  have O4 : Hid (OwnC w4 (w.heap.size + 1 + 1) (.slice sa4 sn4 sc4) (clAt l (k + 1))) := by show OwnC _ _ _ _; rw [clAt_succ]; exact hown4
                  have c4 := Row.of V4.out.req 30
                  have f4 := frz_row V4.out.req 30
                  rw [row_30] at c4
                  clear hown4 hgrow4
                  simp only [Act.put]
                  refine wpAnyH_all (rs := [15]) (by kernel_rfl) (by simp) ?_
                  intro j hj
                  simp only [List.mem_singleton] at hj
                  subst hj
                  refine wpOp_val rfl (by kernel_rfl) (.pointer (some ⟨w.heap.size + 1, 30, none⟩)) w4 (by kernel_rfl) ⟨trivial, ?_⟩
                  simp only [Act.put]
                  refine wpAnyH_all (rs := [16]) (by kernel_rfl) (by simp) ?_
                  intro j hj
                  simp only [List.mem_singleton] at hj
                  subst hj
                  refine wpOp_skip rfl (by kernel_rfl) (w4.setCell ⟨w.heap.size + 1, 30, none⟩ (.slice sa4 sn4 sc4)) (by go_simp) ⟨trivial, ?_⟩
                  simp only [Act.put]
                  refine wpAnyH_done (by kernel_rfl) ?_ _
                  clear c4 f4
                  go_wp2
                  go_roundw
                  case rel => exact ⟨k + 1, sa4, sn4, sc4, by omega, by go_num, V4.out.set 30 _ _ (by kernel_rfl), OwnC.keepSet O4.out⟩
                  case measure => simp [intOf]; omega
        · have hke : k = cnt := by omega
          subst hke
          go_wp2_with fail
          refine (tail_ref l hl _ (4 + 3 * k) (by go_num) (by omega) _).mono ?_
          rintro e _ ⟨rfl, h9⟩
          rw [h9]
          clear h9
          go_wp2_with fail
          go_meet
          case rel => exact ⟨sa, sn, sc, by rw [HR.out]; exact V1.out.set 31 _ ((⟨4, numAt l 1 1, 0, 0, 0, 0, zf, zf, clAt l (numAt l 2 1).toNat, l.drop (4 + 3 * (numAt l 2 1).toNat), [], false⟩ : Dat).rq sa sn sc) (by rw [HT.out]; kernel_rfl), by rw [HR.out]; show OwnC _ _ _ (clAt l (numAt l 2 1).toNat) ∧ _; rw [HT.out]; exact ⟨World.ownsRow.mono (OwnC.keepSet O1.out) (by omega), OwnC.far O1.out⟩⟩
    by_cases h5 : n = 5
    · subst h5
      have HR : Hid (refD l = (⟨5, 0, 0, 0, numAt l 1 4, numAt l 5 1, zf, zf, [], [], [], false⟩ : Dat)) := by show _ = _; unfold refD; simp [hk.out]
      go_wp2_with fail
      refine (number_ref l hl _ _ 1 4 rfl rfl (by omega) (by omega) _).mono ?_
      rintro e _ ⟨rfl, h9⟩
      rw [h9]
      clear h9
      go_wp2_with fail
      refine (number_ref l hl _ _ 5 1 rfl rfl (by omega) (by omega) _).mono ?_
      rintro e _ ⟨rfl, h9⟩
      rw [h9]
      clear h9
      go_wp2_with fail
      go_meet
      case rel => exact ⟨none, 0, 0, by rw [HR.out]; exact (U.out.set 4 _ (⟨5, 0, 0, 0, numAt l 1 4, 0, zf, zf, none, 0, 0, ⟨#[]⟩⟩ : Rq) (by kernel_rfl)).set 5 _ ((⟨5, 0, 0, 0, numAt l 1 4, numAt l 5 1, zf, zf, [], [], [], false⟩ : Dat).rq none 0 0) (by kernel_rfl), by rw [HR.out]; exact ⟨OwnC.nil _ _, fun a ha => by cases ha⟩⟩
    by_cases h6 : n = 6
    · subst h6
      have HR : Hid (refD l = (⟨6, 0, 0, 0, numAt l 1 4, 0, zf, zf, [], [], [], false⟩ : Dat)) := by show _ = _; unfold refD; simp [hk.out]
      go_wp2_with fail
      refine (number_ref l hl _ _ 1 4 rfl rfl (by omega) (by omega) _).mono ?_
      rintro e _ ⟨rfl, h9⟩
      rw [h9]
      clear h9
      go_wp2_with fail
      go_meet
      case rel => exact ⟨none, 0, 0, by rw [HR.out]; exact U.out.set 4 _ ((⟨6, 0, 0, 0, numAt l 1 4, 0, zf, zf, [], [], [], false⟩ : Dat).rq none 0 0) (by kernel_rfl), by rw [HR.out]; exact ⟨OwnC.nil _ _, fun a ha => by cases ha⟩⟩
    have HR : Hid (refD l = (⟨n, 0, 0, 0, 0, 0, zf, zf, [], [], [], false⟩ : Dat)) := by show _ = _; unfold refD; simp [hk.out, h1, h2, h3, h4, h5, h6]
    go_wp2_with fail
    go_meet
    case rel => exact ⟨none, 0, 0, by rw [HR.out]; exact U.out.row _ (by kernel_rfl), by rw [HR.out]; exact ⟨OwnC.nil _ _, fun a ha => by cases ha⟩⟩
  obtain ⟨sa, sn, sc, hB, hO, hA⟩ := hcut
  clear U
  have hcn : (refD l).cl.length = sn := by
    obtain ⟨_, _, _, e, hc, _, _⟩ := hO.cl
    cases e
    exact hc.1
  have htx : ((refD l).rq sa sn sc).tx.size ≤ 140737488355328 := by show (strB (refD l).tx).size ≤ _; rw [strB_size]; exact Nat.le_trans (refD_tx l) hl
  have HM : Hid (mayB ((refD l).rq sa sn sc) (refD l).cl = mb) := (mayB_sl _ _ _ _ hcn).trans hmb.out
  have HE : Hid (decide (bodyOf ((refD l).rq sa sn sc) (refD l).cl = l) = eb) := by show _ = _; rw [bodyOf_sl _ _ _ _ hcn]; exact heb.out
  obtain ⟨q, hq⟩ : ∃ q, Hid (q = (refD l).rq sa sn sc) := ⟨_, rfl⟩
  have hqs : q.sa = sa ∧ q.sn = sn := by rw [hq.out]; exact ⟨rfl, rfl⟩
  rw [← hq.out] at HM HE htx hB
  obtain ⟨cl, hcl⟩ : ∃ cl, Hid (cl = (refD l).cl) := ⟨_, rfl⟩
  rw [← hcl.out] at HM HE hO hcn
  have hsn : sn ≤ 255 := by have := refD_cl l; rw [← hcl.out, hcn] at this; exact this
  have HB : Hid (Bur w wc q) := hB
  have HO : Hid (OwnC wc w.heap.size (.slice sa sn sc) cl) := hO
  have HA : Hid (∀ a, sa = some a → w.heap.size + 1 < a.block) := hA
  have hC : Hid (Cl wc q.sa q.sn cl) := by obtain ⟨_, _, _, e, h, _, _⟩ := hO.cl; cases e; show Cl _ _ _ _; rw [hqs.1, hqs.2]; exact h
  have hqn : q.sn ≤ 9223372036854775807 := by omega
  have hT : q.tx.size ≤ 9223372036854775807 := by omega
  clear hB hO hA
  go_wp2_with (refine wpList_load_req rfl (.tmp 4) rfl _ rfl q HB.out.req ?_)
  refine (rmay_any q cl _ hqn hT hC.out).mono ?_
  rintro e w2 ⟨he, hb2⟩
  rw [HM.out] at he
  subst he
  have HB2 : Hid (Bur w w2 q) := HB.out.later hb2
  have HO2 : Hid (OwnC w2 w.heap.size (.slice sa sn sc) cl) := HO.out.kept (fun a ha => hb2.block _ (by obtain ⟨_, _, _, e, _, _, h⟩ := HO.out.cl; cases e; exact (h a ha).2))
  have hC2 : Hid (Cl w2 q.sa q.sn cl) := hC.out.later hb2
  clear hb2 HB HO hC
  cases mb with
  | false =>
    go_wp2_with (first | (refine wpList_build_none rfl rfl ?_) | (refine wpList_store_req rfl (.tmp 2) (.tmp 121) rfl w.heap.size (by rfl) z0 z0 (by rfl) HB2.out.res ?_))
    have hrow := setRow_heap _ _ z0.row z0.row 28 (0, 0) HB2.out.res
    refine bodyPost_ret (v := .tuple #[.agg z0.row, .int .i64 6]) (results_req Try.results36 _ _ w.heap.size z0 (.int .i64 6) rfl rfl hrow) rfl ⟨below_setRow HB2.out.bel (Nat.le_refl _) _, fun h => (by cases h), fun _ => rfl⟩
  | true =>
  go_wp2_with (refine wpList_load_req rfl (.tmp 4) rfl _ rfl q HB2.out.req ?_)
  refine (rbody_any q cl _ HM.out hC2.out).mono ?_
  rintro e w3 ⟨he, hb3⟩
  have HB3 : Hid (Bur w w3 q) := HB2.out.later hb3
  have HO3 : Hid (OwnC w3 w.heap.size (.slice sa sn sc) cl) := HO2.out.kept (fun a ha => hb3.block _ (by obtain ⟨_, _, _, e, _, _, h⟩ := HO2.out.cl; cases e; exact (h a ha).2))
  clear hb3 HB2 HO2 hC2
  cases eb with
  | false =>
    have hne : ¬ strB (bodyOf q cl) = strB l := fun h => by
      have h1 := congrArg txB h
      rw [txB_strB, txB_strB] at h1
      exact of_decide_eq_false HE.out h1
    obtain ⟨sb, hsb⟩ : ∃ s, Hid (s = strB (bodyOf q cl)) := ⟨_, rfl⟩
    rw [← hsb.out] at hne he
    have hnt : ¬ sb.toList = (strB l).toList := fun h => hne (str_ext (by rw [← ByteArray.toList_eq, ← ByteArray.toList_eq]; exact h))
    have hnb : (sb.toList == (strB l).toList) = false := beq_eq_false_iff_ne.2 hnt
    subst he
    go_wp2_with (first | (refine wpList_build_none rfl rfl ?_) | (refine wpList_store_req rfl (.tmp 2) (.tmp 127) rfl w.heap.size (by rfl) z0 z0 (by rfl) HB3.out.res ?_))
    have hrow := setRow_heap _ _ z0.row z0.row 28 (0, 0) HB3.out.res
    refine bodyPost_ret (v := .tuple #[.agg z0.row, .int .i64 6]) (results_req Try.results36 _ _ w.heap.size z0 (.int .i64 6) rfl rfl hrow) rfl ⟨below_setRow HB3.out.bel (Nat.le_refl _) _, fun h => (by cases h), fun _ => rfl⟩
  | true =>
    have he2 : bodyOf q cl = l := of_decide_eq_true HE.out
    rw [he2] at he
    subst he
    go_wp2_with (first | (refine wpList_load_req rfl (.tmp 4) rfl _ rfl q HB3.out.req ?_) | (refine wpList_store_req rfl (.tmp 2) (.tmp 128) rfl w.heap.size (by rfl) z0 q (by rfl) HB3.out.res ?_))
    have hrow := setRow_heap _ _ z0.row q.row 28 (0, 0) HB3.out.res
    refine bodyPost_ret (v := .tuple #[.agg q.row, .int .i64 0]) (results_req Try.results36 _ _ w.heap.size q (.int .i64 0) rfl rfl hrow) rfl ⟨below_setRow HB3.out.bel (Nat.le_refl _) _, fun _ => ⟨sa, sn, sc, by rw [hq.out], ?_⟩, fun h => (by cases h)⟩
    rw [← hcl.out]
    exact HO3.out.kept (fun a ha => setRow_other _ _ _ _ (by have := HA.out a ha; omega))
end Go.Proofs.Ytpnfkcbbjcimgaa
