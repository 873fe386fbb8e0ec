import Derived.Test.YtpnfkcbbjcimgaaSame
import Derived.Test.YtpnfkcbbjcimgaaWorks
namespace Go.Proofs.Ytpnfkcbbjcimgaa
open Go.RowKit
theorem decB_shorter (b : List (BitVec 8)) (h : decB b = true) : decB b.dropLast = false := by
  cases hd : decB b.dropLast with
  | false => rfl
  | true =>
    have h0 : decB [] = false := by kernel_rfl
    have hne : b ≠ [] := fun e => by rw [e, h0] at h; cases h
    have := decB_longer b.dropLast [b.getLast hne] (by simp) hd
    rw [List.dropLast_concat_getLast hne, h] at this
    cases this
set_option maxRecDepth 100000 in
set_option maxHeartbeats 2000000 in
theorem back_any (q : Rq) (cl : List (Int × Int)) (bl : List (BitVec 8)) (w : World) (hn : q.sn ≤ 9223372036854775807) (ht : q.tx.size ≤ 9223372036854775807) (hcl : Cl w q.sa q.sn cl) (hlt : q.sn ≠ 0 → ∀ a, q.sa = some a → a.block < w.heap.size) (hbl : bl.length ≤ 140737488355328) :
    Calls Try.prog 6 #[.agg q.row, .string (strB bl)] w fun e w' => e = .returned (.bool true) ∧ Below w.heap.size w w' := by
  have HC : Hid (Cl w q.sa q.sn cl) := hcl
  have HLT : Hid (q.sn ≠ 0 → ∀ a, q.sa = some a → a.block < w.heap.size) := hlt
  clear hcl hlt
  have hsz := strB_size bl
  go_enter Try.func6, Try.ntmps6
  go_wp2_with fail
  refine (works_any _).mono ?_
  rintro e w1 ⟨rfl, hb1⟩
  have hz1 := hb1.size
  simp at hz1
  have X1 : Hid (w1.heap[w.heap.size]? = some (.cells q.row 28)) := blk_later hb1 (by simp) (blk_newest rfl _)
  have B1 : Hid (Below w.heap.size w w1) := ((Below.refl _ _).alloc (Nat.le_refl _) _).trans (hb1.mono (by simp))
  clear hb1
  cases hm : mayB q cl with
  | false =>
    go_wp2_with (refine wpList_load_req rfl (.tmp 2) rfl _ rfl q X1.out ?_)
    refine (encode_bad q cl _ hm hn ht (HC.out.later B1.out)).mono ?_
    rintro e w2 ⟨rfl, hb2⟩
    have B2 : Hid (Below w.heap.size w w2) := B1.out.trans (hb2.mono (by omega))
    clear hb2 hm
    go_upto_region 12 with fail
    clear X1 B1
    have hzz := B2.out.size
    cases hd : decB bl with
    | false =>
      go_wp2_with fail
      refine (decode_bad bl hbl _ hd).mono ?_
      rintro e w8 ⟨rfl, hb8⟩
      have hz8 := hb8.size
      have B8 : Hid (Below w.heap.size w (w8.alloc (.cells z0.row 28))) := (B2.out.trans (hb8.mono hzz)).alloc (by omega) _
      clear hb8 hd
      go_wp2_with (first | (refine wpList_alloc_req rfl rfl ?_) | (refine wpList_store_fresh rfl (.tmp 15) (.tmp 77) rfl w8.heap.size (by rfl) rfl z0 z0 (by rfl) ?_))
      go_ret
      exact ⟨rfl, B8.out⟩
    | true =>
      go_wp2_with fail
      refine (decode_ok bl hbl _ hd).mono ?_
      rintro e w8 ⟨sa8, sn8, sc8, he8, hown8, hb8⟩
      have hz8 := hb8.size
      obtain ⟨_, _, _, ee, hc8, hn8, hk8⟩ := hown8.cl
      cases ee
      have hmay : mayB ((rdOf bl).rq sa8 sn8 sc8) (rdOf bl).cl = true := by
        have h := hd
        unfold decB at h
        simp only [Bool.and_eq_true] at h
        rw [mayB_sl _ _ _ _ hc8.1]
        exact h.2
      have hbr := body_read bl hd sa8 sn8 sc8 hc8.1
      have htx : ((rdOf bl).rq sa8 sn8 sc8).tx.size ≤ 9223372036854775807 := by show (strB (rdOf bl).tx).size ≤ _; rw [strB_size]; have := rd_tx bl; omega
      obtain ⟨p8, hp8⟩ : ∃ p, Hid (p = (rdOf bl).rq sa8 sn8 sc8) := ⟨_, rfl⟩
      have hps : p8.sa = sa8 ∧ p8.sn = sn8 := by rw [hp8.out]; exact ⟨rfl, rfl⟩
      rw [← hp8.out] at he8 hmay hbr htx
      subst he8
      have Y8 : Hid ((w8.alloc (.cells p8.row 28)).heap[w8.heap.size]? = some (.cells p8.row 28)) := blk_newest rfl _
      have B8 : Hid (Below w.heap.size w (w8.alloc (.cells p8.row 28))) := (B2.out.trans (hb8.mono hzz)).alloc (by omega) _
      have hz9 := B8.out.size
      have C8 : Hid (Cl (w8.alloc (.cells p8.row 28)) p8.sa p8.sn (rdOf bl).cl) := by
        show Cl _ _ _ _
        rw [hps.1, hps.2]
        exact hc8.later ((Below.refl _ _).alloc (Nat.le_refl _) _)
      have N8 : Hid (p8.sn ≤ 9223372036854775807) := by show _ ≤ _; rw [hps.2]; exact hn8
      have K8 : Hid (p8.sn ≠ 0 → ∀ a, p8.sa = some a → a.block < (w8.alloc (.cells p8.row 28)).heap.size) := fun _ a ha => by rw [hps.1] at ha; have := (hk8 a ha).2; simp; omega
      have M8 : Hid (mayB p8 (rdOf bl).cl = true) := hmay
      have R8 : Hid (bodyOf p8 (rdOf bl).cl = bl) := hbr
      have T8 : Hid (p8.tx.size ≤ 9223372036854775807) := htx
      have hfull8 : (strB (numTo (bl.length : Int) 2 2 ++ bl)).size = 2 + bl.length := by rw [strB_size, List.length_append, numTo_length]
      have hcut8 : (strB (numTo (bl.length : Int) 2 2 ++ bl)).extract 2 (2 + bl.length) = strB bl := by
        have h := strB_drop (numTo (bl.length : Int) 2 2 ++ bl) 2
        rw [List.length_append, numTo_length, List.drop_left' (numTo_length _ _ _)] at h
        exact h
      clear hb8 hd hown8 hc8 hn8 hk8 hmay hbr htx hps
      go_upto_region 13 with (first | (refine wpList_alloc_req rfl rfl ?_) | (refine wpList_store_fresh rfl (.tmp 15) (.tmp 77) rfl w8.heap.size (by rfl) rfl z0 p8 (by rfl) ?_))
      go_wp2_with (refine wpList_load_req rfl (.tmp 15) rfl _ rfl p8 Y8.out ?_)
      refine (encode_ok p8 (rdOf bl).cl _ M8.out N8.out T8.out C8.out K8.out).mono ?_
      rintro e w9 ⟨he9, hb9⟩
      rw [R8.out] at he9
      subst he9
      have B9 : Hid (Below w.heap.size w w9) := B8.out.trans (hb9.mono hz9)
      clear hb9
      go_wp2
      go_ret
      exact ⟨rfl, B9.out⟩
  | true =>
    go_wp2_with (refine wpList_load_req rfl (.tmp 2) rfl _ rfl q X1.out ?_)
    refine (encode_ok q cl _ hm hn ht (HC.out.later B1.out) (fun h0 a ha => by have := HLT.out h0 a ha; omega)).mono ?_
    rintro e w2 ⟨rfl, hb2⟩
    have X2 : Hid (w2.heap[w.heap.size]? = some (.cells q.row 28)) := blk_later hb2 (by omega) X1.out
    have B2 : Hid (Below w.heap.size w w2) := B1.out.trans (hb2.mono (by omega))
    have hz2 := hb2.size
    have hlen := body_length hm HC.out.1
    have hdec := decB_written q cl hm HC.out.1
    have hsame := rd_written q cl hm HC.out.1
    have hrow := row_same hsame
    clear hb2 X1 B1
    obtain ⟨b, hb⟩ : ∃ b, Hid (b = bodyOf q cl) := ⟨_, rfl⟩
    rw [← hb.out] at hlen hdec hsame hrow ⊢
    have hfull : (strB (numTo (b.length : Int) 2 2 ++ b)).size = 2 + b.length := by rw [strB_size, List.length_append, numTo_length]
    have hcut2 : (strB (numTo (b.length : Int) 2 2 ++ b)).extract 2 (2 + b.length) = strB b := by
      have h := strB_drop (numTo (b.length : Int) 2 2 ++ b) 2
      rw [List.length_append, numTo_length, List.drop_left' (numTo_length _ _ _)] at h
      exact h
    have hshort : (strB (numTo (b.length : Int) 2 2 ++ b)).extract 2 (1 + b.length) = strB b.dropLast := by
      apply str_ext
      rw [Lib.extract_data, strB_toList, strB_toList, List.map_append, List.drop_left' (by rw [List.length_map, numTo_length]), List.dropLast_eq_take, List.map_take]
      congr 1
      omega
    have hsb : (strB b).size = b.length := strB_size b
    have hplus : strB b ++ ⟨#[120]⟩ = strB (b ++ [120#8]) := by
      apply str_ext
      rw [strB_toList, List.map_append, ← strB_toList]
      simp
    have HD : Hid (decB b = true) := hdec
    have HS : Hid (Same q cl (rdOf b)) := hsame
    have HR : Hid (∀ sa sn sc, ((rdOf b).rq sa sn sc).row = (q.withSl sa sn sc).row) := hrow
    clear hm hdec hsame hrow
    go_upto_region 6 with fail
    go_wp2_with fail
    refine (decode_ok b (by omega) _ HD.out).mono ?_
    rintro e w3 ⟨sa, sn, sc, he, hown3, hb3⟩
    rw [HR.out] at he
    subst he
    have hz3 := hb3.size
    obtain ⟨_, _, _, ee, hc3, hn3, hk3⟩ := hown3.cl
    cases ee
    rw [HS.out.cl] at hc3
    have C3 : Hid (Cl w3 sa sn cl) := hc3
    have N3 : Hid (sn ≤ 9223372036854775807) := hn3
    have X3 : Hid (w3.heap[w.heap.size]? = some (.cells q.row 28)) := blk_later hb3 (by omega) X2.out
    have B3 : Hid (Below w.heap.size w w3) := B2.out.trans (hb3.mono (by omega))
    clear hb3 hown3 hc3 hn3 hk3 X2 B2
    obtain ⟨p, hp⟩ : ∃ p, Hid (p = q.withSl sa sn sc) := ⟨_, rfl⟩
    rw [← hp.out]
    have X4 : Hid ((w3.alloc (.cells p.row 28)).heap[w.heap.size]? = some (.cells q.row 28)) := blk_alloc (by omega) X3.out _
    have Y4 : Hid ((w3.alloc (.cells p.row 28)).heap[w3.heap.size]? = some (.cells p.row 28)) := blk_newest rfl _
    have B4 : Hid (Below w.heap.size w (w3.alloc (.cells p.row 28))) := B3.out.alloc (by omega) _
    have C4 : Hid (Cl (w3.alloc (.cells p.row 28)) sa sn cl) := C3.out.later ((Below.refl _ _).alloc (Nat.le_refl _) _)
    clear X3 B3 C3
    go_upto_region 7 with (first | (refine wpList_alloc_req rfl rfl ?_) | (refine wpList_store_fresh rfl (.tmp 8) (.tmp 39) rfl w3.heap.size (by rfl) rfl z0 p (by rfl) ?_))
    go_wp2_with (first | (refine wpList_load_req rfl (.tmp 8) rfl _ rfl p Y4.out ?_) | (refine wpList_load_req rfl (.tmp 2) rfl _ rfl q X4.out ?_))
    rw [hp.out]
    refine (sameRequest_true q sa sn sc cl _ N3.out (by have := C4.out; rw [hp.out] at this; exact this) (by have := HC.out.later B4.out; rw [hp.out] at this; exact this)).mono ?_
    rintro e w5 ⟨rfl, hb5⟩
    have hz5 := hb5.size
    simp at hz5
    have B5 : Hid (Below w.heap.size w w5) := (by have := B4.out; rw [hp.out] at this; exact this.trans (hb5.mono (by simp; omega)))
    clear hb5 X4 Y4 B4 C4 N3
    go_wp2_with fail
    refine (decode_bad b.dropLast (by rw [List.length_dropLast]; omega) _ (decB_shorter b HD.out)).mono ?_
    rintro e w6 ⟨rfl, hb6⟩
    have hz6 := hb6.size
    have B6 : Hid (Below w.heap.size w (w6.alloc (.cells z0.row 28))) := (B5.out.trans (hb6.mono (by omega))).alloc (by omega) _
    clear hb6 B5 hshort
    go_upto_region 9 with (first | (refine wpList_alloc_req rfl rfl ?_) | (refine wpList_store_fresh rfl (.tmp 11) (.tmp 51) rfl w6.heap.size (by rfl) rfl z0 z0 (by rfl) ?_))
    go_wp2_with fail
    refine (decode_bad (b ++ [120#8]) (by rw [List.length_append]; simp; omega) _ (decB_longer b [120#8] (by simp) HD.out)).mono ?_
    rintro e w7 ⟨rfl, hb7⟩
    have hz7 := hb7.size
    simp at hz7
    have B7 : Hid (Below w.heap.size w (w7.alloc (.cells z0.row 28))) := (B6.out.trans (hb7.mono (by simp; omega))).alloc (by omega) _
    clear hb7 B6
    go_upto_region 10 with (first | (refine wpList_alloc_req rfl rfl ?_) | (refine wpList_store_fresh rfl (.tmp 13) (.tmp 58) rfl w7.heap.size (by rfl) rfl z0 z0 (by rfl) ?_))
    go_upto_region 12 with fail
    clear hfull hcut2 hsb hplus HD HS HR hlen hz1 hz2 hz3 hz5 hz6 hz7
    have hzz := B7.out.size
    cases hd : decB bl with
    | false =>
      go_wp2_with fail
      refine (decode_bad bl hbl _ hd).mono ?_
      rintro e w8 ⟨rfl, hb8⟩
      have hz8 := hb8.size
      have B8 : Hid (Below w.heap.size w (w8.alloc (.cells z0.row 28))) := (B7.out.trans (hb8.mono hzz)).alloc (by omega) _
      clear hb8 hd
      go_wp2_with (first | (refine wpList_alloc_req rfl rfl ?_) | (refine wpList_store_fresh rfl (.tmp 15) (.tmp 77) rfl w8.heap.size (by rfl) rfl z0 z0 (by rfl) ?_))
      go_ret
      exact ⟨rfl, B8.out⟩
    | true =>
      go_wp2_with fail
      refine (decode_ok bl hbl _ hd).mono ?_
      rintro e w8 ⟨sa8, sn8, sc8, he8, hown8, hb8⟩
      have hz8 := hb8.size
      obtain ⟨_, _, _, ee, hc8, hn8, hk8⟩ := hown8.cl
      cases ee
      have hmay : mayB ((rdOf bl).rq sa8 sn8 sc8) (rdOf bl).cl = true := by
        have h := hd
        unfold decB at h
        simp only [Bool.and_eq_true] at h
        rw [mayB_sl _ _ _ _ hc8.1]
        exact h.2
      have hbr := body_read bl hd sa8 sn8 sc8 hc8.1
      have htx : ((rdOf bl).rq sa8 sn8 sc8).tx.size ≤ 9223372036854775807 := by show (strB (rdOf bl).tx).size ≤ _; rw [strB_size]; have := rd_tx bl; omega
      obtain ⟨p8, hp8⟩ : ∃ p, Hid (p = (rdOf bl).rq sa8 sn8 sc8) := ⟨_, rfl⟩
      have hps : p8.sa = sa8 ∧ p8.sn = sn8 := by rw [hp8.out]; exact ⟨rfl, rfl⟩
      rw [← hp8.out] at he8 hmay hbr htx
      subst he8
      have Y8 : Hid ((w8.alloc (.cells p8.row 28)).heap[w8.heap.size]? = some (.cells p8.row 28)) := blk_newest rfl _
      have B8 : Hid (Below w.heap.size w (w8.alloc (.cells p8.row 28))) := (B7.out.trans (hb8.mono hzz)).alloc (by omega) _
      have hz9 := B8.out.size
      have C8 : Hid (Cl (w8.alloc (.cells p8.row 28)) p8.sa p8.sn (rdOf bl).cl) := by
        show Cl _ _ _ _
        rw [hps.1, hps.2]
        exact hc8.later ((Below.refl _ _).alloc (Nat.le_refl _) _)
      have N8 : Hid (p8.sn ≤ 9223372036854775807) := by show _ ≤ _; rw [hps.2]; exact hn8
      have K8 : Hid (p8.sn ≠ 0 → ∀ a, p8.sa = some a → a.block < (w8.alloc (.cells p8.row 28)).heap.size) := fun _ a ha => by rw [hps.1] at ha; have := (hk8 a ha).2; simp; omega
      have M8 : Hid (mayB p8 (rdOf bl).cl = true) := hmay
      have R8 : Hid (bodyOf p8 (rdOf bl).cl = bl) := hbr
      have T8 : Hid (p8.tx.size ≤ 9223372036854775807) := htx
      have hfull8 : (strB (numTo (bl.length : Int) 2 2 ++ bl)).size = 2 + bl.length := by rw [strB_size, List.length_append, numTo_length]
      have hcut8 : (strB (numTo (bl.length : Int) 2 2 ++ bl)).extract 2 (2 + bl.length) = strB bl := by
        have h := strB_drop (numTo (bl.length : Int) 2 2 ++ bl) 2
        rw [List.length_append, numTo_length, List.drop_left' (numTo_length _ _ _)] at h
        exact h
      clear hb8 hd hown8 hc8 hn8 hk8 hmay hbr htx hps
      go_upto_region 13 with (first | (refine wpList_alloc_req rfl rfl ?_) | (refine wpList_store_fresh rfl (.tmp 15) (.tmp 77) rfl w8.heap.size (by rfl) rfl z0 p8 (by rfl) ?_))
      go_wp2_with (refine wpList_load_req rfl (.tmp 15) rfl _ rfl p8 Y8.out ?_)
      refine (encode_ok p8 (rdOf bl).cl _ M8.out N8.out T8.out C8.out K8.out).mono ?_
      rintro e w9 ⟨he9, hb9⟩
      rw [R8.out] at he9
      subst he9
      have B9 : Hid (Below w.heap.size w w9) := B8.out.trans (hb9.mono hz9)
      clear hb9
      go_wp2
      go_ret
      exact ⟨rfl, B9.out⟩
end Go.Proofs.Ytpnfkcbbjcimgaa
