import Derived.Test.YtpnfkcbbjcimgaaLdec
namespace Go.Proofs.Ytpnfkcbbjcimgaa
open Go.RowKit
def eB (q : Rq) (cl : List (Int × Int)) : ByteArray := if mayB q cl = true then strB (numTo (bodyOf q cl).length 2 2 ++ bodyOf q cl) else ByteArray.empty
def fB (q : Rq) (cl : List (Int × Int)) : Int := if mayB q cl = true then 0 else 6
theorem rencode_any (q : Rq) (cl : List (Int × Int)) (w : World) (hn : q.sn ≤ 9223372036854775807) (ht : q.tx.size ≤ 9223372036854775807) (hcl : Cl w q.sa q.sn cl) :
    Calls Try.prog 10 #[.agg q.row] w fun e w' => e = .returned (.tuple #[.string (eB q cl), .int .i64 (fB q cl)]) ∧ Below w.heap.size w w' := by
  unfold eB fB
  by_cases h : mayB q cl = true
  · rw [if_pos h, if_pos h]
    exact rencode_ok q cl w h hn ht hcl
  · rw [if_neg h, if_neg h]
    exact rencode_bad q cl w (by simpa using h) hn ht hcl
theorem encode_any (q : Rq) (cl : List (Int × Int)) (w : World) (hn : q.sn ≤ 9223372036854775807) (ht : q.tx.size ≤ 9223372036854775807) (hcl : Cl w q.sa q.sn cl) (hlt : q.sn ≠ 0 → ∀ a, q.sa = some a → a.block < w.heap.size) :
    Calls Try.prog 11 #[.agg q.row] w fun e w' => e = .returned (.tuple #[.string (eB q cl), .int .i64 (fB q cl)]) ∧ Below w.heap.size w w' := by
  unfold eB fB
  by_cases h : mayB q cl = true
  · rw [if_pos h, if_pos h]
    exact encode_ok q cl w h hn ht hcl hlt
  · rw [if_neg h, if_neg h]
    exact encode_bad q cl w (by simpa using h) hn ht hcl
theorem enc_cases (q : Rq) (cl : List (Int × Int)) (hc : cl.length = q.sn) : (eB q cl).size = 0 ∨ ∃ b : List (BitVec 8), 2 < (eB q cl).size ∧ (eB q cl).size ≤ 100 ∧ (eB q cl).extract 2 (eB q cl).size = strB b ∧ b.length ≤ 64 := by
  unfold eB
  by_cases h : mayB q cl = true
  · rw [if_pos h]
    have hb := body_length h hc
    have hs : (strB (numTo (bodyOf q cl).length 2 2 ++ bodyOf q cl)).size = 2 + (bodyOf q cl).length := by rw [strB_size, List.length_append, numTo_length]
    refine .inr ⟨bodyOf q cl, by omega, by omega, ?_, hb.2⟩
    have h2 : (numTo ((bodyOf q cl).length : Int) 2 2).length = 2 := numTo_length _ _ _
    rw [strB_size, strB_drop]
    exact congrArg strB (List.drop_left' h2)
  · rw [if_neg h]
    exact .inl rfl
theorem eB_with (q : Rq) (cl : List (Int × Int)) (sa : Option Addr) (sc : Nat) : eB (q.withSl sa q.sn sc) cl = eB q cl := rfl
theorem fB_with (q : Rq) (cl : List (Int × Int)) (sa : Option Addr) (sc : Nat) : fB (q.withSl sa q.sn sc) cl = fB q cl := rfl
theorem Cl.app {w : World} {sa : Option Addr} {sn m : Nat} {cl l2 : List (Int × Int)} (h : Cl w sa (sn + m) (cl ++ l2)) (hl : cl.length = sn) : Cl w sa sn cl := by
  refine ⟨hl, ?_⟩
  by_cases h0 : sn = 0
  · exact .inl h0
  · obtain ⟨b, off, e, hc⟩ := h.2.resolve_left (by omega)
    refine .inr ⟨b, off, e, fun i hi => ?_⟩
    have := hc i (by omega)
    have hg : (cl ++ l2).getD i (0, 0) = cl.getD i (0, 0) := by
      simp [List.getD, List.getElem?_append_left (show i < cl.length from by omega)]
    rw [hg] at this
    exact this
set_option maxRecDepth 100000 in
set_option maxHeartbeats 8000000 in
theorem codes_some (q : Rq) (cl : List (Int × Int)) (bl : List (BitVec 8)) (ad : Addr) (w : World) (hsa : Hid (q.sa = some ad)) (hv : q.row[30]? = some (.slice (some ad) q.sn q.sc)) (hn : q.sn ≤ 8796093022208) (ht : q.tx.size ≤ 9223372036854775807) (hcl : Cl w (some ad) q.sn cl) (hbl : bl.length ≤ 140737488355328) :
    Calls Try.prog 4 #[.agg q.row, .string (strB bl)] w fun e w' => e = .returned (.bool true) ∧ Below w.heap.size w w' := by
  have HC : Hid (Cl w (some ad) q.sn cl) := hcl
  have hlen := hcl.1
  clear hcl
  have ec := enc_cases q cl hlen
  obtain ⟨sw, hsw⟩ : ∃ s, Hid (s = eB q cl) := ⟨_, rfl⟩
  obtain ⟨f, hf⟩ : ∃ f, Hid (f = fB q cl) := ⟨_, rfl⟩
  rw [← hsw.out] at ec
  have HD : Hid (∀ W, Calls Try.prog 13 #[.string (strB bl)] W fun e w' => e = .returned (.bool true) ∧ Below W.heap.size W w') := decodes_any bl hbl
  obtain ⟨sb, hsb⟩ : ∃ s, s = strB bl := ⟨_, rfl⟩
  rw [← hsb] at HD ⊢
  clear hsb hbl
  have X0 : Hid ((w.alloc (.cells q.row 28)).heap[w.heap.size]? = some (.cells q.row 28)) := blk_newest rfl _
  go_enter Try.func4, Try.ntmps4
  go_upto_region 2 with (first | (refine wpList_load_req rfl (.tmp 2) rfl _ rfl q X0.out ?_) | (refine wpList_alloc_req rfl rfl ?_) | (refine wpList_store_fresh rfl (.tmp 5) (.tmp 13) rfl (w.alloc (.cells q.row 28)).heap.size (by rfl) rfl z0 q (by rfl) ?_))
  obtain ⟨W0, hW0⟩ : ∃ W0, Hid (W0 = (w.alloc (.cells q.row 28)).alloc (.cells q.row 28)) := ⟨_, rfl⟩
  rw [← hW0.out]
  have A0 : Hid (W0.heap[w.heap.size]? = some (.cells q.row 28)) := by show _ = _; rw [hW0.out]; exact blk_alloc (by simp) X0.out _
  have C0 : Hid (W0.heap[w.heap.size + 1]? = some (.cells q.row 28)) := by show _ = _; rw [hW0.out]; exact blk_newest (by simp) _
  have B0 : Hid (Below w.heap.size w W0) := by show Below _ _ _; rw [hW0.out]; exact ((Below.refl _ _).alloc (Nat.le_refl _) _).alloc (by simp) _
  have hs0 : W0.heap.size = w.heap.size + 2 := by rw [hW0.out]; simp
  have l0 : W0.cell? ⟨w.heap.size, 30, none⟩ = some (.slice (some ad) q.sn q.sc) := (Row.of A0.out 30).trans hv
  clear X0 hW0
  go_wp2_with fail
  refine (lent_any (some ad) q.sn q.sc cl _ hn (HC.out.later B0.out)).mono ?_
  rintro e w1 ⟨rfl, ho1, hb1⟩
  have O1 : Hid (OwnC w1 (w.heap.size + 2) (.slice (some ⟨w.heap.size + 2, 0, none⟩) (q.sn + 8) (q.sn + 8)) (cl ++ List.replicate 8 (-77, 0))) := by show OwnC _ _ _ _; rw [← hs0]; exact ho1
  have A1 : Hid (w1.heap[w.heap.size]? = some (.cells q.row 28)) := blk_later hb1 (by omega) A0.out
  have C1 : Hid (w1.heap[w.heap.size + 1]? = some (.cells q.row 28)) := blk_later hb1 (by omega) C0.out
  have B1 : Hid (Below w.heap.size w w1) := B0.out.trans (hb1.mono (by omega))
  have hz1 := hb1.size
  have l1 : w1.cell? ⟨w.heap.size, 30, none⟩ = some (.slice (some ad) q.sn q.sc) := (Row.of A1.out 30).trans hv
  have k1 : w1.cell? ⟨w.heap.size + 1, 30, none⟩ = some (.slice (some ad) q.sn q.sc) := (Row.of C1.out 30).trans hv
  have f1 := frz_row C1.out 30
  clear ho1 hb1 A0 C0 B0 l0
  go_upto_region 5 with fail
  obtain ⟨p, hp⟩ : ∃ p, Hid (p = q.withSl (some ⟨w.heap.size + 2, 0, none⟩) q.sn (q.sn + 8)) := ⟨_, rfl⟩
  obtain ⟨W1, hW1⟩ : ∃ W1, Hid (W1 = w1.setCell ⟨w.heap.size + 1, 30, none⟩ (.slice (some ⟨w.heap.size + 2, 0, none⟩) q.sn (q.sn + 8))) := ⟨_, rfl⟩
  rw [← hW1.out]
  have T1 : Hid (Turn (w.heap.size + 1) w1 W1) := by show Turn _ _ _; rw [hW1.out]; exact (Turn.refl _ _).set _ _
  have C2 : Hid (W1.heap[w.heap.size + 1]? = some (.cells p.row 28)) := by show _ = _; rw [hW1.out]; exact blk_set p C1.out (by rw [hp.out]; kernel_rfl)
  have A2 : Hid (W1.heap[w.heap.size]? = some (.cells q.row 28)) := (T1.out.block _ (by omega)).trans A1.out
  have O2 : Hid (OwnC W1 (w.heap.size + 2) (.slice (some ⟨w.heap.size + 2, 0, none⟩) (q.sn + 8) (q.sn + 8)) (cl ++ List.replicate 8 (-77, 0))) := O1.out.turn T1.out (by omega)
  have B2 : Hid (Below w.heap.size w W1) := B1.out.trans (T1.out.below (by omega))
  have hs1 := T1.out.size
  clear hW1 T1
  clear A1 C1 O1 B1 l1 k1 f1
  go_wp2_with (refine wpList_load_req rfl (.tmp 2) rfl _ rfl q A2.out ?_)
  refine (rencode_any q cl _ (by omega) ht (by rw [hsa.out]; exact HC.out.later B2.out)).mono ?_
  rintro e w2 ⟨he, hb2⟩
  rw [← hsw.out, ← hf.out] at he
  subst he
  have C3 : Hid (w2.heap[w.heap.size + 1]? = some (.cells p.row 28)) := blk_later hb2 (by omega) C2.out
  have A3 : Hid (w2.heap[w.heap.size]? = some (.cells q.row 28)) := blk_later hb2 (by omega) A2.out
  have O3 : Hid (OwnC w2 (w.heap.size + 2) (.slice (some ⟨w.heap.size + 2, 0, none⟩) (q.sn + 8) (q.sn + 8)) (cl ++ List.replicate 8 (-77, 0))) := O2.out.later hb2
  have B3 : Hid (Below w.heap.size w w2) := B2.out.trans (hb2.mono (by omega))
  have hz2 := hb2.size
  clear hb2 A2 C2 O2 B2
  go_wp2_with (refine wpList_load_req rfl (.tmp 5) rfl _ rfl p C3.out ?_)
  have hpn : p.sa = some ⟨w.heap.size + 2, 0, none⟩ ∧ p.sn = q.sn ∧ p.tx = q.tx := by rw [hp.out]; exact ⟨rfl, rfl, rfl⟩
  have hpe : eB p cl = sw ∧ fB p cl = f := by rw [hp.out, eB_with, fB_with, hsw.out, hf.out]; exact ⟨rfl, rfl⟩
  refine (encode_any p cl _ (by rw [hpn.2.1]; omega) (by rw [hpn.2.2]; exact ht) (by rw [hpn.1, hpn.2.1]; exact (OwnC.cl' O3.out).app hlen) (fun _ a ha => by rw [hpn.1] at ha; exact OwnC.lt O3.out a ha)).mono ?_
  rintro e w3 ⟨he, hb3⟩
  rw [hpe.1, hpe.2] at he
  subst he
  have A4 : Hid (w3.heap[w.heap.size]? = some (.cells q.row 28)) := blk_later hb3 (by omega) A3.out
  have O4 : Hid (OwnC w3 (w.heap.size + 2) (.slice (some ⟨w.heap.size + 2, 0, none⟩) (q.sn + 8) (q.sn + 8)) (cl ++ List.replicate 8 (-77, 0))) := O3.out.later hb3
  have B4 : Hid (Below w.heap.size w w3) := B3.out.trans (hb3.mono (by omega))
  have hz3 := hb3.size
  have l4 : w3.cell? ⟨w.heap.size, 30, none⟩ = some (.slice (some ad) q.sn q.sc) := (Row.of A4.out 30).trans hv
  clear hb3 A3 C3 O3 B3 hpn hpe
  go_wp2_with fail
  refine (lent_any (some ad) q.sn q.sc cl _ hn (HC.out.later B4.out)).mono ?_
  rintro e w4 ⟨rfl, ho4, hb4⟩
  have O5 : Hid (OwnC w4 (w.heap.size + 2) (.slice (some ⟨w.heap.size + 2, 0, none⟩) (q.sn + 8) (q.sn + 8)) (cl ++ List.replicate 8 (-77, 0))) := O4.out.later hb4
  have P5 : Hid (OwnC w4 w3.heap.size (.slice (some ⟨w3.heap.size, 0, none⟩) (q.sn + 8) (q.sn + 8)) (cl ++ List.replicate 8 (-77, 0))) := ho4
  have B5 : Hid (Below w.heap.size w w4) := B4.out.trans (hb4.mono (by omega))
  have hz4 := hb4.size
  clear ho4 hb4 A4 O4 B4 l4
  go_wp2_with fail
  refine (sameClaims_true (some ⟨w.heap.size + 2, 0, none⟩) (some ⟨w3.heap.size, 0, none⟩) (q.sn + 8) (q.sn + 8) (q.sn + 8) (cl ++ List.replicate 8 (-77, 0)) _ (by omega) (OwnC.cl' O5.out) (OwnC.cl' P5.out)).mono ?_
  rintro e w5 ⟨rfl, hb5⟩
  have B6 : Hid (Below w.heap.size w w5) := B5.out.trans (hb5.mono (by omega))
  have hz5 := hb5.size
  clear hb5 O5 P5 B5
  rcases ec with e0 | ⟨b, h2, h100, hex, hb64⟩
  · go_wp2_with fail
    refine (HD.out _).mono ?_
    rintro e w6 ⟨rfl, hb6⟩
    have B7 : Hid (Below w.heap.size w w6) := B6.out.trans (hb6.mono (by omega))
    clear hb6
    go_wp2
    go_ret
    exact ⟨rfl, B7.out⟩
  · go_wp2_with fail
    refine (decodes_any b (by omega) _).mono ?_
    rintro e w6 ⟨rfl, hb6⟩
    have B7 : Hid (Below w.heap.size w w6) := B6.out.trans (hb6.mono (by omega))
    have hz6 := hb6.size
    clear hb6
    go_wp2_with fail
    refine (HD.out _).mono ?_
    rintro e w7 ⟨rfl, hb7⟩
    have B8 : Hid (Below w.heap.size w w7) := B7.out.trans (hb7.mono (by omega))
    clear hb7
    go_wp2
    go_ret
    exact ⟨rfl, B8.out⟩
set_option maxRecDepth 100000 in
set_option maxHeartbeats 8000000 in
theorem codes_none (q : Rq) (cl : List (Int × Int)) (bl : List (BitVec 8)) (w : World) (hsa : Hid (q.sa = none)) (hsn : Hid (q.sn = 0)) (hv : q.row[30]? = some (.slice none 0 0)) (ht : q.tx.size ≤ 9223372036854775807) (hcl : Cl w none 0 cl) (hbl : bl.length ≤ 140737488355328) :
    Calls Try.prog 4 #[.agg q.row, .string (strB bl)] w fun e w' => e = .returned (.bool true) ∧ Below w.heap.size w w' := by
  have HC : Hid (Cl w none 0 cl) := hcl
  have hlen := hcl.1
  clear hcl
  have ec := enc_cases q cl (hlen.trans hsn.out.symm)
  obtain ⟨sw, hsw⟩ : ∃ s, Hid (s = eB q cl) := ⟨_, rfl⟩
  obtain ⟨f, hf⟩ : ∃ f, Hid (f = fB q cl) := ⟨_, rfl⟩
  rw [← hsw.out] at ec
  have HD : Hid (∀ W, Calls Try.prog 13 #[.string (strB bl)] W fun e w' => e = .returned (.bool true) ∧ Below W.heap.size W w') := decodes_any bl hbl
  obtain ⟨sb, hsb⟩ : ∃ s, s = strB bl := ⟨_, rfl⟩
  rw [← hsb] at HD ⊢
  clear hsb hbl
  have X0 : Hid ((w.alloc (.cells q.row 28)).heap[w.heap.size]? = some (.cells q.row 28)) := blk_newest rfl _
  go_enter Try.func4, Try.ntmps4
  go_upto_region 2 with (first | (refine wpList_load_req rfl (.tmp 2) rfl _ rfl q X0.out ?_) | (refine wpList_alloc_req rfl rfl ?_) | (refine wpList_store_fresh rfl (.tmp 5) (.tmp 13) rfl (w.alloc (.cells q.row 28)).heap.size (by rfl) rfl z0 q (by rfl) ?_))
  obtain ⟨W0, hW0⟩ : ∃ W0, Hid (W0 = (w.alloc (.cells q.row 28)).alloc (.cells q.row 28)) := ⟨_, rfl⟩
  rw [← hW0.out]
  have A0 : Hid (W0.heap[w.heap.size]? = some (.cells q.row 28)) := by show _ = _; rw [hW0.out]; exact blk_alloc (by simp) X0.out _
  have C0 : Hid (W0.heap[w.heap.size + 1]? = some (.cells q.row 28)) := by show _ = _; rw [hW0.out]; exact blk_newest (by simp) _
  have B0 : Hid (Below w.heap.size w W0) := by show Below _ _ _; rw [hW0.out]; exact ((Below.refl _ _).alloc (Nat.le_refl _) _).alloc (by simp) _
  have hs0 : W0.heap.size = w.heap.size + 2 := by rw [hW0.out]; simp
  have l0 : W0.cell? ⟨w.heap.size, 30, none⟩ = some (.slice none 0 0) := (Row.of A0.out 30).trans hv
  clear X0 hW0
  go_wp2_with fail
  refine (lent_any none 0 0 cl _ (by omega) (HC.out.later B0.out)).mono ?_
  rintro e w1 ⟨rfl, ho1, hb1⟩
  simp only [Nat.zero_add] at ho1 ⊢
  have O1 : Hid (OwnC w1 (w.heap.size + 2) (.slice (some ⟨w.heap.size + 2, 0, none⟩) 8 8) (cl ++ List.replicate 8 (-77, 0))) := by show OwnC _ _ _ _; rw [← hs0]; exact ho1
  have A1 : Hid (w1.heap[w.heap.size]? = some (.cells q.row 28)) := blk_later hb1 (by omega) A0.out
  have C1 : Hid (w1.heap[w.heap.size + 1]? = some (.cells q.row 28)) := blk_later hb1 (by omega) C0.out
  have B1 : Hid (Below w.heap.size w w1) := B0.out.trans (hb1.mono (by omega))
  have hz1 := hb1.size
  have l1 : w1.cell? ⟨w.heap.size, 30, none⟩ = some (.slice none 0 0) := (Row.of A1.out 30).trans hv
  have k1 : w1.cell? ⟨w.heap.size + 1, 30, none⟩ = some (.slice none 0 0) := (Row.of C1.out 30).trans hv
  have f1 := frz_row C1.out 30
  clear ho1 hb1 A0 C0 B0 l0
  go_upto_region 5 with fail
  obtain ⟨p, hp⟩ : ∃ p, Hid (p = q) := ⟨_, rfl⟩
  have C2 : Hid (w1.heap[w.heap.size + 1]? = some (.cells p.row 28)) := by show _ = _; rw [hp.out]; exact C1.out
  have A2 : Hid (w1.heap[w.heap.size]? = some (.cells q.row 28)) := A1.out
  have O2 : Hid (OwnC w1 (w.heap.size + 2) (.slice (some ⟨w.heap.size + 2, 0, none⟩) 8 8) (cl ++ List.replicate 8 (-77, 0))) := O1.out
  have B2 : Hid (Below w.heap.size w w1) := B1.out
  obtain ⟨W1, hW1⟩ : ∃ W1, W1 = w1 := ⟨_, rfl⟩
  rw [← hW1] at C2 A2 O2 B2 ⊢
  have hs1 : W1.heap.size = w1.heap.size := by rw [hW1]
  clear hW1
  clear A1 C1 O1 B1 l1 k1 f1
  go_wp2_with (refine wpList_load_req rfl (.tmp 2) rfl _ rfl q A2.out ?_)
  refine (rencode_any q cl _ (by rw [hsn.out]; omega) ht (by rw [hsa.out, hsn.out]; exact HC.out.later B2.out)).mono ?_
  rintro e w2 ⟨he, hb2⟩
  rw [← hsw.out, ← hf.out] at he
  subst he
  have C3 : Hid (w2.heap[w.heap.size + 1]? = some (.cells p.row 28)) := blk_later hb2 (by omega) C2.out
  have A3 : Hid (w2.heap[w.heap.size]? = some (.cells q.row 28)) := blk_later hb2 (by omega) A2.out
  have O3 : Hid (OwnC w2 (w.heap.size + 2) (.slice (some ⟨w.heap.size + 2, 0, none⟩) 8 8) (cl ++ List.replicate 8 (-77, 0))) := O2.out.later hb2
  have B3 : Hid (Below w.heap.size w w2) := B2.out.trans (hb2.mono (by omega))
  have hz2 := hb2.size
  clear hb2 A2 C2 O2 B2
  go_wp2_with (refine wpList_load_req rfl (.tmp 5) rfl _ rfl p C3.out ?_)
  have hpn : p.sa = none ∧ p.sn = 0 ∧ p.tx = q.tx := by rw [hp.out]; exact ⟨hsa.out, hsn.out, rfl⟩
  have hpe : eB p cl = sw ∧ fB p cl = f := by rw [hp.out, hsw.out, hf.out]; exact ⟨rfl, rfl⟩
  refine (encode_any p cl _ (by rw [hpn.2.1]; omega) (by rw [hpn.2.2]; exact ht) (by rw [hpn.1, hpn.2.1]; exact HC.out.later B3.out) (fun h => absurd hpn.2.1 h)).mono ?_
  rintro e w3 ⟨he, hb3⟩
  rw [hpe.1, hpe.2] at he
  subst he
  have A4 : Hid (w3.heap[w.heap.size]? = some (.cells q.row 28)) := blk_later hb3 (by omega) A3.out
  have O4 : Hid (OwnC w3 (w.heap.size + 2) (.slice (some ⟨w.heap.size + 2, 0, none⟩) 8 8) (cl ++ List.replicate 8 (-77, 0))) := O3.out.later hb3
  have B4 : Hid (Below w.heap.size w w3) := B3.out.trans (hb3.mono (by omega))
  have hz3 := hb3.size
  have l4 : w3.cell? ⟨w.heap.size, 30, none⟩ = some (.slice none 0 0) := (Row.of A4.out 30).trans hv
  clear hb3 A3 C3 O3 B3 hpn hpe
  go_wp2_with fail
  refine (lent_any none 0 0 cl _ (by omega) (HC.out.later B4.out)).mono ?_
  rintro e w4 ⟨rfl, ho4, hb4⟩
  simp only [Nat.zero_add] at ho4 ⊢
  have O5 : Hid (OwnC w4 (w.heap.size + 2) (.slice (some ⟨w.heap.size + 2, 0, none⟩) 8 8) (cl ++ List.replicate 8 (-77, 0))) := O4.out.later hb4
  have P5 : Hid (OwnC w4 w3.heap.size (.slice (some ⟨w3.heap.size, 0, none⟩) 8 8) (cl ++ List.replicate 8 (-77, 0))) := ho4
  have B5 : Hid (Below w.heap.size w w4) := B4.out.trans (hb4.mono (by omega))
  have hz4 := hb4.size
  clear ho4 hb4 A4 O4 B4 l4
  go_wp2_with fail
  refine (sameClaims_true (some ⟨w.heap.size + 2, 0, none⟩) (some ⟨w3.heap.size, 0, none⟩) 8 8 8 (cl ++ List.replicate 8 (-77, 0)) _ (by omega) (OwnC.cl' O5.out) (OwnC.cl' P5.out)).mono ?_
  rintro e w5 ⟨rfl, hb5⟩
  have B6 : Hid (Below w.heap.size w w5) := B5.out.trans (hb5.mono (by omega))
  have hz5 := hb5.size
  clear hb5 O5 P5 B5
  rcases ec with e0 | ⟨b, h2, h100, hex, hb64⟩
  · go_wp2_with fail
    refine (HD.out _).mono ?_
    rintro e w6 ⟨rfl, hb6⟩
    have B7 : Hid (Below w.heap.size w w6) := B6.out.trans (hb6.mono (by omega))
    clear hb6
    go_wp2
    go_ret
    exact ⟨rfl, B7.out⟩
  · go_wp2_with fail
    refine (decodes_any b (by omega) _).mono ?_
    rintro e w6 ⟨rfl, hb6⟩
    have B7 : Hid (Below w.heap.size w w6) := B6.out.trans (hb6.mono (by omega))
    have hz6 := hb6.size
    clear hb6
    go_wp2_with fail
    refine (HD.out _).mono ?_
    rintro e w7 ⟨rfl, hb7⟩
    have B8 : Hid (Below w.heap.size w w7) := B7.out.trans (hb7.mono (by omega))
    clear hb7
    go_wp2
    go_ret
    exact ⟨rfl, B8.out⟩
theorem codes_any (q : Rq) (cl : List (Int × Int)) (bl : List (BitVec 8)) (w : World) (hn : q.sn ≤ 8796093022208) (ht : q.tx.size ≤ 9223372036854775807) (hcl : Cl w q.sa q.sn cl) (hnil : q.sa = none → q.sn = 0 ∧ q.sc = 0) (hbl : bl.length ≤ 140737488355328) :
    Calls Try.prog 4 #[.agg q.row, .string (strB bl)] w fun e w' => e = .returned (.bool true) ∧ Below w.heap.size w w' := by
  cases h : q.sa with
  | none =>
    obtain ⟨h1, h2⟩ := hnil h
    exact codes_none q cl bl w h h1 (by rw [row_30, h, h1, h2]) ht (by rw [h, h1] at hcl; exact hcl) hbl
  | some ad => exact codes_some q cl bl ad w h (by rw [row_30, h]) hn ht (by rw [h] at hcl; exact hcl) hbl
end Go.Proofs.Ytpnfkcbbjcimgaa
