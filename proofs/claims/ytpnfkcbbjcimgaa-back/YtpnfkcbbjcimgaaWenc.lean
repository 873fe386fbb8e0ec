import Derived.Test.YtpnfkcbbjcimgaaWbody
namespace Go.Proofs.Ytpnfkcbbjcimgaa
open Go.RowKit
/-- The body of a request that may be. -/
def bodyOf (q : Rq) (cl : List (Int × Int)) : List (BitVec 8) :=
  if q.kd = 1 then body1 q else if q.kd = 2 then body2 q else if q.kd = 3 then body3 q else if q.kd = 4 then body4 q cl else if q.kd = 5 then body5 q else body6 q
theorem mayB_kind {q : Rq} {cl : List (Int × Int)} (h : mayB q cl = true) : 1 ≤ q.kd ∧ q.kd ≤ 6 := by
  unfold mayB at h
  simp only [Bool.and_eq_true] at h
  have := h.1.1.1.1.1
  unfold isKind at this
  exact of_decide_eq_true this
theorem mayB_tx {q : Rq} {cl : List (Int × Int)} (h : mayB q cl = true) : (q.tx.size : Int) ≤ (bdOf q.kd).t := by
  unfold mayB at h
  simp only [Bool.and_eq_true] at h
  exact of_decide_eq_true h.1.1.2
theorem mayB_cl {q : Rq} {cl : List (Int × Int)} (h : mayB q cl = true) : (q.sn : Int) ≤ (bdOf q.kd).cl := by
  unfold mayB at h
  simp only [Bool.and_eq_true] at h
  exact of_decide_eq_true h.1.2
theorem mayB_small {q : Rq} {cl : List (Int × Int)} (h : mayB q cl = true) : q.sn ≤ 8 ∧ q.tx.size ≤ 16 := by
  have h1 := mayB_tx h
  have h2 := mayB_cl h
  have a : (bdOf q.kd).t ≤ 16 ∧ (bdOf q.kd).cl ≤ 8 := by
    unfold bdOf
    repeat' split
    all_goals exact ⟨by decide, by decide⟩
  omega
theorem txB_length (s : ByteArray) : (txB s).length = s.size := by unfold txB; rw [List.length_map, Array.length_toList]; rfl
theorem body_length {q : Rq} {cl : List (Int × Int)} (h : mayB q cl = true) (hc : cl.length = q.sn) : 0 < (bodyOf q cl).length ∧ (bodyOf q cl).length ≤ 64 := by
  have hs := mayB_small h
  unfold bodyOf
  repeat' split
  · simp [body1, Rq.keyB, numTo_length]
  · simp [body2, Rq.macB]
  · simp [body3]
  · simp [body4, clBytes_length, txB_length, hc]; omega
  · simp [body5, numTo_length]
  · simp [body6, numTo_length]
theorem writeBody_any (q : Rq) (cl : List (Int × Int)) (w : World) (h : mayB q cl = true) (hcl : Cl w q.sa q.sn cl) (hlt : q.sn ≠ 0 → ∀ a, q.sa = some a → a.block < w.heap.size) :
    Calls Try.prog 34 #[.agg q.row] w fun e w' => ∃ v', e = .returned v' ∧ Own w' (w.heap.size + 1) v' (bodyOf q cl) ∧ Below w.heap.size w w' := by
  have hk := mayB_kind h
  have hs := mayB_small h
  by_cases h1 : q.kd = 1
  · have e : bodyOf q cl = body1 q := by simp [bodyOf, h1]
    rw [e]; exact writeBody1 q h1 w
  by_cases h2 : q.kd = 2
  · have e : bodyOf q cl = body2 q := by simp [bodyOf, h2]
    rw [e]; exact writeBody2 q h2 w
  by_cases h3 : q.kd = 3
  · have e : bodyOf q cl = body3 q := by simp [bodyOf, h3]
    rw [e]; exact writeBody3 q h3 w
  by_cases h4 : q.kd = 4
  · have e : bodyOf q cl = body4 q cl := by simp [bodyOf, h4]
    rw [e]; exact writeBody4 q h4 w cl hs.1 hs.2 hcl hlt
  by_cases h5 : q.kd = 5
  · have e : bodyOf q cl = body5 q := by simp [bodyOf, h5]
    rw [e]; exact writeBody5 q h5 w
  · have h6 : q.kd = 6 := by omega
    have e : bodyOf q cl = body6 q := by simp [bodyOf, h6]
    rw [e]; exact writeBody6 q h6 w
/-- Bytes as a string. -/
def strB (l : List (BitVec 8)) : ByteArray := ⟨(l.map UInt8.ofBitVec).toArray⟩
theorem Own.keep {w wx : World} {base c : Nat} {v : Value} {l : List (BitVec 8)} (h : Own w base v l) (hb : Below c w wx) (hlt : w.heap.size ≤ c) : Own wx base v l := by
  obtain ⟨h1, h2⟩ := h
  refine ⟨h1, ?_⟩
  rcases h2 with h2 | ⟨g, cap, cur, hv, hbg, hg, rest⟩
  · exact .inl h2
  · have hgl : g < w.heap.size := by
      rcases Nat.lt_or_ge g w.heap.size with h | h
      · exact h
      · rw [Array.getElem?_eq_none h] at hg; cases hg
    exact .inr ⟨g, cap, cur, hv, hbg, (hb.block g (by omega)).trans hg, rest⟩
theorem Own.news {w : World} {base g n cap : Nat} {l : List (BitVec 8)} (h : Own w base (.slice (some ⟨g, 0, none⟩) n cap) l) : ∀ j u, (l.map bv)[j]? = some u → w.cell? ((⟨g, 0, none⟩ : Addr).add j) = some u := World.ownsRow.cells h rfl
theorem strB_nums (l : List (BitVec 8)) : strOfNums (l.map B) = strB l := by
  unfold strB strOfNums
  rw [List.map_map]
  congr 2
  apply List.map_congr_left
  intro b _
  show UInt8.ofNat (B b).toNat = UInt8.ofBitVec b
  unfold B
  rw [Int.toNat_natCast]
  apply UInt8.toBitVec_inj.1
  apply BitVec.eq_of_toNat_eq
  have hb := b.isLt
  show (UInt8.ofNat b.toNat).toNat = b.toNat
  rw [UInt8.toNat_ofNat']
  omega
theorem Own.text {w : World} {base : Nat} {v : Value} {l : List (BitVec 8)} (h : Own w base v l) (hl : 0 < l.length) : (convert 65 9 v).run Try.prog w = .ok (.string (strB l)) w := by
  obtain ⟨g, cap, rfl, _, _⟩ := World.ownsRow.form h hl
  rw [← strB_nums]
  refine run_convert_bytes_arg w 65 5 Try.underlying65 Try.underlying5 g 0 l.length cap (l.map B) (by simp) ?_ 9 Try.underlying9
  intro i hi
  have h1 := h.news i (.int .u8 (B l[i])) (by simp [bv, List.getElem?_eq_getElem hi])
  have hadd : (⟨g, 0, none⟩ : Addr).add i = ⟨g, 0 + i, none⟩ := by unfold Addr.add; split <;> simp_all
  rw [hadd] at h1
  rw [h1]
  simp [List.getD, List.getElem?_eq_getElem hi]
set_option maxRecDepth 100000 in
set_option maxHeartbeats 1000000 in
theorem encode_ok (q : Rq) (cl : List (Int × Int)) (w : World) (h : mayB q cl = true) (hn : q.sn ≤ 9223372036854775807) (ht : q.tx.size ≤ 9223372036854775807) (hcl : Cl w q.sa q.sn cl) (hlt : q.sn ≠ 0 → ∀ a, q.sa = some a → a.block < w.heap.size) :
    Calls Try.prog 11 #[.agg q.row] w fun e w' => e = .returned (.tuple #[.string (strB (numTo (bodyOf q cl).length 2 2 ++ bodyOf q cl)), .int .i64 0]) ∧ Below w.heap.size w w' := by
  have hlen := body_length h hcl.1
  have HC : Hid (Cl w q.sa q.sn cl) := hcl
  have HLT : Hid (q.sn ≠ 0 → ∀ a, q.sa = some a → a.block < w.heap.size) := hlt
  have HM : Hid (mayB q cl = true) := h
  clear hcl hlt h
  have X0 : Hid ((w.alloc (.cells q.row 28)).heap[w.heap.size]? = some (.cells q.row 28)) := blk_newest rfl _
  go_enter Try.func11, Try.ntmps11
  go_wp2_with (refine wpList_load_req rfl (.tmp 1) rfl _ rfl q X0.out ?_)
  have Ba : Hid (Below w.heap.size w (w.alloc (.cells q.row 28))) := (Below.refl _ _).alloc (Nat.le_refl _) _
  refine (mayBe_any q cl _ hn ht (HC.out.later Ba.out)).mono ?_
  rintro e w1 ⟨he, hb1⟩
  rw [HM.out] at he
  subst he
  have hz1 := hb1.size
  simp at hz1
  have X1 : Hid (w1.heap[w.heap.size]? = some (.cells q.row 28)) := blk_later hb1 (by simp) X0.out
  have B1 : Hid (Below w.heap.size w w1) := Ba.out.trans (hb1.mono (by simp))
  clear hb1 X0 Ba
  go_wp2_with (refine wpList_load_req rfl (.tmp 1) rfl _ rfl q X1.out ?_)
  refine (writeBody_any q cl _ HM.out (HC.out.later B1.out) (fun h0 a ha => by have := HLT.out h0 a ha; omega)).mono ?_
  rintro e w2 ⟨v2, rfl, hown2, hb2⟩
  obtain ⟨g, cap, rfl, hg1, hg2⟩ := World.ownsRow.form hown2 hlen.1
  have O2 : Hid (Own w2 (w1.heap.size + 1) _ (bodyOf q cl)) := hown2
  have B2 : Hid (Below w.heap.size w w2) := B1.out.trans (hb2.mono (by omega))
  clear hb2 hown2 X1 B1
  go_wp2_with fail
  refine (appendNumber_any w2.heap.size _ [] _ _ 2 rfl (by omega) (by simp) _ (Nat.le_refl _) (Own.nil _ _)).mono ?_
  rintro e w3 ⟨v3, rfl, hown3, hb3⟩
  rw [List.nil_append] at hown3
  have hz3 := hb3.size
  have O2b : Hid (Own w3 (w1.heap.size + 1) _ (bodyOf q cl)) := O2.out.keep hb3 (Nat.le_refl _)
  have O3 : Hid (Own w3 w2.heap.size v3 (numTo (bodyOf q cl).length 2 2)) := hown3
  have B3 : Hid (Below w.heap.size w w3) := B2.out.trans (hb3.mono B2.out.size)
  have hz2 := B2.out.size
  clear hown3 hb3 O2 B2
  have L5 : Hid ((numTo ((bodyOf q cl).length : Int) 2 2).length + (bodyOf q cl).length ≤ 100000) := by
    show _ + _ ≤ _
    rw [numTo_length]; omega
  have L6 : Hid (0 < (numTo ((bodyOf q cl).length : Int) 2 2 ++ bodyOf q cl).length) := by
    show 0 < _
    rw [List.length_append, numTo_length]; omega
  go_wp2_with (at_builtin; refine wpList_app rfl (.tmp 14) (.tmp 15) rfl w2.heap.size _ (numTo (bodyOf q cl).length 2 2) (bodyOf q cl) rfl O3.out ⟨g, 0, none⟩ (bodyOf q cl).length cap rfl rfl O2b.out.news L5.out (by omega) ?_; intro v4 w4 hown4 hgrow4; have hcv := hown4.text L6.out)
  go_ret2
  exact ⟨rfl, B3.out.trans ((O3.out.below hgrow4 (by omega)).mono (by omega))⟩
set_option maxRecDepth 100000 in
set_option maxHeartbeats 1000000 in
theorem encode_bad (q : Rq) (cl : List (Int × Int)) (w : World) (h : mayB q cl = false) (hn : q.sn ≤ 9223372036854775807) (ht : q.tx.size ≤ 9223372036854775807) (hcl : Cl w q.sa q.sn cl) :
    Calls Try.prog 11 #[.agg q.row] w fun e w' => e = .returned (.tuple #[.string ByteArray.empty, .int .i64 6]) ∧ Below w.heap.size w w' := by
  have HC : Hid (Cl w q.sa q.sn cl) := hcl
  have HM : Hid (mayB q cl = false) := h
  clear hcl h
  have X0 : Hid ((w.alloc (.cells q.row 28)).heap[w.heap.size]? = some (.cells q.row 28)) := blk_newest rfl _
  go_enter Try.func11, Try.ntmps11
  go_wp2_with (refine wpList_load_req rfl (.tmp 1) rfl _ rfl q X0.out ?_)
  have Ba : Hid (Below w.heap.size w (w.alloc (.cells q.row 28))) := (Below.refl _ _).alloc (Nat.le_refl _) _
  refine (mayBe_any q cl _ hn ht (HC.out.later Ba.out)).mono ?_
  rintro e w1 ⟨he, hb1⟩
  rw [HM.out] at he
  subst he
  have B1 : Hid (Below w.heap.size w w1) := Ba.out.trans (hb1.mono (by simp))
  clear hb1 X0 Ba
  go_wp2
  go_ret2
  exact ⟨rfl, B1.out⟩
end Go.Proofs.Ytpnfkcbbjcimgaa
