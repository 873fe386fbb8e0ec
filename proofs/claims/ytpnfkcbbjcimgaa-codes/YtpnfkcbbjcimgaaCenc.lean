import Derived.Test.YtpnfkcbbjcimgaaCb4
import Derived.Test.YtpnfkcbbjcimgaaCmayall
namespace Go.Proofs.Ytpnfkcbbjcimgaa
open Go.RowKit
/-- body: of every request that may be. -/
theorem rbody_any (q : Rq) (cl : List (Int × Int)) (w : World) (h : mayB q cl = true) (hcl : Cl w q.sa q.sn cl) :
    Calls Try.prog 31 #[.agg q.row] w fun e w' => e = .returned (.string (strB (bodyOf q cl))) ∧ Below w.heap.size w w' := by
  have hm := h
  rw [may_same, Bool.and_eq_true, Bool.and_eq_true] at hm
  obtain ⟨hf, hc, _⟩ := hm
  obtain ⟨hk, ha, hd, hmo, hr, hcu, hs, ht⟩ := first_facts hf
  rw [inB_iff] at ha hd hmo hr hcu
  by_cases h1 : q.kd = 1
  · have e : bodyOf q cl = body1 q := by simp [bodyOf, h1]
    rw [e]; exact rbody1 q h1 (by rw [row_0, h1]) w ha.1 ha.2 hd.1 hd.2 hr.1 hr.2
  by_cases h2 : q.kd = 2
  · have e : bodyOf q cl = body2 q := by simp [bodyOf, h2]
    rw [e]; exact rbody2 q h2 (by rw [row_0, h2]) w ha.1 ha.2 hd.1 hd.2
  by_cases h3 : q.kd = 3
  · have e : bodyOf q cl = body3 q := by simp [bodyOf, h3]
    rw [e]; exact rbody3 q h3 w hd.1 hd.2
  by_cases h4 : q.kd = 4
  · have e : bodyOf q cl = body4 q cl := by simp [bodyOf, h4]
    rw [e]; exact rbody4 q h4 (by rw [row_0, h4]) cl w q.sa rfl hcl ha.1 ha.2 hs ht hc
  by_cases h5 : q.kd = 5
  · have e : bodyOf q cl = body5 q := by simp [bodyOf, h5]
    rw [e]; exact rbody5 q h5 (by rw [row_0, h5]) w hcu.1 hcu.2 hmo.1 hmo.2
  · have h6 : q.kd = 6 := by omega
    have e : bodyOf q cl = body6 q := by simp [bodyOf, h6]
    rw [e]; exact rbody6 q h6 w hcu.1 hcu.2
set_option maxRecDepth 100000 in
set_option maxHeartbeats 1000000 in
theorem rencode_ok (q : Rq) (cl : List (Int × Int)) (w : World) (h : mayB q cl = true) (hn : q.sn ≤ 9223372036854775807) (ht : q.tx.size ≤ 9223372036854775807) (hcl : Cl w q.sa q.sn cl) :
    Calls Try.prog 10 #[.agg q.row] w fun e w' => e = .returned (.tuple #[.string (strB (numTo (bodyOf q cl).length 2 2 ++ bodyOf q cl)), .int .i64 0]) ∧ Below w.heap.size w w' := by
  have hlen := body_length h hcl.1
  have HC : Hid (Cl w q.sa q.sn cl) := hcl
  have HM : Hid (mayB q cl = true) := h
  clear hcl h
  have X0 : Hid ((w.alloc (.cells q.row 28)).heap[w.heap.size]? = some (.cells q.row 28)) := blk_newest rfl _
  obtain ⟨sb, eb, zb⟩ : ∃ s : ByteArray, Hid (s = strB (bodyOf q cl)) ∧ s.size = (bodyOf q cl).length := ⟨_, rfl, strB_size _⟩
  obtain ⟨sl, el, zl⟩ := str_at 2 ((bodyOf q cl).length : Int)
  have hz : Hid (strB (numTo (bodyOf q cl).length 2 2 ++ bodyOf q cl) = sl ++ sb) := by
    show _ = _
    rw [el.out, eb.out, strB_append]
  go_enter Try.func10, Try.ntmps10
  go_wp2_with (refine wpList_load_req rfl (.tmp 1) rfl _ rfl q X0.out ?_)
  have Ba : Hid (Below w.heap.size w (w.alloc (.cells q.row 28))) := (Below.refl _ _).alloc (Nat.le_refl _) _
  refine (rmay_any q cl _ hn ht (HC.out.later Ba.out)).mono ?_
  rintro e w1 ⟨he, hb1⟩
  rw [HM.out] at he
  subst he
  have X1 : Hid (w1.heap[w.heap.size]? = some (.cells q.row 28)) := blk_later hb1 (by simp) X0.out
  have B1 : Hid (Below w.heap.size w w1) := Ba.out.trans (hb1.mono (by simp))
  clear hb1 X0 Ba
  go_wp2_with (refine wpList_load_req rfl (.tmp 1) rfl _ rfl q X1.out ?_)
  refine (rbody_any q cl _ HM.out (HC.out.later B1.out)).mono ?_
  rintro e w2 ⟨he, hb2⟩
  rw [← eb.out] at he
  subst he
  have B2 : Hid (Below w.heap.size w w2) := B1.out.trans (hb2.mono B1.out.size)
  clear hb2 X1 B1
  go_wp2_with fail
  refine (written_str 2 _ _ sl el.out (by omega) (by omega) (by omega) rfl _).mono ?_
  rintro e w3 ⟨rfl, hb3⟩
  have B3 : Hid (Below w.heap.size w w3) := B2.out.trans (hb3.mono B2.out.size)
  clear hb3 B2
  go_wp2
  go_ret2
  exact ⟨by rw [hz.out]; rfl, B3.out⟩
set_option maxRecDepth 100000 in
set_option maxHeartbeats 1000000 in
theorem rencode_bad (q : Rq) (cl : List (Int × Int)) (w : World) (h : mayB q cl = false) (hn : q.sn ≤ 9223372036854775807) (ht : q.tx.size ≤ 9223372036854775807) (hcl : Cl w q.sa q.sn cl) :
    Calls Try.prog 10 #[.agg q.row] w fun e w' => e = .returned (.tuple #[.string ByteArray.empty, .int .i64 6]) ∧ Below w.heap.size w w' := by
  have HC : Hid (Cl w q.sa q.sn cl) := hcl
  have HM : Hid (mayB q cl = false) := h
  clear hcl h
  have X0 : Hid ((w.alloc (.cells q.row 28)).heap[w.heap.size]? = some (.cells q.row 28)) := blk_newest rfl _
  go_enter Try.func10, Try.ntmps10
  go_wp2_with (refine wpList_load_req rfl (.tmp 1) rfl _ rfl q X0.out ?_)
  have Ba : Hid (Below w.heap.size w (w.alloc (.cells q.row 28))) := (Below.refl _ _).alloc (Nat.le_refl _) _
  refine (rmay_any q cl _ hn ht (HC.out.later Ba.out)).mono ?_
  rintro e w1 ⟨he, hb1⟩
  rw [HM.out] at he
  subst he
  have B1 : Hid (Below w.heap.size w w1) := Ba.out.trans (hb1.mono (by simp))
  clear hb1 X0 Ba
  go_wp2
  go_ret2
  exact ⟨rfl, B1.out⟩
end Go.Proofs.Ytpnfkcbbjcimgaa
