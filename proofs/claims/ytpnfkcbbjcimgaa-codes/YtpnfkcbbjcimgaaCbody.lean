import Derived.Test.YtpnfkcbbjcimgaaCwrit
namespace Go.Proofs.Ytpnfkcbbjcimgaa
open Go.RowKit
attribute [local go_sem] row_0 row_1 row_2 row_3 row_4 row_5 row_31
theorem numTo_one (n : Int) : numTo n 1 1 = [BitVec.ofInt 8 n] := by
  rw [numTo_cons]
  rfl
set_option maxRecDepth 100000 in
set_option maxHeartbeats 2000000 in
theorem rbody3 (q : Rq) (hk : q.kd = 3) (w : World) (h0 : 0 ≤ q.dv) (h1 : q.dv ≤ 255) :
    Calls Try.prog 31 #[.agg q.row] w fun e w' => e = .returned (.string (strB (body3 q))) ∧ Below w.heap.size w w' := by
  have hz : Hid (strB (body3 q) = strB (numTo q.kd 1 1) ++ strB (numTo q.dv 1 1)) := by
    show _ = _
    rw [strB_append, numTo_one, numTo_one, hk]
    rfl
  have s1 := strB_size (numTo q.kd 1 1)
  have s2 := strB_size (numTo q.dv 1 1)
  rw [numTo_length] at s1 s2
  go_enter Try.func31, Try.ntmps31
  go_wp2_with fail
  refine (written_any 1 _ _ (by omega) (by omega) (by omega) rfl _).mono ?_
  rintro e w1 ⟨rfl, hb1⟩
  have R1 := Row.of (blk_later hb1 (by simp) (blk_newest (w := w) rfl (.cells q.row 28)))
  have B1 : Hid (Below w.heap.size w w1) := ((Below.refl _ _).alloc (Nat.le_refl _) _).trans (hb1.mono (by simp))
  unfold Row at R1
  clear hb1
  go_wp2_with fail
  refine (written_any 1 _ _ h0 (by omega) (by omega) rfl _).mono ?_
  rintro e w2 ⟨rfl, hb2⟩
  have B2 : Hid (Below w.heap.size w w2) := B1.out.trans (hb2.mono B1.out.size)
  clear hb2
  go_wp2
  go_ret
  exact ⟨by rw [hz.out, hk]; rfl, B2.out⟩
set_option maxRecDepth 100000 in
set_option maxHeartbeats 2000000 in
theorem rbody6 (q : Rq) (hk : q.kd = 6) (w : World) (h0 : 0 ≤ q.cu) (h1 : q.cu ≤ 4294967295) :
    Calls Try.prog 31 #[.agg q.row] w fun e w' => e = .returned (.string (strB (body6 q))) ∧ Below w.heap.size w w' := by
  have hz : Hid (strB (body6 q) = strB (numTo q.kd 1 1) ++ strB (numTo q.cu 4 4)) := by
    show _ = _
    rw [strB_append, numTo_one, hk]
    rfl
  have s1 := strB_size (numTo q.kd 1 1)
  have s2 := strB_size (numTo q.cu 4 4)
  rw [numTo_length] at s1 s2
  go_enter Try.func31, Try.ntmps31
  go_wp2_with fail
  refine (written_any 1 _ _ (by omega) (by omega) (by omega) rfl _).mono ?_
  rintro e w1 ⟨rfl, hb1⟩
  have R1 := Row.of (blk_later hb1 (by simp) (blk_newest (w := w) rfl (.cells q.row 28)))
  have B1 : Hid (Below w.heap.size w w1) := ((Below.refl _ _).alloc (Nat.le_refl _) _).trans (hb1.mono (by simp))
  unfold Row at R1
  clear hb1
  go_wp2_with fail
  refine (written_any 4 _ _ h0 (by omega) (by omega) rfl _).mono ?_
  rintro e w2 ⟨rfl, hb2⟩
  have B2 : Hid (Below w.heap.size w w2) := B1.out.trans (hb2.mono B1.out.size)
  clear hb2
  go_wp2
  go_ret
  exact ⟨by rw [hz.out, hk]; rfl, B2.out⟩
section
variable {ops : Array Oper} {C : World → Prop} {Q : Act → Prop} {rest : List Oper} {o : Oper} {a : Act}
/-- An operation that yields one value in every world of the class. -/
theorem q_val (hw : Region.wanted o (yielded ops a.tmps) = true) (v : Value) (h : ∀ w, C w → (execOp a.eval o).run Try.prog w = .ok (.value v) w) (hr : wpQuiet Try.prog ops C Q rest (a.put o.dst v)) : wpQuiet Try.prog ops C Q (o :: rest) a := by
  unfold wpQuiet
  rw [if_pos hw]
  exact ⟨v, fun w hC => by unfold Oper.quietAt; rw [h w hC]; exact ⟨rfl, rfl⟩, hr⟩
/-- A call whose contract stays in the class. -/
theorem q_call (hw : Region.wanted o (yielded ops a.tmps) = true) (v : Value) (f : FuncId) (args : Array Value) (h : ∀ w, (execOp a.eval o).run Try.prog w = .ok (.enter f args) w)
    (hc : ∀ w, C w → Calls Try.prog f args w fun e w' => e = .returned v ∧ C w') (hr : wpQuiet Try.prog ops C Q rest (a.put o.dst v)) : wpQuiet Try.prog ops C Q (o :: rest) a := by
  unfold wpQuiet
  rw [if_pos hw]
  exact ⟨v, fun w hC => by unfold Oper.quietAt; rw [h w]; exact ⟨rfl, hc w hC⟩, hr⟩
end
end Go.Proofs.Ytpnfkcbbjcimgaa
