import Derived.Test.YtpnfkcbbjcimgaaMay
import Derived.Test.YtpnfkcbbjcimgaaWclaims
namespace Go.Proofs.Ytpnfkcbbjcimgaa
open Go.RowKit
attribute [local go_sem] row_0 row_1 row_2 row_3 row_4 row_5 row_30 row_31
def Rq.keyB (q : Rq) : List (BitVec 8) := [q.k 0, q.k 1, q.k 2, q.k 3, q.k 4, q.k 5, q.k 6, q.k 7, q.k 8, q.k 9, q.k 10, q.k 11, q.k 12, q.k 13, q.k 14, q.k 15]
def Rq.macB (q : Rq) : List (BitVec 8) := [q.m 0, q.m 1, q.m 2, q.m 3, q.m 4, q.m 5, q.m 6, q.m 7]
def txB (s : ByteArray) : List (BitVec 8) := s.data.toList.map UInt8.toBitVec
/-- What a kind has, behind the kind's own byte. -/
def body1 (q : Rq) : List (BitVec 8) := [BitVec.ofInt 8 1] ++ [BitVec.ofInt 8 q.ac, BitVec.ofInt 8 q.dv] ++ q.keyB ++ numTo q.rg 2 2
def body2 (q : Rq) : List (BitVec 8) := [BitVec.ofInt 8 2] ++ [BitVec.ofInt 8 q.ac, BitVec.ofInt 8 q.dv] ++ q.macB
def body3 (q : Rq) : List (BitVec 8) := [BitVec.ofInt 8 3] ++ [BitVec.ofInt 8 q.dv]
def body4 (q : Rq) (cl : List (Int × Int)) : List (BitVec 8) := [BitVec.ofInt 8 4] ++ [BitVec.ofInt 8 q.ac] ++ [BitVec.ofInt 8 q.sn] ++ clBytes cl ++ [BitVec.ofInt 8 q.tx.size] ++ txB q.tx
def body5 (q : Rq) : List (BitVec 8) := [BitVec.ofInt 8 5] ++ numTo q.cu 4 4 ++ [BitVec.ofInt 8 q.mo]
def body6 (q : Rq) : List (BitVec 8) := [BitVec.ofInt 8 6] ++ numTo q.cu 4 4
theorem Own.lit {w : World} {base n : Nat} {A : Array Value} {l : List (BitVec 8)} {m c : Nat} (hn : w.heap.size = n) (hb : base ≤ n) (hA : A.toList = l.map bv) (hm : l.length = m) (hc : m = c) (hs : m ≤ 1000) : Own (w.alloc (.cells A 5)) base (.slice (some ⟨n, 0, none⟩) m c) l := by
  subst hn hm hc
  refine ⟨by simp, .inr ⟨w.heap.size, l.length, A, rfl, hb, heap_alloc_new _ _, Nat.le_refl _, by unfold maxLen; omega, ?_, ?_⟩⟩
  · rw [← Array.length_toList, hA]; simp
  · rw [hA, Nat.mul_one, List.take_of_length_le (by simp)]
/-- The box of the request stands below the row that grows. -/
theorem blk_below {base b : Nat} {w wx : World} {o : Obj} (hb : Below base w wx) (hlt : b < base) (h : w.heap[b]? = some o) : wx.heap[b]? = some o := (hb.block b hlt).trans h
theorem news_row {w : World} {b off : Nat} {A : Array Value} {t : TypeId} {nb : List (BitVec 8)} (h : w.heap[b]? = some (.cells A t)) (hA : ∀ j, j < nb.length → A[off + j]? = (nb.map bv)[j]?) : ∀ j u, (nb.map bv)[j]? = some u → w.cell? ((⟨b, off, none⟩ : Addr).add j) = some u := by
  intro j u hu
  have hj : j < nb.length := by
    have := List.getElem?_eq_some_iff.1 hu
    obtain ⟨h1, _⟩ := this
    simpa using h1
  have hadd : (⟨b, off, none⟩ : Addr).add j = ⟨b, off + j, none⟩ := by unfold Addr.add; split <;> simp_all
  rw [hadd, Row.of h (off + j), hA j hj, hu]
theorem key_row (q : Rq) : ∀ j, j < q.keyB.length → q.row[6 + j]? = (q.keyB.map bv)[j]? := by
  intro j hj
  have hj : j < 16 := hj
  rcases (show j = 0 ∨ j = 1 ∨ j = 2 ∨ j = 3 ∨ j = 4 ∨ j = 5 ∨ j = 6 ∨ j = 7 ∨ j = 8 ∨ j = 9 ∨ j = 10 ∨ j = 11 ∨ j = 12 ∨ j = 13 ∨ j = 14 ∨ j = 15 from by omega) with rfl | rfl | rfl | rfl | rfl | rfl | rfl | rfl | rfl | rfl | rfl | rfl | rfl | rfl | rfl | rfl <;> rfl
theorem mac_row (q : Rq) : ∀ j, j < q.macB.length → q.row[22 + j]? = (q.macB.map bv)[j]? := by
  intro j hj
  have hj : j < 8 := hj
  rcases (show j = 0 ∨ j = 1 ∨ j = 2 ∨ j = 3 ∨ j = 4 ∨ j = 5 ∨ j = 6 ∨ j = 7 from by omega) with rfl | rfl | rfl | rfl | rfl | rfl | rfl | rfl <;> rfl
theorem strCells_txB (s : ByteArray) : Lib.strCells s = (txB s).map bv := by
  unfold Lib.strCells txB
  rw [List.map_map]
  rfl
theorem wpList_appS {w : World} {ops : Array Oper} {rest : List Oper} {o : Oper} {a : Act} {Q : Exit → Act → World → Prop} (hgd : o.guard = none) (s x : Operand)
    (ho : o.op = .call { callee := .builtin .append, args := #[s, x], argTypes := #[65, 9] }) (base : Nat) (v : Value) (l : List (BitVec 8)) (hs : a.eval s = v) (hown : Own w base v l)
    (tx : ByteArray) (hx : a.eval x = .string tx) (hsm : l.length + tx.size ≤ 100000) (hbase : base ≤ w.heap.size)
    (h : ∀ v' w', Own w' base v' (l ++ txB tx) → w.grownBy w' v.ownBlock → wpList Try.prog ops Q rest (a.put o.dst v') w') : wpList Try.prog ops Q (o :: rest) a w := by
  obtain ⟨i0, hi, hz0, hz1, hz2⟩ := info_parts rowInfo5
  refine Lib.wpList_append_own_string w hgd s x 65 9 ho base 5 i0 Try.underlying65 Try.underlying9 hi hz0 hz1 hz2 v l.length (l.map bv) hs hown tx hx (by unfold maxLen; omega) (by omega) hbase ?_
  intro v' w' h1 h2 _
  refine h v' w' ?_ h2
  unfold Own
  rw [List.length_append, List.map_append, ← strCells_txB]
  have e : (txB tx).length = tx.size := by unfold txB; rw [List.length_map, Array.length_toList]; rfl
  rw [e]
  exact h1
set_option maxRecDepth 100000 in
set_option maxHeartbeats 1000000 in
theorem writeBody1 (q : Rq) (hk : q.kd = 1) (w : World) :
    Calls Try.prog 34 #[.agg q.row] w fun e w' => ∃ v', e = .returned v' ∧ Own w' (w.heap.size + 1) v' (body1 q) ∧ Below w.heap.size w w' := by
  go_enter Try.func34, Try.ntmps34
  have O : Hid (Own ((w.alloc (.cells q.row 28)).alloc (.cells #[.int .u8 1] 5)) (w.heap.size + 1) (.slice (some ⟨w.heap.size + 1, 0, none⟩) 1 1) [BitVec.ofInt 8 1]) := Own.lit (by simp) (Nat.le_refl _) rfl rfl rfl (by omega)
  have X : Hid (((w.alloc (.cells q.row 28)).alloc (.cells #[.int .u8 1] 5)).heap[w.heap.size]? = some (.cells q.row 28)) := blk_alloc (by simp) (blk_newest rfl _) _
  have BB : Hid (Below w.heap.size w ((w.alloc (.cells q.row 28)).alloc (.cells #[.int .u8 1] 5))) := ((Below.refl _ _).alloc (Nat.le_refl _) _).alloc (by simp) _
  go_upto_region 4 with fail
  go_upto_region 5 with (at_builtin; refine wpList_app rfl (.tmp 12) (.tmp 19) rfl (w.heap.size + 1) _ ([BitVec.ofInt 8 1]) [BitVec.ofInt 8 q.ac, BitVec.ofInt 8 q.dv] rfl (O.out.alloc _) ⟨w.heap.size + 1 + 1, 0, none⟩ 2 2 rfl rfl (news_newest (by simp) (by simp [bv, B_ofInt])) (by simp) (by simp <;> omega) ?_; intro v1 w1 hown1 hgrow1)
  have Bx1 := (O.out.alloc _).below hgrow1 (by simp <;> omega)
  have hz1 := hgrow1.size
  simp at hz1
  replace X : Hid (w1.heap[w.heap.size]? = some (.cells q.row 28)) := blk_below Bx1 (by omega) (blk_alloc (by first | omega | (simp; done) | (simp; omega)) X.out _)
  replace BB : Hid (Below w.heap.size w w1) := (BB.out.alloc (by have := BB.out.size; first | omega | (simp at this; omega) | (simp at this ⊢; omega) | (simp; omega)) _).trans (Bx1.mono (by omega))
  replace O : Hid (Own w1 (w.heap.size + 1) v1 ([BitVec.ofInt 8 1] ++ [BitVec.ofInt 8 q.ac, BitVec.ofInt 8 q.dv])) := hown1
  clear hown1 hgrow1 Bx1
  go_upto_region 6 with (at_builtin; refine wpList_app rfl (.tmp 21) (.tmp 23) rfl (w.heap.size + 1) _ ([BitVec.ofInt 8 1] ++ [BitVec.ofInt 8 q.ac, BitVec.ofInt 8 q.dv]) q.keyB rfl O.out ⟨w.heap.size, 6, none⟩ 16 16 rfl rfl (news_row X.out (key_row q)) (by simp) (by omega) ?_; intro v2 w2 hown2 hgrow2)
  have Bx2 := (O.out).below hgrow2 (by omega)
  have hz2 := hgrow2.size

  replace X : Hid (w2.heap[w.heap.size]? = some (.cells q.row 28)) := blk_below Bx2 (by omega) (X.out)
  replace BB : Hid (Below w.heap.size w w2) := BB.out.trans (Bx2.mono (by omega))
  replace O : Hid (Own w2 (w.heap.size + 1) v2 ([BitVec.ofInt 8 1] ++ [BitVec.ofInt 8 q.ac, BitVec.ofInt 8 q.dv] ++ q.keyB)) := hown2
  clear hown2 hgrow2 Bx2
  have R2 := Row.of X.out
  unfold Row at R2
  go_wp2_with fail
  refine (appendNumber_any (w.heap.size + 1) v2 _ q.rg _ 2 rfl (by omega) (by simp [Rq.keyB]) _ (by omega) O.out).mono ?_
  rintro e w3 ⟨v3, rfl, hown3, hb3⟩
  go_wp2
  go_ret
  exact ⟨v3, rfl, hown3, BB.out.trans (hb3.mono (by omega))⟩
set_option maxRecDepth 100000 in
set_option maxHeartbeats 1000000 in
theorem writeBody2 (q : Rq) (hk : q.kd = 2) (w : World) :
    Calls Try.prog 34 #[.agg q.row] w fun e w' => ∃ v', e = .returned v' ∧ Own w' (w.heap.size + 1) v' (body2 q) ∧ Below w.heap.size w w' := by
  go_enter Try.func34, Try.ntmps34
  have O : Hid (Own ((w.alloc (.cells q.row 28)).alloc (.cells #[.int .u8 2] 5)) (w.heap.size + 1) (.slice (some ⟨w.heap.size + 1, 0, none⟩) 1 1) [BitVec.ofInt 8 2]) := Own.lit (by simp) (Nat.le_refl _) rfl rfl rfl (by omega)
  have X : Hid (((w.alloc (.cells q.row 28)).alloc (.cells #[.int .u8 2] 5)).heap[w.heap.size]? = some (.cells q.row 28)) := blk_alloc (by simp) (blk_newest rfl _) _
  have BB : Hid (Below w.heap.size w ((w.alloc (.cells q.row 28)).alloc (.cells #[.int .u8 2] 5))) := ((Below.refl _ _).alloc (Nat.le_refl _) _).alloc (by simp) _
  go_upto_region 8 with fail
  go_upto_region 9 with (at_builtin; refine wpList_app rfl (.tmp 31) (.tmp 38) rfl (w.heap.size + 1) _ ([BitVec.ofInt 8 2]) [BitVec.ofInt 8 q.ac, BitVec.ofInt 8 q.dv] rfl (O.out.alloc _) ⟨w.heap.size + 1 + 1, 0, none⟩ 2 2 rfl rfl (news_newest (by simp) (by simp [bv, B_ofInt])) (by simp) (by simp <;> omega) ?_; intro v1 w1 hown1 hgrow1)
  have Bx1 := (O.out.alloc _).below hgrow1 (by simp <;> omega)
  have hz1 := hgrow1.size
  simp at hz1
  replace X : Hid (w1.heap[w.heap.size]? = some (.cells q.row 28)) := blk_below Bx1 (by omega) (blk_alloc (by first | omega | (simp; done) | (simp; omega)) X.out _)
  replace BB : Hid (Below w.heap.size w w1) := (BB.out.alloc (by have := BB.out.size; first | omega | (simp at this; omega) | (simp at this ⊢; omega) | (simp; omega)) _).trans (Bx1.mono (by omega))
  replace O : Hid (Own w1 (w.heap.size + 1) v1 ([BitVec.ofInt 8 2] ++ [BitVec.ofInt 8 q.ac, BitVec.ofInt 8 q.dv])) := hown1
  clear hown1 hgrow1 Bx1
  go_wp2_with (at_builtin; refine wpList_app rfl (.tmp 40) (.tmp 42) rfl (w.heap.size + 1) _ ([BitVec.ofInt 8 2] ++ [BitVec.ofInt 8 q.ac, BitVec.ofInt 8 q.dv]) q.macB rfl O.out ⟨w.heap.size, 22, none⟩ 8 8 rfl rfl (news_row X.out (mac_row q)) (by simp) (by omega) ?_; intro v2 w2 hown2 hgrow2)
  have Bx2 := (O.out).below hgrow2 (by omega)
  have hz2 := hgrow2.size

  replace X : Hid (w2.heap[w.heap.size]? = some (.cells q.row 28)) := blk_below Bx2 (by omega) (X.out)
  replace BB : Hid (Below w.heap.size w w2) := BB.out.trans (Bx2.mono (by omega))
  replace O : Hid (Own w2 (w.heap.size + 1) v2 ([BitVec.ofInt 8 2] ++ [BitVec.ofInt 8 q.ac, BitVec.ofInt 8 q.dv] ++ q.macB)) := hown2
  clear hown2 hgrow2 Bx2
  go_ret
  exact ⟨_, rfl, O.out, BB.out⟩
set_option maxRecDepth 100000 in
set_option maxHeartbeats 1000000 in
theorem writeBody3 (q : Rq) (hk : q.kd = 3) (w : World) :
    Calls Try.prog 34 #[.agg q.row] w fun e w' => ∃ v', e = .returned v' ∧ Own w' (w.heap.size + 1) v' (body3 q) ∧ Below w.heap.size w w' := by
  go_enter Try.func34, Try.ntmps34
  have O : Hid (Own ((w.alloc (.cells q.row 28)).alloc (.cells #[.int .u8 3] 5)) (w.heap.size + 1) (.slice (some ⟨w.heap.size + 1, 0, none⟩) 1 1) [BitVec.ofInt 8 3]) := Own.lit (by simp) (Nat.le_refl _) rfl rfl rfl (by omega)
  have X : Hid (((w.alloc (.cells q.row 28)).alloc (.cells #[.int .u8 3] 5)).heap[w.heap.size]? = some (.cells q.row 28)) := blk_alloc (by simp) (blk_newest rfl _) _
  have BB : Hid (Below w.heap.size w ((w.alloc (.cells q.row 28)).alloc (.cells #[.int .u8 3] 5))) := ((Below.refl _ _).alloc (Nat.le_refl _) _).alloc (by simp) _
  go_upto_region 11 with fail
  go_wp2_with (at_builtin; refine wpList_app rfl (.tmp 46) (.tmp 50) rfl (w.heap.size + 1) _ ([BitVec.ofInt 8 3]) [BitVec.ofInt 8 q.dv] rfl (O.out.alloc _) ⟨w.heap.size + 1 + 1, 0, none⟩ 1 1 rfl rfl (news_newest (by simp) (by simp [bv, B_ofInt])) (by simp) (by simp <;> omega) ?_; intro v1 w1 hown1 hgrow1)
  have Bx1 := (O.out.alloc _).below hgrow1 (by simp <;> omega)
  have hz1 := hgrow1.size
  simp at hz1
  replace X : Hid (w1.heap[w.heap.size]? = some (.cells q.row 28)) := blk_below Bx1 (by omega) (blk_alloc (by first | omega | (simp; done) | (simp; omega)) X.out _)
  replace BB : Hid (Below w.heap.size w w1) := (BB.out.alloc (by have := BB.out.size; first | omega | (simp at this; omega) | (simp at this ⊢; omega) | (simp; omega)) _).trans (Bx1.mono (by omega))
  replace O : Hid (Own w1 (w.heap.size + 1) v1 ([BitVec.ofInt 8 3] ++ [BitVec.ofInt 8 q.dv])) := hown1
  clear hown1 hgrow1 Bx1
  go_ret
  exact ⟨_, rfl, O.out, BB.out⟩
set_option maxRecDepth 100000 in
set_option maxHeartbeats 1000000 in
theorem writeBody6 (q : Rq) (hk : q.kd = 6) (w : World) :
    Calls Try.prog 34 #[.agg q.row] w fun e w' => ∃ v', e = .returned v' ∧ Own w' (w.heap.size + 1) v' (body6 q) ∧ Below w.heap.size w w' := by
  go_enter Try.func34, Try.ntmps34
  have O : Hid (Own ((w.alloc (.cells q.row 28)).alloc (.cells #[.int .u8 6] 5)) (w.heap.size + 1) (.slice (some ⟨w.heap.size + 1, 0, none⟩) 1 1) [BitVec.ofInt 8 6]) := Own.lit (by simp) (Nat.le_refl _) rfl rfl rfl (by omega)
  have X : Hid (((w.alloc (.cells q.row 28)).alloc (.cells #[.int .u8 6] 5)).heap[w.heap.size]? = some (.cells q.row 28)) := blk_alloc (by simp) (blk_newest rfl _) _
  have BB : Hid (Below w.heap.size w ((w.alloc (.cells q.row 28)).alloc (.cells #[.int .u8 6] 5))) := ((Below.refl _ _).alloc (Nat.le_refl _) _).alloc (by simp) _
  go_upto_region 21 with fail
  go_wp2_with fail
  refine (appendNumber_any (w.heap.size + 1) _ _ q.cu _ 4 rfl (by omega) (by simp) _ (by simp <;> omega) O.out).mono ?_
  rintro e w3 ⟨v3, rfl, hown3, hb3⟩
  go_wp2
  go_ret
  exact ⟨v3, rfl, hown3, BB.out.trans (hb3.mono (by omega))⟩
set_option maxRecDepth 100000 in
set_option maxHeartbeats 1000000 in
theorem writeBody5 (q : Rq) (hk : q.kd = 5) (w : World) :
    Calls Try.prog 34 #[.agg q.row] w fun e w' => ∃ v', e = .returned v' ∧ Own w' (w.heap.size + 1) v' (body5 q) ∧ Below w.heap.size w w' := by
  go_enter Try.func34, Try.ntmps34
  have O : Hid (Own ((w.alloc (.cells q.row 28)).alloc (.cells #[.int .u8 5] 5)) (w.heap.size + 1) (.slice (some ⟨w.heap.size + 1, 0, none⟩) 1 1) [BitVec.ofInt 8 5]) := Own.lit (by simp) (Nat.le_refl _) rfl rfl rfl (by omega)
  have X : Hid (((w.alloc (.cells q.row 28)).alloc (.cells #[.int .u8 5] 5)).heap[w.heap.size]? = some (.cells q.row 28)) := blk_alloc (by simp) (blk_newest rfl _) _
  have BB : Hid (Below w.heap.size w ((w.alloc (.cells q.row 28)).alloc (.cells #[.int .u8 5] 5))) := ((Below.refl _ _).alloc (Nat.le_refl _) _).alloc (by simp) _
  go_upto_region 18 with fail
  go_wp2_with fail
  refine (appendNumber_any (w.heap.size + 1) _ _ q.cu _ 4 rfl (by omega) (by simp) _ (by simp <;> omega) O.out).mono ?_
  rintro e w1 ⟨v1, rfl, hown1, hb1⟩
  have hz1 := hb1.size
  simp at hz1
  replace X : Hid (w1.heap[w.heap.size]? = some (.cells q.row 28)) := blk_below hb1 (by omega) X.out
  replace BB : Hid (Below w.heap.size w w1) := BB.out.trans (hb1.mono (by omega))
  replace O : Hid (Own w1 (w.heap.size + 1) v1 ([BitVec.ofInt 8 5] ++ numTo q.cu 4 4)) := hown1
  clear hown1 hb1
  have R1 := Row.of X.out
  unfold Row at R1
  go_wp2_with (at_builtin; refine wpList_app rfl (.tmp 81) (.tmp 85) rfl (w.heap.size + 1) _ ([BitVec.ofInt 8 5] ++ numTo q.cu 4 4) [BitVec.ofInt 8 q.mo] rfl (O.out.alloc _) ⟨w1.heap.size, 0, none⟩ 1 1 rfl rfl (news_newest (by simp) (by simp [bv, B_ofInt])) (by simp [numTo_length]) (by simp <;> omega) ?_; intro v2 w2 hown2 hgrow2)
  have Bx2 := (O.out.alloc _).below hgrow2 (by simp <;> omega)
  have hz2 := hgrow2.size
  simp at hz2
  replace X : Hid (w2.heap[w.heap.size]? = some (.cells q.row 28)) := blk_below Bx2 (by omega) (blk_alloc (by first | omega | (simp; done) | (simp; omega)) X.out _)
  replace BB : Hid (Below w.heap.size w w2) := (BB.out.alloc (by have := BB.out.size; first | omega | (simp at this; omega) | (simp at this ⊢; omega) | (simp; omega)) _).trans (Bx2.mono (by omega))
  replace O : Hid (Own w2 (w.heap.size + 1) v2 ([BitVec.ofInt 8 5] ++ numTo q.cu 4 4 ++ [BitVec.ofInt 8 q.mo])) := hown2
  clear hown2 hgrow2 Bx2
  go_ret
  exact ⟨_, rfl, O.out, BB.out⟩
set_option maxRecDepth 100000 in
set_option maxHeartbeats 1000000 in
theorem writeBody4 (q : Rq) (hk : q.kd = 4) (w : World) (cl : List (Int × Int)) (hn : q.sn ≤ 8) (ht : q.tx.size ≤ 16) (hcl : Cl w q.sa q.sn cl) (hlt : q.sn ≠ 0 → ∀ a, q.sa = some a → a.block < w.heap.size) :
    Calls Try.prog 34 #[.agg q.row] w fun e w' => ∃ v', e = .returned v' ∧ Own w' (w.heap.size + 1) v' (body4 q cl) ∧ Below w.heap.size w w' := by
  have HC : Hid (Cl w q.sa q.sn cl) := hcl
  have HLT : Hid (q.sn ≠ 0 → ∀ a, q.sa = some a → a.block < w.heap.size + 1) := fun h0 a ha => Nat.lt_succ_of_lt (hlt h0 a ha)
  have L3 : Hid (([BitVec.ofInt 8 4] ++ [BitVec.ofInt 8 q.ac] ++ [BitVec.ofInt 8 q.sn] ++ clBytes cl).length + 1 ≤ 100000) := by
    show _ + 1 ≤ _
    rw [List.length_append, clBytes_length, hcl.1]; simp; omega
  have L4 : Hid (([BitVec.ofInt 8 4] ++ [BitVec.ofInt 8 q.ac] ++ [BitVec.ofInt 8 q.sn] ++ clBytes cl ++ [BitVec.ofInt 8 q.tx.size]).length + q.tx.size ≤ 100000) := by
    show _ + _ ≤ _
    rw [List.length_append, List.length_append, clBytes_length, hcl.1]; simp; omega
  clear hcl hlt
  go_enter Try.func34, Try.ntmps34
  have O : Hid (Own ((w.alloc (.cells q.row 28)).alloc (.cells #[.int .u8 4] 5)) (w.heap.size + 1) (.slice (some ⟨w.heap.size + 1, 0, none⟩) 1 1) [BitVec.ofInt 8 4]) := Own.lit (by simp) (Nat.le_refl _) rfl rfl rfl (by omega)
  have X : Hid (((w.alloc (.cells q.row 28)).alloc (.cells #[.int .u8 4] 5)).heap[w.heap.size]? = some (.cells q.row 28)) := blk_alloc (by simp) (blk_newest rfl _) _
  have BB : Hid (Below w.heap.size w ((w.alloc (.cells q.row 28)).alloc (.cells #[.int .u8 4] 5))) := ((Below.refl _ _).alloc (Nat.le_refl _) _).alloc (by simp) _
  go_upto_region 13 with fail
  go_upto_region 14 with (at_builtin; refine wpList_app rfl (.tmp 54) (.tmp 58) rfl (w.heap.size + 1) _ ([BitVec.ofInt 8 4]) [BitVec.ofInt 8 q.ac] rfl (O.out.alloc _) ⟨w.heap.size + 1 + 1, 0, none⟩ 1 1 rfl rfl (news_newest (by simp) (by simp [bv, B_ofInt])) (by simp) (by simp <;> omega) ?_; intro v1 w1 hown1 hgrow1)
  have Bx1 := (O.out.alloc _).below hgrow1 (by simp <;> omega)
  have hz1 := hgrow1.size
  simp at hz1
  replace X : Hid (w1.heap[w.heap.size]? = some (.cells q.row 28)) := blk_below Bx1 (by omega) (blk_alloc (by first | omega | (simp; done) | (simp; omega)) X.out _)
  replace BB : Hid (Below w.heap.size w w1) := (BB.out.alloc (by have := BB.out.size; first | omega | (simp at this; omega) | (simp at this ⊢; omega) | (simp; omega)) _).trans (Bx1.mono (by omega))
  replace O : Hid (Own w1 (w.heap.size + 1) v1 ([BitVec.ofInt 8 4] ++ [BitVec.ofInt 8 q.ac])) := hown1
  clear hown1 hgrow1 Bx1
  have R1 := Row.of X.out
  unfold Row at R1
  go_upto_region 15 with (go_at_call 55; refine (appendClaims_any (w.heap.size + 1) v1 ([BitVec.ofInt 8 4] ++ [BitVec.ofInt 8 q.ac]) q.sa q.sn q.sc cl (by simp) (by omega) _ (by omega) O.out (HC.out.later BB.out) HLT.out).mono ?_; rintro e w2 ⟨v2, rfl, hown2, hb2⟩)
  have hz2 := hb2.size
  replace X : Hid (w2.heap[w.heap.size]? = some (.cells q.row 28)) := blk_below hb2 (by omega) X.out
  replace BB : Hid (Below w.heap.size w w2) := BB.out.trans (hb2.mono (by omega))
  replace O : Hid (Own w2 (w.heap.size + 1) v2 ([BitVec.ofInt 8 4] ++ [BitVec.ofInt 8 q.ac] ++ [BitVec.ofInt 8 q.sn] ++ clBytes cl)) := hown2
  clear hown2 hb2 R1
  have R2 := Row.of X.out
  unfold Row at R2
  go_upto_region 16 with (at_builtin; refine wpList_app rfl (.tmp 64) (.tmp 69) rfl (w.heap.size + 1) _ ([BitVec.ofInt 8 4] ++ [BitVec.ofInt 8 q.ac] ++ [BitVec.ofInt 8 q.sn] ++ clBytes cl) [BitVec.ofInt 8 q.tx.size] rfl (O.out.alloc _) ⟨w2.heap.size, 0, none⟩ 1 1 rfl rfl (news_newest (by simp) (by rw [List.map_cons, bv, B_ofInt]; simp; omega)) L3.out (by simp <;> omega) ?_; intro v3 w3 hown3 hgrow3)
  have Bx3 := (O.out.alloc _).below hgrow3 (by simp <;> omega)
  have hz3 := hgrow3.size
  simp at hz3
  replace X : Hid (w3.heap[w.heap.size]? = some (.cells q.row 28)) := blk_below Bx3 (by omega) (blk_alloc (by first | omega | (simp; done) | (simp; omega)) X.out _)
  replace BB : Hid (Below w.heap.size w w3) := (BB.out.alloc (by have := BB.out.size; first | omega | (simp at this; omega) | (simp at this ⊢; omega) | (simp; omega)) _).trans (Bx3.mono (by omega))
  replace O : Hid (Own w3 (w.heap.size + 1) v3 ([BitVec.ofInt 8 4] ++ [BitVec.ofInt 8 q.ac] ++ [BitVec.ofInt 8 q.sn] ++ clBytes cl ++ [BitVec.ofInt 8 q.tx.size])) := hown3
  clear hown3 hgrow3 Bx3
  clear R2
  have R3 := Row.of X.out
  unfold Row at R3
  go_wp2_with (at_builtin; refine wpList_appS rfl (.tmp 71) (.tmp 73) rfl (w.heap.size + 1) _ ([BitVec.ofInt 8 4] ++ [BitVec.ofInt 8 q.ac] ++ [BitVec.ofInt 8 q.sn] ++ clBytes cl ++ [BitVec.ofInt 8 q.tx.size]) rfl O.out q.tx rfl L4.out (by omega) ?_; intro v4 w4 hown4 hgrow4)
  have Bx4 := (O.out).below hgrow4 (by omega)
  have hz4 := hgrow4.size

  replace X : Hid (w4.heap[w.heap.size]? = some (.cells q.row 28)) := blk_below Bx4 (by omega) (X.out)
  replace BB : Hid (Below w.heap.size w w4) := BB.out.trans (Bx4.mono (by omega))
  replace O : Hid (Own w4 (w.heap.size + 1) v4 ([BitVec.ofInt 8 4] ++ [BitVec.ofInt 8 q.ac] ++ [BitVec.ofInt 8 q.sn] ++ clBytes cl ++ [BitVec.ofInt 8 q.tx.size] ++ txB q.tx)) := hown4
  clear hown4 hgrow4 Bx4
  go_ret
  exact ⟨_, rfl, O.out, BB.out⟩
end Go.Proofs.Ytpnfkcbbjcimgaa
