import Derived.Test.YtpnfkcbbjcimgaaRtext
import Derived.Laws.Tables
import Derived.Deep.CutBlock
import Derived.OrdersHeld
import Derived.Deep.Onto
namespace Go.Proofs.Ytpnfkcbbjcimgaa
open Go.RowKit
attribute [local go_sem] row_0 row_1 row_2 row_3 row_4 row_5 row_30 row_31
/-- The request that is none. -/
def z0 : Rq := ⟨0, 0, 0, 0, 0, 0, fun _ => 0, fun _ => 0, none, 0, 0, ⟨#[]⟩⟩
def zk (n : Int) : Rq := ⟨n, 0, 0, 0, 0, 0, fun _ => 0, fun _ => 0, none, 0, 0, ⟨#[]⟩⟩
theorem alloc28 (w : World) : (Instr.alloc 28 true (.tuple #[])).run Try.prog w = .ok (.pointer (some ⟨w.heap.size, 0, none⟩)) (w.alloc (.cells z0.row 28)) := by kernel_rfl
theorem build28 (n : Int) (w : World) : (Instr.build 28 #[(0, .int .i64 n)]).run Try.prog w = .ok (.agg (zk n).row) w := by kernel_rfl
theorem build28z (w : World) : (Instr.build 28 #[]).run Try.prog w = .ok (.agg z0.row) w := by kernel_rfl
section
variable {w : World} {ops : Array Oper} {rest : List Oper} {o : Oper} {a : Act} {Q : Exit → Act → World → Prop}
theorem wpList_alloc_req (hgd : o.guard = none) (ho : o.op = .alloc 28) (h : wpList Try.prog ops Q rest (a.put o.dst (.pointer (some ⟨w.heap.size, 0, none⟩))) (w.alloc (.cells z0.row 28))) : wpList Try.prog ops Q (o :: rest) a w := by
  refine wpList_plain hgd fun K hK => ?_
  unfold Oper.wp execOp
  simp only [ho, Sem.run_bind, Sem.run_pure, Result.andThen_ok, alloc28]
  exact hK _ _ h
theorem wpList_build_req (hgd : o.guard = none) (x : Operand) (ho : o.op = .build 28 #[(0, x)]) (n : Int) (hx : a.eval x = .int .i64 n) (h : wpList Try.prog ops Q rest (a.put o.dst (.agg (zk n).row)) w) : wpList Try.prog ops Q (o :: rest) a w := by
  refine wpList_plain hgd fun K hK => ?_
  unfold Oper.wp execOp
  simp only [ho, Sem.run_bind, Sem.run_pure, Result.andThen_ok, List.map_toArray, List.map_cons, List.map_nil, hx, build28]
  exact hK _ _ h
theorem wpList_build_none (hgd : o.guard = none) (ho : o.op = .build 28 #[]) (h : wpList Try.prog ops Q rest (a.put o.dst (.agg z0.row)) w) : wpList Try.prog ops Q (o :: rest) a w := by
  refine wpList_plain hgd fun K hK => ?_
  unfold Oper.wp execOp
  simp only [ho, Sem.run_bind, Sem.run_pure, Result.andThen_ok, List.map_toArray, List.map_nil, build28z]
  exact hK _ _ h
end
theorem row_cells (q : Rq) : q.row.all (·.oneCell') = true := by kernel_rfl
theorem setRow_fresh (W : World) (n : Nat) (hn : W.heap.size = n) (A C : Array Value) (t : TypeId) : (W.alloc (.cells A t)).setRow n C = W.alloc (.cells C t) := by
  subst hn
  unfold World.setRow World.alloc
  congr 1
  apply Array.ext_getElem?
  intro i
  rw [Array.getElem?_modify, Array.getElem?_push, Array.getElem?_push]
  by_cases h : W.heap.size = i
  · subst h; simp
  · simp [h, Ne.symm h]
theorem wpList_store_fresh {W : World} {ops : Array Oper} {rest : List Oper} {o : Oper} {a : Act} {Q : Exit → Act → World → Prop} (hgd : o.guard = none) (x y : Operand) (ho : o.op = .store 28 x y) (n : Nat) (hx : a.eval x = .pointer (some ⟨n, 0, none⟩)) (hn : W.heap.size = n)
    (p q : Rq) (hy : a.eval y = .agg q.row) (h : wpList Try.prog ops Q rest (a.put o.dst undef) (W.alloc (.cells q.row 28))) : wpList Try.prog ops Q (o :: rest) a (W.alloc (.cells p.row 28)) := by
  refine wpList_plain hgd fun K hK => wp_store_row 28 x y ho n q.row hx hy 28 p.row (blk_newest hn _) (by rw [row_size]; exact info28) rfl (row_cells q) ?_
  rw [setRow_fresh W n hn]
  exact hK _ _ h
theorem wpList_store_req {w : World} {ops : Array Oper} {rest : List Oper} {o : Oper} {a : Act} {Q : Exit → Act → World → Prop} (hgd : o.guard = none) (x y : Operand) (ho : o.op = .store 28 x y) (n : Nat) (hx : a.eval x = .pointer (some ⟨n, 0, none⟩))
    (p q : Rq) (hy : a.eval y = .agg q.row) (hp : w.heap[n]? = some (.cells p.row 28)) (h : wpList Try.prog ops Q rest (a.put o.dst undef) (w.setRow n q.row)) : wpList Try.prog ops Q (o :: rest) a w :=
  wpList_plain hgd fun _ hK => wp_store_row 28 x y ho n q.row hx hy 28 p.row hp (by rw [row_size]; exact info28) rfl (row_cells q) (hK _ _ h)
theorem blk_set {w : World} {g i : Nat} {q : Rq} {v : Value} (q' : Rq) (h : w.heap[g]? = some (.cells q.row 28)) (e : q.row.setIfInBounds i v = q'.row) : (w.setCell ⟨g, i, none⟩ v).heap[g]? = some (.cells q'.row 28) := by
  rw [← e]; exact heap_setCell_same w g i q.row 28 v h
theorem frz_row {w : World} {g : Nat} {q : Rq} (h : w.heap[g]? = some (.cells q.row 28)) : ∀ i, w.frozen? ⟨g, i, none⟩ = false := fun i => frozen_of_row w g i q.row 28 h
/-- What has been read: a request's parts, and what is left. -/
structure Dat where
  kd : Int
  ac : Int
  dv : Int
  rg : Int
  cu : Int
  mo : Int
  k : Nat → BitVec 8
  m : Nat → BitVec 8
  cl : List (Int × Int)
  tx : List (BitVec 8)
  l : List (BitVec 8)
  sh : Bool
def Dat.rq (d : Dat) (sa : Option Addr) (sn sc : Nat) : Rq := ⟨d.kd, d.ac, d.dv, d.rg, d.cu, d.mo, d.k, d.m, sa, sn, sc, strB d.tx⟩
def zf : Nat → BitVec 8 := fun _ => 0
def rd1 (l : List (BitVec 8)) (sh : Bool) : Dat :=
  let b := takeR l sh 1
  let c := takeR b.l b.sh 1
  let d := takeR c.l c.sh 16
  let e := takeR d.l d.sh 2
  ⟨1, beN b.got, beN c.got, beN e.got, 0, 0, fun i => d.got.getD i 0, zf, [], [], e.l, e.sh⟩
def rd2 (l : List (BitVec 8)) (sh : Bool) : Dat :=
  let b := takeR l sh 1
  let c := takeR b.l b.sh 1
  let d := takeR c.l c.sh 8
  ⟨2, beN b.got, beN c.got, 0, 0, 0, zf, fun i => d.got.getD i 0, [], [], d.l, d.sh⟩
def rd3 (l : List (BitVec 8)) (sh : Bool) : Dat :=
  let b := takeR l sh 1
  ⟨3, 0, beN b.got, 0, 0, 0, zf, zf, [], [], b.l, b.sh⟩
def rd4 (l : List (BitVec 8)) (sh : Bool) : Dat :=
  let b := takeR l sh 1
  let c := claimsR b.l b.sh
  let d := textR c.l c.sh
  ⟨4, beN b.got, 0, 0, 0, 0, zf, zf, c.cl, d.got, d.l, d.sh⟩
def rd5 (l : List (BitVec 8)) (sh : Bool) : Dat :=
  let b := takeR l sh 4
  let c := takeR b.l b.sh 1
  ⟨5, 0, 0, 0, beN b.got, beN c.got, zf, zf, [], [], c.l, c.sh⟩
def rd6 (l : List (BitVec 8)) (sh : Bool) : Dat :=
  let b := takeR l sh 4
  ⟨6, 0, 0, 0, beN b.got, 0, zf, zf, [], [], b.l, b.sh⟩
def rdOf (body : List (BitVec 8)) : Dat :=
  let a := takeR body false 1
  if beN a.got = 1 then rd1 a.l a.sh else if beN a.got = 2 then rd2 a.l a.sh else if beN a.got = 3 then rd3 a.l a.sh else if beN a.got = 4 then rd4 a.l a.sh
  else if beN a.got = 5 then rd5 a.l a.sh else if beN a.got = 6 then rd6 a.l a.sh else ⟨beN a.got, 0, 0, 0, 0, 0, zf, zf, [], [], a.l, a.sh⟩
/-- What lies in memory while a body is read: the result's place, what is left, the request so far. -/
structure Bun (w W : World) (q : Rq) (l : List (BitVec 8)) (sh : Bool) : Prop where
  res : W.heap[w.heap.size]? = some (.cells z0.row 28)
  req : W.heap[w.heap.size + 1 + 1]? = some (.cells q.row 28)
  inp : In W (w.heap.size + 1) l sh
  bel : Below w.heap.size w W
  siz : w.heap.size + 1 + 1 < W.heap.size
theorem Bun.turn {w W W' : World} {q : Rq} {l l' : List (BitVec 8)} {sh sh' : Bool} (h : Bun w W q l sh) (ht : Turn (w.heap.size + 1) W W') (hi : In W' (w.heap.size + 1) l' sh') : Bun w W' q l' sh' :=
  ⟨(ht.block _ (by omega)).trans h.res, (ht.block _ (by omega)).trans h.req, hi, h.bel.trans (ht.below (by omega)), by rw [ht.size]; exact h.siz⟩
theorem Bun.grown {w W W' : World} {q : Rq} {l l' : List (BitVec 8)} {sh sh' : Bool} (h : Bun w W q l sh) (ht : W.grownBy W' (some (w.heap.size + 1))) (hi : In W' (w.heap.size + 1) l' sh') : Bun w W' q l' sh' := by
  have hs := h.siz
  have hz := ht.size
  exact ⟨(ht.block _ (by omega) (by simp)).trans h.res, (ht.block _ (by omega) (by simp)).trans h.req, hi, h.bel.trans ⟨ht.os, ht.tape, ht.output, ht.size, fun k hk => ht.block k (by omega) (by simp; omega)⟩, by omega⟩
theorem Bun.set {w W : World} {q : Rq} {l : List (BitVec 8)} {sh : Bool} (h : Bun w W q l sh) (i : Nat) (v : Value) (q' : Rq) (e : q.row.setIfInBounds i v = q'.row) : Bun w (W.setCell ⟨w.heap.size + 1 + 1, i, none⟩ v) q' l sh := by
  have ht : Turn (w.heap.size + 1 + 1) W (W.setCell ⟨w.heap.size + 1 + 1, i, none⟩ v) := (Turn.refl _ _).set _ _
  exact ⟨(ht.block _ (by omega)).trans h.res, blk_set q' h.req e, h.inp.turn ht (by omega), h.bel.trans (ht.below (by omega)), by rw [ht.size]; exact h.siz⟩
theorem Bun.setRow {w W : World} {q : Rq} {l : List (BitVec 8)} {sh : Bool} (h : Bun w W q l sh) (q' : Rq) : Bun w (W.setRow (w.heap.size + 1 + 1) q'.row) q' l sh := by
  have ht : Turn (w.heap.size + 1 + 1) W (W.setRow (w.heap.size + 1 + 1) q'.row) := ⟨rfl, rfl, rfl, by simp, fun k hk => setRow_other _ _ _ _ hk⟩
  exact ⟨(ht.block _ (by omega)).trans h.res, setRow_heap _ _ _ _ _ _ h.req, h.inp.turn ht (by omega), h.bel.trans (ht.below (by omega)), by rw [ht.size]; exact h.siz⟩
theorem Bun.drew {w W : World} {q : Rq} {l : List (BitVec 8)} {sh : Bool} (h : Bun w W q l sh) : Bun w W.drew q l sh := ⟨h.res, h.req, h.inp, h.bel.drew, h.siz⟩
theorem zk_kd (n : Int) : (zk n).kd = n := rfl
attribute [local go_sem] zk_kd
theorem takeR_got (l : List (BitVec 8)) (sh : Bool) (n : Nat) : (takeR l sh n).got.length = n ∨ (takeR l sh n).got = [] := by
  unfold takeR; split
  · exact .inr rfl
  · rename_i h
    left
    rw [List.length_take]
    have : ¬ l.length < n := fun h' => h (.inr h')
    omega
theorem list_eq16 {α : Type} (l : List α) (h : l.length = 16) : ∃ a0 a1 a2 a3 a4 a5 a6 a7 e0 e1 e2 e3 e4 e5 e6 e7, l = [a0, a1, a2, a3, a4, a5, a6, a7, e0, e1, e2, e3, e4, e5, e6, e7] := by
  match l, h with
  | [a0, a1, a2, a3, a4, a5, a6, a7, e0, e1, e2, e3, e4, e5, e6, e7], _ => exact ⟨a0, a1, a2, a3, a4, a5, a6, a7, e0, e1, e2, e3, e4, e5, e6, e7, rfl⟩
theorem list_eq8 {α : Type} (l : List α) (h : l.length = 8) : ∃ a0 a1 a2 a3 a4 a5 a6 a7, l = [a0, a1, a2, a3, a4, a5, a6, a7] := by
  match l, h with
  | [a0, a1, a2, a3, a4, a5, a6, a7], _ => exact ⟨a0, a1, a2, a3, a4, a5, a6, a7, rfl⟩
theorem byteCells_strB (g : List (BitVec 8)) : Lib.byteCells (strB g).data.toList = g.map bv := by
  rw [strB_toList]
  unfold Lib.byteCells
  rw [List.map_map]
  rfl
theorem key_set (a b c d e f : Int) (m : Nat → BitVec 8) (sa : Option Addr) (sn sc : Nat) (tx : ByteArray) (g : List (BitVec 8)) (h : g.length = 16 ∨ g = []) :
    ((⟨a, b, c, d, e, f, zf, m, sa, sn, sc, tx⟩ : Rq).row.toList.take 6 ++ Lib.byteCells (strB g).data.toList ++ (⟨a, b, c, d, e, f, zf, m, sa, sn, sc, tx⟩ : Rq).row.toList.drop (6 + (strB g).size)).toArray = (⟨a, b, c, d, e, f, fun i => g.getD i 0, m, sa, sn, sc, tx⟩ : Rq).row := by
  rw [byteCells_strB, strB_size]
  rcases h with h | h
  · obtain ⟨a0, a1, a2, a3, a4, a5, a6, a7, e0, e1, e2, e3, e4, e5, e6, e7, rfl⟩ := list_eq16 g h
    rfl
  · subst h
    rfl
theorem mac_set (a b c d e f : Int) (k : Nat → BitVec 8) (sa : Option Addr) (sn sc : Nat) (tx : ByteArray) (g : List (BitVec 8)) (h : g.length = 8 ∨ g = []) :
    ((⟨a, b, c, d, e, f, k, zf, sa, sn, sc, tx⟩ : Rq).row.toList.take 22 ++ Lib.byteCells (strB g).data.toList ++ (⟨a, b, c, d, e, f, k, zf, sa, sn, sc, tx⟩ : Rq).row.toList.drop (22 + (strB g).size)).toArray = (⟨a, b, c, d, e, f, k, fun i => g.getD i 0, sa, sn, sc, tx⟩ : Rq).row := by
  rw [byteCells_strB, strB_size]
  rcases h with h | h
  · obtain ⟨a0, a1, a2, a3, a4, a5, a6, a7, rfl⟩ := list_eq8 g h
    rfl
  · subst h
    rfl
theorem info5s : (Try.prog.info? 5).map (·.size) = some 1 := by kernel_rfl
theorem copy_key {w : World} {n : Nat} (a b c d e f : Int) (m : Nat → BitVec 8) (sa : Option Addr) (sn sc : Nat) (tx : ByteArray) (g : List (BitVec 8)) (h : g.length = 16 ∨ g = []) (hq : w.heap[n]? = some (.cells (⟨a, b, c, d, e, f, zf, m, sa, sn, sc, tx⟩ : Rq).row 28)) :
    (Builtin.copy_ #[65, 9] 3 #[.slice (some ⟨n, 6, none⟩) 16 16, .string (strB g)]).run Try.prog w = .ok (goInt (strB g).size) (w.setRow n (⟨a, b, c, d, e, f, fun i => g.getD i 0, m, sa, sn, sc, tx⟩ : Rq).row) := by
  have hs : (strB g).size ≤ 16 := by rw [strB_size]; rcases h with h | h <;> simp [h]
  have := Lib.run_copy_row_string (P := Try.prog) w 65 9 3 5 n 6 16 16 (strB g) _ 28 Try.underlying65 info5s hq hs (by rw [row_size]; omega)
  rw [key_set a b c d e f m sa sn sc tx g h] at this
  exact this
theorem copy_mac {w : World} {n : Nat} (a b c d e f : Int) (k : Nat → BitVec 8) (sa : Option Addr) (sn sc : Nat) (tx : ByteArray) (g : List (BitVec 8)) (h : g.length = 8 ∨ g = []) (hq : w.heap[n]? = some (.cells (⟨a, b, c, d, e, f, k, zf, sa, sn, sc, tx⟩ : Rq).row 28)) :
    (Builtin.copy_ #[65, 9] 3 #[.slice (some ⟨n, 22, none⟩) 8 8, .string (strB g)]).run Try.prog w = .ok (goInt (strB g).size) (w.setRow n (⟨a, b, c, d, e, f, k, fun i => g.getD i 0, sa, sn, sc, tx⟩ : Rq).row) := by
  have hs : (strB g).size ≤ 8 := by rw [strB_size]; rcases h with h | h <;> simp [h]
  have := Lib.run_copy_row_string (P := Try.prog) w 65 9 3 5 n 22 8 8 (strB g) _ 28 Try.underlying65 info5s hq hs (by rw [row_size]; omega)
  rw [mac_set a b c d e f k sa sn sc tx g h] at this
  exact this
theorem OwnC.cl {w : World} {base : Nat} {v : Value} {cl : List (Int × Int)} (h : OwnC w base v cl) : ∃ sa sn sc, v = .slice sa sn sc ∧ Cl w sa sn cl ∧ sn ≤ 9223372036854775807 ∧ ∀ a, sa = some a → base ≤ a.block ∧ a.block < w.heap.size := by
  obtain ⟨h1, h2⟩ := h
  rcases h2 with ⟨rfl, h0⟩ | ⟨g, cap, cur, rfl, hb, hg, hnc, hcm, hcs, htk⟩
  · exact ⟨none, 0, 0, rfl, ⟨h0, .inl rfl⟩, by omega, fun a ha => by cases ha⟩
  · have hlt : g < w.heap.size := by
      rcases Nat.lt_or_ge g w.heap.size with h | h
      · exact h
      · rw [Array.getElem?_eq_none h] at hg; cases hg
    refine ⟨some ⟨g, 0, none⟩, cl.length, cap, rfl, ⟨rfl, .inr ⟨g, 0, rfl, fun i hi => ?_⟩⟩, by unfold maxLen at hcm; omega, fun a ha => by cases ha; exact ⟨hb, hlt⟩⟩
    have hc : ∀ j, j < cl.length * 2 → w.cell? ⟨g, j, none⟩ = (cl.flatMap cv)[j]? := fun j hj => by
      rw [cell_of_row w g j cur 69 (0, 0) hg, ← htk, List.getElem?_take_of_lt hj, Array.getElem?_toList]
    have hv : ∀ (l : List (Int × Int)) (i : Nat), i < l.length → (l.flatMap cv)[i * 2]? = some (.int .i64 (l.getD i (0, 0)).1) ∧ (l.flatMap cv)[i * 2 + 1]? = some (.int .i64 (l.getD i (0, 0)).2) := by
      intro l
      induction l with
      | nil => intro i hi; simp at hi
      | cons c l ih =>
        intro i hi
        cases i with
        | zero => exact ⟨rfl, rfl⟩
        | succ i =>
          have := ih i (by simpa using hi)
          rw [List.flatMap_cons]
          have e1 : (cv c ++ l.flatMap cv)[(i + 1) * 2]? = (l.flatMap cv)[i * 2]? := by
            rw [List.getElem?_append_right (by simp [cv]; omega)]; congr 1; simp [cv]; omega
          have e2 : (cv c ++ l.flatMap cv)[(i + 1) * 2 + 1]? = (l.flatMap cv)[i * 2 + 1]? := by
            rw [List.getElem?_append_right (by simp [cv]; omega)]; congr 1; simp [cv]; omega
          rw [e1, e2]
          simpa using this
    rw [show 0 + i * 2 = i * 2 from by omega]
    rw [hc _ (by omega), hc _ (by omega)]
    exact hv cl i hi
theorem OwnC.kept {w wx : World} {base : Nat} {sa : Option Addr} {sn sc : Nat} {cl : List (Int × Int)} (h : OwnC w base (.slice sa sn sc) cl) (hk : ∀ a, sa = some a → wx.heap[a.block]? = w.heap[a.block]?) : OwnC wx base (.slice sa sn sc) cl := by
  obtain ⟨h1, h2⟩ := h
  refine ⟨h1, ?_⟩
  rcases h2 with h2 | ⟨g, cap, cur, hv, hbg, hg, rest⟩
  · exact .inl h2
  · have e : sa = some ⟨g, 0, none⟩ := by cases hv; rfl
    exact .inr ⟨g, cap, cur, hv, hbg, (hk _ e).trans hg, rest⟩
theorem Cl.kept {w wx : World} {sa : Option Addr} {sn : Nat} {cl : List (Int × Int)} (h : Cl w sa sn cl) (hk : ∀ a, sa = some a → wx.heap[a.block]? = w.heap[a.block]?) : Cl wx sa sn cl := by
  obtain ⟨h1, h2⟩ := h
  refine ⟨h1, ?_⟩
  rcases h2 with h2 | ⟨b, off, h3, h4⟩
  · exact .inl h2
  · have hl := hk _ h3
    exact .inr ⟨b, off, h3, fun i hi => ⟨(World.cell?_of_block (w := w) (a := ⟨b, off + i * 2, none⟩) hl).trans (h4 i hi).1, (World.cell?_of_block (w := w) (a := ⟨b, off + i * 2 + 1, none⟩) hl).trans (h4 i hi).2⟩⟩
theorem wpOp_store_req {ops : Array Oper} {Q : Exit → Act → World → Prop} {i : Nat} {K : Act → World → Prop} {a : Act} {w : World} {o : Oper} (ho : ops[i]? = some o) (hw : Region.wanted o (yielded ops a.tmps) = true) (x y : Operand) (hop : o.op = .store 28 x y) (hd : o.dst = none)
    (n : Nat) (hx : a.eval x = .pointer (some ⟨n, 0, none⟩)) (p q : Rq) (hy : a.eval y = .agg q.row) (hp : w.heap[n]? = some (.cells p.row 28)) (h : K a (w.setRow n q.row)) : wpOp Try.prog ops Q i K a w := by
  refine wpOp_step ho (fun K1 hK => ?_)
  rw [if_pos hw]
  refine wp_store_row 28 x y hop n q.row hx hy 28 p.row hp (by rw [row_size]; exact info28) rfl (row_cells q) (hK _ _ ?_)
  rw [hd]
  exact h
theorem results_req {fn : Func} (h : fn.results = #[.cell 2 28, .tmp 3]) (tmps : Array Value) (w : World) (n : Nat) (q : Rq) (b : Value) (hp : tmps.getD 2 undef = .pointer (some ⟨n, 0, none⟩)) (hb : tmps.getD 3 undef = b) (hq : w.heap[n]? = some (.cells q.row 28)) :
    (results fn tmps).run Try.prog w = .ok (.tuple #[.agg q.row, b]) w := by
  rw [results_cell_tmp h, hp, hb]
  simp [asAddr, run_loadVar_row (P := Try.prog) w n 28 28 q.row (0, 0) _ hq Try.underlying28 rfl (by rw [row_size]; exact info28)]
theorem str_cons_ne (b : BitVec 8) (l : List (BitVec 8)) : ¬ (strB (b :: l)).toList = [] := by
  rw [ByteArray.toList_eq, strB_toList]; simp
theorem take_at {ops : Array Oper} {Q : Exit → Act → World → Prop} {S : World → Prop} {md : Region.Mode} {i d : Nat} {oi : Oper} {v : Value} {fuel : Nat} {listed : Array Bool} {a : Act} {w : World} (hi : ops[i]? = some oi) (hd : oi.dst = some d)
    (hs : Region.noSelect ops = true) (hf : Region.free md ops listed i = true) (hr : (Region.ready md ops listed).contains i = true)
    (hQ : ∀ c a w, Q (.panic c) (a.put oi.dst v) w → Q (.panic c) a w) (hy : YieldsIf Try.prog ops S oi v a) (hS : S w)
    (h : wpAnyH Try.prog md ops Q S fuel (listed.setIfInBounds i true) (a.put (some d) v) w) : wpAnyH Try.prog md ops Q S (fuel + 1) listed a w :=
  wpAnyH_take hi hs hf hr hQ hy hS (by rw [hd]; exact h)
theorem yieldsIf_load_req {ops : Array Oper} {S : World → Prop} {op : Oper} {a : Act} (hw : Region.wanted op (yielded ops a.tmps) = true) (x : Operand) (ho : op.op = .load 28 x)
    (g : Nat) (hx : a.eval x = .pointer (some ⟨g, 0, none⟩)) (q : Rq) (hS : ∀ w, S w → w.heap[g]? = some (.cells q.row 28)) : YieldsIf Try.prog ops S op (.agg q.row) a :=
  .inl ⟨hw, fun w h => by
    unfold execOp
    simp only [ho, hx, Instr.loadAt, Instr.sureAddr, Sem.run_bind, Sem.run_pure, Result.andThen_ok, run_loadVar_row (P := Try.prog) w g 28 28 q.row (0, 0) _ (hS w h) Try.underlying28 rfl (by rw [row_size]; exact info28)]⟩
set_option maxRecDepth 100000 in
set_option maxHeartbeats 4000000 in
theorem read_core (body : List (BitVec 8)) (n : Int) (hl : body.length ≤ 140737488355328) (w : World) (hk : Hid (beN (takeR body false 1).got = n)) :
    Calls Try.prog 47 #[.string (strB body)] w fun e w' => ∃ sa sn sc, e = .returned (.tuple #[.agg ((rdOf body).rq sa sn sc).row, .bool (!(rdOf body).sh && (rdOf body).l.isEmpty)]) ∧ OwnC w' w.heap.size (.slice sa sn sc) (rdOf body).cl ∧ Below w.heap.size w w' := by
  go_enter Try.func47, Try.ntmps47
  go_wp2_with (refine wpList_alloc_req rfl rfl ?_)
  have I0 : In ((w.alloc (.cells z0.row 28)).alloc (.cells #[.string (strB body), .bool false] 148)) (w.heap.size + 1) body false := ⟨(Row.of (blk_newest (by simp) _) 0), (Row.of (blk_newest (by simp) _) 1), frozen_of_row _ _ _ _ _ (blk_newest (by simp) _), frozen_of_row _ _ _ _ _ (blk_newest (by simp) _), hl⟩
  have N0 : ((w.alloc (.cells z0.row 28)).alloc (.cells #[.string (strB body), .bool false] 148)).heap[w.heap.size]? = some (.cells z0.row 28) := blk_alloc (by simp) (blk_newest rfl _) _
  have B0 : Below w.heap.size w ((w.alloc (.cells z0.row 28)).alloc (.cells #[.string (strB body), .bool false] 148)) := ((Below.refl _ _).alloc (Nat.le_refl _) _).alloc (by simp) _
  refine (number_any (w.heap.size + 1) body false _ 1 rfl (by omega) _ I0).mono ?_
  rintro e w1 ⟨he, hin1, ht1⟩
  rw [hk.out] at he
  subst he
  have hz1 := ht1.size
  simp at hz1
  have U : Hid (Bun w (w1.alloc (.cells (zk n).row 28)) (zk n) (takeR body false 1).l (takeR body false 1).sh) :=
    ⟨blk_alloc (by omega) ((ht1.block _ (by omega)).trans N0) _, blk_newest hz1 _, hin1.later ((Below.refl _ _).alloc (Nat.le_refl _) _), (B0.trans (ht1.below (by omega))).alloc (by omega) _, by simp; omega⟩
  clear hin1 ht1 I0 N0 B0
  go_upto_block 0 with (first | (refine wpList_alloc_req rfl rfl ?_) | (refine wpList_build_req rfl (.tmp 8) rfl n (by rfl) ?_) | (refine wpList_store_fresh rfl (.tmp 5) (.tmp 9) rfl w1.heap.size (by rfl) rfl z0 (zk n) (by rfl) ?_))
  go_cut [] (fun wx => ∃ sa sn sc, Bun w wx ((rdOf body).rq sa sn sc) (rdOf body).l (rdOf body).sh ∧ OwnC wx w.heap.size (.slice sa sn sc) (rdOf body).cl ∧ ∀ a, sa = some a → w.heap.size + 1 + 1 < a.block)
  case first =>
    by_cases h1 : n = 1
    · subst h1
      have HR : Hid (rdOf body = rd1 (takeR body false 1).l (takeR body false 1).sh) := by show _ = _; unfold rdOf; simp [hk.out]
      go_wp2_with fail
      refine (number_any (w.heap.size + 1) ((takeR body false 1).l) ((takeR body false 1).sh) _ 1 rfl (by omega) _ U.out.inp).mono ?_
      rintro e w2 ⟨rfl, hin2, ht2⟩
      have U2 : Hid (Bun w w2 _ (takeR ((takeR body false 1).l) ((takeR body false 1).sh) 1).l (takeR ((takeR body false 1).l) ((takeR body false 1).sh) 1).sh) := U.out.turn ht2 hin2
      clear hin2 ht2 U
      go_wp2_with fail
      refine (number_any (w.heap.size + 1) ((takeR (takeR body false 1).l (takeR body false 1).sh 1).l) ((takeR (takeR body false 1).l (takeR body false 1).sh 1).sh) _ 1 rfl (by omega) _ U2.out.inp).mono ?_
      rintro e w3 ⟨rfl, hin3, ht3⟩
      have U3 : Hid (Bun w w3 _ (takeR ((takeR (takeR body false 1).l (takeR body false 1).sh 1).l) ((takeR (takeR body false 1).l (takeR body false 1).sh 1).sh) 1).l (takeR ((takeR (takeR body false 1).l (takeR body false 1).sh 1).l) ((takeR (takeR body false 1).l (takeR body false 1).sh 1).sh) 1).sh) := U2.out.turn ht3 hin3
      clear hin3 ht3 U2
      have R3 := Row.of U3.out.req
      have F3 := frz_row U3.out.req
      unfold Row at R3
      go_upto_region 6 with fail
      have V : Hid (Bun w ((w3.setCell ⟨w.heap.size + 1 + 1, 1, none⟩ (.int .i64 (beN (takeR (takeR body false 1).l (takeR body false 1).sh 1).got))).setCell ⟨w.heap.size + 1 + 1, 2, none⟩ (.int .i64 (beN (takeR (takeR (takeR body false 1).l (takeR body false 1).sh 1).l (takeR (takeR body false 1).l (takeR body false 1).sh 1).sh 1).got))) ⟨1, beN (takeR (takeR body false 1).l (takeR body false 1).sh 1).got, beN (takeR (takeR (takeR body false 1).l (takeR body false 1).sh 1).l (takeR (takeR body false 1).l (takeR body false 1).sh 1).sh 1).got, 0, 0, 0, zf, zf, none, 0, 0, ⟨#[]⟩⟩ (takeR (takeR (takeR body false 1).l (takeR body false 1).sh 1).l (takeR (takeR body false 1).l (takeR body false 1).sh 1).sh 1).l (takeR (takeR (takeR body false 1).l (takeR body false 1).sh 1).l (takeR (takeR body false 1).l (takeR body false 1).sh 1).sh 1).sh) := (U3.out.set 1 _ ⟨1, beN (takeR (takeR body false 1).l (takeR body false 1).sh 1).got, 0, 0, 0, 0, zf, zf, none, 0, 0, ⟨#[]⟩⟩ (by kernel_rfl)).set 2 _ _ (by kernel_rfl)
      clear R3 F3 U3
      generalize (w3.setCell ⟨w.heap.size + 1 + 1, 1, none⟩ (.int .i64 (beN (takeR (takeR body false 1).l (takeR body false 1).sh 1).got))).setCell ⟨w.heap.size + 1 + 1, 2, none⟩ (.int .i64 (beN (takeR (takeR (takeR body false 1).l (takeR body false 1).sh 1).l (takeR (takeR body false 1).l (takeR body false 1).sh 1).sh 1).got)) = W at *
      go_cut [] (fun wx => Bun w wx ⟨1, beN (takeR (takeR body false 1).l (takeR body false 1).sh 1).got, beN (takeR (takeR (takeR body false 1).l (takeR body false 1).sh 1).l (takeR (takeR body false 1).l (takeR body false 1).sh 1).sh 1).got, 0, 0, 0, fun i => (takeR (takeR (takeR (takeR body false 1).l (takeR body false 1).sh 1).l (takeR (takeR body false 1).l (takeR body false 1).sh 1).sh 1).l (takeR (takeR (takeR body false 1).l (takeR body false 1).sh 1).l (takeR (takeR body false 1).l (takeR body false 1).sh 1).sh 1).sh 16).got.getD i 0, zf, none, 0, 0, ⟨#[]⟩⟩ (takeR (takeR (takeR (takeR body false 1).l (takeR body false 1).sh 1).l (takeR (takeR body false 1).l (takeR body false 1).sh 1).sh 1).l (takeR (takeR (takeR body false 1).l (takeR body false 1).sh 1).l (takeR (takeR body false 1).l (takeR body false 1).sh 1).sh 1).sh 16).l (takeR (takeR (takeR (takeR body false 1).l (takeR body false 1).sh 1).l (takeR (takeR body false 1).l (takeR body false 1).sh 1).sh 1).l (takeR (takeR (takeR body false 1).l (takeR body false 1).sh 1).l (takeR (takeR body false 1).l (takeR body false 1).sh 1).sh 1).sh 16).sh)
      case first =>
        go_region_with (go_at_call 78; refine (take_any (w.heap.size + 1) (takeR (takeR (takeR body false 1).l (takeR body false 1).sh 1).l (takeR (takeR body false 1).l (takeR body false 1).sh 1).sh 1).l (takeR (takeR (takeR body false 1).l (takeR body false 1).sh 1).l (takeR (takeR body false 1).l (takeR body false 1).sh 1).sh 1).sh _ 16 rfl (by omega) _ V.out.drew.inp).mono ?_; rintro e w4 ⟨rfl, hin4, ht4⟩; have U4 := V.out.drew.turn ht4 hin4; have hcp := copy_key _ _ _ _ _ _ _ _ _ _ _ (takeR (takeR (takeR (takeR body false 1).l (takeR body false 1).sh 1).l (takeR (takeR body false 1).l (takeR body false 1).sh 1).sh 1).l (takeR (takeR (takeR body false 1).l (takeR body false 1).sh 1).l (takeR (takeR body false 1).l (takeR body false 1).sh 1).sh 1).sh 16).got (takeR_got _ _ _) U4.req; have H4 : Hid _ := U4; clear U4 hin4 ht4)
        all_goals
          go_wp2_with fail
          go_meet
          case rel => exact H4.out.setRow _
      have V2 : Hid (Bun w wc ⟨1, beN (takeR (takeR body false 1).l (takeR body false 1).sh 1).got, beN (takeR (takeR (takeR body false 1).l (takeR body false 1).sh 1).l (takeR (takeR body false 1).l (takeR body false 1).sh 1).sh 1).got, 0, 0, 0, fun i => (takeR (takeR (takeR (takeR body false 1).l (takeR body false 1).sh 1).l (takeR (takeR body false 1).l (takeR body false 1).sh 1).sh 1).l (takeR (takeR (takeR body false 1).l (takeR body false 1).sh 1).l (takeR (takeR body false 1).l (takeR body false 1).sh 1).sh 1).sh 16).got.getD i 0, zf, none, 0, 0, ⟨#[]⟩⟩ (takeR (takeR (takeR (takeR body false 1).l (takeR body false 1).sh 1).l (takeR (takeR body false 1).l (takeR body false 1).sh 1).sh 1).l (takeR (takeR (takeR body false 1).l (takeR body false 1).sh 1).l (takeR (takeR body false 1).l (takeR body false 1).sh 1).sh 1).sh 16).l (takeR (takeR (takeR (takeR body false 1).l (takeR body false 1).sh 1).l (takeR (takeR body false 1).l (takeR body false 1).sh 1).sh 1).l (takeR (takeR (takeR body false 1).l (takeR body false 1).sh 1).l (takeR (takeR body false 1).l (takeR body false 1).sh 1).sh 1).sh 16).sh) := hcut
      clear hcut V
      go_wp2_with fail
      refine (number_any (w.heap.size + 1) ((takeR (takeR (takeR (takeR body false 1).l (takeR body false 1).sh 1).l (takeR (takeR body false 1).l (takeR body false 1).sh 1).sh 1).l (takeR (takeR (takeR body false 1).l (takeR body false 1).sh 1).l (takeR (takeR body false 1).l (takeR body false 1).sh 1).sh 1).sh 16).l) ((takeR (takeR (takeR (takeR body false 1).l (takeR body false 1).sh 1).l (takeR (takeR body false 1).l (takeR body false 1).sh 1).sh 1).l (takeR (takeR (takeR body false 1).l (takeR body false 1).sh 1).l (takeR (takeR body false 1).l (takeR body false 1).sh 1).sh 1).sh 16).sh) _ 2 rfl (by omega) _ V2.out.inp).mono ?_
      rintro e w5 ⟨rfl, hin5, ht5⟩
      have U5 : Hid (Bun w w5 _ (takeR ((takeR (takeR (takeR (takeR body false 1).l (takeR body false 1).sh 1).l (takeR (takeR body false 1).l (takeR body false 1).sh 1).sh 1).l (takeR (takeR (takeR body false 1).l (takeR body false 1).sh 1).l (takeR (takeR body false 1).l (takeR body false 1).sh 1).sh 1).sh 16).l) ((takeR (takeR (takeR (takeR body false 1).l (takeR body false 1).sh 1).l (takeR (takeR body false 1).l (takeR body false 1).sh 1).sh 1).l (takeR (takeR (takeR body false 1).l (takeR body false 1).sh 1).l (takeR (takeR body false 1).l (takeR body false 1).sh 1).sh 1).sh 16).sh) 2).l (takeR ((takeR (takeR (takeR (takeR body false 1).l (takeR body false 1).sh 1).l (takeR (takeR body false 1).l (takeR body false 1).sh 1).sh 1).l (takeR (takeR (takeR body false 1).l (takeR body false 1).sh 1).l (takeR (takeR body false 1).l (takeR body false 1).sh 1).sh 1).sh 16).l) ((takeR (takeR (takeR (takeR body false 1).l (takeR body false 1).sh 1).l (takeR (takeR body false 1).l (takeR body false 1).sh 1).sh 1).l (takeR (takeR (takeR body false 1).l (takeR body false 1).sh 1).l (takeR (takeR body false 1).l (takeR body false 1).sh 1).sh 1).sh 16).sh) 2).sh) := V2.out.turn ht5 hin5
      clear hin5 ht5 V2
      have R5 := Row.of U5.out.req
      have F5 := frz_row U5.out.req
      unfold Row at R5
      go_wp2_with fail
      go_meet
      case rel => exact ⟨none, 0, 0, by rw [HR.out]; exact U5.out.set 3 _ ((rd1 (takeR body false 1).l (takeR body false 1).sh).rq none 0 0) (by kernel_rfl), by rw [HR.out]; exact ⟨OwnC.nil _ _, fun a ha => by cases ha⟩⟩
    by_cases h2 : n = 2
    · subst h2
      have HR : Hid (rdOf body = rd2 (takeR body false 1).l (takeR body false 1).sh) := by show _ = _; unfold rdOf; simp [hk.out]
      go_wp2_with fail
      refine (number_any (w.heap.size + 1) ((takeR body false 1).l) ((takeR body false 1).sh) _ 1 rfl (by omega) _ U.out.inp).mono ?_
      rintro e w2 ⟨rfl, hin2, ht2⟩
      have U2 : Hid (Bun w w2 _ (takeR ((takeR body false 1).l) ((takeR body false 1).sh) 1).l (takeR ((takeR body false 1).l) ((takeR body false 1).sh) 1).sh) := U.out.turn ht2 hin2
      clear hin2 ht2 U
      go_wp2_with fail
      refine (number_any (w.heap.size + 1) ((takeR (takeR body false 1).l (takeR body false 1).sh 1).l) ((takeR (takeR body false 1).l (takeR body false 1).sh 1).sh) _ 1 rfl (by omega) _ U2.out.inp).mono ?_
      rintro e w3 ⟨rfl, hin3, ht3⟩
      have U3 : Hid (Bun w w3 _ (takeR ((takeR (takeR body false 1).l (takeR body false 1).sh 1).l) ((takeR (takeR body false 1).l (takeR body false 1).sh 1).sh) 1).l (takeR ((takeR (takeR body false 1).l (takeR body false 1).sh 1).l) ((takeR (takeR body false 1).l (takeR body false 1).sh 1).sh) 1).sh) := U2.out.turn ht3 hin3
      clear hin3 ht3 U2
      have R3 := Row.of U3.out.req
      have F3 := frz_row U3.out.req
      unfold Row at R3
      go_upto_region 10 with fail
      have V : Hid (Bun w ((w3.setCell ⟨w.heap.size + 1 + 1, 1, none⟩ (.int .i64 (beN (takeR (takeR body false 1).l (takeR body false 1).sh 1).got))).setCell ⟨w.heap.size + 1 + 1, 2, none⟩ (.int .i64 (beN (takeR (takeR (takeR body false 1).l (takeR body false 1).sh 1).l (takeR (takeR body false 1).l (takeR body false 1).sh 1).sh 1).got))) ⟨2, beN (takeR (takeR body false 1).l (takeR body false 1).sh 1).got, beN (takeR (takeR (takeR body false 1).l (takeR body false 1).sh 1).l (takeR (takeR body false 1).l (takeR body false 1).sh 1).sh 1).got, 0, 0, 0, zf, zf, none, 0, 0, ⟨#[]⟩⟩ (takeR (takeR (takeR body false 1).l (takeR body false 1).sh 1).l (takeR (takeR body false 1).l (takeR body false 1).sh 1).sh 1).l (takeR (takeR (takeR body false 1).l (takeR body false 1).sh 1).l (takeR (takeR body false 1).l (takeR body false 1).sh 1).sh 1).sh) := (U3.out.set 1 _ ⟨2, beN (takeR (takeR body false 1).l (takeR body false 1).sh 1).got, 0, 0, 0, 0, zf, zf, none, 0, 0, ⟨#[]⟩⟩ (by kernel_rfl)).set 2 _ _ (by kernel_rfl)
      clear R3 F3 U3
      generalize (w3.setCell ⟨w.heap.size + 1 + 1, 1, none⟩ (.int .i64 (beN (takeR (takeR body false 1).l (takeR body false 1).sh 1).got))).setCell ⟨w.heap.size + 1 + 1, 2, none⟩ (.int .i64 (beN (takeR (takeR (takeR body false 1).l (takeR body false 1).sh 1).l (takeR (takeR body false 1).l (takeR body false 1).sh 1).sh 1).got)) = W at *
      go_region_with (go_at_call 78; refine (take_any (w.heap.size + 1) (takeR (takeR (takeR body false 1).l (takeR body false 1).sh 1).l (takeR (takeR body false 1).l (takeR body false 1).sh 1).sh 1).l (takeR (takeR (takeR body false 1).l (takeR body false 1).sh 1).l (takeR (takeR body false 1).l (takeR body false 1).sh 1).sh 1).sh _ 8 rfl (by omega) _ V.out.drew.inp).mono ?_; rintro e w4 ⟨rfl, hin4, ht4⟩; have U4 := V.out.drew.turn ht4 hin4; have hcp := copy_mac _ _ _ _ _ _ _ _ _ _ _ (takeR (takeR (takeR (takeR body false 1).l (takeR body false 1).sh 1).l (takeR (takeR body false 1).l (takeR body false 1).sh 1).sh 1).l (takeR (takeR (takeR body false 1).l (takeR body false 1).sh 1).l (takeR (takeR body false 1).l (takeR body false 1).sh 1).sh 1).sh 8).got (takeR_got _ _ _) U4.req; have H4 : Hid _ := U4; clear U4 hin4 ht4)
      all_goals
        go_wp2_with fail
        go_meet
        case rel => exact ⟨none, 0, 0, by rw [HR.out]; exact H4.out.setRow _, by rw [HR.out]; exact ⟨OwnC.nil _ _, fun a ha => by cases ha⟩⟩
    by_cases h3 : n = 3
    · subst h3
      have HR : Hid (rdOf body = rd3 (takeR body false 1).l (takeR body false 1).sh) := by show _ = _; unfold rdOf; simp [hk.out]
      go_wp2_with fail
      refine (number_any (w.heap.size + 1) ((takeR body false 1).l) ((takeR body false 1).sh) _ 1 rfl (by omega) _ U.out.inp).mono ?_
      rintro e w2 ⟨rfl, hin2, ht2⟩
      have U2 : Hid (Bun w w2 _ (takeR ((takeR body false 1).l) ((takeR body false 1).sh) 1).l (takeR ((takeR body false 1).l) ((takeR body false 1).sh) 1).sh) := U.out.turn ht2 hin2
      clear hin2 ht2 U
      have R2 := Row.of U2.out.req
      have F2 := frz_row U2.out.req
      unfold Row at R2
      go_wp2_with fail
      go_meet
      case rel => exact ⟨none, 0, 0, by rw [HR.out]; exact U2.out.set 2 _ ((rd3 (takeR body false 1).l (takeR body false 1).sh).rq none 0 0) (by kernel_rfl), by rw [HR.out]; exact ⟨OwnC.nil _ _, fun a ha => by cases ha⟩⟩
    by_cases h4 : n = 4
    · subst h4
      have HR : Hid (rdOf body = rd4 (takeR body false 1).l (takeR body false 1).sh) := by show _ = _; unfold rdOf; simp [hk.out]
      go_wp2_with fail
      refine (number_any (w.heap.size + 1) ((takeR body false 1).l) ((takeR body false 1).sh) _ 1 rfl (by omega) _ U.out.inp).mono ?_
      rintro e w2 ⟨rfl, hin2, ht2⟩
      have U2 : Hid (Bun w w2 _ (takeR ((takeR body false 1).l) ((takeR body false 1).sh) 1).l (takeR ((takeR body false 1).l) ((takeR body false 1).sh) 1).sh) := U.out.turn ht2 hin2
      clear hin2 ht2 U
      have R2 := Row.of U2.out.req
      have F2 := frz_row U2.out.req
      unfold Row at R2
      go_upto_region 15 with fail
      have V : Hid (Bun w (w2.setCell ⟨w.heap.size + 1 + 1, 1, none⟩ (.int .i64 (beN (takeR (takeR body false 1).l (takeR body false 1).sh 1).got))) ⟨4, beN (takeR (takeR body false 1).l (takeR body false 1).sh 1).got, 0, 0, 0, 0, zf, zf, none, 0, 0, ⟨#[]⟩⟩ (takeR (takeR body false 1).l (takeR body false 1).sh 1).l (takeR (takeR body false 1).l (takeR body false 1).sh 1).sh) := U2.out.set 1 _ _ (by kernel_rfl)
      clear R2 F2 U2
      generalize w2.setCell ⟨w.heap.size + 1 + 1, 1, none⟩ (.int .i64 (beN (takeR (takeR body false 1).l (takeR body false 1).sh 1).got)) = W at *
      have hzW := V.out.siz
      go_wp2_with fail
      refine (claims_any (w.heap.size + 1) (takeR (takeR body false 1).l (takeR body false 1).sh 1).l (takeR (takeR body false 1).l (takeR body false 1).sh 1).sh W V.out.inp (by omega)).mono ?_
      rintro e w3 ⟨v3, rfl, hown3, hin3, hg3⟩
      have U3 : Hid (Bun w w3 ⟨4, beN (takeR (takeR body false 1).l (takeR body false 1).sh 1).got, 0, 0, 0, 0, zf, zf, none, 0, 0, ⟨#[]⟩⟩ (claimsR (takeR (takeR body false 1).l (takeR body false 1).sh 1).l (takeR (takeR body false 1).l (takeR body false 1).sh 1).sh).l (claimsR (takeR (takeR body false 1).l (takeR body false 1).sh 1).l (takeR (takeR body false 1).l (takeR body false 1).sh 1).sh).sh) := V.out.grown hg3 hin3
      obtain ⟨sa, sn, sc, rfl, hcl3, _, hblk⟩ := hown3.cl
      have C3 : Hid (OwnC w3 w.heap.size (.slice sa sn sc) (claimsR (takeR (takeR body false 1).l (takeR body false 1).sh 1).l (takeR (takeR body false 1).l (takeR body false 1).sh 1).sh).cl) := World.ownsRow.mono hown3 (by omega)
      have K3 : Hid (∀ a, sa = some a → W.heap.size ≤ a.block ∧ a.block < w3.heap.size) := hblk
      clear hown3 hin3 hg3 hcl3 hblk V
      have R3 := Row.of U3.out.req
      have F3 := frz_row U3.out.req
      unfold Row at R3
      go_upto_region 16 with fail
      have V : Hid (Bun w (w3.setCell ⟨w.heap.size + 1 + 1, 30, none⟩ (.slice sa sn sc)) ⟨4, beN (takeR (takeR body false 1).l (takeR body false 1).sh 1).got, 0, 0, 0, 0, zf, zf, sa, sn, sc, ⟨#[]⟩⟩ (claimsR (takeR (takeR body false 1).l (takeR body false 1).sh 1).l (takeR (takeR body false 1).l (takeR body false 1).sh 1).sh).l (claimsR (takeR (takeR body false 1).l (takeR body false 1).sh 1).l (takeR (takeR body false 1).l (takeR body false 1).sh 1).sh).sh) := U3.out.set 30 _ _ (by kernel_rfl)
      clear R3 F3 U3
      go_wp2_with fail
      refine (text_any (w.heap.size + 1) (claimsR (takeR (takeR body false 1).l (takeR body false 1).sh 1).l (takeR (takeR body false 1).l (takeR body false 1).sh 1).sh).l (claimsR (takeR (takeR body false 1).l (takeR body false 1).sh 1).l (takeR (takeR body false 1).l (takeR body false 1).sh 1).sh).sh _ V.out.inp).mono ?_
      rintro e w4 ⟨rfl, hin4, hg4⟩
      have U4 : Hid (Bun w w4 _ (textR (claimsR (takeR (takeR body false 1).l (takeR body false 1).sh 1).l (takeR (takeR body false 1).l (takeR body false 1).sh 1).sh).l (claimsR (takeR (takeR body false 1).l (takeR body false 1).sh 1).l (takeR (takeR body false 1).l (takeR body false 1).sh 1).sh).sh).l (textR (claimsR (takeR (takeR body false 1).l (takeR body false 1).sh 1).l (takeR (takeR body false 1).l (takeR body false 1).sh 1).sh).l (claimsR (takeR (takeR body false 1).l (takeR body false 1).sh 1).l (takeR (takeR body false 1).l (takeR body false 1).sh 1).sh).sh).sh) := V.out.grown hg4 hin4
      have C4 : Hid (OwnC w4 w.heap.size (.slice sa sn sc) (claimsR (takeR (takeR body false 1).l (takeR body false 1).sh 1).l (takeR (takeR body false 1).l (takeR body false 1).sh 1).sh).cl) := C3.out.kept (fun a ha => by
        have h1 := K3.out a ha
        rw [hg4.block a.block (by simp; omega) (by simp; omega)]
        exact Below.heap_setCell _ _ _ _ (by simp; omega))
      have K4 : Hid (∀ a, sa = some a → W.heap.size ≤ a.block) := fun a ha => (K3.out a ha).1
      clear hin4 hg4 V C3 K3
      have R4 := Row.of U4.out.req
      have F4 := frz_row U4.out.req
      unfold Row at R4
      go_wp2_with fail
      go_meet
      case rel =>
        refine ⟨sa, sn, sc, by rw [HR.out]; exact U4.out.set 31 _ ((rd4 (takeR body false 1).l (takeR body false 1).sh).rq sa sn sc) (by kernel_rfl), ?_⟩
        rw [HR.out]
        exact ⟨C4.out.kept (fun a ha => Below.heap_setCell _ _ _ _ (by have := K4.out a ha; simp; omega)), fun a ha => by have := K4.out a ha; omega⟩
    by_cases h5 : n = 5
    · subst h5
      have HR : Hid (rdOf body = rd5 (takeR body false 1).l (takeR body false 1).sh) := by show _ = _; unfold rdOf; simp [hk.out]
      go_wp2_with fail
      refine (number_any (w.heap.size + 1) ((takeR body false 1).l) ((takeR body false 1).sh) _ 4 rfl (by omega) _ U.out.inp).mono ?_
      rintro e w2 ⟨rfl, hin2, ht2⟩
      have U2 : Hid (Bun w w2 _ (takeR ((takeR body false 1).l) ((takeR body false 1).sh) 4).l (takeR ((takeR body false 1).l) ((takeR body false 1).sh) 4).sh) := U.out.turn ht2 hin2
      clear hin2 ht2 U
      have R2 := Row.of U2.out.req
      have F2 := frz_row U2.out.req
      unfold Row at R2
      go_upto_region 19 with fail
      have V : Hid (Bun w (w2.setCell ⟨w.heap.size + 1 + 1, 4, none⟩ (.int .i64 (beN (takeR (takeR body false 1).l (takeR body false 1).sh 4).got))) ⟨5, 0, 0, 0, beN (takeR (takeR body false 1).l (takeR body false 1).sh 4).got, 0, zf, zf, none, 0, 0, ⟨#[]⟩⟩ (takeR (takeR body false 1).l (takeR body false 1).sh 4).l (takeR (takeR body false 1).l (takeR body false 1).sh 4).sh) := U2.out.set 4 _ _ (by kernel_rfl)
      clear R2 F2 U2
      go_wp2_with fail
      refine (number_any (w.heap.size + 1) ((takeR (takeR body false 1).l (takeR body false 1).sh 4).l) ((takeR (takeR body false 1).l (takeR body false 1).sh 4).sh) _ 1 rfl (by omega) _ V.out.inp).mono ?_
      rintro e w3 ⟨rfl, hin3, ht3⟩
      have U3 : Hid (Bun w w3 _ (takeR ((takeR (takeR body false 1).l (takeR body false 1).sh 4).l) ((takeR (takeR body false 1).l (takeR body false 1).sh 4).sh) 1).l (takeR ((takeR (takeR body false 1).l (takeR body false 1).sh 4).l) ((takeR (takeR body false 1).l (takeR body false 1).sh 4).sh) 1).sh) := V.out.turn ht3 hin3
      clear hin3 ht3 V
      have R3 := Row.of U3.out.req
      have F3 := frz_row U3.out.req
      unfold Row at R3
      go_wp2_with fail
      go_meet
      case rel => exact ⟨none, 0, 0, by rw [HR.out]; exact U3.out.set 5 _ ((rd5 (takeR body false 1).l (takeR body false 1).sh).rq none 0 0) (by kernel_rfl), by rw [HR.out]; exact ⟨OwnC.nil _ _, fun a ha => by cases ha⟩⟩
    by_cases h6 : n = 6
    · subst h6
      have HR : Hid (rdOf body = rd6 (takeR body false 1).l (takeR body false 1).sh) := by show _ = _; unfold rdOf; simp [hk.out]
      go_wp2_with fail
      refine (number_any (w.heap.size + 1) ((takeR body false 1).l) ((takeR body false 1).sh) _ 4 rfl (by omega) _ U.out.inp).mono ?_
      rintro e w2 ⟨rfl, hin2, ht2⟩
      have U2 : Hid (Bun w w2 _ (takeR ((takeR body false 1).l) ((takeR body false 1).sh) 4).l (takeR ((takeR body false 1).l) ((takeR body false 1).sh) 4).sh) := U.out.turn ht2 hin2
      clear hin2 ht2 U
      have R2 := Row.of U2.out.req
      have F2 := frz_row U2.out.req
      unfold Row at R2
      go_wp2_with fail
      go_meet
      case rel => exact ⟨none, 0, 0, by rw [HR.out]; exact U2.out.set 4 _ ((rd6 (takeR body false 1).l (takeR body false 1).sh).rq none 0 0) (by kernel_rfl), by rw [HR.out]; exact ⟨OwnC.nil _ _, fun a ha => by cases ha⟩⟩
    · have HR : Hid (rdOf body = ⟨n, 0, 0, 0, 0, 0, zf, zf, [], [], (takeR body false 1).l, (takeR body false 1).sh⟩) := by show _ = _; unfold rdOf; simp [hk.out, h1, h2, h3, h4, h5, h6]
      have n1 : (n == 1) = false := beq_eq_false_iff_ne.2 h1
      have n2 : (n == 2) = false := beq_eq_false_iff_ne.2 h2
      have n3 : (n == 3) = false := beq_eq_false_iff_ne.2 h3
      have n4 : (n == 4) = false := beq_eq_false_iff_ne.2 h4
      have n5 : (n == 5) = false := beq_eq_false_iff_ne.2 h5
      have n6 : (n == 6) = false := beq_eq_false_iff_ne.2 h6
      clear h1 h2 h3 h4 h5 h6
      go_wp2_with fail
      go_meet
      case rel => exact ⟨none, 0, 0, by rw [HR.out]; exact U.out, by rw [HR.out]; exact ⟨OwnC.nil _ _, fun a ha => by cases ha⟩⟩
  case rest =>
    obtain ⟨sa, sn, sc, hU, hC, hKb⟩ := hcut
    obtain ⟨q, hq⟩ : ∃ q, Hid (q = (rdOf body).rq sa sn sc) := ⟨_, rfl⟩
    obtain ⟨l, hl2⟩ : ∃ l, Hid (l = (rdOf body).l) := ⟨_, rfl⟩
    obtain ⟨sh, hsh⟩ : ∃ sh, Hid (sh = (rdOf body).sh) := ⟨_, rfl⟩
    rw [← hq.out, ← hl2.out, ← hsh.out] at hU
    have U : Hid (Bun w wc q l sh) := hU
    have C : Hid (OwnC wc w.heap.size (.slice sa sn sc) (rdOf body).cl) := hC
    have KB : Hid (∀ a, sa = some a → w.heap.size + 1 + 1 < a.block) := hKb
    clear hU hC hKb
    have HS : Hid (wc.drew.heap[w.heap.size + 1 + 1]? = some (.cells q.row 28) ∧ In wc.drew (w.heap.size + 1) l sh) := ⟨U.out.drew.req, U.out.drew.inp⟩
    go_upto_region 22 with fail
    refine wp_region_held (S := fun w' => w'.heap[w.heap.size + 1 + 1]? = some (.cells q.row 28) ∧ In w' (w.heap.size + 1) l sh) (by kernel_rfl) ?_
    refine take_at (i := 0) (d := 56) (v := .agg q.row) rfl (by kernel_rfl) (by kernel_rfl) (by kernel_rfl) (by kernel_rfl) (fun _ _ _ h => h) (yieldsIf_load_req (by kernel_rfl) (.tmp 5) (by kernel_rfl) (w.heap.size + 1 + 1) (by kernel_rfl) q (fun _ h => h.1)) HS.out ?_
    simp only [Act.put, List.setIfInBounds_toArray, List.set_cons_zero, List.set_cons_succ]
    refine take_at (i := 1) (d := 57) (v := .pointer (some ⟨w.heap.size + 1, 1, none⟩)) rfl (by kernel_rfl) (by kernel_rfl) (by kernel_rfl) (by kernel_rfl) (fun _ _ _ h => h) (.inl ⟨by kernel_rfl, fun w' h => by simp [execOp, go_sem]⟩) HS.out ?_
    simp only [Act.put, List.setIfInBounds_toArray, List.set_cons_zero, List.set_cons_succ]
    refine take_at (i := 2) (d := 58) (v := .bool sh) rfl (by kernel_rfl) (by kernel_rfl) (by kernel_rfl) (by kernel_rfl) (fun _ _ _ h => h) (.inl ⟨by kernel_rfl, fun w' h => by simp [execOp, go_sem, h.2.2.1]⟩) HS.out ?_
    simp only [Act.put, List.setIfInBounds_toArray, List.set_cons_zero, List.set_cons_succ]
    refine take_at (i := 3) (d := 59) (v := .bool (!sh)) rfl (by kernel_rfl) (by kernel_rfl) (by kernel_rfl) (by kernel_rfl) (fun _ _ _ h => h) (.inl ⟨by kernel_rfl, fun w' h => by simp [execOp, go_sem]⟩) HS.out ?_
    simp only [Act.put, List.setIfInBounds_toArray, List.set_cons_zero, List.set_cons_succ]
    refine take_at (i := 4) (d := 60) (v := .bool (!sh)) rfl (by kernel_rfl) (by kernel_rfl) (by kernel_rfl) (by kernel_rfl) (fun _ _ _ h => h) (.inl ⟨by kernel_rfl, fun w' h => by simp [execOp, go_sem]⟩) HS.out ?_
    simp only [Act.put, List.setIfInBounds_toArray, List.set_cons_zero, List.set_cons_succ]
    cases sh with
    | true =>
      refine take_at (i := 5) (d := 61) (v := undef) rfl (by kernel_rfl) (by kernel_rfl) (by kernel_rfl) (by kernel_rfl) (fun _ _ _ h => h) (.inr ⟨by kernel_rfl, rfl⟩) HS.out ?_
      simp only [Act.put, List.setIfInBounds_toArray, List.set_cons_zero, List.set_cons_succ]
      refine take_at (i := 6) (d := 62) (v := undef) rfl (by kernel_rfl) (by kernel_rfl) (by kernel_rfl) (by kernel_rfl) (fun _ _ _ h => h) (.inr ⟨by kernel_rfl, rfl⟩) HS.out ?_
      simp only [Act.put, List.setIfInBounds_toArray, List.set_cons_zero, List.set_cons_succ]
      refine take_at (i := 7) (d := 63) (v := undef) rfl (by kernel_rfl) (by kernel_rfl) (by kernel_rfl) (by kernel_rfl) (fun _ _ _ h => h) (.inr ⟨by kernel_rfl, rfl⟩) HS.out ?_
      simp only [Act.put, List.setIfInBounds_toArray, List.set_cons_zero, List.set_cons_succ]
      refine take_at (i := 8) (d := 64) (v := .bool false) rfl (by kernel_rfl) (by kernel_rfl) (by kernel_rfl) (by kernel_rfl) (fun _ _ _ h => h) (.inl ⟨by kernel_rfl, fun w' h => by simp [execOp, go_sem]⟩) HS.out ?_
      simp only [Act.put, List.setIfInBounds_toArray, List.set_cons_zero, List.set_cons_succ]
      refine wpAnyH_all (rs := [9]) (by kernel_rfl) (by simp) ?_
      intro i hi
      simp only [List.mem_singleton] at hi
      subst hi
      have HS2 : Hid ((wc.drew.setRow w.heap.size q.row).heap[w.heap.size + 1 + 1]? = some (.cells q.row 28) ∧ In (wc.drew.setRow w.heap.size q.row) (w.heap.size + 1) _ _) := ⟨(setRow_other _ _ _ _ (by omega)).trans HS.out.1, HS.out.2.turn (c := w.heap.size) ⟨rfl, rfl, rfl, by simp, fun k hk => setRow_other _ _ _ _ hk⟩ (by omega)⟩
      refine wpOp_store_req rfl (by kernel_rfl) (.tmp 2) (.tmp 56) (by kernel_rfl) (by kernel_rfl) w.heap.size (by kernel_rfl) z0 q (by kernel_rfl) U.out.drew.res ⟨HS2.out, ?_⟩
      refine take_at (i := 10) (d := 3) (v := .bool false) rfl (by kernel_rfl) (by kernel_rfl) (by kernel_rfl) (by kernel_rfl) (fun _ _ _ h => h) (.inl ⟨by kernel_rfl, fun w' h => by simp [execOp, go_sem]⟩) HS2.out ?_
      simp only [Act.put, List.setIfInBounds_toArray, List.set_cons_zero, List.set_cons_succ]
      refine wpAnyH_done (by kernel_rfl) ?_ _
      go_wp2
      have hrow := setRow_heap wc.drew w.heap.size z0.row q.row 28 (0, 0) U.out.drew.res
      refine bodyPost_ret (v := .tuple #[.agg q.row, .bool false]) ?_ rfl ⟨sa, sn, sc, by rw [hq.out, ← hsh.out, ← hl2.out]; rfl, ?_, ?_⟩
      · exact results_req Try.results47 _ _ w.heap.size q (.bool false) rfl rfl hrow
      · exact C.out.kept (fun a ha => setRow_other _ _ _ _ (by have := KB.out a ha; omega))
      · exact U.out.bel.drew.trans ⟨rfl, rfl, rfl, by simp, fun k hk => setRow_other _ _ _ _ (by omega)⟩
    | false =>
      cases l with
      | nil =>
        refine take_at (i := 5) (d := 61) (v := .pointer (some ⟨w.heap.size + 1, 0, none⟩)) rfl (by kernel_rfl) (by kernel_rfl) (by kernel_rfl) (by kernel_rfl) (fun _ _ _ h => h) (.inl ⟨by kernel_rfl, fun w' h => by simp [execOp, go_sem]⟩) HS.out ?_
        simp only [Act.put, List.setIfInBounds_toArray, List.set_cons_zero, List.set_cons_succ]
        refine take_at (i := 6) (d := 62) (v := .string ⟨#[]⟩) rfl (by kernel_rfl) (by kernel_rfl) (by kernel_rfl) (by kernel_rfl) (fun _ _ _ h => h) (.inl ⟨by kernel_rfl, fun w' h => by have := h.2.1; simp [execOp, go_sem, this]; rfl⟩) HS.out ?_
        simp only [Act.put, List.setIfInBounds_toArray, List.set_cons_zero, List.set_cons_succ]
        refine take_at (i := 7) (d := 63) (v := .bool true) rfl (by kernel_rfl) (by kernel_rfl) (by kernel_rfl) (by kernel_rfl) (fun _ _ _ h => h) (.inl ⟨by kernel_rfl, fun w' h => by simp [execOp, go_sem]⟩) HS.out ?_
        simp only [Act.put, List.setIfInBounds_toArray, List.set_cons_zero, List.set_cons_succ]
        refine take_at (i := 8) (d := 64) (v := .bool true) rfl (by kernel_rfl) (by kernel_rfl) (by kernel_rfl) (by kernel_rfl) (fun _ _ _ h => h) (.inl ⟨by kernel_rfl, fun w' h => by simp [execOp, go_sem]⟩) HS.out ?_
        simp only [Act.put, List.setIfInBounds_toArray, List.set_cons_zero, List.set_cons_succ]
        refine wpAnyH_all (rs := [9]) (by kernel_rfl) (by simp) ?_
        intro i hi
        simp only [List.mem_singleton] at hi
        subst hi
        have HS2 : Hid ((wc.drew.setRow w.heap.size q.row).heap[w.heap.size + 1 + 1]? = some (.cells q.row 28) ∧ In (wc.drew.setRow w.heap.size q.row) (w.heap.size + 1) _ _) := ⟨(setRow_other _ _ _ _ (by omega)).trans HS.out.1, HS.out.2.turn (c := w.heap.size) ⟨rfl, rfl, rfl, by simp, fun k hk => setRow_other _ _ _ _ hk⟩ (by omega)⟩
        refine wpOp_store_req rfl (by kernel_rfl) (.tmp 2) (.tmp 56) (by kernel_rfl) (by kernel_rfl) w.heap.size (by kernel_rfl) z0 q (by kernel_rfl) U.out.drew.res ⟨HS2.out, ?_⟩
        refine take_at (i := 10) (d := 3) (v := .bool true) rfl (by kernel_rfl) (by kernel_rfl) (by kernel_rfl) (by kernel_rfl) (fun _ _ _ h => h) (.inl ⟨by kernel_rfl, fun w' h => by simp [execOp, go_sem]⟩) HS2.out ?_
        simp only [Act.put, List.setIfInBounds_toArray, List.set_cons_zero, List.set_cons_succ]
        refine wpAnyH_done (by kernel_rfl) ?_ _
        go_wp2
        have hrow := setRow_heap wc.drew w.heap.size z0.row q.row 28 (0, 0) U.out.drew.res
        refine bodyPost_ret (v := .tuple #[.agg q.row, .bool true]) ?_ rfl ⟨sa, sn, sc, by rw [hq.out, ← hsh.out, ← hl2.out]; rfl, ?_, ?_⟩
        · exact results_req Try.results47 _ _ w.heap.size q (.bool true) rfl rfl hrow
        · exact C.out.kept (fun a ha => setRow_other _ _ _ _ (by have := KB.out a ha; omega))
        · exact U.out.bel.drew.trans ⟨rfl, rfl, rfl, by simp, fun k hk => setRow_other _ _ _ _ (by omega)⟩
      | cons b l =>
        refine take_at (i := 5) (d := 61) (v := .pointer (some ⟨w.heap.size + 1, 0, none⟩)) rfl (by kernel_rfl) (by kernel_rfl) (by kernel_rfl) (by kernel_rfl) (fun _ _ _ h => h) (.inl ⟨by kernel_rfl, fun w' h => by simp [execOp, go_sem]⟩) HS.out ?_
        simp only [Act.put, List.setIfInBounds_toArray, List.set_cons_zero, List.set_cons_succ]
        refine take_at (i := 6) (d := 62) (v := .string (strB (b :: l))) rfl (by kernel_rfl) (by kernel_rfl) (by kernel_rfl) (by kernel_rfl) (fun _ _ _ h => h) (.inl ⟨by kernel_rfl, fun w' h => by have := h.2.1; simp [execOp, go_sem, this]⟩) HS.out ?_
        simp only [Act.put, List.setIfInBounds_toArray, List.set_cons_zero, List.set_cons_succ]
        refine take_at (i := 7) (d := 63) (v := .bool false) rfl (by kernel_rfl) (by kernel_rfl) (by kernel_rfl) (by kernel_rfl) (fun _ _ _ h => h) (.inl ⟨by kernel_rfl, fun w' h => by simp [execOp, go_sem, str_cons_ne]⟩) HS.out ?_
        simp only [Act.put, List.setIfInBounds_toArray, List.set_cons_zero, List.set_cons_succ]
        refine take_at (i := 8) (d := 64) (v := .bool false) rfl (by kernel_rfl) (by kernel_rfl) (by kernel_rfl) (by kernel_rfl) (fun _ _ _ h => h) (.inl ⟨by kernel_rfl, fun w' h => by simp [execOp, go_sem]⟩) HS.out ?_
        simp only [Act.put, List.setIfInBounds_toArray, List.set_cons_zero, List.set_cons_succ]
        refine wpAnyH_all (rs := [9]) (by kernel_rfl) (by simp) ?_
        intro i hi
        simp only [List.mem_singleton] at hi
        subst hi
        have HS2 : Hid ((wc.drew.setRow w.heap.size q.row).heap[w.heap.size + 1 + 1]? = some (.cells q.row 28) ∧ In (wc.drew.setRow w.heap.size q.row) (w.heap.size + 1) _ _) := ⟨(setRow_other _ _ _ _ (by omega)).trans HS.out.1, HS.out.2.turn (c := w.heap.size) ⟨rfl, rfl, rfl, by simp, fun k hk => setRow_other _ _ _ _ hk⟩ (by omega)⟩
        refine wpOp_store_req rfl (by kernel_rfl) (.tmp 2) (.tmp 56) (by kernel_rfl) (by kernel_rfl) w.heap.size (by kernel_rfl) z0 q (by kernel_rfl) U.out.drew.res ⟨HS2.out, ?_⟩
        refine take_at (i := 10) (d := 3) (v := .bool false) rfl (by kernel_rfl) (by kernel_rfl) (by kernel_rfl) (by kernel_rfl) (fun _ _ _ h => h) (.inl ⟨by kernel_rfl, fun w' h => by simp [execOp, go_sem]⟩) HS2.out ?_
        simp only [Act.put, List.setIfInBounds_toArray, List.set_cons_zero, List.set_cons_succ]
        refine wpAnyH_done (by kernel_rfl) ?_ _
        go_wp2
        have hrow := setRow_heap wc.drew w.heap.size z0.row q.row 28 (0, 0) U.out.drew.res
        refine bodyPost_ret (v := .tuple #[.agg q.row, .bool false]) ?_ rfl ⟨sa, sn, sc, by rw [hq.out, ← hsh.out, ← hl2.out]; rfl, ?_, ?_⟩
        · exact results_req Try.results47 _ _ w.heap.size q (.bool false) rfl rfl hrow
        · exact C.out.kept (fun a ha => setRow_other _ _ _ _ (by have := KB.out a ha; omega))
        · exact U.out.bel.drew.trans ⟨rfl, rfl, rfl, by simp, fun k hk => setRow_other _ _ _ _ (by omega)⟩
end Go.Proofs.Ytpnfkcbbjcimgaa
