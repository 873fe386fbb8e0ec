import Derived.Test.YtpnfkcbbjcimgaaRdec
import Derived.ArgAppend
namespace Go.Proofs.Ytpnfkcbbjcimgaa
open Go.RowKit
/-- append onto a slice of one's own: the new one, and what the old one still reads. -/
theorem run_append_keeps (w : World) (base : Nat) (t ty e : TypeId) (i : TypeInfo) (z : Value) (size bytes : Nat) (ht : Try.prog.underlying t = some (.slice e)) (hi : Try.prog.info? e = some i) (hz : i.zero = some z)
    (hsize : i.size = size) (hby : i.bytes = bytes) (hzs : z.cells.size = size) (hsz : 0 < size)
    (v : Value) (n : Nat) (xs : List Value) (hown : w.ownsRow base e size v n xs)
    (a : Addr) (m c : Nat) (news : List Value) (hl : news.length = m * size) (hnews : ∀ j u, news[j]? = some u → w.cell? (a.add j) = some u) (h1 : ∀ u ∈ news, u.oneCell' = true)
    (h63 : n + m ≤ maxLen) (hbytes : (n + m) * bytes ≤ 140737488355328) (hbase : base ≤ w.heap.size) :
    ∃ v' w', (Builtin.append_ #[t, t] ty #[v, .slice (some a) m c]).run Try.prog w = .ok v' w' ∧ w'.ownsRow base e size v' (n + m) (xs ++ news) ∧ w.grownBy w' v.ownBlock ∧ w'.ownsRow base e size v n xs ∧
      (v'.ownBlock = v.ownBlock ∨ ∀ j, v'.ownBlock = some j → w.heap.size ≤ j) := by
  rcases hown.2 with ⟨rfl, rfl⟩ | ⟨g, cap, cur, rfl, hb, hg, hnc, hcm, hcs, htk⟩
  · have hx : xs = [] := List.eq_nil_of_length_eq_zero (by have := hown.1; omega)
    subst hx
    obtain ⟨v', w', hr, h2, h3, _⟩ := run_append_own (P := Try.prog) w w.heap.size t ty e i z size bytes ht hi hz hsize hby hzs hsz _ 0 [] (World.ownsRow_nil _ _ _ _) a m c news hl hnews h1 h63 hbytes (Nat.le_refl _)
    exact ⟨v', w', hr, World.ownsRow.mono h2 hbase, h3, World.ownsRow_nil _ _ _ _, .inr fun j hj => (World.ownsRow.lt h2 j hj).1⟩
  · by_cases hroom : n + m ≤ cap
    · subst hsize
      have hlen : xs.length = n * i.size := hown.1
      have hfit : n * i.size + news.length ≤ cur.size := by
        rw [hl, hcs, ← Nat.add_mul]
        exact Nat.mul_le_mul_right _ hroom
      have hr := run_append_room (P := Try.prog) w t ty e i ht hi g n cap cur hg a m c news hl hnews h1 hroom hfit
      rw [htk] at hr
      have hsz2 : (xs ++ news ++ cur.toList.drop (n * i.size + news.length)).toArray.size = cap * i.size := by
        show (xs ++ news ++ cur.toList.drop (n * i.size + news.length)).length = cap * i.size
        have hcl : cur.toList.length = cur.size := Array.length_toList
        rw [List.length_append, List.length_append, List.length_drop, hlen, hcl]
        omega
      refine ⟨_, _, hr, ⟨by rw [List.length_append, hlen, hl, Nat.add_mul], .inr ⟨g, cap, _, rfl, hb, setRow_heap w g cur _ e (0, 0) hg, hroom, hcm, hsz2, ?_⟩⟩, ⟨rfl, rfl, rfl, by simp [World.setRow], fun k _ hk => setRow_other w g k _ (fun e => hk (by rw [e]; rfl))⟩, ⟨hlen, .inr ⟨g, cap, _, rfl, hb, setRow_heap w g cur _ e (0, 0) hg, hnc, hcm, hsz2, ?_⟩⟩, .inl rfl⟩
      · have : (n + m) * i.size = (xs ++ news).length := by rw [List.length_append, hlen, hl, Nat.add_mul]
        show (xs ++ news ++ cur.toList.drop (n * i.size + news.length)).take ((n + m) * i.size) = xs ++ news
        rw [this, List.take_left]
      · show (xs ++ news ++ cur.toList.drop (n * i.size + news.length)).take (n * i.size) = xs
        rw [← hlen, List.append_assoc, List.take_left]
    · have holds : ∀ j u, xs[j]? = some u → w.cell? ((⟨g, 0, none⟩ : Addr).add j) = some u := World.ownsRow.cells hown rfl
      obtain ⟨v', w', hr, h2, h3⟩ := run_append_arg_grows (P := Try.prog) w t ty e i z size bytes ht hi hz hsize hby hzs hsz ⟨g, 0, none⟩ n cap xs hown.1 holds a m c news hl hnews (by omega) h63 hbytes
      refine ⟨v', w', hr, World.ownsRow.mono h2 hbase, ⟨h3.os, h3.tape, h3.output, h3.size, fun k hk _ => h3.block k hk (by simp)⟩, World.ownsRow.kept hown h3 (.inr (by simp [Value.ownBlock])), .inr fun j hj => (World.ownsRow.lt h2 j hj).1⟩
theorem wpList_append_keeps {w : World} {ops : Array Oper} {rest : List Oper} {o : Oper} {a : Act} {Q : Exit → Act → World → Prop} (hgd : o.guard = none) (s x : Operand) (t : TypeId)
    (ho : o.op = .call { callee := .builtin .append, args := #[s, x], argTypes := #[t, t] })
    (base : Nat) (e : TypeId) (i : TypeInfo) (z : Value) (size bytes : Nat) (ht : Try.prog.underlying t = some (.slice e)) (hi : Try.prog.info? e = some i) (hz : i.zero = some z)
    (hsize : i.size = size) (hby : i.bytes = bytes) (hzs : z.cells.size = size) (hsz : 0 < size)
    (v : Value) (n : Nat) (xs : List Value) (hs : a.eval s = v) (hown : w.ownsRow base e size v n xs)
    (ad : Addr) (m c : Nat) (news : List Value) (hx : a.eval x = .slice (some ad) m c) (hl : news.length = m * size) (hnews : ∀ j u, news[j]? = some u → w.cell? (ad.add j) = some u) (h1 : ∀ u ∈ news, u.oneCell' = true)
    (h63 : n + m ≤ maxLen) (hbytes : (n + m) * bytes ≤ 140737488355328) (hbase : base ≤ w.heap.size)
    (h : ∀ v' w', w'.ownsRow base e size v' (n + m) (xs ++ news) → w.grownBy w' v.ownBlock → w'.ownsRow base e size v n xs → (v'.ownBlock = v.ownBlock ∨ ∀ j, v'.ownBlock = some j → w.heap.size ≤ j) → wpList Try.prog ops Q rest (a.put o.dst v') w') : wpList Try.prog ops Q (o :: rest) a w := by
  refine wpList_plain hgd fun _ hK => ?_
  obtain ⟨v', w', hr, h2, h3, h4, h5⟩ := run_append_keeps w base t o.type e i z size bytes ht hi hz hsize hby hzs hsz v n xs hown ad m c news hl hnews h1 h63 hbytes hbase
  unfold Oper.wp execOp
  simp only [ho, resolve, invoke, builtin, Sem.run_bind, Sem.run_pure, Result.andThen_ok, List.map_toArray, List.map_cons, List.map_nil, hs, hx, hr]
  exact hK _ _ (h v' w' h2 h3 h4 h5)
/-- Two cells are stored into a block. -/
theorem wpList_store2 {w : World} {ops : Array Oper} {rest : List Oper} {o : Oper} {a : Act} {Q : Exit → Act → World → Prop} (hgd : o.guard = none) (x y : Operand) (ho : o.op = .store 69 x y)
    (g off : Nat) (hx : a.eval x = .pointer (some ⟨g, off, none⟩)) (p q : Int) (hy : a.eval y = .agg #[.int .i64 p, .int .i64 q]) (cur : Array Value) (t : TypeId) (hg : w.heap[g]? = some (.cells cur t)) (hfit : off + 2 ≤ cur.size)
    (h : wpList Try.prog ops Q rest (a.put o.dst undef) (w.setRow g (cur.toList.take off ++ cv (p, q) ++ cur.toList.drop (off + 2)).toArray)) : wpList Try.prog ops Q (o :: rest) a w := by
  refine wpList_plain hgd fun _ hK => ?_
  have hst := run_storeCells_at Try.prog g off t (cv (p, q)) 0 cur w hg (by simpa [cv] using hfit) (by intro v hv; simp [cv] at hv; rcases hv with rfl | rfl <;> rfl)
  have hi : (Try.prog.info? 69).map (·.size) = some 2 := by kernel_rfl
  have hr : (storeVar 69 ⟨g, off, none⟩ (.agg #[.int .i64 p, .int .i64 q])).run Try.prog w = .ok () (w.setRow g (cur.toList.take off ++ cv (p, q) ++ cur.toList.drop (off + 2)).toArray) := by
    cases hq : Try.prog.info? 69 with
    | none => simp [hq] at hi
    | some i =>
      have hs : i.size = 2 := by simpa [hq] using hi
      simp [storeVar, sizeOf, typeInfo, hq, Value.cells, hs]
      simpa [cv] using hst
  unfold Oper.wp execOp
  simp only [ho, hx, hy, Instr.storeAt, Instr.sureAddr, Sem.run_bind, Sem.run_pure, Result.andThen_ok, hr]
  exact hK _ _ h
/-- Claims are copied into a block. -/
theorem run_copy2 (w : World) (ty : TypeId) (g dLen dCap : Nat) (a : Addr) (sLen sCap : Nat) (cur : Array Value) (t : TypeId) (cs : List Value)
    (hg : w.heap[g]? = some (.cells cur t)) (hle : sLen ≤ dLen) (hn : cs.length = sLen * 2)
    (hsrc : ∀ j v, cs[j]? = some v → w.cell? (a.add j) = some v) (hfit : cs.length ≤ cur.size) (h1 : ∀ v ∈ cs, v.oneCell' = true) :
    (Builtin.copy_ #[26, 26] ty #[.slice (some ⟨g, 0, none⟩) dLen dCap, .slice (some a) sLen sCap]).run Try.prog w = .ok (goInt sLen) (w.setRow g (cs ++ cur.toList.drop cs.length).toArray) := by
  have hl := run_loadCells_list (P := Try.prog) w a cs hsrc
  have hst := run_storeCells_at Try.prog g 0 t cs 0 cur w hg (by simpa using hfit) h1
  have hi : (Try.prog.info? 69).map (·.size) = some 2 := by kernel_rfl
  have hmin : Nat.min sLen dLen = sLen := Nat.min_eq_left hle
  cases hq : Try.prog.info? 69 with
  | none => simp [hq] at hi
  | some i =>
    have hs : i.size = 2 := by simpa [hq] using hi
    have hm : sLen * i.size = cs.length := by rw [hs, hn]
    simp at hst
    simp [Builtin.copy_, run_underlying Try.underlying26, Builtin.lenOf, Builtin.firstCells, sizeOf, typeInfo, hq, hmin, hm, hl, hst]
theorem run_copy0 (w : World) (ty : TypeId) (g dLen dCap : Nat) (sa : Option Addr) (sCap : Nat) :
    (Builtin.copy_ #[26, 26] ty #[.slice (some ⟨g, 0, none⟩) dLen dCap, .slice sa 0 sCap]).run Try.prog w = .ok (goInt 0) w := by
  have hi : (Try.prog.info? 69).map (·.size) = some 2 := by kernel_rfl
  have hl : ∀ (x : Addr), (loadCells x 0).run Try.prog w = .ok #[] w := fun x => by simpa using run_loadCells_list (P := Try.prog) w x [] (by simp)
  cases hq : Try.prog.info? 69 with
  | none => simp [hq] at hi
  | some i => cases sa <;> simp [Builtin.copy_, run_underlying Try.underlying26, Builtin.lenOf, Builtin.firstCells, sizeOf, typeInfo, hq, storeCells, hl]
/-- Claims are made. -/
theorem made_claims (n : Nat) (hn : n ≤ 17592186044416) : ∃ M : Array Value, M.size = n * 2 ∧ ∀ W : World, (Instr.makeSlice 26 (.int .i64 (n : Int)) (.int .i64 (n : Int))).run Try.prog W = .ok (.slice (some ⟨W.heap.size, 0, none⟩) n n) (W.alloc (.cells M 69)) := by
  obtain ⟨i, hi, y0, y1, y2⟩ := info_parts rowInfo69
  refine ⟨madeCells (Value.agg #[.int .i64 0, .int .i64 0]).cells (((n : Nat) : Int).toNat * i.size), by rw [size_madeCells, y1]; simp, fun W => ?_⟩
  simpa using run_make (P := Try.prog) W 26 69 i (.agg #[.int .i64 0, .int .i64 0]) Try.underlying26 hi y0 .i64 .i64 n n (by omega) (by omega) (by rw [y2]; omega) (by omega)
end Go.Proofs.Ytpnfkcbbjcimgaa
