import Derived.Test.YtpnfkcbbjcimgaaRows
import Derived.Test.YtpnfkcbbjcimgaaRdec
import Derived.ProofKit
import Derived.OpenShut
import Derived.ShutString
import Derived.ChangeOld
import Derived.SizedLaws
namespace Go.Proofs.Ytpnfkcbbjcimgaa
open Go.ChangeShapes Go.WideShapes Go.ChangeAt Go.RowKit
open Go.ChangeMaps (open_string)
theorem ownS : ownKnob Try.prog.godebug = none := by kernel_rfl
theorem laidOutS : laidOutB Try.prog = true := by kernel_rfl
theorem cells28 : Try.prog.cellsOf 28 = 32 := by kernel_rfl
theorem cells69 : Try.prog.cellsOf 69 = 2 := by kernel_rfl
theorem cells3 : Try.prog.cellsOf 3 = 1 := by kernel_rfl
theorem cells26 : Try.prog.cellsOf 26 = 1 := by kernel_rfl
theorem cells9 : Try.prog.cellsOf 9 = 1 := by kernel_rfl
theorem cells22S : Try.prog.cellsOf 22 = 16 := by kernel_rfl
theorem cells23S : Try.prog.cellsOf 23 = 8 := by kernel_rfl
theorem list2 {α : Type} (l : List α) (h : l.length = 2) : ∃ a b, l = [a, b] := by
  match l, h with
  | [a, b], _ => exact ⟨a, b, rfl⟩
theorem list32 {α : Type} (l : List α) (h : l.length = 32) : ∃ c0 c1 c2 c3 c4 c5 c6 c7 c8 c9 c10 c11 c12 c13 c14 c15 c16 c17 c18 c19 c20 c21 c22 c23 c24 c25 c26 c27 c28 c29 c30 c31, l = [c0, c1, c2, c3, c4, c5, c6, c7, c8, c9, c10, c11, c12, c13, c14, c15, c16, c17, c18, c19, c20, c21, c22, c23, c24, c25, c26, c27, c28, c29, c30, c31] := by
  match l, h with
  | [c0, c1, c2, c3, c4, c5, c6, c7, c8, c9, c10, c11, c12, c13, c14, c15, c16, c17, c18, c19, c20, c21, c22, c23, c24, c25, c26, c27, c28, c29, c30, c31], _ => exact ⟨c0, c1, c2, c3, c4, c5, c6, c7, c8, c9, c10, c11, c12, c13, c14, c15, c16, c17, c18, c19, c20, c21, c22, c23, c24, c25, c26, c27, c28, c29, c30, c31, rfl⟩
theorem mapSelf {α : Type} (f : α → α) : ∀ l : List α, (∀ v ∈ l, f v = v) → l.map f = l
  | [], _ => rfl
  | a :: l, h => by rw [List.map_cons, h a (by simp), mapSelf f l (fun v hv => h v (by simp [hv]))]
section
variable {H : Type} {enc : TypeId × Value → H} {w : World} {base : Nat} {spare : Nat → Bool} {held : Bool}
/-- An array of bytes that came in. -/
theorem openBytes {fuel t n : Nat} {cs : List Value} {x : DataW H × List MemPlace}
    (ht : Try.prog.underlying t = some (.array n 5)) (hc : Try.prog.cellsOf t = n) (h : DataW.trod enc Try.prog w base spare held fuel t cs = some x) :
    ∃ l : List (BitVec 8), l.length = n ∧ cs = l.map bv := by
  obtain ⟨xs, m, _, _, hl, hx, hel⟩ := DataW.trod_array ht h
  rw [cells5] at hel
  refine ⟨cs.map fun v => BitVec.ofInt 8 (intOf v), by rw [List.length_map, hl, hc], ?_⟩
  rw [List.map_map]
  refine (mapSelf _ cs ?_).symm
  intro v hv
  obtain ⟨i, hi, rfl⟩ := List.getElem_of_mem hv
  have h1 := hel i (by omega)
  rw [List.getElem?_eq_getElem (by omega)] at h1
  have hd : (cs.drop (i * 1)).take 1 = [cs[i]] := by
    rw [Nat.mul_one, List.drop_eq_getElem_cons hi]; rfl
  rw [hd] at h1
  obtain ⟨q, e0, _, wq⟩ := DataW.trod_int Try.underlying5 h1
  simp at e0
  obtain ⟨h0, h255⟩ := bounds_u8 wq
  have hB : B (BitVec.ofInt 8 q) = q := by
    rw [B_ofInt]; omega
  have hI : intOf cs[i] = q := by rw [e0]; rfl
  show Value.int .u8 (B (BitVec.ofInt 8 (intOf cs[i]))) = cs[i]
  rw [hI, hB, e0]
/-- A claim that came in. -/
theorem open_claim {fuel : Nat} {cs : List Value} {x : DataW H × List MemPlace} (h : DataW.trod enc Try.prog w base spare held fuel 69 cs = some x) : ∃ c : Int × Int, cs = [.int .i64 c.1, .int .i64 c.2] := by
  obtain ⟨xs, m, _, _, hl, hx, hel⟩ := DataW.trod_struct Try.underlying69 h
  have hx : xs.length = 2 := hx
  rw [cells69] at hl
  obtain ⟨a, b, rfl⟩ := list2 cs hl
  have f0 : DataW.trod enc Try.prog w base spare held m 3 (([a, b].drop 0).take (Try.prog.cellsOf 3)) = xs[0]? := hel 0 _ rfl
  have f1 : DataW.trod enc Try.prog w base spare held m 3 (([a, b].drop 1).take (Try.prog.cellsOf 3)) = xs[1]? := hel 1 _ rfl
  rw [List.getElem?_eq_getElem (by omega), cells3] at f0 f1
  obtain ⟨n0, e0, _, _⟩ := DataW.trod_int Try.underlying3 f0
  obtain ⟨n1, e1, _, _⟩ := DataW.trod_int Try.underlying3 f1
  simp at e0 e1
  subst e0 e1
  exact ⟨(n0, n1), rfl⟩
theorem Addr.plain (b o j : Nat) : (⟨b, o, none⟩ : Addr).add j = ⟨b, o + j, none⟩ := by unfold Go.Addr.add; split <;> simp_all
/-- A list of claims that came in. -/
theorem open_claims {fuel : Nat} {cs : List Value} {x : DataW H × List MemPlace} (h : DataW.trod enc Try.prog w base spare held fuel 26 cs = some x) :
    ∃ sa sn sc cl, cs = [.slice sa sn sc] ∧ Cl w sa sn cl ∧ sn ≤ maxLen ∧ (sn ≠ 0 → ∀ a, sa = some a → a.block < w.heap.size) := by
  rcases DataW.trod_slice Try.underlying26 h with ⟨rfl, _⟩ | ⟨a, len, cap, elems, rest, n, _, rfl, _, hb, hl, hm, hlen, hel, _, _⟩
  · exact ⟨none, 0, 0, [], rfl, ⟨rfl, .inl rfl⟩, by unfold maxLen; omega, fun h => absurd rfl h⟩
  · have each : ∀ i, i < len → ∃ c : Int × Int, w.cell? ((a.add (i * 2)).add 0) = some (.int .i64 c.1) ∧ w.cell? ((a.add (i * 2)).add 1) = some (.int .i64 c.2) := by
      intro i hi
      have h1 := hel i hi
      rw [List.getElem?_eq_getElem (by omega), cells69] at h1
      cases hc : w.cells? base (a.add (i * 2)) 2 with
      | none => rw [hc] at h1; cases h1
      | some cs' =>
        rw [hc] at h1
        obtain ⟨c, rfl⟩ := open_claim (show DataW.trod enc Try.prog w base spare held n 69 cs' = some _ from h1)
        obtain ⟨_, _, hcell⟩ := World.cells?_some hc
        exact ⟨c, hcell 0 (by omega), hcell 1 (by omega)⟩
    by_cases h0 : len = 0
    · subst h0
      exact ⟨some a, 0, cap, [], rfl, ⟨rfl, .inl rfl⟩, by omega, fun h => absurd rfl h⟩
    · obtain ⟨b, off, spot⟩ := a
      have hspot : spot = none := by
        obtain ⟨c, h1, _⟩ := each 0 (by omega)
        have := World.cell?_spot h1
        unfold Go.Addr.add at this
        split at this <;> simp_all
      subst hspot
      have each' : ∀ i, ∃ c : Int × Int, i < len → w.cell? (((⟨b, off, none⟩ : Addr).add (i * 2)).add 0) = some (.int .i64 c.1) ∧ w.cell? (((⟨b, off, none⟩ : Addr).add (i * 2)).add 1) = some (.int .i64 c.2) := by
        intro i
        by_cases hi : i < len
        · obtain ⟨c, hc⟩ := each i hi
          exact ⟨c, fun _ => hc⟩
        · exact ⟨(0, 0), fun h => absurd h hi⟩
      obtain ⟨f, hf⟩ := Classical.axiomOfChoice each'
      refine ⟨some ⟨b, off, none⟩, len, cap, (List.range len).map f, rfl, ⟨by simp, .inr ⟨b, off, rfl, fun i hi => ?_⟩⟩, by omega, fun _ a ha => ?_⟩
      · have hg : ((List.range len).map f).getD i (0, 0) = f i := by
          simp [List.getD, hi]
        rw [hg]
        have hs := hf i hi
        rw [Addr.plain, Addr.plain, Addr.plain] at hs
        exact hs
      · cases ha
        obtain ⟨c, h1, _⟩ := each 0 (by omega)
        have := World.block_lt_of_cell? w _ h1
        rw [Addr.plain, Addr.plain] at this
        exact this
set_option maxRecDepth 100000 in
/-- A request that came in. -/
theorem open_req {fuel : Nat} {cs : List Value} {x : DataW H × List MemPlace} (h : DataW.trod enc Try.prog w base spare held fuel 28 cs = some x) :
    ∃ (q : Rq) (cl : List (Int × Int)), cs = q.row.toList ∧ Cl w q.sa q.sn cl ∧ q.sn ≤ maxLen ∧ q.tx.size ≤ maxLen ∧ (q.sn ≠ 0 → ∀ a, q.sa = some a → a.block < w.heap.size) := by
  obtain ⟨xs, m, _, _, hl, hx, hel⟩ := DataW.trod_struct Try.underlying28 h
  have hx : xs.length = 10 := hx
  rw [cells28] at hl
  have f0 : DataW.trod enc Try.prog w base spare held m 3 ((cs.drop 0).take (Try.prog.cellsOf 3)) = xs[0]? := hel 0 _ rfl
  have f1 : DataW.trod enc Try.prog w base spare held m 3 ((cs.drop 1).take (Try.prog.cellsOf 3)) = xs[1]? := hel 1 _ rfl
  have f2 : DataW.trod enc Try.prog w base spare held m 3 ((cs.drop 2).take (Try.prog.cellsOf 3)) = xs[2]? := hel 2 _ rfl
  have f3 : DataW.trod enc Try.prog w base spare held m 3 ((cs.drop 3).take (Try.prog.cellsOf 3)) = xs[3]? := hel 3 _ rfl
  have f4 : DataW.trod enc Try.prog w base spare held m 3 ((cs.drop 4).take (Try.prog.cellsOf 3)) = xs[4]? := hel 4 _ rfl
  have f5 : DataW.trod enc Try.prog w base spare held m 3 ((cs.drop 5).take (Try.prog.cellsOf 3)) = xs[5]? := hel 5 _ rfl
  have f6 : DataW.trod enc Try.prog w base spare held m 22 ((cs.drop 6).take (Try.prog.cellsOf 22)) = xs[6]? := hel 6 _ rfl
  have f7 : DataW.trod enc Try.prog w base spare held m 23 ((cs.drop 22).take (Try.prog.cellsOf 23)) = xs[7]? := hel 7 _ rfl
  have f8 : DataW.trod enc Try.prog w base spare held m 26 ((cs.drop 30).take (Try.prog.cellsOf 26)) = xs[8]? := hel 8 _ rfl
  have f9 : DataW.trod enc Try.prog w base spare held m 9 ((cs.drop 31).take (Try.prog.cellsOf 9)) = xs[9]? := hel 9 _ rfl
  rw [List.getElem?_eq_getElem (by omega)] at f0 f1 f2 f3 f4 f5 f6 f7 f8 f9
  rw [cells3] at f0 f1 f2 f3 f4 f5
  rw [cells22S] at f6
  rw [cells23S] at f7
  rw [cells26] at f8
  rw [cells9] at f9
  obtain ⟨kd, e0, _, _⟩ := DataW.trod_int Try.underlying3 f0
  obtain ⟨ac, e1, _, _⟩ := DataW.trod_int Try.underlying3 f1
  obtain ⟨dv, e2, _, _⟩ := DataW.trod_int Try.underlying3 f2
  obtain ⟨rg, e3, _, _⟩ := DataW.trod_int Try.underlying3 f3
  obtain ⟨cu, e4, _, _⟩ := DataW.trod_int Try.underlying3 f4
  obtain ⟨mo, e5, _, _⟩ := DataW.trod_int Try.underlying3 f5
  obtain ⟨kl, hk, e6⟩ := openBytes Try.underlying22 cells22S f6
  obtain ⟨ml, hm, e7⟩ := openBytes Try.underlying23 cells23S f7
  obtain ⟨sa, sn, sc, cl, e8, hcl, hsn, hblk⟩ := open_claims f8
  obtain ⟨tx, e9, _, htx⟩ := DataW.trod_string Try.underlying9 f9
  refine ⟨⟨kd, ac, dv, rg, cu, mo, fun i => kl.getD i 0, fun i => ml.getD i 0, sa, sn, sc, tx⟩, cl, ?_, hcl, hsn, htx, hblk⟩
  clear f0 f1 f2 f3 f4 f5 f6 f7 f8 f9 hel hcl hsn htx hblk h
  obtain ⟨c0, c1, c2, c3, c4, c5, c6, c7, c8, c9, c10, c11, c12, c13, c14, c15, c16, c17, c18, c19, c20, c21, c22, c23, c24, c25, c26, c27, c28, c29, c30, c31, rfl⟩ := list32 cs hl
  obtain ⟨k0, k1, k2, k3, k4, k5, k6, k7, k8, k9, k10, k11, k12, k13, k14, k15, rfl⟩ := list_eq16 kl hk
  obtain ⟨m0, m1, m2, m3, m4, m5, m6, m7, rfl⟩ := list_eq8 ml hm
  simp only [List.drop_zero, List.drop_succ_cons, List.take_succ_cons, List.take_zero, List.map_cons, List.map_nil, List.cons.injEq, and_true] at e0 e1 e2 e3 e4 e5 e6 e7 e8 e9
  obtain ⟨a0, a1, a2, a3, a4, a5, a6, a7, a8, a9, a10, a11, a12, a13, a14, a15⟩ := e6
  obtain ⟨b0, b1, b2, b3, b4, b5, b6, b7⟩ := e7
  subst e0 e1 e2 e3 e4 e5 e8 e9 a0 a1 a2 a3 a4 a5 a6 a7 a8 a9 a10 a11 a12 a13 a14 a15 b0 b1 b2 b3 b4 b5 b6 b7
  rfl
end
end Go.Proofs.Ytpnfkcbbjcimgaa
