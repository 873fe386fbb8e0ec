import Derived.Test.YtpnfkcbbjcimgaaLrow
namespace Go.Proofs.Ytpnfkcbbjcimgaa
open Go.RowKit
theorem cv_get : ∀ (l : List (Int × Int)) (i : Nat), i < l.length → (l.flatMap cv)[i * 2]? = some (.int .i64 (l.getD i (0, 0)).1) ∧ (l.flatMap cv)[i * 2 + 1]? = some (.int .i64 (l.getD i (0, 0)).2) := by
  intro l
  induction l with
  | nil => intro i hi; simp at hi
  | cons c l ih =>
    intro i hi
    cases i with
    | zero => exact ⟨rfl, rfl⟩
    | succ i =>
      have := ih i (by simpa using hi)
      rw [List.flatMap_cons]
      have e1 : (cv c ++ l.flatMap cv)[(i + 1) * 2]? = (l.flatMap cv)[i * 2]? := by
        rw [List.getElem?_append_right (by simp [cv]; omega)]; congr 1; simp [cv]; omega
      have e2 : (cv c ++ l.flatMap cv)[(i + 1) * 2 + 1]? = (l.flatMap cv)[i * 2 + 1]? := by
        rw [List.getElem?_append_right (by simp [cv]; omega)]; congr 1; simp [cv]; omega
      rw [e1, e2]
      simpa using this
/-- What was copied into the new block. -/
theorem lent_copy (sa : Option Addr) (sn sc : Nat) (cl : List (Int × Int)) (w : World) (h : Cl w sa sn cl) (M : Array Value) (hM : M.size = (sn + 8) * 2) :
    ∃ C : Array Value, C.size = (sn + 8) * 2 ∧ C.toList.take (sn * 2) = cl.flatMap cv ∧ (Builtin.copy_ #[26, 26] 3 #[.slice (some ⟨w.heap.size, 0, none⟩) (sn + 8) (sn + 8), .slice sa sn sc]).run Try.prog (w.alloc (.cells M 69)) = .ok (goInt sn) (w.alloc (.cells C 69)) := by
  obtain ⟨hl, h2⟩ := h
  by_cases h0 : sn = 0
  · subst h0
    have e : cl = [] := List.eq_nil_of_length_eq_zero hl
    subst e
    exact ⟨M, hM, by simp, run_copy0 _ _ _ _ _ _ _⟩
  · obtain ⟨b, off, rfl, hc⟩ := h2.resolve_left h0
    have hcs : (cl.flatMap cv).length = sn * 2 := by rw [cv_length, hl]
    have hcell : ∀ j v, (cl.flatMap cv)[j]? = some v → (w.alloc (.cells M 69)).cell? ((⟨b, off, none⟩ : Addr).add j) = some v := by
      intro j v hv
      have hj : j < (cl.flatMap cv).length := (List.getElem?_eq_some_iff.1 hv).1
      have hadd : (⟨b, off, none⟩ : Addr).add j = ⟨b, off + j, none⟩ := by unfold Addr.add; split <;> simp_all
      rw [hadd]
      have hi : j / 2 < sn := by omega
      obtain ⟨c1, c2⟩ := hc (j / 2) hi
      obtain ⟨g1, g2⟩ := cv_get cl (j / 2) (by omega)
      have hlater : ∀ {a : Addr} {u : Value}, w.cell? a = some u → (w.alloc (.cells M 69)).cell? a = some u := fun hu => cell_later ((Below.refl _ _).alloc (Nat.le_refl _) _) hu
      by_cases hp : j % 2 = 0
      · have ej : j = j / 2 * 2 := by omega
        rw [ej] at hv
        rw [g1] at hv
        cases hv
        rw [show off + j = off + j / 2 * 2 from by omega]
        exact hlater c1
      · have ej : j = j / 2 * 2 + 1 := by omega
        rw [ej] at hv
        rw [g2] at hv
        cases hv
        rw [show off + j = off + j / 2 * 2 + 1 from by omega]
        exact hlater c2
    have hr := run_copy2 (w.alloc (.cells M 69)) 3 w.heap.size (sn + 8) (sn + 8) ⟨b, off, none⟩ sn sc M 69 (cl.flatMap cv) (blk_newest rfl _) (by omega) hcs hcell (by omega) (cv_one cl)
    rw [setRow_new] at hr
    refine ⟨_, ?_, ?_, hr⟩
    · show (cl.flatMap cv ++ M.toList.drop (cl.flatMap cv).length).length = _
      have hml : M.toList.length = M.size := Array.length_toList
      rw [List.length_append, List.length_drop, hcs, hml, hM]
      omega
    · show (cl.flatMap cv ++ M.toList.drop (cl.flatMap cv).length).take (sn * 2) = _
      rw [← hcs, List.take_left]
/-- A claim is laid at a place of a block. -/
theorem laid2 (cur : List Value) (k n : Nat) (p q : Int) (cl : List (Int × Int)) (hk : k < n) (hc : cur.length = n * 2) (hcl : cl.length = k) (h : cur.take (k * 2) = cl.flatMap cv) :
    (cur.take (k * 2) ++ (cv (p, q) ++ cur.drop (k * 2 + 2))).length = n * 2 ∧ (cur.take (k * 2) ++ (cv (p, q) ++ cur.drop (k * 2 + 2))).take ((k + 1) * 2) = (cl ++ [(p, q)]).flatMap cv := by
  have e1 : (cur.take (k * 2) ++ cv (p, q)).length = (k + 1) * 2 := by rw [List.length_append, List.length_take]; simp [cv]; omega
  rw [← List.append_assoc]
  constructor
  · rw [List.length_append, e1, List.length_drop]; omega
  · rw [← e1, List.take_left, h, List.flatMap_append]
    rfl
theorem drop_rest (cur : List Value) (k : Nat) (p q : Int) (h : k * 2 + 2 ≤ cur.length) : (cur.take (k * 2) ++ (cv (p, q) ++ cur.drop (k * 2 + 2))).drop ((k + 1) * 2) = cur.drop ((k + 1) * 2) := by
  have e1 : (cur.take (k * 2) ++ cv (p, q)).length = (k + 1) * 2 := by rw [List.length_append, List.length_take]; simp [cv]; omega
  rw [← List.append_assoc, ← e1, List.drop_left, e1]
  congr 1
  omega
set_option maxRecDepth 100000 in
set_option maxHeartbeats 2000000 in
theorem lent_any (sa : Option Addr) (sn sc : Nat) (cl : List (Int × Int)) (w : World) (hn : sn ≤ 8796093022208) (h : Cl w sa sn cl) :
    Calls Try.prog 9 #[.slice sa sn sc] w fun e w' => e = .returned (.slice (some ⟨w.heap.size, 0, none⟩) (sn + 8) (sn + 8)) ∧ OwnC w' w.heap.size (.slice (some ⟨w.heap.size, 0, none⟩) (sn + 8) (sn + 8)) (cl ++ List.replicate 8 (-77, 0)) ∧ Below w.heap.size w w' := by
  obtain ⟨M, hM, hmk⟩ := made_claims (sn + 8) (by omega)
  obtain ⟨C, hC, hCt, hcp⟩ := lent_copy sa sn sc cl w h M hM
  have hl := h.1
  have HC : Hid (C.toList.take (sn * 2) = cl.flatMap cv) := hCt
  clear h hCt
  have hmk2 : ∀ W : World, (Instr.makeSlice 26 (.int .i64 ((sn : Int) + 8)) (.int .i64 ((sn : Int) + 8))).run Try.prog W = .ok (.slice (some ⟨W.heap.size, 0, none⟩) (sn + 8) (sn + 8)) (W.alloc (.cells M 69)) := hmk
  clear hmk
  go_enter Try.func9, Try.ntmps9
  go_wp2_with fail
  go_loopw [4] (fun i wr => ∃ (k : Nat) (cur : Array Value), sn ≤ k ∧ k ≤ sn + 8 ∧ i = .int .i64 k ∧ wr.heap[w.heap.size]? = some (.cells cur 69) ∧ cur.size = (sn + 8) * 2 ∧ cur.toList.take (k * 2) = (cl ++ List.replicate (k - sn) (-77, 0)).flatMap cv ∧ Below w.heap.size w wr) (fun i _ => sn + 8 - (intOf i).toNat)
  case atStart => exact ⟨sn, C, Nat.le_refl _, by omega, rfl, blk_newest rfl _, hC, by rw [HC.out]; simp, (Below.refl _ _).alloc (Nat.le_refl _) _⟩
  case round =>
    obtain ⟨k, cur, hk1, hk2, rfl, hblk, hcs, htk, hb⟩ := hrel
    have HB : Hid (wr.heap[w.heap.size]? = some (.cells cur 69)) := hblk
    have HT : Hid (cur.toList.take (k * 2) = (cl ++ List.replicate (k - sn) (-77, 0)).flatMap cv) := htk
    have BB : Hid (Below w.heap.size w wr) := hb
    clear hblk htk hb hcp hmk2
    by_cases hlt : k < sn + 8
    · have hll := laid2 cur.toList k (sn + 8) (-77) 0 (cl ++ List.replicate (k - sn) (-77, 0)) hlt (by rw [Array.length_toList, hcs]) (by simp; omega) HT.out
      have HL1 : Hid _ := hll.1
      have HL2 : Hid _ := hll.2
      clear hll
      go_wp2_with (first | (refine wpList_store2 rfl (.tmp 23) (.tmp 22) rfl w.heap.size (k * 2) (by rfl) (-77) 0 (by rfl) cur 69 HB.out (by omega) ?_) | (refine wpList_store2 rfl (.tmp 23) (.tmp 22) rfl w.heap.size (0 + k * 2) (by rfl) (-77) 0 (by rfl) cur 69 HB.out (by omega) ?_))
      go_roundw
      case rel => exact ⟨k + 1, _, by omega, by omega, by go_num, setRow_heap _ _ cur _ 69 (0, 0) HB.out, HL1.out, by rw [show k + 1 - sn = k - sn + 1 from by omega, List.replicate_succ', ← List.append_assoc cl]; exact HL2.out, below_setRow BB.out (Nat.le_refl _) _⟩
      case measure => simp [intOf]; omega
    · have hke : k = sn + 8 := by omega
      subst hke
      have O : Hid (OwnC wr w.heap.size (.slice (some ⟨w.heap.size, 0, none⟩) (sn + 8) (sn + 8)) (cl ++ List.replicate 8 (-77, 0))) := by
        refine ⟨by rw [cv_length], .inr ⟨w.heap.size, sn + 8, cur, ?_, Nat.le_refl _, HB.out, ?_, by unfold maxLen; omega, hcs, ?_⟩⟩
        · rw [List.length_append, hl, List.length_replicate]
        · rw [List.length_append, hl, List.length_replicate]
          exact Nat.le_refl _
        · rw [List.length_append, hl, List.length_replicate, HT.out, show sn + 8 - sn = 8 from by omega]
      go_wp2
      go_ret
      exact ⟨rfl, O.out, BB.out⟩
end Go.Proofs.Ytpnfkcbbjcimgaa
