import Derived.Test.YtpnfkcbbjcimgaaPopen
import Derived.Test.YtpnfkcbbjcimgaaLcodes
namespace Go.Proofs.Ytpnfkcbbjcimgaa
open Go.ChangeShapes Go.WideShapes Go.ChangeAt Go.RowKit
open Go.ChangeMaps (open_string)
section
variable {H : Type} {enc : TypeId × Value → H} {w : World} {base : Nat} {spare : Nat → Bool} {held : Bool}
theorem bytes69 : Try.prog.bytesOf 69 = 16 := by kernel_rfl
/-- A request that came in, and how great its list may be. -/
theorem open_req_sized {fuel : Nat} {cs : List Value} {x : DataW H × List MemPlace} (h : DataW.trod enc Try.prog w base spare held fuel 28 cs = some x) (hw : (DataW.weights Try.prog 28 x.1).all (· ≤ reachBytes) = true) :
    ∃ (q : Rq) (cl : List (Int × Int)), cs = q.row.toList ∧ Cl w q.sa q.sn cl ∧ q.tx.size ≤ maxLen ∧ (q.sa = none → q.sn = 0 ∧ q.sc = 0) ∧ q.sn * 16 ≤ reachBytes := by
  obtain ⟨q, cl, e, hcl, _, htx, _⟩ := open_req h
  refine ⟨q, cl, e, hcl, htx, ?_⟩
  obtain ⟨xs, m, _, hxe, hl, hx, hel⟩ := DataW.trod_struct Try.underlying28 h
  have hx : xs.length = 10 := hx
  have f8 : DataW.trod enc Try.prog w base spare held m 26 ((cs.drop 30).take (Try.prog.cellsOf 26)) = xs[8]? := hel 8 _ rfl
  rw [List.getElem?_eq_getElem (by omega), cells26, e] at f8
  have f8' : DataW.trod enc Try.prog w base spare held m 26 [.slice q.sa q.sn q.sc] = some xs[8] := f8
  rcases DataW.trod_slice Try.underlying26 f8' with ⟨hc, _⟩ | ⟨a, len, cap, elems, rest, n, _, hc, hxx, _, _, _, hlen, _⟩
  · simp only [List.cons.injEq, and_true] at hc
    injection hc with c1 c2 c3
    exact ⟨fun _ => ⟨c2, c3⟩, by rw [c2]; omega⟩
  · simp only [List.cons.injEq, and_true] at hc
    injection hc with c1 c2 c3
    refine ⟨fun h0 => (by rw [c1] at h0; cases h0), ?_⟩
    rw [hxe] at hw
    simp only [DataW.weights, Try.underlying28] at hw
    have hd : (xs.map (·.1))[8]? = some (.slice (elems.map (·.1)) (rest.map (·.1))) := by
      rw [List.getElem?_map, List.getElem?_eq_getElem (by omega)]
      show some xs[8].1 = _
      rw [hxx]
    have hs := sized_slice hw (j := 8) (t := 26) (e := 69) (by rfl) hd Try.underlying26
    rw [bytes69, List.length_map, List.length_map, hlen, ← c2] at hs
    have : q.sn * 16 ≤ (q.sn + rest.length) * 16 := Nat.mul_le_mul_right _ (Nat.le_add_right _ _)
    omega
end
set_option maxHeartbeats 400000 in
set_option maxRecDepth 100000 in
theorem codes_lifted (os : Os) (started : os.Started) (H : Type) (enc : TypeId × Value → H) :
    ReturnsInHanded {} Try.checked os 4 .any (Rows.codesSpec.pre6 enc Try.prog Try.f4 Rows.codesRow.domain false) (Rows.codesSpec.post enc Try.prog Try.f4 false true false false) := by
  refine returnsInHanded_of_change_sized (C := Try.checked) ownS started (by kernel_rfl) Try.func4
    (ChangeSpec.witness6 (enc := enc) (C := Try.checked) false ⟨#[], #[.agg #[.int .i64 0, .int .i64 0, .int .i64 0, .int .i64 0, .int .i64 0, .int .i64 0, .int .u8 0, .int .u8 0, .int .u8 0, .int .u8 0, .int .u8 0, .int .u8 0, .int .u8 0, .int .u8 0, .int .u8 0, .int .u8 0, .int .u8 0, .int .u8 0, .int .u8 0, .int .u8 0, .int .u8 0, .int .u8 0, .int .u8 0, .int .u8 0, .int .u8 0, .int .u8 0, .int .u8 0, .int .u8 0, .int .u8 0, .int .u8 0, .slice none 0 0, .string ⟨#[]⟩], .string ⟨#[]⟩], []⟩ 8 (by kernel_rfl) (by kernel_rfl) (by kernel_rfl) (by kernel_rfl)) ?_
  intro W base args ds gs before hval0 hW hcnd hsz0 _
  have hval : ∀ (j : Nat) t v, Try.f4.params[j]? = some t → args[j]? = some v → Value.okWide Try.prog W .any base t v := hval0
  have hW' := hW
  obtain ⟨p, q, hA0, hV, rfl, hfz, hnd⟩ := hW
  have hA : DataW.TrodAll enc Try.prog W 0 (fun _ => true) true Try.f4.params.toList args.toList ds p := hA0
  have hsz : (DataW.weightsEach Try.prog (Try.f4.params.toList ++ Rows.codesSpec.plain.varTypes Try.prog) (ds ++ gs)).all (· ≤ reachBytes) = true := hsz0
  rw [Try.params4] at hA hval hsz
  obtain ⟨v0, v1, x0, x1, p0, p1, rfl, rfl, rfl, h0, h1⟩ := trodAll_two hA
  obtain ⟨rfl, rfl⟩ := trodVars_none hV
  have k0 := h0
  have lt0 : ∀ x ∈ p0, x.block < W.heap.size := by obtain ⟨m, hm⟩ := k0; exact DataW.trod_lt m _ _ _ hm
  have k1 := h1
  have lt1 : ∀ x ∈ p1, x.block < W.heap.size := by obtain ⟨m, hm⟩ := k1; exact DataW.trod_lt m _ _ _ hm
  obtain ⟨c0, rfl⟩ : ∃ cs, v0 = .agg cs := by
    have := hval 0 28 v0 rfl rfl
    simp [Value.okWide, Try.underlying28] at this
    obtain ⟨cs, h, _⟩ := this
    exact ⟨cs, h⟩
  have hw0 : (DataW.weights Try.prog 28 x0).all (· ≤ reachBytes) = true := by
    rw [List.all_eq_true]
    intro n hn
    exact List.all_eq_true.1 hsz n (DataW.weights_mem_each (j := 0) (t := 28) rfl rfl n hn)
  obtain ⟨r, cl, er, hcl, htx, hnil, hsn⟩ : ∃ (q : Rq) (cl : List (Int × Int)), c0.toList = q.row.toList ∧ Cl W q.sa q.sn cl ∧ q.tx.size ≤ maxLen ∧ (q.sa = none → q.sn = 0 ∧ q.sc = 0) ∧ q.sn * 16 ≤ reachBytes := by
    obtain ⟨fuel, hf⟩ := h0
    obtain ⟨q, cl, a, b⟩ := open_req_sized hf hw0
    exact ⟨q, cl, a, b⟩
  have ec : c0 = r.row := Array.toList_inj.1 er
  subst ec
  obtain ⟨s, rfl, rfl, rfl, _⟩ := open_string Try.underlying9 (hval 1 9 v1 rfl rfl) h1
  have hx1 := sized_string hsz (j := 1) (t := 9) rfl rfl
  have hx2 : s.data.toList.length = s.size := Array.length_toList
  clear hA0 hval0 hval
  have h47 := reachBytes_lt
  have hb : (txB s).length ≤ 140737488355328 := by rw [txB_length]; omega
  have := codes_any r cl (txB s) W (by omega) htx hcl hnil hb
  rw [strB_txB] at this
  refine this.mono fun e W' ⟨he, bel⟩ => ?_
  subst he
  exact ⟨_, rfl, _, _, _, [], _, [], hW', trodAll_mk1 (shut_bool Try.underlying4 _), (trodAll_cons_mk (Below.trod laidOutS (by kernel_rfl) (of_decide_eq_true (by kernel_rfl)) k0 bel lt0) (trodAll_cons_mk (Below.trod laidOutS (by kernel_rfl) (of_decide_eq_true (by kernel_rfl)) k1 bel lt1) trodAll_mk0)), rfl, bel.frame _, fun h => by cases h⟩
theorem codes_holds : Rows.CodesSaid :=
  OpenClaim.holds_of_wide 4 Try.f4 rfl rfl rfl rfl rfl rfl rfl ⟨rfl, rfl, rfl, rfl, rfl⟩ rfl rfl rfl rfl rfl (by kernel_rfl) Try.func4 (by kernel_rfl)
    (of_decide_eq_true (by kernel_rfl)) (by unfold Func.isWrapper; first | (rw [if_pos (by decide +kernel)]; kernel_rfl) | (rw [if_neg (by decide +kernel)]; exact ⟨rfl, rfl⟩))
    (fun os started H enc _ => codes_lifted os started H enc)
#print axioms codes_holds
end Go.Proofs.Ytpnfkcbbjcimgaa
