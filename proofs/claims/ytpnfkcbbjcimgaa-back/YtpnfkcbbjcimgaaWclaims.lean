import Derived.Test.YtpnfkcbbjcimgaaOwn
import Derived.Test.YtpnfkcbbjcimgaaRq
import Derived.Deep.AppendLies
namespace Go.Proofs.Ytpnfkcbbjcimgaa
open Go.RowKit
theorem Cl.below {w wx : World} {sa : Option Addr} {sn base : Nat} {cl : List (Int × Int)} (h : Cl w sa sn cl) (hb : Below base w wx) (hlt : sn ≠ 0 → ∀ a, sa = some a → a.block < base) : Cl wx sa sn cl := by
  obtain ⟨h1, h2⟩ := h
  refine ⟨h1, ?_⟩
  rcases h2 with h2 | ⟨b, off, h3, h4⟩
  · exact .inl h2
  · by_cases h0 : sn = 0
    · exact .inl h0
    have hl := hlt h0 _ h3
    exact .inr ⟨b, off, h3, fun i hi => ⟨(hb.cell (p := ⟨b, off + i * 2, none⟩) hl).trans (h4 i hi).1, (hb.cell (p := ⟨b, off + i * 2 + 1, none⟩) hl).trans (h4 i hi).2⟩⟩
/-- Claims as bytes. -/
def clBytes (cl : List (Int × Int)) : List (BitVec 8) := cl.flatMap fun c => BitVec.ofInt 8 c.1 :: numTo c.2 2 2
theorem clBytes_snoc (cl : List (Int × Int)) (c : Int × Int) : clBytes (cl ++ [c]) = clBytes cl ++ [BitVec.ofInt 8 c.1] ++ numTo c.2 2 2 := by
  unfold clBytes; rw [List.flatMap_append]; simp
theorem clBytes_length : ∀ cl : List (Int × Int), (clBytes cl).length = 3 * cl.length
  | [] => rfl
  | c :: cl => by
    have ih := clBytes_length cl
    unfold clBytes at ih ⊢
    rw [List.flatMap_cons, List.length_append, ih, List.length_cons, List.length_cons, numTo_length]; omega
theorem c_far {wr w2 : World} {base : Nat} {v : Value} {l : List (BitVec 8)} {A : Array Value} {t : TypeId} {p : Obj} (O : Own wr base v l) (hg : ((wr.alloc (.cells A t)).alloc p).grownBy w2 v.ownBlock) (i : Nat) (u : Value) (hu : A[i]? = some u) :
    w2.cell? ⟨wr.heap.size, i, none⟩ = some u := by
  rw [hg.cell_far ⟨wr.heap.size, i, none⟩ (by simp; omega) (by intro e; have h := (World.ownsRow.lt O _ e.symm).2; exact absurd h (by simp))]
  rw [World.cell?_alloc_lt _ _ _ (by simp)]
  exact (Row.of (blk_newest rfl _) i).trans hu
set_option maxRecDepth 100000 in
set_option maxHeartbeats 1000000 in
theorem appendClaims_any (base : Nat) (v : Value) (l : List (BitVec 8)) (sa : Option Addr) (sn sc : Nat) (cl : List (Int × Int)) (hl : l.length ≤ 100) (hn : sn ≤ 100) (w : World) (hbase : base ≤ w.heap.size) (hown : Own w base v l)
    (hcl : Cl w sa sn cl) (hlt : sn ≠ 0 → ∀ a, sa = some a → a.block < base) :
    Calls Try.prog 55 #[v, .slice sa sn sc] w fun e w' => ∃ v', e = .returned v' ∧ Own w' base v' (l ++ [BitVec.ofInt 8 sn] ++ clBytes cl) ∧ Below base w w' := by
  have O0 : Hid (Own w base v l) := hown
  have HC : Hid (Cl w sa sn cl) := hcl
  have HL : Hid (sn ≠ 0 → ∀ a, sa = some a → a.block < base) := hlt
  have hlen0 : l.length + 1 ≤ 100000 := by omega
  clear hown hcl hlt
  go_enter Try.func55, Try.ntmps55
  go_wp2_with (at_builtin; refine wpList_app rfl _ _ rfl base _ l [BitVec.ofInt 8 sn] rfl (O0.out.alloc _) ⟨w.heap.size, 0, none⟩ 1 1 rfl rfl (news_newest rfl (by rw [List.map_cons, bv, B_ofInt]; simp; omega)) hlen0 (by simp; omega) ?_; intro v1 w1 hown1 hgrow1)
  have O1 : Hid (Own w1 base v1 (l ++ [BitVec.ofInt 8 sn])) := hown1
  have B1 : Hid (Below base w w1) := ((Below.refl _ _).alloc hbase _).trans ((O0.out.alloc _).below hgrow1 (by simp; omega))
  have hz1 := hgrow1.size
  simp at hz1
  clear hown1 hgrow1 O0
  go_wp2_with fail
  go_loopw [0, 6, 15] (fun v _ i wr => ∃ k : Nat, k ≤ sn ∧ i = .int .i64 k ∧ Own wr base v (l ++ [BitVec.ofInt 8 sn] ++ clBytes (cl.take k)) ∧ Below base w wr ∧ base ≤ wr.heap.size) (fun _ _ i _ => sn - (intOf i).toNat)
  case atStart => exact ⟨0, by omega, rfl, by simpa [clBytes] using O1.out, B1.out, by omega⟩
  case round =>
    obtain ⟨k, hk, rfl, hown, hb, hbs⟩ := hrel
    have O : Hid (Own wr base _ (l ++ [BitVec.ofInt 8 sn] ++ clBytes (cl.take k))) := hown
    have BB : Hid (Below base w wr) := hb
    clear hown hb O1 B1 hz1
    have hcn := HC.out.1
    by_cases hlt : k < sn
    · obtain ⟨b, off, hs, hcell⟩ := ((HC.out.below BB.out HL.out).2).resolve_left (by omega)
      subst hs
      obtain ⟨c1, c2⟩ := hcell k hlt
      have HD : Hid (cl.take (k + 1) = cl.take k ++ [cl.getD k (0, 0)]) := by
        show _ = _
        rw [List.take_succ_eq_append_getElem (by omega)]
        simp [List.getD, List.getElem?_eq_getElem (show k < cl.length from by omega)]
      have HLn : Hid ((l ++ [BitVec.ofInt 8 sn] ++ clBytes (cl.take k)).length + 1 ≤ 100000) := by
        show _ + 1 ≤ _
        rw [List.length_append, List.length_append, clBytes_length, List.length_take]; simp; omega
      have HL2 : Hid ((l ++ [BitVec.ofInt 8 sn] ++ clBytes (cl.take k) ++ [BitVec.ofInt 8 (cl.getD k (0, 0)).1]).length ≤ 10000) := by
        show _ ≤ _
        rw [List.length_append, List.length_append, List.length_append, clBytes_length, List.length_take]; simp; omega
      clear hcell hcn
      generalize cl.getD k (0, 0) = c at *
      obtain ⟨d, r⟩ := c
      dsimp only at c1 c2
      go_wp2_with (at_builtin; refine wpList_app rfl _ _ rfl base _ (l ++ [BitVec.ofInt 8 sn] ++ clBytes (cl.take k)) [BitVec.ofInt 8 d] rfl ((O.out.alloc _).alloc _) ⟨wr.heap.size + 1, 0, none⟩ 1 1 rfl rfl (news_newest (by simp) (by simp [bv, B_ofInt])) HLn.out (by simp; omega) ?_; intro v2 w2 hown2 hgrow2; have c3 := c_far O.out hgrow2 1 (.int .i64 r) rfl)
      have O2 : Hid (Own w2 base v2 (l ++ [BitVec.ofInt 8 sn] ++ clBytes (cl.take k) ++ [BitVec.ofInt 8 d])) := hown2
      have B2 : Hid (Below base w w2) := ((BB.out.alloc hbs _).alloc (by simp; omega) _).trans (((O.out.alloc _).alloc _).below hgrow2 (by simp; omega))
      have hz2 := hgrow2.size
      simp at hz2
      clear hown2 hgrow2 c1 c2 c3
      refine (appendNumber_any base v2 (l ++ [BitVec.ofInt 8 sn] ++ clBytes (cl.take k) ++ [BitVec.ofInt 8 d]) r _ 2 rfl (by omega) HL2.out _ (by omega) O2.out).mono ?_
      rintro e w3 ⟨v3, rfl, hown3, hb3⟩
      have O3 : Hid (Own w3 base v3 (l ++ [BitVec.ofInt 8 sn] ++ clBytes (cl.take (k + 1)))) := by
        show Own w3 base v3 _
        rw [HD.out, clBytes_snoc]
        simpa [List.append_assoc] using hown3
      have B3 : Hid (Below base w w3) := B2.out.trans hb3
      have hz3 := hb3.size
      clear hown3 hb3
      go_wp2
      go_roundw
      case rel => exact ⟨k + 1, by omega, by go_num, O3.out, B3.out, by omega⟩
      case measure => simp [intOf]; omega
    · have e : k = sn := by omega
      subst e
      have e2 : cl.take k = cl := List.take_of_length_le (by omega)
      have O2 : Hid (Own wr base u0 (l ++ [BitVec.ofInt 8 k] ++ clBytes cl)) := by
        have := O.out
        rw [e2] at this
        exact this
      clear e2 O hcn
      go_wp2
      go_ret
      exact ⟨_, rfl, O2.out, BB.out⟩
end Go.Proofs.Ytpnfkcbbjcimgaa
