import Derived.Test.YtpnfkcbbjcimgaaWin
namespace Go.Proofs.Ytpnfkcbbjcimgaa
open Go.RowKit
theorem rowInfo69 : (Try.prog.info? 69).map (fun i => (i.zero, i.size, i.bytes)) = some (some (.agg #[.int .i64 0, .int .i64 0]), 2, 16) := by kernel_rfl
/-- A claim's cells. -/
def cv (c : Int × Int) : List Value := [.int .i64 c.1, .int .i64 c.2]
/-- A slice that the call itself has made, of these claims. -/
def OwnC (w : World) (base : Nat) (v : Value) (cl : List (Int × Int)) : Prop := w.ownsRow base 69 2 v cl.length (cl.flatMap cv)
theorem cv_length : ∀ cl : List (Int × Int), (cl.flatMap cv).length = cl.length * 2
  | [] => rfl
  | c :: cl => by rw [List.flatMap_cons, List.length_append, cv_length cl]; simp [cv]; omega
theorem cv_one (cl : List (Int × Int)) : ∀ u ∈ cl.flatMap cv, u.oneCell' = true := by
  intro u hu
  obtain ⟨c, _, hc⟩ := List.mem_flatMap.1 hu
  simp [cv] at hc
  rcases hc with rfl | rfl <;> rfl
theorem wpList_appC {w : World} {ops : Array Oper} {rest : List Oper} {o : Oper} {a : Act} {Q : Exit → Act → World → Prop} (hgd : o.guard = none) (s x : Operand)
    (ho : o.op = .call { callee := .builtin .append, args := #[s, x], argTypes := #[26, 26] }) (base : Nat) (v : Value) (cl nc : List (Int × Int)) (hs : a.eval s = v) (hown : OwnC w base v cl)
    (ad : Addr) (m c : Nat) (hx : a.eval x = .slice (some ad) m c) (hm : nc.length = m) (hnews : ∀ j u, (nc.flatMap cv)[j]? = some u → w.cell? (ad.add j) = some u) (hsm : cl.length + m ≤ 100000) (hbase : base ≤ w.heap.size)
    (h : ∀ v' w', OwnC w' base v' (cl ++ nc) → w.grownBy w' v.ownBlock → wpList Try.prog ops Q rest (a.put o.dst v') w') : wpList Try.prog ops Q (o :: rest) a w := by
  obtain ⟨i0, hi, hz0, hz1, hz2⟩ := info_parts rowInfo69
  subst hm
  refine wpList_append_own w hgd s x 26 ho base 69 i0 (.agg #[.int .i64 0, .int .i64 0]) 2 16 Try.underlying26 hi hz0 hz1 hz2 rfl (by decide) v cl.length (cl.flatMap cv) hs hown ad nc.length c (nc.flatMap cv) hx (cv_length nc) hnews (cv_one nc) (by unfold maxLen; omega) (by omega) hbase ?_
  intro v' w' h1 h2 _
  refine h v' w' ?_ h2
  unfold OwnC
  rw [List.length_append, List.flatMap_append]
  exact h1
theorem OwnC.alloc {w : World} {base : Nat} {v : Value} {cl : List (Int × Int)} (h : OwnC w base v cl) (o : Obj) : OwnC (w.alloc o) base v cl := World.ownsRow.alloc h o
theorem OwnC.nil (w : World) (base : Nat) : OwnC w base (.slice none 0 0) [] := World.ownsRow_nil w base 69 2
theorem OwnC.turn {w wx : World} {base b : Nat} {v : Value} {cl : List (Int × Int)} (h : OwnC w base v cl) (ht : Turn b w wx) (hb : b < base) : OwnC wx base v cl := by
  obtain ⟨h1, h2⟩ := h
  refine ⟨h1, ?_⟩
  rcases h2 with h2 | ⟨g, cap, cur, hv, hbg, hg, rest⟩
  · exact .inl h2
  · exact .inr ⟨g, cap, cur, hv, hbg, (ht.block g (by omega)).trans hg, rest⟩
theorem Turn.grown {b : Nat} {w wx : World} (h : Turn b w wx) : w.grownBy wx (some b) :=
  ⟨h.os, h.tape, h.output, Nat.le_of_eq h.size.symm, fun k _ hk => h.block k (fun e => hk (by rw [e]))⟩
theorem grown_new {b : Nat} {w w1 w2 : World} {row : Option Nat} (h : w.grownBy w1 (some b)) (k : w1.grownBy w2 row) (hr : ∀ j, row = some j → w.heap.size ≤ j) : w.grownBy w2 (some b) :=
  ⟨k.os.trans h.os, k.tape.trans h.tape, k.output.trans h.output, Nat.le_trans h.size k.size, fun j hj hne => (k.block j (by have := h.size; omega) (fun e => by have := hr j e.symm; omega)).trans (h.block j hj hne)⟩
theorem In.kept {w wx : World} {b : Nat} {l : List (BitVec 8)} {sh : Bool} {row : Option Nat} (h : In w b l sh) (hg : w.grownBy wx row) (hne : some b ≠ row) : In wx b l sh := by
  obtain ⟨h1, h2, h3, h4, h5⟩ := h
  have hlt := World.block_lt_of_cell? w _ h1
  exact ⟨(hg.cell_far ⟨b, 0, none⟩ hlt hne).trans h1, (hg.cell_far ⟨b, 1, none⟩ hlt hne).trans h2, (hg.frozen_far ⟨b, 0, none⟩ hlt hne).trans h3, (hg.frozen_far ⟨b, 1, none⟩ hlt hne).trans h4, h5⟩
/-- Reading claims. -/
structure Cs where
  cl : List (Int × Int)
  l : List (BitVec 8)
  sh : Bool
def clStep (s : Cs) : Cs := ⟨s.cl ++ [(beN (takeR s.l s.sh 1).got, beN (takeR (takeR s.l s.sh 1).l (takeR s.l s.sh 1).sh 2).got)], (takeR (takeR s.l s.sh 1).l (takeR s.l s.sh 1).sh 2).l, (takeR (takeR s.l s.sh 1).l (takeR s.l s.sh 1).sh 2).sh⟩
def clIter : Nat → Cs → Cs
  | 0, s => s
  | n + 1, s => clStep (clIter n s)
theorem clIter_length (n : Nat) (s : Cs) : (clIter n s).cl.length = s.cl.length + n := by
  induction n with
  | zero => rfl
  | succ n ih => show (clStep (clIter n s)).cl.length = _; unfold clStep; rw [List.length_append, ih]; rfl
def claimsR (l : List (BitVec 8)) (sh : Bool) : Cs := clIter (beN (takeR l sh 1).got).toNat ⟨[], (takeR l sh 1).l, (takeR l sh 1).sh⟩
theorem news_claim {W : World} {n : Nat} {x y : Int} {t : TypeId} (hn : W.heap.size = n) : ∀ j u, ([(x, y)].flatMap cv)[j]? = some u → (W.alloc (.cells #[.int .i64 x, .int .i64 y] t)).cell? ((⟨n, 0, none⟩ : Addr).add j) = some u := by
  intro j u hu
  subst hn
  have hadd : (⟨W.heap.size, 0, none⟩ : Addr).add j = ⟨W.heap.size, j, none⟩ := by unfold Addr.add; split <;> simp_all
  rw [hadd, World.cell?_alloc_new]
  simpa [cv] using hu
set_option maxRecDepth 100000 in
set_option maxHeartbeats 1000000 in
theorem claims_any (b : Nat) (l : List (BitVec 8)) (sh : Bool) (w : World) (hin : In w b l sh) (hb : b < w.heap.size) :
    Calls Try.prog 79 #[.pointer (some ⟨b, 0, none⟩)] w fun e w' => ∃ v, e = .returned v ∧ OwnC w' w.heap.size v (claimsR l sh).cl ∧ In w' b (claimsR l sh).l (claimsR l sh).sh ∧ w.grownBy w' (some b) := by
  have H0 : Hid (In w b l sh) := hin
  clear hin
  go_enter Try.func79, Try.ntmps79
  go_wp2_with fail
  refine (number_any b l sh _ 1 rfl (by omega) _ H0.out).mono ?_
  rintro e w1 ⟨rfl, hin1, ht1⟩
  obtain ⟨cnt, hcnt⟩ : ∃ c : Nat, Hid (beN (takeR l sh 1).got = (c : Int)) := ⟨(beN (takeR l sh 1).got).toNat, (Int.toNat_of_nonneg (beN_bound _ 1 (takeR_len l sh 1).2).1).symm⟩
  have hc256 : cnt < 256 := by have h := (beN_bound _ 1 (takeR_len l sh 1).2).2; rw [hcnt.out] at h; omega
  obtain ⟨s0, hs0⟩ : ∃ s : Cs, Hid (s = ⟨[], (takeR l sh 1).l, (takeR l sh 1).sh⟩) := ⟨_, rfl⟩
  have HR : Hid (claimsR l sh = clIter cnt s0) := by show _ = _; unfold claimsR; rw [hcnt.out, hs0.out, Int.toNat_natCast]
  have I1 : Hid (In w1 b (clIter 0 s0).l (clIter 0 s0).sh) := by show In _ _ _ _; rw [hs0.out]; exact hin1
  have C1 : Hid (OwnC w1 w.heap.size (.slice none 0 0) (clIter 0 s0).cl) := by show OwnC _ _ _ _; rw [hs0.out]; exact OwnC.nil _ _
  have G1 : Hid (w.grownBy w1 (some b)) := ht1.grown
  have HL0 : Hid (s0.cl = []) := by show _ = _; rw [hs0.out]
  rw [hcnt.out]
  clear hin1 ht1 H0 hcnt hs0
  go_wp2_with fail
  go_loopw [3, 7] (fun v i wr => ∃ k : Nat, k ≤ cnt ∧ i = .int .i64 k ∧ OwnC wr w.heap.size v (clIter k s0).cl ∧ In wr b (clIter k s0).l (clIter k s0).sh ∧ w.grownBy wr (some b)) (fun _ i _ => cnt - (intOf i).toNat)
  case atStart => exact ⟨0, Nat.zero_le _, rfl, C1.out, I1.out, G1.out⟩
  case round =>
    obtain ⟨k, hk, rfl, hown, hin, hg⟩ := hrel
    have hz := hg.size
    have O : Hid (OwnC wr w.heap.size _ (clIter k s0).cl) := hown
    have I : Hid (In wr b (clIter k s0).l (clIter k s0).sh) := hin
    have G : Hid (w.grownBy wr (some b)) := hg
    clear hown hin hg C1 I1 G1
    by_cases hlt : k < cnt
    · obtain ⟨s, hs⟩ : ∃ s, Hid (clIter k s0 = s) := ⟨_, rfl⟩
      have hlen : s.cl.length + 1 ≤ 100000 := by
        have h := clIter_length k s0
        rw [hs.out, HL0.out] at h
        simp at h
        omega
      rw [hs.out] at O I
      go_wp2_with fail
      refine (number_any b s.l s.sh _ 1 rfl (by omega) _ I.out).mono ?_
      rintro e w2 ⟨rfl, hin2, ht2⟩
      have O2 : Hid (OwnC w2 w.heap.size u3 s.cl) := O.out.turn ht2 hb
      have G2 : Hid (w.grownBy w2 (some b)) := G.out.trans ht2.grown
      have I2 : Hid (In w2 b (takeR s.l s.sh 1).l (takeR s.l s.sh 1).sh) := hin2
      clear hin2 ht2 O I G
      go_wp2_with fail
      refine (number_any b (takeR s.l s.sh 1).l (takeR s.l s.sh 1).sh _ 2 rfl (by omega) _ I2.out).mono ?_
      rintro e w3 ⟨rfl, hin3, ht3⟩
      have O3 : Hid (OwnC w3 w.heap.size u3 s.cl) := O2.out.turn ht3 hb
      have G3 : Hid (w.grownBy w3 (some b)) := G2.out.trans ht3.grown
      have I3 : Hid (In w3 b (takeR (takeR s.l s.sh 1).l (takeR s.l s.sh 1).sh 2).l (takeR (takeR s.l s.sh 1).l (takeR s.l s.sh 1).sh 2).sh) := hin3
      have hz3 := G3.out.size
      clear hin3 ht3 O2 I2 G2
      go_wp2_with (at_builtin; refine wpList_appC rfl (.tmp 11) (.tmp 16) rfl w.heap.size _ s.cl [(beN (takeR s.l s.sh 1).got, beN (takeR (takeR s.l s.sh 1).l (takeR s.l s.sh 1).sh 2).got)] rfl (O3.out.alloc _) ⟨w3.heap.size, 0, none⟩ 1 1 rfl rfl (news_claim rfl) hlen (by simp <;> omega) ?_; intro v4 w4 hown4 hgrow4)
      have e4 : clIter (k + 1) s0 = clStep s := by show clStep (clIter k s0) = _; rw [hs.out]
      have hrow : ∀ j, u3.ownBlock = some j → w.heap.size ≤ j := fun j hj => (World.ownsRow.lt O3.out j hj).1
      have I4 : In w4 b (clStep s).l (clStep s).sh := (I3.out.later ((Below.refl _ _).alloc (Nat.le_refl _) _)).kept hgrow4 (fun e => by have := hrow b e.symm; omega)
      have G4 : w.grownBy w4 (some b) := grown_new (grown_new G3.out (World.grownBy_alloc w3 _ none) (fun _ h => by cases h)) hgrow4 hrow
      go_roundw
      case rel => exact ⟨k + 1, by omega, by go_num, by rw [e4]; exact hown4, by rw [e4]; exact I4, G4⟩
      case measure => simp [intOf]; omega
    · have e : k = cnt := by omega
      subst e
      have O2 : Hid (OwnC wr w.heap.size u3 (claimsR l sh).cl) := by show OwnC _ _ _ _; rw [HR.out]; exact O.out
      have I2 : Hid (In wr b (claimsR l sh).l (claimsR l sh).sh) := by show In _ _ _ _; rw [HR.out]; exact I.out
      clear O I
      go_wp2
      go_ret
      exact ⟨_, rfl, O2.out, I2.out, G.out⟩
end Go.Proofs.Ytpnfkcbbjcimgaa
