import Derived.Test.YtpnfkcbbjcimgaaLinv
namespace Go.Proofs.Ytpnfkcbbjcimgaa
open Go.RowKit
theorem bk_2 (v : Value) : (bkRow v)[2]? = some v := rfl
theorem bk_0 (v : Value) : (bkRow v)[0]? = some (.slice none 0 0) := rfl
theorem bk_1 (v : Value) : (bkRow v)[1]? = some (.slice none 0 0) := rfl
theorem bk_3 (v : Value) : (bkRow v)[3]? = some (.slice none 0 0) := rfl
theorem bk_4 (v : Value) : (bkRow v)[4]? = some (.slice none 0 0) := rfl
theorem bk_5 (v : Value) : (bkRow v)[5]? = some (.slice none 0 0) := rfl
theorem OwnE.form {w : World} {base : Nat} {v : Value} {L : List Ent} (h : OwnE w base v L) : ∃ va vc, v = .slice va L.length vc := by
  rcases h.2 with ⟨rfl, h0⟩ | ⟨g, cap, cur, rfl, _⟩
  · exact ⟨none, 0, by rw [h0]⟩
  · exact ⟨_, _, rfl⟩
theorem OwnC.form {w : World} {base : Nat} {v : Value} {cl : List (Int × Int)} (h : OwnC w base v cl) : ∃ va vc, v = .slice va cl.length vc := by
  rcases h.2 with ⟨rfl, h0⟩ | ⟨g, cap, cur, rfl, _⟩
  · exact ⟨none, 0, by rw [h0]⟩
  · exact ⟨_, _, rfl⟩
theorem wpList_appE {w : World} {ops : Array Oper} {rest : List Oper} {o : Oper} {a : Act} {Q : Exit → Act → World → Prop} (hgd : o.guard = none) (s x : Operand)
    (ho : o.op = .call { callee := .builtin .append, args := #[s, x], argTypes := #[44, 44] }) (base : Nat) (v : Value) (L : List Ent) (e : Ent) (hs : a.eval s = v) (hown : OwnE w base v L)
    (ad : Addr) (hx : a.eval x = .slice (some ad) 1 1) (hnews : ∀ j u, ([e].flatMap ev)[j]? = some u → w.cell? (ad.add j) = some u) (hsm : L.length + 1 ≤ 100000) (hbase : base ≤ w.heap.size)
    (N : Nat) (hN : L.length + 1 = N) (h : ∀ va' vc' w', OwnE w' base (.slice va' N vc') (L ++ [e]) → w.grownBy w' v.ownBlock → ((Value.slice va' N vc').ownBlock = v.ownBlock ∨ ∀ j, (Value.slice va' N vc').ownBlock = some j → w.heap.size ≤ j) → wpList Try.prog ops Q rest (a.put o.dst (.slice va' N vc')) w') : wpList Try.prog ops Q (o :: rest) a w := by
  subst hN
  obtain ⟨i0, hi, hz0, hz1, hz2⟩ := info_parts rowInfo101
  refine wpList_append_keeps hgd s x 44 ho base 101 i0 (.agg #[.slice none 0 0, .int .i64 0]) 2 32 Try.underlying44 hi hz0 hz1 hz2 rfl (by decide) v L.length (L.flatMap ev) hs hown ad 1 1 ([e].flatMap ev) hx (ev_length [e]) hnews (ev_one [e]) (by unfold maxLen; omega) (by omega) hbase ?_
  intro v' w' h1 h2 _ h4
  have h1' : OwnE w' base v' (L ++ [e]) := by
    unfold OwnE
    rw [List.length_append, List.flatMap_append]
    exact h1
  obtain ⟨va, vc, rfl⟩ := h1'.form
  have hl1 : (L ++ [e]).length = L.length + 1 := by simp
  rw [hl1] at h1' h4 ⊢
  exact h va vc w' h1' h2 h4
theorem wpList_appK {w : World} {ops : Array Oper} {rest : List Oper} {o : Oper} {a : Act} {Q : Exit → Act → World → Prop} (hgd : o.guard = none) (s x : Operand)
    (ho : o.op = .call { callee := .builtin .append, args := #[s, x], argTypes := #[26, 26] }) (sl : Option Addr) (n c : Nat) (k : Int) (hs : a.eval s = .slice sl n c) (hown : OwnC w 0 (.slice sl n c) (marks n k))
    (ad : Addr) (hx : a.eval x = .slice (some ad) 1 1) (hnews : ∀ j u, ([(-1 - k, 0)].flatMap cv)[j]? = some u → w.cell? (ad.add j) = some u) (hsm : n + 1 ≤ 100000)
    (h : ∀ sl2 c2 w', OwnC w' 0 (.slice sl2 (n + 1) c2) (marks (n + 1) k) → OwnC w' 0 (.slice sl n c) (marks n k) → w.grownBy w' (Value.slice sl n c).ownBlock → ((Value.slice sl2 (n + 1) c2).ownBlock = (Value.slice sl n c).ownBlock ∨ ∀ j, (Value.slice sl2 (n + 1) c2).ownBlock = some j → w.heap.size ≤ j) → wpList Try.prog ops Q rest (a.put o.dst (.slice sl2 (n + 1) c2)) w') : wpList Try.prog ops Q (o :: rest) a w := by
  obtain ⟨i0, hi, hz0, hz1, hz2⟩ := info_parts rowInfo69
  have hml : (marks n k).length = n := by simp [marks]
  have hown' : w.ownsRow 0 69 2 (.slice sl n c) n ((marks n k).flatMap cv) := by
    have := hown
    unfold OwnC at this
    rw [hml] at this
    exact this
  refine wpList_append_keeps hgd s x 26 ho 0 69 i0 (.agg #[.int .i64 0, .int .i64 0]) 2 16 Try.underlying26 hi hz0 hz1 hz2 rfl (by decide) (.slice sl n c) n ((marks n k).flatMap cv) hs hown' ad 1 1 ([(-1 - k, 0)].flatMap cv) hx (cv_length [(-1 - k, 0)]) hnews (cv_one [(-1 - k, 0)]) (by unfold maxLen; omega) (by omega) (Nat.zero_le _) ?_
  intro v' w' h1 h2 h3 h4
  have e : marks (n + 1) k = marks n k ++ [(-1 - k, 0)] := List.replicate_succ'
  have hl1 : (marks (n + 1) k).length = n + 1 := by simp [marks]
  have h1' : OwnC w' 0 v' (marks (n + 1) k) := by
    unfold OwnC
    rw [hl1, e, List.flatMap_append]
    exact h1
  obtain ⟨va, vc, rfl⟩ := h1'.form
  rw [hl1] at h1' h4 ⊢
  refine h va vc w' h1' ?_ h2 h4
  unfold OwnC
  rw [hml]
  exact h3
theorem news_two {W : World} {n : Nat} {x y : Value} {t : TypeId} {l : List Value} (hl : l = [x, y]) (hn : W.heap.size = n) : ∀ j u, l[j]? = some u → (W.alloc (.cells #[x, y] t)).cell? ((⟨n, 0, none⟩ : Addr).add j) = some u := by
  intro j u hu
  subst hn
  have hadd : (⟨W.heap.size, 0, none⟩ : Addr).add j = ⟨W.heap.size, j, none⟩ := by unfold Addr.add; split <;> simp_all
  rw [hadd, World.cell?_alloc_new]
  simpa [hl] using hu
theorem Iv.pblk {w : World} {p base : Nat} {v0 : Value} {L : List Ent} {sa : Option Addr} {wr : World} {sl : Option Addr} {n c : Nat} {v : Value} {M : List Ent} (h : Iv w p base v0 L sa wr sl n c v M) (o : Obj) {w2 : World} (hg : (wr.alloc o).grownBy w2 v.ownBlock) : w2.heap[p]? = some (.cells (bkRow v) 49) := by
  have hpl : p < wr.heap.size := (Array.getElem?_eq_some_iff.1 h.bk.blk).1
  exact (hg.block p (by simp; omega) (fun e => ne_own h.bk.blk h.bk.own e.symm)).trans ((((Below.refl wr.heap.size wr).alloc (Nat.le_refl _) o).block p hpl).trans h.bk.blk)
theorem marks_set (k : Nat) (m : Int) (cl : List (Int × Int)) (h : k < cl.length) : (marks k m ++ cl.drop k).set k (-1 - m, 0) = marks (k + 1) m ++ cl.drop (k + 1) := by
  have e : marks (k + 1) m = marks k m ++ [(-1 - m, 0)] := List.replicate_succ'
  have hl : (marks k m).length = k := by simp [marks]
  rw [List.set_append_right _ _ (by omega), hl, Nat.sub_self, List.drop_eq_getElem_cons h, List.set_cons_zero, e, List.append_assoc]
  rfl
theorem Iv.start {w w1 wr : World} {p base : Nat} {v : Value} {L : List Ent} {sa : Option Addr} {sn sc : Nat} {cl : List (Int × Int)} (hB : Bk w p base v L) (hO0 : OwnC w 0 (.slice sa sn sc) cl) (hA : Ap w p base v L sa) (h1 : w1 = w.alloc (.cells #[.int .i64 (-1 - L.length), .int .i64 0] 69)) (hO : OwnC wr 0 (.slice sa sn sc) (marks sn L.length)) (hf : Fr (fun k => ∃ b, sa = some b ∧ b.block = k) w1 wr) : Iv w p base v L sa wr sa sn sc v [] := by
  have hs1 : w1.heap.size = w.heap.size + 1 := by rw [h1]; simp
  have hk : ∀ k, k < w.heap.size → (∀ b, sa = some b → k ≠ b.block) → wr.heap[k]? = w.heap[k]? := fun k hk hn =>
    (hf.block k (by omega) (fun ⟨b, hb1, hb2⟩ => hn b hb1 hb2.symm)).trans (by rw [h1]; exact ((Below.refl w.heap.size w).alloc (Nat.le_refl _) _).block k hk)
  have hb := ne_book hB.blk hB.own hO0
  have hsz : w1.heap.size ≤ wr.heap.size := hf.size
  refine ⟨⟨(hk p hA.ltP (fun b hb1 e => (hb b hb1).1 e.symm)).trans hB.blk, ?_, ?_⟩, hO, fun e he => by simp at he, fun e he => by simp at he, fun a ha => .inr ⟨a, ha, rfl⟩, fun g hg => .inr hg, ?_, ?_⟩
  · rw [List.append_nil]
    exact hB.own.kept (fun g hg => hk g (hA.ltV g hg) (fun b hb1 e => (hb b hb1).2.1 (by rw [hg, e])))
  · intro e he
    rw [List.append_nil] at he
    exact OwnC.kept (hB.ok e he) (fun a ha => hk _ (hA.ltL e he a ha) (fun b hb1 => hA.far e he a b ha hb1))
  · refine (hf.block _ (by omega) (fun ⟨b, hb1, hb2⟩ => by have := hA.ltS b hb1; omega)).trans ?_
    rw [h1]
    exact blk_newest rfl _
  · refine Fr.trans (w1 := w1) (T := fun k => ∃ b, sa = some b ∧ b.block = k) ?_ hf (fun j _ t => .inr (.inr t))
    rw [h1]
    exact (Fr.refl _ w).alloc _
set_option maxRecDepth 100000 in
set_option maxHeartbeats 4000000 in
theorem ownClaims_any (p base : Nat) (v : Value) (L : List Ent) (sa : Option Addr) (sn sc : Nat) (cl : List (Int × Int)) (w : World) (hB : Bk w p base v L) (hO : OwnC w 0 (.slice sa sn sc) cl) (hA : Ap w p base v L sa) (hsn : sn ≤ 1000) (hL : L.length ≤ 1000) (hbase : base ≤ w.heap.size) :
    Calls Try.prog 37 #[.pointer (some ⟨p, 0, none⟩), .slice sa sn sc] w fun e w' => e = .returned (.tuple #[]) ∧ ∃ sl n c v' M, Iv w p base v L sa w' sl n c v' M ∧ M.length = 4 ∧ n ≤ 1003 := by
  have hcl : cl.length = sn := by
    obtain ⟨_, _, _, e, hc, _, _⟩ := hO.cl
    cases e
    exact hc.1
  have HS : Hid (∀ w1 wr, w1 = w.alloc (.cells #[.int .i64 (-1 - L.length), .int .i64 0] 69) → OwnC wr 0 (.slice sa sn sc) (marks sn L.length) → Fr (fun k => ∃ b, sa = some b ∧ b.block = k) w1 wr → Iv w p base v L sa wr sa sn sc v []) := fun w1 wr h1 h2 h3 => Iv.start hB hO hA h1 h2 h3
  have HA : Hid (Ap w p base v L sa) := hA
  have hO1 : Hid (OwnC (w.alloc (.cells #[.int .i64 (-1 - L.length), .int .i64 0] 69)) 0 (.slice sa sn sc) cl) := hO.alloc _
  obtain ⟨va, vc, hv⟩ := hB.own.form
  have R := Row.of hB.blk
  unfold Row at R
  have hb2 : w.cell? ⟨p, 2, none⟩ = some (.slice va L.length vc) := (R 2).trans (by rw [bk_2, hv])
  subst hv
  have hlts := hA.ltS
  clear hO hB hA R
  have hw1 : IntKind.i64.wrap (-1 - (L.length : Int)) = -1 - (L.length : Int) := by rw [IntKind.wrap_i64]; omega
  go_enter Try.func37, Try.ntmps37
  go_wp2_with fail
  obtain ⟨w1, hw⟩ : ∃ w1, Hid (w1 = w.alloc (.cells #[.int .i64 (-1 - L.length), .int .i64 0] 69)) := ⟨_, rfl⟩
  have M1 : Hid (w1.heap[w.heap.size]? = some (.cells #[.int .i64 (-1 - L.length), .int .i64 0] 69)) := by show _ = _; rw [hw.out]; exact blk_newest rfl _
  have hs1 : w1.heap.size = w.heap.size + 1 := by rw [hw.out]; simp
  rw [← hw.out] at hO1 ⊢
  clear hb2
  go_loopw [6] (fun i wr => ∃ k : Nat, k ≤ sn ∧ i = .int .i64 k ∧ OwnC wr 0 (.slice sa sn sc) (marks k L.length ++ cl.drop k) ∧ Fr (fun k => ∃ b, sa = some b ∧ b.block = k) w1 wr) (fun i _ => sn - (intOf i).toNat)
  case atStart => exact ⟨0, Nat.zero_le _, rfl, by simpa [marks] using hO1.out, Fr.refl _ _⟩
  case round =>
    obtain ⟨k, hk, rfl, ho, hf⟩ := hrel
    have OO : Hid (OwnC wr 0 (.slice sa sn sc) (marks k L.length ++ cl.drop k)) := ho
    have FF : Hid (Fr (fun k => ∃ b, sa = some b ∧ b.block = k) w1 wr) := hf
    have MM : wr.heap[w.heap.size]? = some (.cells #[.int .i64 (-1 - L.length), .int .i64 0] 69) := (hf.block _ (by omega) (fun ⟨b, hb1, hb2⟩ => by have := hlts b hb1; omega)).trans M1.out
    have R := Row.of MM
    unfold Row at R
    have m0 := R 0
    have m1 := R 1
    clear ho hf R hO1 MM
    by_cases hlt : k < sn
    · obtain ⟨g, cap, hform, _, hgl⟩ := World.ownsRow.form OO.out (by simp [marks]; omega)
      have hsa : sa = some ⟨g, 0, none⟩ := by cases hform; rfl
      subst hsa
      obtain ⟨cur, hcur, hfit, hput⟩ := putC (-1 - L.length) 0 OO.out hlt
      rw [marks_set k _ cl (by omega)] at hput
      have HC : Hid (wr.heap[g]? = some (.cells cur 69)) := hcur
      have HP : Hid (OwnC _ 0 (.slice (some ⟨g, 0, none⟩) sn sc) (marks (k + 1) L.length ++ cl.drop (k + 1))) := hput
      clear hform hcur hput hgl
      go_wp2_with (refine wpList_store2 rfl (.tmp 25) (.tmp 24) rfl g (k * 2) (by rfl) (-1 - L.length) 0 (by rfl) cur 69 HC.out hfit ?_)
      go_roundw
      case rel => exact ⟨k + 1, by omega, by go_num, HP.out, FF.out.trans (T := fun j => j = g) ⟨rfl, rfl, rfl, by simp [World.setRow], fun j _ hj => setRow_other _ _ _ _ hj⟩ (fun j _ e => ⟨_, rfl, e.symm⟩)⟩
      case measure => simp [intOf]; omega
    · have hke : k = sn := by omega
      subst hke
      have I0 : Hid (Iv w p base (.slice va L.length vc) L sa wr sa k sc (.slice va L.length vc) []) := by
        refine HS.out w1 wr hw.out ?_ FF.out
        have := OO.out
        rwa [List.drop_of_length_le (by omega), List.append_nil] at this
      have hsz := I0.out.fr.size
      have hb2 : wr.cell? ⟨p, 2, none⟩ = some (.slice va L.length vc) := (Row.of I0.out.bk.blk 2).trans (bk_2 _)
      clear OO FF m0 m1 hw HS M1
      go_upto_region 7 with (at_builtin; refine wpList_appE rfl (.tmp 30) (.tmp 34) rfl base (.slice va L.length vc) (L ++ []) ⟨sa, k, sc, L.length⟩ (by rfl) (World.ownsRow.alloc I0.out.bk.own _) ⟨wr.heap.size, 0, none⟩ (by rfl) (news_two rfl rfl) (by simp; omega) (by simp; omega) (L.length + 1) (by simp) ?_; intro va2 vc2 w2 hown2 hgrow2 hloc2; have c2 := Row.of (I0.out.pblk _ hgrow2) 2; have f2 := frozen_of_row w2 p 2 _ _ (I0.out.pblk _ hgrow2); rw [bk_2] at c2)
      have I1 : Hid (Iv w p base (.slice va L.length vc) L sa (w2.setCell ⟨p, 2, none⟩ (.slice va2 (L.length + 1) vc2)) sa k sc (.slice va2 (L.length + 1) vc2) ([] ++ [⟨sa, k, sc, L.length⟩])) := I0.out.entry HA.out _ hgrow2 hown2 hloc2
      clear c2 f2 hown2 hgrow2 hloc2 I0 hb2 hsz
      generalize w2.setCell ⟨p, 2, none⟩ (.slice va2 (L.length + 1) vc2) = W at *
      go_wp2_with fail
      go_loopw [1, 7] (fun l i wr => ∃ (j : Nat) (sl : Option Addr) (n c : Nat) (va' : Option Addr) (vc' : Nat) (M : List Ent), j ≤ 3 ∧ i = .int .i64 j ∧ l = .slice sl n c ∧ n ≤ 1000 + j ∧ M.length = j + 1 ∧ Iv w p base (.slice va L.length vc) L sa wr sl n c (.slice va' (L.length + M.length) vc') M) (fun _ i _ => 3 - (intOf i).toNat)
      case atStart => exact ⟨0, sa, k, sc, va2, vc2, [⟨sa, k, sc, L.length⟩], by omega, rfl, rfl, by omega, rfl, I1.out⟩
      case round =>
        obtain ⟨j, sl, n, c, va3, vc3, M, hj, rfl, rfl, hn, hM, hI⟩ := hrel
        have II : Hid (Iv w p base (.slice va L.length vc) L sa wr sl n c (.slice va3 (L.length + M.length) vc3) M) := hI
        have R := Row.of hI.mblk
        unfold Row at R
        have m0 := R 0
        have m1 := R 1
        have hsz := hI.fr.size
        have HM : Hid (M.length = j + 1) := hM
        have hMb : M.length ≤ 4 := by omega
        clear hI R I1 hM
        by_cases hlt : j < 3
        · go_upto_region 11 with (at_builtin; refine wpList_appK rfl (.tmp 42) (.tmp 44) rfl sl n c L.length (by rfl) (II.out.own.alloc _) ⟨wr.heap.size, 0, none⟩ (by rfl) (news_two rfl rfl) (by omega) ?_; intro sl2 c2 w2 hown2 hold2 hgrow2 hloc2)
          have I2 : Hid (Iv w p base (.slice va L.length vc) L sa w2 sl2 (n + 1) c2 (.slice va3 (L.length + M.length) vc3) M) := II.out.claim HA.out _ hgrow2 hown2 hold2 hloc2
          have hb2 : w2.cell? ⟨p, 2, none⟩ = some (.slice va3 (L.length + M.length) vc3) := (Row.of I2.out.bk.blk 2).trans (bk_2 _)
          have hsz2 := I2.out.fr.size
          clear hown2 hold2 hgrow2 hloc2 II m0 m1
          go_upto_region 9 with (at_builtin; refine wpList_appE rfl (.tmp 50) (.tmp 54) rfl base (.slice va3 (L.length + M.length) vc3) (L ++ M) ⟨sl2, n + 1, c2, L.length⟩ (by rfl) (World.ownsRow.alloc I2.out.bk.own _) ⟨w2.heap.size, 0, none⟩ (by rfl) (news_two rfl rfl) (by simp; omega) (by simp; omega) (L.length + (M.length + 1)) (by simp; omega) ?_; intro va4 vc4 w4 hown4 hgrow4 hloc4; have c4 := Row.of (I2.out.pblk _ hgrow4) 2; have f4 := frozen_of_row w4 p 2 _ _ (I2.out.pblk _ hgrow4); rw [bk_2] at c4)
          have I4 : Hid (Iv w p base (.slice va L.length vc) L sa (w4.setCell ⟨p, 2, none⟩ (.slice va4 (L.length + (M.length + 1)) vc4)) sl2 (n + 1) c2 (.slice va4 (L.length + (M.length + 1)) vc4) (M ++ [⟨sl2, n + 1, c2, L.length⟩])) := I2.out.entry HA.out _ hgrow4 hown4 hloc4
          clear c4 f4 hown4 hgrow4 hloc4 I2 hb2
          go_wp2
          go_roundw
          case rel => exact ⟨j + 1, sl2, n + 1, c2, va4, vc4, M ++ [⟨sl2, n + 1, c2, L.length⟩], by omega, by go_num, rfl, by omega, by rw [List.length_append, HM.out]; rfl, by rw [List.length_append]; exact I4.out⟩
          case measure => simp [intOf]; omega
        · have hje : j = 3 := by omega
          subst hje
          go_wp2
          go_end0
          exact ⟨rfl, sl, n, c, _, M, II.out, HM.out, hn⟩
end Go.Proofs.Ytpnfkcbbjcimgaa
