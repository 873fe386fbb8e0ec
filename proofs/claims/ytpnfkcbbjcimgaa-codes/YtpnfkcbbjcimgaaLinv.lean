import Derived.Test.YtpnfkcbbjcimgaaLbook
namespace Go.Proofs.Ytpnfkcbbjcimgaa
open Go.RowKit
theorem OwnC.same {w : World} {b1 b2 : Nat} {a1 a2 : Addr} {n1 c1 n2 c2 : Nat} {l1 l2 : List (Int × Int)} (h1 : OwnC w b1 (.slice (some a1) n1 c1) l1) (h2 : OwnC w b2 (.slice (some a2) n2 c2) l2) (he : a1.block = a2.block) : a1 = a2 ∧ c1 = c2 := by
  rcases h1.2 with ⟨hv, _⟩ | ⟨g, cap, cur, hv, _, hg, _, _, hcs, _⟩
  · cases hv
  · cases hv
    rcases h2.2 with ⟨hv, _⟩ | ⟨g', cap', cur', hv, _, hg', _, _, hcs', _⟩
    · cases hv
    · cases hv
      cases he
      rw [hg] at hg'
      cases hg'
      exact ⟨rfl, by omega⟩
theorem OwnC.lt {w : World} {b : Nat} {sa : Option Addr} {n c : Nat} {l : List (Int × Int)} (h : OwnC w b (.slice sa n c) l) : ∀ a, sa = some a → a.block < w.heap.size := fun a ha => by
  obtain ⟨_, hc⟩ := h.blk a ha
  exact (Array.getElem?_eq_some_iff.1 hc).1
theorem own_block (sa : Option Addr) (n c : Nat) : (Value.slice sa n c).ownBlock = sa.map (·.block) := by cases sa <;> rfl
/-- While the book takes a list. -/
structure Iv (w : World) (p base : Nat) (v0 : Value) (L : List Ent) (sa : Option Addr) (wr : World) (sl : Option Addr) (n c : Nat) (v : Value) (M : List Ent) : Prop where
  bk : Bk wr p base v (L ++ M)
  own : OwnC wr 0 (.slice sl n c) (marks n L.length)
  le : ∀ e ∈ M, e.sn ≤ n ∧ e.mark = L.length
  loc : ∀ e ∈ M, ∀ a, e.sa = some a → w.heap.size < a.block ∨ ∃ b, sa = some b ∧ b.block = a.block
  vloc : ∀ a, sl = some a → w.heap.size < a.block ∨ ∃ b, sa = some b ∧ b.block = a.block
  eloc : ∀ g, v.ownBlock = some g → w.heap.size < g ∨ v0.ownBlock = some g
  mblk : wr.heap[w.heap.size]? = some (.cells #[.int .i64 (-1 - L.length), .int .i64 0] 69)
  fr : Fr (fun k => k = p ∨ v0.ownBlock = some k ∨ ∃ b, sa = some b ∧ b.block = k) w wr
/-- What stands apart at the start. -/
structure Ap (w : World) (p base : Nat) (v0 : Value) (L : List Ent) (sa : Option Addr) : Prop where
  far : ∀ e ∈ L, ∀ a b, e.sa = some a → sa = some b → a.block ≠ b.block
  ltL : ∀ e ∈ L, ∀ a, e.sa = some a → a.block < w.heap.size
  ltS : ∀ b, sa = some b → b.block < w.heap.size
  ltP : p < w.heap.size
  ltV : ∀ g, v0.ownBlock = some g → g < w.heap.size
theorem Iv.claim {w : World} {p base : Nat} {v0 : Value} {L : List Ent} {sa : Option Addr} {wr : World} {sl : Option Addr} {n c : Nat} {v : Value} {M : List Ent} (h : Iv w p base v0 L sa wr sl n c v M) (hA : Ap w p base v0 L sa)
    (o : Obj) {w2 : World} {sl2 : Option Addr} {c2 : Nat} (hg : (wr.alloc o).grownBy w2 (Value.slice sl n c).ownBlock) (h1 : OwnC w2 0 (.slice sl2 (n + 1) c2) (marks (n + 1) L.length)) (h2 : OwnC w2 0 (.slice sl n c) (marks n L.length))
    (hl : (Value.slice sl2 (n + 1) c2).ownBlock = (Value.slice sl n c).ownBlock ∨ ∀ j, (Value.slice sl2 (n + 1) c2).ownBlock = some j → (wr.alloc o).heap.size ≤ j) : Iv w p base v0 L sa w2 sl2 (n + 1) c2 v M := by
  have hsz : (wr.alloc o).heap.size = wr.heap.size + 1 := by simp
  have hkeep : ∀ k, k < wr.heap.size → (∀ a, sl = some a → k ≠ a.block) → w2.heap[k]? = wr.heap[k]? := by
    intro k hk hn
    refine (hg.block k (by omega) ?_).trans (((Below.refl wr.heap.size wr).alloc (Nat.le_refl _) o).block k hk)
    rw [own_block]
    intro e
    cases sl with
    | none => cases e
    | some a => exact hn a rfl (by simpa using e)
  have hsz0 := h.fr.size
  have hb := ne_book h.bk.blk h.bk.own h.own
  have hpl : p < wr.heap.size := (Array.getElem?_eq_some_iff.1 h.bk.blk).1
  have hmm : w.heap.size < wr.heap.size := (Array.getElem?_eq_some_iff.1 h.mblk).1
  have hvl : ∀ a, sl = some a → a.block ≠ w.heap.size := fun a ha e => by
    rcases h.vloc a ha with hh | ⟨b, hb1, hb2⟩
    · omega
    · have := hA.ltS b hb1; omega
  refine ⟨⟨(hkeep p hpl (fun a ha e => (hb a ha).1 e.symm)).trans h.bk.blk, h.bk.own.kept (fun g hgv => hkeep g ?_ ?_), ?_⟩, h1, fun e he => ⟨Nat.le_succ_of_le (h.le e he).1, (h.le e he).2⟩, h.loc, ?_, h.eloc, (hkeep _ hmm (fun a ha e => hvl a ha e.symm)).trans h.mblk, ?_⟩
  · obtain ⟨_, hc⟩ := h.bk.own.blk g hgv
    exact (Array.getElem?_eq_some_iff.1 hc).1
  · intro a ha e
    exact (hb a ha).2.1 (by rw [hgv, e])
  · intro e he
    have hok := h.bk.ok e he
    cases hes : e.sa with
    | none =>
      refine OwnC.kept hok (fun a ha => ?_)
      rw [hes] at ha
      cases ha
    | some a =>
      by_cases hsame : ∃ b, sl = some b ∧ b.block = a.block
      · obtain ⟨b, hb1, hb2⟩ := hsame
        rcases List.mem_append.1 he with heL | heM
        · exfalso
          have hlt := hA.ltL e heL a hes
          rcases h.vloc b hb1 with hh | ⟨d, hd1, hd2⟩
          · omega
          · exact hA.far e heL a d hes hd1 (by omega)
        · subst hb1
          unfold EntOk at hok ⊢
          have ho := h.own
          rw [hes] at hok ⊢
          obtain ⟨e1, e2⟩ := OwnC.same ho hok hb2
          subst e1
          rw [← e2, (h.le e heM).2]
          exact OwnC.pre h2 (h.le e heM).1 (by simp)
      · refine OwnC.kept hok (fun a' ha' => hkeep _ (OwnC.lt hok a' ha') (fun b hb1 e => hsame ⟨b, hb1, ?_⟩))
        rw [hes] at ha'
        cases ha'
        exact e.symm
  · intro a ha
    rw [own_block, own_block, ha] at hl
    rcases hl with hl | hl
    · cases sl with
      | none => cases hl
      | some b =>
        have hab : a.block = b.block := by simpa using hl
        rcases h.vloc b rfl with hh | ⟨d, hd1, hd2⟩
        · exact .inl (by omega)
        · exact .inr ⟨d, hd1, by omega⟩
    · have := hl a.block rfl
      exact .inl (by omega)
  · refine (h.fr.alloc o).grown hg (fun j hj e => ?_)
    rw [own_block] at e
    cases sl with
    | none => cases e
    | some b =>
      have hjb : b.block = j := by simpa using e
      rcases h.vloc b rfl with hh | ⟨d, hd1, hd2⟩
      · omega
      · exact .inr (.inr ⟨d, hd1, by omega⟩)
theorem Iv.entry {w : World} {p base : Nat} {v0 : Value} {L : List Ent} {sa : Option Addr} {wr : World} {sl : Option Addr} {n c : Nat} {v : Value} {M : List Ent} (h : Iv w p base v0 L sa wr sl n c v M) (hA : Ap w p base v0 L sa)
    (o : Obj) {w2 : World} {v2 : Value} (hg : (wr.alloc o).grownBy w2 v.ownBlock) (h1 : OwnE w2 base v2 (L ++ M ++ [⟨sl, n, c, L.length⟩]))
    (hl : v2.ownBlock = v.ownBlock ∨ ∀ j, v2.ownBlock = some j → (wr.alloc o).heap.size ≤ j) : Iv w p base v0 L sa (w2.setCell ⟨p, 2, none⟩ v2) sl n c v2 (M ++ [⟨sl, n, c, L.length⟩]) := by
  have hsz : (wr.alloc o).heap.size = wr.heap.size + 1 := by simp
  have hsz0 := h.fr.size
  have hpl : p < wr.heap.size := (Array.getElem?_eq_some_iff.1 h.bk.blk).1
  have hmm : w.heap.size < wr.heap.size := (Array.getElem?_eq_some_iff.1 h.mblk).1
  have hk2 : ∀ k, k < wr.heap.size → v.ownBlock ≠ some k → w2.heap[k]? = wr.heap[k]? := fun k hk hn =>
    (hg.block k (by omega) (fun e => hn e.symm)).trans (((Below.refl wr.heap.size wr).alloc (Nat.le_refl _) o).block k hk)
  have hnp := ne_own h.bk.blk h.bk.own
  have hp2 : w2.heap[p]? = some (.cells (bkRow v) 49) := (hk2 p hpl hnp).trans h.bk.blk
  have hnp2 := ne_own hp2 h1
  have ht : Turn p w2 (w2.setCell ⟨p, 2, none⟩ v2) := (Turn.refl _ _).set _ _
  have hk3 : ∀ k, k < wr.heap.size → v.ownBlock ≠ some k → k ≠ p → (w2.setCell ⟨p, 2, none⟩ v2).heap[k]? = wr.heap[k]? := fun k hk hn hne => (ht.block k hne).trans (hk2 k hk hn)
  have hC : ∀ {sb : Option Addr} {nb cb : Nat} {lb : List (Int × Int)}, OwnC wr 0 (.slice sb nb cb) lb → OwnC (w2.setCell ⟨p, 2, none⟩ v2) 0 (.slice sb nb cb) lb := fun hO =>
    OwnC.kept hO (fun a ha => hk3 _ (OwnC.lt hO a ha) (fun e => (ne_book h.bk.blk h.bk.own hO a ha).2.1 e.symm) (ne_book h.bk.blk h.bk.own hO a ha).1)
  refine ⟨⟨heap_setCell_same w2 p 2 (bkRow v) 49 v2 hp2, ?_, ?_⟩, hC h.own, ?_, ?_, h.vloc, ?_, ?_, ?_⟩
  · rw [← List.append_assoc]
    exact h1.kept (fun g hgv => ht.block g (fun e => hnp2 (by rw [hgv, e])))
  · intro e he
    rw [← List.append_assoc] at he
    rcases List.mem_append.1 he with he | he
    · exact hC (h.bk.ok e he)
    · have : e = ⟨sl, n, c, L.length⟩ := by simpa using he
      subst this
      exact hC h.own
  · intro e he
    rcases List.mem_append.1 he with he | he
    · exact h.le e he
    · have : e = ⟨sl, n, c, L.length⟩ := by simpa using he
      subst this
      exact ⟨Nat.le_refl _, rfl⟩
  · intro e he a ha
    rcases List.mem_append.1 he with he | he
    · exact h.loc e he a ha
    · have : e = ⟨sl, n, c, L.length⟩ := by simpa using he
      subst this
      exact h.vloc a ha
  · intro g hgv
    rcases hl with hl | hl
    · exact h.eloc g (hl ▸ hgv)
    · have := hl g hgv
      exact .inl (by omega)
  · refine (hk3 _ hmm ?_ (by have := hA.ltP; omega)).trans h.mblk
    intro e
    rcases h.eloc _ e with hh | hh
    · omega
    · have := hA.ltV _ hh; omega
  · refine ((h.fr.alloc o).grown hg (fun j hj e => ?_)).turn ht (fun _ => .inl rfl)
    rcases h.eloc j e with hh | hh
    · omega
    · exact .inr (.inl hh)
end Go.Proofs.Ytpnfkcbbjcimgaa
