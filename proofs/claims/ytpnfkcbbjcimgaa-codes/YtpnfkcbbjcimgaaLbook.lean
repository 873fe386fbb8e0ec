import Derived.Test.YtpnfkcbbjcimgaaLent
namespace Go.Proofs.Ytpnfkcbbjcimgaa
open Go.RowKit
theorem rowInfo101 : (Try.prog.info? 101).map (fun i => (i.zero, i.size, i.bytes)) = some (some (.agg #[.slice none 0 0, .int .i64 0]), 2, 32) := by kernel_rfl
/-- A list of the book, and its mark. -/
structure Ent where
  sa : Option Addr
  sn : Nat
  sc : Nat
  mark : Int
def ev (e : Ent) : List Value := [.slice e.sa e.sn e.sc, .int .i64 e.mark]
/-- What it is written full of. -/
def marks (n : Nat) (k : Int) : List (Int × Int) := List.replicate n (-1 - k, 0)
def EntOk (w : World) (e : Ent) : Prop := OwnC w 0 (.slice e.sa e.sn e.sc) (marks e.sn e.mark)
theorem ev_length : ∀ L : List Ent, (L.flatMap ev).length = L.length * 2
  | [] => rfl
  | e :: L => by rw [List.flatMap_cons, List.length_append, ev_length L]; simp [ev]; omega
theorem ev_one (L : List Ent) : ∀ u ∈ L.flatMap ev, u.oneCell' = true := by
  intro u hu
  obtain ⟨c, _, hc⟩ := List.mem_flatMap.1 hu
  simp [ev] at hc
  rcases hc with rfl | rfl <;> rfl
def OwnE (w : World) (base : Nat) (v : Value) (L : List Ent) : Prop := w.ownsRow base 101 2 v L.length (L.flatMap ev)
def bkRow (v : Value) : Array Value := #[.slice none 0 0, .slice none 0 0, v, .slice none 0 0, .slice none 0 0, .slice none 0 0]
structure Bk (w : World) (p base : Nat) (v : Value) (L : List Ent) : Prop where
  blk : w.heap[p]? = some (.cells (bkRow v) 49)
  own : OwnE w base v L
  ok : ∀ e ∈ L, EntOk w e
/-- All is as it was, but for these blocks and what is new. -/
structure Fr (S : Nat → Prop) (w w' : World) : Prop where
  os : w'.os = w.os
  tape : w'.tape = w.tape
  output : w'.output = w.output
  size : w.heap.size ≤ w'.heap.size
  block : ∀ k, k < w.heap.size → ¬ S k → w'.heap[k]? = w.heap[k]?
theorem Fr.refl (S : Nat → Prop) (w : World) : Fr S w w := ⟨rfl, rfl, rfl, Nat.le_refl _, fun _ _ _ => rfl⟩
theorem Fr.trans {S T : Nat → Prop} {w w1 w2 : World} (h : Fr S w w1) (k : Fr T w1 w2) (hT : ∀ j, j < w.heap.size → T j → S j) : Fr S w w2 :=
  ⟨k.os.trans h.os, k.tape.trans h.tape, k.output.trans h.output, Nat.le_trans h.size k.size, fun j hj hn => (k.block j (Nat.lt_of_lt_of_le hj h.size) (fun t => hn (hT j hj t))).trans (h.block j hj hn)⟩
theorem Fr.alloc {S : Nat → Prop} {w w1 : World} (h : Fr S w w1) (o : Obj) : Fr S w (w1.alloc o) :=
  h.trans (T := fun _ => False) ⟨rfl, rfl, rfl, by simp, fun k hk _ => ((Below.refl w1.heap.size w1).alloc (Nat.le_refl _) o).block k hk⟩ (fun _ _ t => t.elim)
theorem Fr.grown {S : Nat → Prop} {w w1 w2 : World} {row : Option Nat} (h : Fr S w w1) (hg : w1.grownBy w2 row) (hS : ∀ j, j < w.heap.size → row = some j → S j) : Fr S w w2 :=
  h.trans (T := fun j => row = some j) ⟨hg.os, hg.tape, hg.output, hg.size, fun k hk hn => hg.block k hk (fun e => hn e.symm)⟩ hS
theorem Fr.turn {S : Nat → Prop} {w w1 w2 : World} {b : Nat} (h : Fr S w w1) (ht : Turn b w1 w2) (hS : b < w.heap.size → S b) : Fr S w w2 :=
  h.trans (T := fun j => j = b) ⟨ht.os, ht.tape, ht.output, Nat.le_of_eq ht.size.symm, fun k _ hn => ht.block k hn⟩ (fun j hj e => by subst e; exact hS hj)
theorem OwnC.blk {w : World} {base : Nat} {sa : Option Addr} {sn sc : Nat} {cl : List (Int × Int)} (h : OwnC w base (.slice sa sn sc) cl) : ∀ a, sa = some a → ∃ cur, w.heap[a.block]? = some (.cells cur 69) := by
  intro a ha
  rcases h.2 with ⟨hv, _⟩ | ⟨g, cap, cur, hv, _, hg, _⟩
  · cases hv; cases ha
  · cases hv; cases ha; exact ⟨cur, hg⟩
theorem OwnE.blk {w : World} {base : Nat} {v : Value} {L : List Ent} (h : OwnE w base v L) : ∀ g, v.ownBlock = some g → ∃ cur, w.heap[g]? = some (.cells cur 101) := by
  intro g0 ha
  rcases h.2 with ⟨rfl, _⟩ | ⟨g, cap, cur, rfl, _, hg, _⟩
  · simp [Value.ownBlock] at ha
  · simp [Value.ownBlock] at ha; subst ha; exact ⟨cur, hg⟩
theorem OwnE.kept {w wx : World} {base : Nat} {v : Value} {L : List Ent} (h : OwnE w base v L) (hk : ∀ g, v.ownBlock = some g → wx.heap[g]? = w.heap[g]?) : OwnE wx base v L := by
  obtain ⟨h1, h2⟩ := h
  refine ⟨h1, ?_⟩
  rcases h2 with h2 | ⟨g, cap, cur, hv, hbg, hg, rest⟩
  · exact .inl h2
  · exact .inr ⟨g, cap, cur, hv, hbg, (hk g (by rw [hv]; rfl)).trans hg, rest⟩
/-- A list of claims is no part of the book's own rows. -/
theorem ne_book {w : World} {base p : Nat} {v v2 : Value} {L : List Ent} {base2 : Nat} {sa : Option Addr} {sn sc : Nat} {cl : List (Int × Int)} (hB : w.heap[p]? = some (.cells (bkRow v2) 49)) (hE : OwnE w base v L) (hC : OwnC w base2 (.slice sa sn sc) cl) : ∀ a, sa = some a → a.block ≠ p ∧ some a.block ≠ v.ownBlock ∧ v.ownBlock ≠ some p := by
  intro a ha
  obtain ⟨cur, hc⟩ := hC.blk a ha
  refine ⟨fun e => ?_, fun e => ?_, fun e => ?_⟩
  · rw [e, hB] at hc; cases hc
  · obtain ⟨cur2, h2⟩ := hE.blk _ e.symm
    rw [hc] at h2; cases h2
  · obtain ⟨cur2, h2⟩ := hE.blk _ e
    rw [hB] at h2; cases h2
theorem ne_own {w : World} {base p : Nat} {v v2 : Value} {L : List Ent} (hB : w.heap[p]? = some (.cells (bkRow v2) 49)) (hE : OwnE w base v L) : v.ownBlock ≠ some p := fun e => by
  obtain ⟨cur2, h2⟩ := hE.blk _ e
  rw [hB] at h2; cases h2
/-- A claim is put into a list of one's own. -/
theorem putC {w : World} {base g n c k : Nat} {cl : List (Int × Int)} (p q : Int) (h : OwnC w base (.slice (some ⟨g, 0, none⟩) n c) cl) (hk : k < n) :
    ∃ cur : Array Value, w.heap[g]? = some (.cells cur 69) ∧ k * 2 + 2 ≤ cur.size ∧ OwnC (w.setRow g (cur.toList.take (k * 2) ++ (cv (p, q) ++ cur.toList.drop (k * 2 + 2))).toArray) base (.slice (some ⟨g, 0, none⟩) n c) (cl.set k (p, q)) := by
  rcases h.2 with ⟨hv, _⟩ | ⟨g', cap, cur, hv, hb, hg, hnc, hcm, hcs, htk⟩
  · cases hv
  · cases hv
    have hcl : cur.toList.length = cur.size := Array.length_toList
    have hfit : k * 2 + 2 ≤ cur.size := by rw [hcs]; omega
    refine ⟨cur, hg, hfit, by rw [cv_length], .inr ⟨g, c, _, by rw [List.length_set], hb, setRow_heap _ _ cur _ 69 (0, 0) hg, by rw [List.length_set]; exact hnc, hcm, ?_, ?_⟩⟩
    · show (cur.toList.take (k * 2) ++ (cv (p, q) ++ cur.toList.drop (k * 2 + 2))).length = c * 2
      rw [List.length_append, List.length_append, List.length_take, List.length_drop, hcl, ← hcs]
      simp [cv]
      omega
    · show (cur.toList.take (k * 2) ++ (cv (p, q) ++ cur.toList.drop (k * 2 + 2))).take ((cl.set k (p, q)).length * 2) = _
      rw [List.length_set]
      have e : cl.set k (p, q) = cl.take k ++ ((p, q) :: cl.drop (k + 1)) := by rw [List.set_eq_take_append_cons_drop, if_pos hk]
      have hx : cur.toList = cl.flatMap cv ++ cur.toList.drop (cl.length * 2) := by rw [← htk, List.take_append_drop]
      have hsp : cl.flatMap cv = (cl.take k).flatMap cv ++ (cl.drop k).flatMap cv := by rw [← List.flatMap_append, List.take_append_drop]
      have hd : cl.drop k = cl.getD k (0, 0) :: cl.drop (k + 1) := by
        rw [List.drop_eq_getElem_cons hk]
        simp [List.getD, List.getElem?_eq_getElem hk]
      have hlk : ((cl.take k).flatMap cv).length = k * 2 := by rw [cv_length, List.length_take]; omega
      have t1 : cur.toList.take (k * 2) = (cl.take k).flatMap cv := by
        rw [hx, hsp, List.append_assoc, ← hlk, List.take_left]
      have t2 : cur.toList.drop (k * 2 + 2) = (cl.drop (k + 1)).flatMap cv ++ cur.toList.drop (cl.length * 2) := by
        obtain ⟨T, hT⟩ : ∃ T, T = cur.toList.drop (cl.length * 2) := ⟨_, rfl⟩
        rw [← hT] at hx ⊢
        rw [hx, hsp, hd, List.flatMap_cons]
        have hl2 : ((cl.take k).flatMap cv ++ cv (cl.getD k (0, 0))).length = k * 2 + 2 := by rw [List.length_append, hlk]; rfl
        rw [← List.append_assoc, List.append_assoc, ← hl2, List.drop_left]
      rw [t1, t2, e, List.flatMap_append, List.flatMap_cons]
      have hl3 : ((cl.take k).flatMap cv ++ (cv (p, q) ++ (cl.drop (k + 1)).flatMap cv)).length = cl.length * 2 := by
        rw [List.length_append, hlk, List.length_append, cv_length, List.length_drop]
        simp [cv]
        omega
      rw [← List.append_assoc (cv (p, q)), ← List.append_assoc, ← hl3, List.take_left]
/-- The first of a list's claims. -/
theorem OwnC.pre {w : World} {base : Nat} {sa : Option Addr} {n c m : Nat} {k : Int} (h : OwnC w base (.slice sa n c) (marks n k)) (hm : m ≤ n) (h0 : sa ≠ none) : OwnC w base (.slice sa m c) (marks m k) := by
  have hlen : (marks n k).length = n := by simp [marks]
  rcases h.2 with ⟨hv, _⟩ | ⟨g, cap, cur, hv, hb, hg, hnc, hcm, hcs, htk⟩
  · cases hv; exact absurd rfl h0
  · rw [hlen] at hv
    cases hv
    simp only [marks, List.length_replicate] at hnc htk
    refine ⟨by rw [cv_length], .inr ⟨g, c, cur, by simp [marks], hb, hg, by simp [marks]; omega, hcm, hcs, ?_⟩⟩
    simp only [marks, List.length_replicate]
    have e : cur.toList.take (m * 2) = (cur.toList.take (n * 2)).take (m * 2) := by rw [List.take_take]; congr 1; omega
    rw [e, htk]
    have e2 : List.replicate n ((-1 - k, 0) : Int × Int) = List.replicate m (-1 - k, 0) ++ List.replicate (n - m) (-1 - k, 0) := by rw [List.replicate_append_replicate]; congr 1; omega
    rw [e2, List.flatMap_append]
    have e3 : ((List.replicate m ((-1 - k, 0) : Int × Int)).flatMap cv).length = m * 2 := by rw [cv_length, List.length_replicate]
    rw [← e3, List.take_left]
end Go.Proofs.Ytpnfkcbbjcimgaa
