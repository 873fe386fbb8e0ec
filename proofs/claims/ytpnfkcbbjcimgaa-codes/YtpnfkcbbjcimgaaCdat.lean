import Derived.Test.YtpnfkcbbjcimgaaCref
import Derived.Test.YtpnfkcbbjcimgaaMathc
namespace Go.Proofs.Ytpnfkcbbjcimgaa
open Go.RowKit
/-- The claims at their places. -/
def clAt (l : List (BitVec 8)) (n : Nat) : List (Int × Int) := (List.range n).map fun i => (numAt l (3 + 3 * i) 1, numAt l (4 + 3 * i) 2)
theorem clAt_length (l : List (BitVec 8)) (n : Nat) : (clAt l n).length = n := by simp [clAt]
theorem clAt_succ (l : List (BitVec 8)) (n : Nat) : clAt l (n + 1) = clAt l n ++ [(numAt l (3 + 3 * n) 1, numAt l (4 + 3 * n) 2)] := by
  unfold clAt
  rw [List.range_succ, List.map_append]
  rfl
/-- What the reference reads at its places. -/
def refD (l : List (BitVec 8)) : Dat :=
  if numAt l 0 1 = 1 then ⟨1, numAt l 1 1, numAt l 2 1, numAt l 19 2, 0, 0, fun i => byteAt l (3 + i), zf, [], [], [], false⟩
  else if numAt l 0 1 = 2 then ⟨2, numAt l 1 1, numAt l 2 1, 0, 0, 0, zf, fun i => byteAt l (3 + i), [], [], [], false⟩
  else if numAt l 0 1 = 3 then ⟨3, 0, numAt l 1 1, 0, 0, 0, zf, zf, [], [], [], false⟩
  else if numAt l 0 1 = 4 then ⟨4, numAt l 1 1, 0, 0, 0, 0, zf, zf, clAt l (numAt l 2 1).toNat, l.drop (4 + 3 * (numAt l 2 1).toNat), [], false⟩
  else if numAt l 0 1 = 5 then ⟨5, 0, 0, 0, numAt l 1 4, numAt l 5 1, zf, zf, [], [], [], false⟩
  else if numAt l 0 1 = 6 then ⟨6, 0, 0, 0, numAt l 1 4, 0, zf, zf, [], [], [], false⟩
  else ⟨numAt l 0 1, 0, 0, 0, 0, 0, zf, zf, [], [], [], false⟩
/-- What lies in memory while the reference reads. -/
structure Bur (w W : World) (q : Rq) : Prop where
  res : W.heap[w.heap.size]? = some (.cells z0.row 28)
  req : W.heap[w.heap.size + 1]? = some (.cells q.row 28)
  bel : Below w.heap.size w W
  siz : w.heap.size + 1 < W.heap.size
theorem Bur.set {w W : World} {q : Rq} (h : Bur w W q) (i : Nat) (v : Value) (q' : Rq) (e : q.row.setIfInBounds i v = q'.row) : Bur w (W.setCell ⟨w.heap.size + 1, i, none⟩ v) q' := by
  have ht : Turn (w.heap.size + 1) W (W.setCell ⟨w.heap.size + 1, i, none⟩ v) := (Turn.refl _ _).set _ _
  exact ⟨(ht.block _ (by omega)).trans h.res, blk_set q' h.req e, h.bel.trans (ht.below (by omega)), by rw [ht.size]; exact h.siz⟩
theorem Bur.drew {w W : World} {q : Rq} (h : Bur w W q) : Bur w W.drew q := ⟨h.res, h.req, h.bel.drew, h.siz⟩
theorem Bur.later {w W W' : World} {q : Rq} (h : Bur w W q) (hb : Below W.heap.size W W') : Bur w W' q :=
  ⟨blk_later hb (by have := h.siz; omega) h.res, blk_later hb h.siz h.req, h.bel.trans (hb.mono h.bel.size), Nat.lt_of_lt_of_le h.siz hb.size⟩
theorem Bur.row {w W : World} {q : Rq} (h : Bur w W q) (q' : Rq) (e : q.row = q'.row) : Bur w W q' := ⟨h.res, by rw [← e]; exact h.req, h.bel, h.siz⟩
theorem Bur.grown {w W W' : World} {q : Rq} {row : Option Nat} (h : Bur w W q) (hg : W.grownBy W' row) (hr : ∀ j, row = some j → w.heap.size + 1 < j) : Bur w W' q := by
  have hs := h.siz
  have hne : ∀ k, k ≤ w.heap.size + 1 → some k ≠ row := fun k hk e => by have := hr k e.symm; omega
  exact ⟨(hg.block _ (by omega) (hne _ (by omega))).trans h.res, (hg.block _ (by omega) (hne _ (by omega))).trans h.req, h.bel.trans ⟨hg.os, hg.tape, hg.output, hg.size, fun k hk => hg.block k (by omega) (hne k (by omega))⟩, Nat.lt_of_lt_of_le hs hg.size⟩
/-- The first bytes of a list, the rest 0. -/
def upTo (l : List (BitVec 8)) (k : Nat) : Nat → BitVec 8 := fun i => if i < k then byteAt l (3 + i) else 0
theorem numAt_one (l : List (BitVec 8)) (i : Nat) : numAt l i 1 = B (byteAt l i) := by
  show (0 : Int) * 256 + B (byteAt l (i + 0)) = _
  rw [Nat.add_zero]
  omega
theorem wrap8_B (b : BitVec 8) : IntKind.u8.wrap (B b) = B b := by
  have h0 := B_nonneg b
  have h1 := B_lt b
  show B b % 256 = B b
  omega
theorem key_put (l : List (BitVec 8)) (a b : Int) (k : Nat) (hk : k < 16) :
    (⟨1, a, b, 0, 0, 0, upTo l k, zf, none, 0, 0, ⟨#[]⟩⟩ : Rq).row.setIfInBounds (6 + k) (.int .u8 (B (byteAt l (3 + k)))) = (⟨1, a, b, 0, 0, 0, upTo l (k + 1), zf, none, 0, 0, ⟨#[]⟩⟩ : Rq).row := by
  rcases (show k = 0 ∨ k = 1 ∨ k = 2 ∨ k = 3 ∨ k = 4 ∨ k = 5 ∨ k = 6 ∨ k = 7 ∨ k = 8 ∨ k = 9 ∨ k = 10 ∨ k = 11 ∨ k = 12 ∨ k = 13 ∨ k = 14 ∨ k = 15 from by omega) with rfl | rfl | rfl | rfl | rfl | rfl | rfl | rfl | rfl | rfl | rfl | rfl | rfl | rfl | rfl | rfl <;> kernel_rfl
theorem mac_put (l : List (BitVec 8)) (a b : Int) (k : Nat) (hk : k < 8) :
    (⟨2, a, b, 0, 0, 0, zf, upTo l k, none, 0, 0, ⟨#[]⟩⟩ : Rq).row.setIfInBounds (22 + k) (.int .u8 (B (byteAt l (3 + k)))) = (⟨2, a, b, 0, 0, 0, zf, upTo l (k + 1), none, 0, 0, ⟨#[]⟩⟩ : Rq).row := by
  rcases (show k = 0 ∨ k = 1 ∨ k = 2 ∨ k = 3 ∨ k = 4 ∨ k = 5 ∨ k = 6 ∨ k = 7 from by omega) with rfl | rfl | rfl | rfl | rfl | rfl | rfl | rfl <;> kernel_rfl
theorem key_has (l : List (BitVec 8)) (a b : Int) (k : Nat) (hk : k < 16) : (⟨1, a, b, 0, 0, 0, upTo l k, zf, none, 0, 0, ⟨#[]⟩⟩ : Rq).row[6 + k]? = some (.int .u8 (B (upTo l k k))) := by
  rcases (show k = 0 ∨ k = 1 ∨ k = 2 ∨ k = 3 ∨ k = 4 ∨ k = 5 ∨ k = 6 ∨ k = 7 ∨ k = 8 ∨ k = 9 ∨ k = 10 ∨ k = 11 ∨ k = 12 ∨ k = 13 ∨ k = 14 ∨ k = 15 from by omega) with rfl | rfl | rfl | rfl | rfl | rfl | rfl | rfl | rfl | rfl | rfl | rfl | rfl | rfl | rfl | rfl <;> kernel_rfl
theorem mac_has (l : List (BitVec 8)) (a b : Int) (k : Nat) (hk : k < 8) : (⟨2, a, b, 0, 0, 0, zf, upTo l k, none, 0, 0, ⟨#[]⟩⟩ : Rq).row[22 + k]? = some (.int .u8 (B (upTo l k k))) := by
  rcases (show k = 0 ∨ k = 1 ∨ k = 2 ∨ k = 3 ∨ k = 4 ∨ k = 5 ∨ k = 6 ∨ k = 7 from by omega) with rfl | rfl | rfl | rfl | rfl | rfl | rfl | rfl <;> kernel_rfl
theorem key_full (l : List (BitVec 8)) (a b c : Int) : (⟨1, a, b, c, 0, 0, upTo l 16, zf, none, 0, 0, ⟨#[]⟩⟩ : Rq).row = (⟨1, a, b, c, 0, 0, fun i => byteAt l (3 + i), zf, none, 0, 0, ⟨#[]⟩⟩ : Rq).row := by kernel_rfl
theorem mac_full (l : List (BitVec 8)) (a b : Int) : (⟨2, a, b, 0, 0, 0, zf, upTo l 8, none, 0, 0, ⟨#[]⟩⟩ : Rq).row = (⟨2, a, b, 0, 0, 0, zf, fun i => byteAt l (3 + i), none, 0, 0, ⟨#[]⟩⟩ : Rq).row := by kernel_rfl
theorem bodyOf_sl (d : Dat) (sa : Option Addr) (sn sc : Nat) (h : d.cl.length = sn) : bodyOf (d.rq sa sn sc) d.cl = bodyOf (d.rq none d.cl.length 0) d.cl := by subst h; rfl
theorem clAt_small (l : List (BitVec 8)) : (numAt l 2 1).toNat ≤ 255 := by
  have h := numAt_bound l 2 1
  omega
theorem OwnC.far {w : World} {base : Nat} {sa : Option Addr} {sn sc : Nat} {cl : List (Int × Int)} (h : OwnC w (base + 1) (.slice sa sn sc) cl) : ∀ a, sa = some a → base < a.block := fun a ha => by
  obtain ⟨_, _, _, e, _, _, h2⟩ := h.cl
  cases e
  have := (h2 a ha).1
  omega
theorem OwnC.keepSet {w : World} {base i : Nat} {u : Value} {sa : Option Addr} {sn sc : Nat} {cl : List (Int × Int)} (h : OwnC w (base + 1) (.slice sa sn sc) cl) : OwnC (w.setCell ⟨base, i, none⟩ u) (base + 1) (.slice sa sn sc) cl :=
  h.turn ((Turn.refl _ _).set _ _) (Nat.lt_succ_self _)
theorem refD_cl (l : List (BitVec 8)) : (refD l).cl.length ≤ 255 := by
  unfold refD
  repeat' split
  all_goals first
    | (show ([] : List (Int × Int)).length ≤ 255; simp; done)
    | (show (clAt l _).length ≤ 255; rw [clAt_length]; exact clAt_small l)
theorem refD_tx (l : List (BitVec 8)) : (refD l).tx.length ≤ l.length := by
  unfold refD
  repeat' split
  all_goals first
    | (show ([] : List (BitVec 8)).length ≤ _; simp; done)
    | (show (l.drop _).length ≤ _; simp; done)
end Go.Proofs.Ytpnfkcbbjcimgaa
