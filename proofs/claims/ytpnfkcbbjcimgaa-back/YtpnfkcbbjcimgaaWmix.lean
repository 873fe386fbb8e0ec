import Derived.Test.YtpnfkcbbjcimgaaWstart
namespace Go.Proofs.Ytpnfkcbbjcimgaa
open Go.RowKit
attribute [local go_sem] U_add U_xor
def c8 : BitVec 64 := 576460752303423488#64
/-- What P3 asks for, as a word. -/
def sipMix (k0 k1 m : BitVec 64) : BitVec 64 :=
  let v := finished (absorbed (absorbed ⟨k0 ^^^ c0, k1 ^^^ c1, k0 ^^^ c2, k1 ^^^ c3⟩ m) c8)
  v.a ^^^ v.b ^^^ v.c ^^^ v.d
/-- Eight bytes, all of them zero, lie in a block, and may be written. -/
def Z8 (b : Nat) (w : World) : Prop := ∀ i, i < 8 → w.cell? ⟨b, i, none⟩ = some (.int .u8 0) ∧ w.frozen? ⟨b, i, none⟩ = false
theorem Z8.newest {W : World} {n : Nat} {t : TypeId} (hn : W.heap.size = n) : Z8 n (W.alloc (.cells #[.int .u8 0, .int .u8 0, .int .u8 0, .int .u8 0, .int .u8 0, .int .u8 0, .int .u8 0, .int .u8 0] t)) := by
  intro i hi
  refine ⟨cell_newest hn ?_, frozen_newest hn⟩
  rcases (show i = 0 ∨ i = 1 ∨ i = 2 ∨ i = 3 ∨ i = 4 ∨ i = 5 ∨ i = 6 ∨ i = 7 from by omega) with rfl | rfl | rfl | rfl | rfl | rfl | rfl | rfl <;> rfl
theorem Z8.later {b : Nat} {w wx : World} (h : Z8 b w) (hb : Below w.heap.size w wx) : Z8 b wx := fun i hi =>
  ⟨cell_later hb (h i hi).1, frozen_later hb (h i hi).1 (h i hi).2⟩
theorem Z8.alloc {b : Nat} {w : World} (h : Z8 b w) (o : Obj) : Z8 b (w.alloc o) := h.later ((Below.refl _ _).alloc (Nat.le_refl _) _)
theorem Z8.turn {b c : Nat} {w wx : World} (h : Z8 b w) (ht : Turn c w wx) (hne : b ≠ c) : Z8 b wx := fun i hi =>
  ⟨(ht.cell (p := ⟨b, i, none⟩) hne).trans (h i hi).1, (ht.frozen (p := ⟨b, i, none⟩) hne).trans (h i hi).2⟩
theorem St.newest {W : World} {n : Nat} {t : TypeId} {x0 x1 x2 x3 : BitVec 64} (hn : W.heap.size = n) : St n (W.alloc (.cells #[.int .u64 (U x0), .int .u64 (U x1), .int .u64 (U x2), .int .u64 (U x3)] t)) x0 x1 x2 x3 :=
  ⟨cell_newest hn rfl, cell_newest hn rfl, cell_newest hn rfl, cell_newest hn rfl, frozen_newest hn, frozen_newest hn, frozen_newest hn, frozen_newest hn⟩
theorem St.later {b : Nat} {w wx : World} {x0 x1 x2 x3 : BitVec 64} (h : St b w x0 x1 x2 x3) (hb : Below w.heap.size w wx) : St b wx x0 x1 x2 x3 := by
  obtain ⟨h0, h1, h2, h3, g0, g1, g2, g3⟩ := h
  exact ⟨cell_later hb h0, cell_later hb h1, cell_later hb h2, cell_later hb h3, frozen_later hb h0 g0, frozen_later hb h1 g1, frozen_later hb h2 g2, frozen_later hb h3 g3⟩
set_option maxRecDepth 100000 in
set_option maxHeartbeats 1000000 in
theorem wmix_any (b0 b1 b2 b3 b4 b5 b6 b7 d0 d1 d2 d3 d4 d5 d6 d7 n0 n1 n2 n3 n4 n5 n6 n7 : BitVec 8) (w : World) :
    Calls Try.prog 7 #[.agg #[.int .u8 (B b0), .int .u8 (B b1), .int .u8 (B b2), .int .u8 (B b3), .int .u8 (B b4), .int .u8 (B b5), .int .u8 (B b6), .int .u8 (B b7), .int .u8 (B d0), .int .u8 (B d1), .int .u8 (B d2), .int .u8 (B d3), .int .u8 (B d4), .int .u8 (B d5), .int .u8 (B d6), .int .u8 (B d7)], .agg #[.int .u8 (B n0), .int .u8 (B n1), .int .u8 (B n2), .int .u8 (B n3), .int .u8 (B n4), .int .u8 (B n5), .int .u8 (B n6), .int .u8 (B n7)]] w
      fun e w' => e = .returned (outB (sipMix (leW [b0, b1, b2, b3, b4, b5, b6, b7]) (leW [d0, d1, d2, d3, d4, d5, d6, d7]) (leW [n0, n1, n2, n3, n4, n5, n6, n7]))) ∧ Below w.heap.size w w' := by
  go_enter Try.func7, Try.ntmps7
  go_wp2_with fail
  refine (start_any _ _ _ _ _ _ _ _ _ _ _ _ _ _ _ _ _).mono ?_
  rintro e w1 ⟨rfl, hb1⟩
  have Zs : Hid (Z8 (w.heap.size + 1 + 1) w1) := (Z8.newest (by simp)).later hb1
  have k0 : w1.cell? ⟨w.heap.size + 1, 0, none⟩ = some (.int .u8 (B n0)) := cell_later hb1 ((World.cell?_alloc_lt _ _ _ (by simp)).trans (cell_newest (by simp) rfl))
  have k1 : w1.cell? ⟨w.heap.size + 1, 1, none⟩ = some (.int .u8 (B n1)) := cell_later hb1 ((World.cell?_alloc_lt _ _ _ (by simp)).trans (cell_newest (by simp) rfl))
  have k2 : w1.cell? ⟨w.heap.size + 1, 2, none⟩ = some (.int .u8 (B n2)) := cell_later hb1 ((World.cell?_alloc_lt _ _ _ (by simp)).trans (cell_newest (by simp) rfl))
  have k3 : w1.cell? ⟨w.heap.size + 1, 3, none⟩ = some (.int .u8 (B n3)) := cell_later hb1 ((World.cell?_alloc_lt _ _ _ (by simp)).trans (cell_newest (by simp) rfl))
  have k4 : w1.cell? ⟨w.heap.size + 1, 4, none⟩ = some (.int .u8 (B n4)) := cell_later hb1 ((World.cell?_alloc_lt _ _ _ (by simp)).trans (cell_newest (by simp) rfl))
  have k5 : w1.cell? ⟨w.heap.size + 1, 5, none⟩ = some (.int .u8 (B n5)) := cell_later hb1 ((World.cell?_alloc_lt _ _ _ (by simp)).trans (cell_newest (by simp) rfl))
  have k6 : w1.cell? ⟨w.heap.size + 1, 6, none⟩ = some (.int .u8 (B n6)) := cell_later hb1 ((World.cell?_alloc_lt _ _ _ (by simp)).trans (cell_newest (by simp) rfl))
  have k7 : w1.cell? ⟨w.heap.size + 1, 7, none⟩ = some (.int .u8 (B n7)) := cell_later hb1 ((World.cell?_alloc_lt _ _ _ (by simp)).trans (cell_newest (by simp) rfl))
  have B1 : Hid (Below w.heap.size w w1) := (((Below.refl _ _).alloc (Nat.le_refl _) _).alloc (by simp) _).alloc (by simp; omega) _ |>.trans (hb1.mono (by simp; omega))
  have hz1 := hb1.size
  simp at hz1
  clear hb1
  replace k0 : ∀ o, (w1.alloc o).cell? ⟨w.heap.size + 1, 0, none⟩ = some (.int .u8 (B n0)) := fun o => (World.cell?_alloc_lt _ _ _ (by simp; omega)).trans k0
  replace k1 : ∀ o, (w1.alloc o).cell? ⟨w.heap.size + 1, 1, none⟩ = some (.int .u8 (B n1)) := fun o => (World.cell?_alloc_lt _ _ _ (by simp; omega)).trans k1
  replace k2 : ∀ o, (w1.alloc o).cell? ⟨w.heap.size + 1, 2, none⟩ = some (.int .u8 (B n2)) := fun o => (World.cell?_alloc_lt _ _ _ (by simp; omega)).trans k2
  replace k3 : ∀ o, (w1.alloc o).cell? ⟨w.heap.size + 1, 3, none⟩ = some (.int .u8 (B n3)) := fun o => (World.cell?_alloc_lt _ _ _ (by simp; omega)).trans k3
  replace k4 : ∀ o, (w1.alloc o).cell? ⟨w.heap.size + 1, 4, none⟩ = some (.int .u8 (B n4)) := fun o => (World.cell?_alloc_lt _ _ _ (by simp; omega)).trans k4
  replace k5 : ∀ o, (w1.alloc o).cell? ⟨w.heap.size + 1, 5, none⟩ = some (.int .u8 (B n5)) := fun o => (World.cell?_alloc_lt _ _ _ (by simp; omega)).trans k5
  replace k6 : ∀ o, (w1.alloc o).cell? ⟨w.heap.size + 1, 6, none⟩ = some (.int .u8 (B n6)) := fun o => (World.cell?_alloc_lt _ _ _ (by simp; omega)).trans k6
  replace k7 : ∀ o, (w1.alloc o).cell? ⟨w.heap.size + 1, 7, none⟩ = some (.int .u8 (B n7)) := fun o => (World.cell?_alloc_lt _ _ _ (by simp; omega)).trans k7
  go_wp2_with fail
  refine (wordOf_any _ _ _ _ _ _ _ _ _).mono ?_
  rintro e w2 ⟨rfl, hb2⟩
  clear k0 k1 k2 k3 k4 k5 k6 k7
  replace Zs : Hid (Z8 (w.heap.size + 1 + 1) w2) := (Zs.out.alloc _).later hb2
  have B2 : Hid (Below w.heap.size w w2) := (B1.out.alloc (by omega) _).trans (hb2.mono (by simp; omega))
  have S2 : Hid (St w1.heap.size w2 _ _ _ _) := (St.newest rfl).later hb2
  clear hb2 B1
  go_wp2_with fail
  refine (absorb_any w1.heap.size ⟨leW [b0, b1, b2, b3, b4, b5, b6, b7] ^^^ c0, leW [d0, d1, d2, d3, d4, d5, d6, d7] ^^^ c1, leW [b0, b1, b2, b3, b4, b5, b6, b7] ^^^ c2, leW [d0, d1, d2, d3, d4, d5, d6, d7] ^^^ c3⟩ (leW [n0, n1, n2, n3, n4, n5, n6, n7]) _ rfl _ S2.out).mono ?_
  rintro e w3 ⟨rfl, hs3, ht3⟩
  replace Zs : Hid (Z8 (w.heap.size + 1 + 1) w3) := Zs.out.turn ht3 (by omega)
  replace B2 : Hid (Below w.heap.size w w3) := B2.out.trans (ht3.below (by omega))
  have S3 : Hid (St w1.heap.size w3 _ _ _ _) := hs3
  clear hs3 ht3 S2
  go_wp2_with fail
  refine (absorb_any w1.heap.size (absorbed ⟨leW [b0, b1, b2, b3, b4, b5, b6, b7] ^^^ c0, leW [d0, d1, d2, d3, d4, d5, d6, d7] ^^^ c1, leW [b0, b1, b2, b3, b4, b5, b6, b7] ^^^ c2, leW [d0, d1, d2, d3, d4, d5, d6, d7] ^^^ c3⟩ (leW [n0, n1, n2, n3, n4, n5, n6, n7])) c8 _ rfl _ S3.out).mono ?_
  rintro e w4 ⟨rfl, hs4, ht4⟩
  replace Zs : Hid (Z8 (w.heap.size + 1 + 1) w4) := Zs.out.turn ht4 (by omega)
  replace B2 : Hid (Below w.heap.size w w4) := B2.out.trans (ht4.below (by omega))
  have S4 : Hid (St w1.heap.size w4 _ _ _ _) := hs4
  clear hs4 ht4 S3
  go_wp2_with fail
  refine (finish_any w1.heap.size _ _ S4.out).mono ?_
  rintro e w5 ⟨he, ht5⟩
  obtain ⟨X, hX⟩ : ∃ X, Hid (X = sipMix (leW [b0, b1, b2, b3, b4, b5, b6, b7]) (leW [d0, d1, d2, d3, d4, d5, d6, d7]) (leW [n0, n1, n2, n3, n4, n5, n6, n7])) := ⟨_, rfl⟩
  have he1 : e = .returned (.int .u64 (U X)) := by rw [he, hX.out]; rfl
  clear he
  subst he1
  replace Zs : Hid (Z8 (w.heap.size + 1 + 1) w5) := Zs.out.turn ht5 (by omega)
  replace B2 : Hid (Below w.heap.size w w5) := B2.out.trans (ht5.below (by omega))
  clear ht5 S4
  go_wp2_with fail
  refine (bytesOf_any _ _).mono ?_
  rintro e w6 ⟨rfl, hb6⟩
  replace Zs := Zs.out.later hb6
  replace B2 : Hid (Below w.heap.size w w6) := B2.out.trans (hb6.mono B2.out.size)
  clear hb6
  obtain ⟨z0, f0⟩ := Zs 0 (by omega)
  obtain ⟨z1, f1⟩ := Zs 1 (by omega)
  obtain ⟨z2, f2⟩ := Zs 2 (by omega)
  obtain ⟨z3, f3⟩ := Zs 3 (by omega)
  obtain ⟨z4, f4⟩ := Zs 4 (by omega)
  obtain ⟨z5, f5⟩ := Zs 5 (by omega)
  obtain ⟨z6, f6⟩ := Zs 6 (by omega)
  obtain ⟨z7, f7⟩ := Zs 7 (by omega)
  clear Zs
  simp only [outB, outTo_8]
  go_wp2
  refine bodyPost_ret (v := outB X) (by simp [results, Try.results7, go_sem, outB, outTo_8, z0, z1, z2, z3, z4, z5, z6, z7]) rfl ⟨by rw [hX.out], ?_⟩
  exact (((((((B2.out.setCell (by simp; omega) _).setCell (by simp; omega) _).setCell (by simp; omega) _).setCell (by simp; omega) _).setCell (by simp; omega) _).setCell (by simp; omega) _).setCell (by simp; omega) _).setCell (by simp; omega) _
end Go.Proofs.Ytpnfkcbbjcimgaa
