import Derived.Test.YtpnfkcbbjcimgaaRmix
import Derived.Test.YtpnfkcbbjcimgaaEqb
namespace Go.Proofs.Ytpnfkcbbjcimgaa
open Go.RowKit
set_option maxRecDepth 100000 in
set_option maxHeartbeats 1000000 in
theorem mixes_any (b0 b1 b2 b3 b4 b5 b6 b7 d0 d1 d2 d3 d4 d5 d6 d7 n0 n1 n2 n3 n4 n5 n6 n7 : BitVec 8) (w : World) :
    Calls Try.prog 3 #[.agg #[.int .u8 (B b0), .int .u8 (B b1), .int .u8 (B b2), .int .u8 (B b3), .int .u8 (B b4), .int .u8 (B b5), .int .u8 (B b6), .int .u8 (B b7), .int .u8 (B d0), .int .u8 (B d1), .int .u8 (B d2), .int .u8 (B d3), .int .u8 (B d4), .int .u8 (B d5), .int .u8 (B d6), .int .u8 (B d7)], .agg #[.int .u8 (B n0), .int .u8 (B n1), .int .u8 (B n2), .int .u8 (B n3), .int .u8 (B n4), .int .u8 (B n5), .int .u8 (B n6), .int .u8 (B n7)]] w
      fun e w' => e = .returned (.bool true) ∧ Below w.heap.size w w' := by
  go_enter Try.func3, Try.ntmps3
  go_wp2_with fail
  refine (wmix_any _ _ _ _ _ _ _ _ _ _ _ _ _ _ _ _ _ _ _ _ _ _ _ _ _).mono ?_
  rintro e w1 ⟨rfl, hb1⟩
  have hz1 := hb1.size
  simp at hz1
  have B1 : Hid (Below w.heap.size w w1) := (((Below.refl _ _).alloc (Nat.le_refl _) _).alloc (by simp) _).trans (hb1.mono (by simp; omega))
  have k0 : ∀ o, (w1.alloc o).cell? ⟨w.heap.size, 0, none⟩ = some (.int .u8 (B b0)) := fun o => (World.cell?_alloc_lt _ _ _ (by simp; omega)).trans (cell_later hb1 ((World.cell?_alloc_lt _ _ _ (by simp)).trans (cell_newest (by simp) rfl)))
  have k1 : ∀ o, (w1.alloc o).cell? ⟨w.heap.size, 1, none⟩ = some (.int .u8 (B b1)) := fun o => (World.cell?_alloc_lt _ _ _ (by simp; omega)).trans (cell_later hb1 ((World.cell?_alloc_lt _ _ _ (by simp)).trans (cell_newest (by simp) rfl)))
  have k2 : ∀ o, (w1.alloc o).cell? ⟨w.heap.size, 2, none⟩ = some (.int .u8 (B b2)) := fun o => (World.cell?_alloc_lt _ _ _ (by simp; omega)).trans (cell_later hb1 ((World.cell?_alloc_lt _ _ _ (by simp)).trans (cell_newest (by simp) rfl)))
  have k3 : ∀ o, (w1.alloc o).cell? ⟨w.heap.size, 3, none⟩ = some (.int .u8 (B b3)) := fun o => (World.cell?_alloc_lt _ _ _ (by simp; omega)).trans (cell_later hb1 ((World.cell?_alloc_lt _ _ _ (by simp)).trans (cell_newest (by simp) rfl)))
  have k4 : ∀ o, (w1.alloc o).cell? ⟨w.heap.size, 4, none⟩ = some (.int .u8 (B b4)) := fun o => (World.cell?_alloc_lt _ _ _ (by simp; omega)).trans (cell_later hb1 ((World.cell?_alloc_lt _ _ _ (by simp)).trans (cell_newest (by simp) rfl)))
  have k5 : ∀ o, (w1.alloc o).cell? ⟨w.heap.size, 5, none⟩ = some (.int .u8 (B b5)) := fun o => (World.cell?_alloc_lt _ _ _ (by simp; omega)).trans (cell_later hb1 ((World.cell?_alloc_lt _ _ _ (by simp)).trans (cell_newest (by simp) rfl)))
  have k6 : ∀ o, (w1.alloc o).cell? ⟨w.heap.size, 6, none⟩ = some (.int .u8 (B b6)) := fun o => (World.cell?_alloc_lt _ _ _ (by simp; omega)).trans (cell_later hb1 ((World.cell?_alloc_lt _ _ _ (by simp)).trans (cell_newest (by simp) rfl)))
  have k7 : ∀ o, (w1.alloc o).cell? ⟨w.heap.size, 7, none⟩ = some (.int .u8 (B b7)) := fun o => (World.cell?_alloc_lt _ _ _ (by simp; omega)).trans (cell_later hb1 ((World.cell?_alloc_lt _ _ _ (by simp)).trans (cell_newest (by simp) rfl)))
  have k8 : ∀ o, (w1.alloc o).cell? ⟨w.heap.size, 8, none⟩ = some (.int .u8 (B d0)) := fun o => (World.cell?_alloc_lt _ _ _ (by simp; omega)).trans (cell_later hb1 ((World.cell?_alloc_lt _ _ _ (by simp)).trans (cell_newest (by simp) rfl)))
  have k9 : ∀ o, (w1.alloc o).cell? ⟨w.heap.size, 9, none⟩ = some (.int .u8 (B d1)) := fun o => (World.cell?_alloc_lt _ _ _ (by simp; omega)).trans (cell_later hb1 ((World.cell?_alloc_lt _ _ _ (by simp)).trans (cell_newest (by simp) rfl)))
  have k10 : ∀ o, (w1.alloc o).cell? ⟨w.heap.size, 10, none⟩ = some (.int .u8 (B d2)) := fun o => (World.cell?_alloc_lt _ _ _ (by simp; omega)).trans (cell_later hb1 ((World.cell?_alloc_lt _ _ _ (by simp)).trans (cell_newest (by simp) rfl)))
  have k11 : ∀ o, (w1.alloc o).cell? ⟨w.heap.size, 11, none⟩ = some (.int .u8 (B d3)) := fun o => (World.cell?_alloc_lt _ _ _ (by simp; omega)).trans (cell_later hb1 ((World.cell?_alloc_lt _ _ _ (by simp)).trans (cell_newest (by simp) rfl)))
  have k12 : ∀ o, (w1.alloc o).cell? ⟨w.heap.size, 12, none⟩ = some (.int .u8 (B d4)) := fun o => (World.cell?_alloc_lt _ _ _ (by simp; omega)).trans (cell_later hb1 ((World.cell?_alloc_lt _ _ _ (by simp)).trans (cell_newest (by simp) rfl)))
  have k13 : ∀ o, (w1.alloc o).cell? ⟨w.heap.size, 13, none⟩ = some (.int .u8 (B d5)) := fun o => (World.cell?_alloc_lt _ _ _ (by simp; omega)).trans (cell_later hb1 ((World.cell?_alloc_lt _ _ _ (by simp)).trans (cell_newest (by simp) rfl)))
  have k14 : ∀ o, (w1.alloc o).cell? ⟨w.heap.size, 14, none⟩ = some (.int .u8 (B d6)) := fun o => (World.cell?_alloc_lt _ _ _ (by simp; omega)).trans (cell_later hb1 ((World.cell?_alloc_lt _ _ _ (by simp)).trans (cell_newest (by simp) rfl)))
  have k15 : ∀ o, (w1.alloc o).cell? ⟨w.heap.size, 15, none⟩ = some (.int .u8 (B d7)) := fun o => (World.cell?_alloc_lt _ _ _ (by simp; omega)).trans (cell_later hb1 ((World.cell?_alloc_lt _ _ _ (by simp)).trans (cell_newest (by simp) rfl)))
  have j0 : ∀ o, (w1.alloc o).cell? ⟨w.heap.size + 1, 0, none⟩ = some (.int .u8 (B n0)) := fun o => (World.cell?_alloc_lt _ _ _ (by simp; omega)).trans (cell_later hb1 (cell_newest (by simp) rfl))
  have j1 : ∀ o, (w1.alloc o).cell? ⟨w.heap.size + 1, 1, none⟩ = some (.int .u8 (B n1)) := fun o => (World.cell?_alloc_lt _ _ _ (by simp; omega)).trans (cell_later hb1 (cell_newest (by simp) rfl))
  have j2 : ∀ o, (w1.alloc o).cell? ⟨w.heap.size + 1, 2, none⟩ = some (.int .u8 (B n2)) := fun o => (World.cell?_alloc_lt _ _ _ (by simp; omega)).trans (cell_later hb1 (cell_newest (by simp) rfl))
  have j3 : ∀ o, (w1.alloc o).cell? ⟨w.heap.size + 1, 3, none⟩ = some (.int .u8 (B n3)) := fun o => (World.cell?_alloc_lt _ _ _ (by simp; omega)).trans (cell_later hb1 (cell_newest (by simp) rfl))
  have j4 : ∀ o, (w1.alloc o).cell? ⟨w.heap.size + 1, 4, none⟩ = some (.int .u8 (B n4)) := fun o => (World.cell?_alloc_lt _ _ _ (by simp; omega)).trans (cell_later hb1 (cell_newest (by simp) rfl))
  have j5 : ∀ o, (w1.alloc o).cell? ⟨w.heap.size + 1, 5, none⟩ = some (.int .u8 (B n5)) := fun o => (World.cell?_alloc_lt _ _ _ (by simp; omega)).trans (cell_later hb1 (cell_newest (by simp) rfl))
  have j6 : ∀ o, (w1.alloc o).cell? ⟨w.heap.size + 1, 6, none⟩ = some (.int .u8 (B n6)) := fun o => (World.cell?_alloc_lt _ _ _ (by simp; omega)).trans (cell_later hb1 (cell_newest (by simp) rfl))
  have j7 : ∀ o, (w1.alloc o).cell? ⟨w.heap.size + 1, 7, none⟩ = some (.int .u8 (B n7)) := fun o => (World.cell?_alloc_lt _ _ _ (by simp; omega)).trans (cell_later hb1 (cell_newest (by simp) rfl))
  clear hb1
  generalize hX : sipMix (leW [b0, b1, b2, b3, b4, b5, b6, b7]) (leW [d0, d1, d2, d3, d4, d5, d6, d7]) (leW [n0, n1, n2, n3, n4, n5, n6, n7]) = X
  have HX := Hid.out (p := Hid (sipMix (leW [b0, b1, b2, b3, b4, b5, b6, b7]) (leW [d0, d1, d2, d3, d4, d5, d6, d7]) (leW [n0, n1, n2, n3, n4, n5, n6, n7]) = X)) hX
  clear hX
  simp only [outB, outTo_8]
  go_wp2_with fail
  refine (rmix_any _ _ _ _ _ _ _ _ _ _ _ _ _ _ _ _ _ _ _ _ _ _ _ _ _).mono ?_
  rintro e w2 ⟨he, hb2⟩
  rw [HX.out] at he
  subst he
  simp only [outB, outTo_8]
  have hz2 := hb2.size
  simp at hz2
  have B2 : Hid (Below w.heap.size w w2) := (B1.out.alloc (by omega) _).trans (hb2.mono (by simp; omega))
  have a0 : ∀ o, (w2.alloc o).cell? ⟨w1.heap.size, 0, none⟩ = some (.int .u8 (B (byteOf X 0))) := fun o => (World.cell?_alloc_lt _ _ _ (by simp; omega)).trans (cell_later hb2 (cell_newest (by simp) rfl))
  have a1 : ∀ o, (w2.alloc o).cell? ⟨w1.heap.size, 1, none⟩ = some (.int .u8 (B (byteOf X 1))) := fun o => (World.cell?_alloc_lt _ _ _ (by simp; omega)).trans (cell_later hb2 (cell_newest (by simp) rfl))
  have a2 : ∀ o, (w2.alloc o).cell? ⟨w1.heap.size, 2, none⟩ = some (.int .u8 (B (byteOf X 2))) := fun o => (World.cell?_alloc_lt _ _ _ (by simp; omega)).trans (cell_later hb2 (cell_newest (by simp) rfl))
  have a3 : ∀ o, (w2.alloc o).cell? ⟨w1.heap.size, 3, none⟩ = some (.int .u8 (B (byteOf X 3))) := fun o => (World.cell?_alloc_lt _ _ _ (by simp; omega)).trans (cell_later hb2 (cell_newest (by simp) rfl))
  have a4 : ∀ o, (w2.alloc o).cell? ⟨w1.heap.size, 4, none⟩ = some (.int .u8 (B (byteOf X 4))) := fun o => (World.cell?_alloc_lt _ _ _ (by simp; omega)).trans (cell_later hb2 (cell_newest (by simp) rfl))
  have a5 : ∀ o, (w2.alloc o).cell? ⟨w1.heap.size, 5, none⟩ = some (.int .u8 (B (byteOf X 5))) := fun o => (World.cell?_alloc_lt _ _ _ (by simp; omega)).trans (cell_later hb2 (cell_newest (by simp) rfl))
  have a6 : ∀ o, (w2.alloc o).cell? ⟨w1.heap.size, 6, none⟩ = some (.int .u8 (B (byteOf X 6))) := fun o => (World.cell?_alloc_lt _ _ _ (by simp; omega)).trans (cell_later hb2 (cell_newest (by simp) rfl))
  have a7 : ∀ o, (w2.alloc o).cell? ⟨w1.heap.size, 7, none⟩ = some (.int .u8 (B (byteOf X 7))) := fun o => (World.cell?_alloc_lt _ _ _ (by simp; omega)).trans (cell_later hb2 (cell_newest (by simp) rfl))
  clear hb2 B1 k0 k1 k2 k3 k4 k5 k6 k7 k8 k9 k10 k11 k12 k13 k14 k15 j0 j1 j2 j3 j4 j5 j6 j7
  have hq : ∀ W : World, (Op.equalIn 10000 23 (.agg #[.int .u8 (B (byteOf X 0)), .int .u8 (B (byteOf X 1)), .int .u8 (B (byteOf X 2)), .int .u8 (B (byteOf X 3)), .int .u8 (B (byteOf X 4)), .int .u8 (B (byteOf X 5)), .int .u8 (B (byteOf X 6)), .int .u8 (B (byteOf X 7))]) (.agg #[.int .u8 (B (byteOf X 0)), .int .u8 (B (byteOf X 1)), .int .u8 (B (byteOf X 2)), .int .u8 (B (byteOf X 3)), .int .u8 (B (byteOf X 4)), .int .u8 (B (byteOf X 5)), .int .u8 (B (byteOf X 6)), .int .u8 (B (byteOf X 7))])).run Try.prog W = .ok true W := fun W => by
    have h := eq23 [B (byteOf X 0), B (byteOf X 1), B (byteOf X 2), B (byteOf X 3), B (byteOf X 4), B (byteOf X 5), B (byteOf X 6), B (byteOf X 7)] [B (byteOf X 0), B (byteOf X 1), B (byteOf X 2), B (byteOf X 3), B (byteOf X 4), B (byteOf X 5), B (byteOf X 6), B (byteOf X 7)] rfl rfl W
    have e : ((List.range 8).all fun i => [B (byteOf X 0), B (byteOf X 1), B (byteOf X 2), B (byteOf X 3), B (byteOf X 4), B (byteOf X 5), B (byteOf X 6), B (byteOf X 7)].getD i 0 == [B (byteOf X 0), B (byteOf X 1), B (byteOf X 2), B (byteOf X 3), B (byteOf X 4), B (byteOf X 5), B (byteOf X 6), B (byteOf X 7)].getD i 0) = true := by rw [List.all_eq_true]; intro i _; exact beq_self_eq_true _
    rw [e] at h
    exact h
  go_wp2
  go_ret
  exact ⟨rfl, B2.out.alloc (by have := B2.out.size; omega) _⟩
end Go.Proofs.Ytpnfkcbbjcimgaa
