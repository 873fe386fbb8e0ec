import Derived.Test.YtpnfkcbbjcimgaaWparts
namespace Go.Proofs.Ytpnfkcbbjcimgaa
open Go.RowKit
attribute [local go_sem] U_add U_xor
theorem frozen_later {w wx : World} {a : Addr} {v : Value} {f : Bool} (hb : Below w.heap.size w wx) (hc : w.cell? a = some v) (h : w.frozen? a = f) : wx.frozen? a = f :=
  (hb.frozen (World.block_lt_of_cell? w a hc)).trans h
theorem cell_newest {W : World} {n : Nat} {c : Array Value} {t : TypeId} {i : Nat} {v : Value} (hn : W.heap.size = n) (hv : c[i]? = some v) : (W.alloc (.cells c t)).cell? ⟨n, i, none⟩ = some v := by
  subst hn; rw [World.cell?_alloc_new]; exact hv
theorem frozen_newest {W : World} {n : Nat} {c : Array Value} {t : TypeId} {i : Nat} (hn : W.heap.size = n) : (W.alloc (.cells c t)).frozen? ⟨n, i, none⟩ = false := by
  subst hn; rw [World.frozen?_alloc_new]
def c0 : BitVec 64 := 0x736f6d6570736575#64
def c1 : BitVec 64 := 0x646f72616e646f6d#64
def c2 : BitVec 64 := 0x6c7967656e657261#64
def c3 : BitVec 64 := 0x7465646279746573#64
theorem U_c0 (x : BitVec 64) : bits .xor .u64 (U x) 8317987319222330741 = U (x ^^^ c0) := U_xor x c0
theorem U_c1 (x : BitVec 64) : bits .xor .u64 (U x) 7237128888997146477 = U (x ^^^ c1) := U_xor x c1
theorem U_c2 (x : BitVec 64) : bits .xor .u64 (U x) 7816392313619706465 = U (x ^^^ c2) := U_xor x c2
theorem U_c3 (x : BitVec 64) : bits .xor .u64 (U x) 8387220255154660723 = U (x ^^^ c3) := U_xor x c3
set_option maxRecDepth 100000 in
set_option maxHeartbeats 1000000 in
theorem start_any (b0 b1 b2 b3 b4 b5 b6 b7 d0 d1 d2 d3 d4 d5 d6 d7 : BitVec 8) (w : World) :
    Calls Try.prog 23 #[.agg #[.int .u8 (B b0), .int .u8 (B b1), .int .u8 (B b2), .int .u8 (B b3), .int .u8 (B b4), .int .u8 (B b5), .int .u8 (B b6), .int .u8 (B b7), .int .u8 (B d0), .int .u8 (B d1), .int .u8 (B d2), .int .u8 (B d3), .int .u8 (B d4), .int .u8 (B d5), .int .u8 (B d6), .int .u8 (B d7)]] w
      fun e w' => e = .returned (.agg #[.int .u64 (U (leW [b0, b1, b2, b3, b4, b5, b6, b7] ^^^ c0)), .int .u64 (U (leW [d0, d1, d2, d3, d4, d5, d6, d7] ^^^ c1)), .int .u64 (U (leW [b0, b1, b2, b3, b4, b5, b6, b7] ^^^ c2)), .int .u64 (U (leW [d0, d1, d2, d3, d4, d5, d6, d7] ^^^ c3))]) ∧ Below w.heap.size w w' := by
  have q8 : ∀ (b o : Nat) (w : World), (Instr.arrayAt 23 (.slice (some ⟨b, o, none⟩) 8 16)).run Try.prog w = .ok (.pointer (some ⟨b, o, none⟩)) w := fun _ _ _ => by kernel_rfl
  have r8 : ∀ (b o : Nat) (w : World), (Instr.arrayAt 23 (.slice (some ⟨b, o, none⟩) 8 8)).run Try.prog w = .ok (.pointer (some ⟨b, o, none⟩)) w := fun _ _ _ => by kernel_rfl
  go_enter Try.func23, Try.ntmps23
  go_wp2_with fail
  refine (wordOf_any _ _ _ _ _ _ _ _ _).mono ?_
  rintro e w1 ⟨rfl, hb1⟩
  have B1 : Hid (Below _ _ w1) := hb1
  have hz1 := hb1.size
  simp at hz1
  have k8 : w1.cell? ⟨w.heap.size, 8, none⟩ = some (.int .u8 (B d0)) := cell_later hb1 (by simp [World.cell?_alloc_old])
  have k9 : w1.cell? ⟨w.heap.size, 9, none⟩ = some (.int .u8 (B d1)) := cell_later hb1 (by simp [World.cell?_alloc_old])
  have k10 : w1.cell? ⟨w.heap.size, 10, none⟩ = some (.int .u8 (B d2)) := cell_later hb1 (by simp [World.cell?_alloc_old])
  have k11 : w1.cell? ⟨w.heap.size, 11, none⟩ = some (.int .u8 (B d3)) := cell_later hb1 (by simp [World.cell?_alloc_old])
  have k12 : w1.cell? ⟨w.heap.size, 12, none⟩ = some (.int .u8 (B d4)) := cell_later hb1 (by simp [World.cell?_alloc_old])
  have k13 : w1.cell? ⟨w.heap.size, 13, none⟩ = some (.int .u8 (B d5)) := cell_later hb1 (by simp [World.cell?_alloc_old])
  have k14 : w1.cell? ⟨w.heap.size, 14, none⟩ = some (.int .u8 (B d6)) := cell_later hb1 (by simp [World.cell?_alloc_old])
  have k15 : w1.cell? ⟨w.heap.size, 15, none⟩ = some (.int .u8 (B d7)) := cell_later hb1 (by simp [World.cell?_alloc_old])
  have z0 : w1.cell? ⟨w.heap.size + 1, 0, none⟩ = some (.int .u64 0) := cell_later hb1 (cell_newest (by simp) rfl)
  have z1 : w1.cell? ⟨w.heap.size + 1, 1, none⟩ = some (.int .u64 0) := cell_later hb1 (cell_newest (by simp) rfl)
  have z2 : w1.cell? ⟨w.heap.size + 1, 2, none⟩ = some (.int .u64 0) := cell_later hb1 (cell_newest (by simp) rfl)
  have z3 : w1.cell? ⟨w.heap.size + 1, 3, none⟩ = some (.int .u64 0) := cell_later hb1 (cell_newest (by simp) rfl)
  have f0 : w1.frozen? ⟨w.heap.size + 1, 0, none⟩ = false := frozen_later hb1 (v := .int .u64 0) (cell_newest (by simp) rfl) (frozen_newest (by simp))
  have f1 : w1.frozen? ⟨w.heap.size + 1, 1, none⟩ = false := frozen_later hb1 (v := .int .u64 0) (cell_newest (by simp) rfl) (frozen_newest (by simp))
  have f2 : w1.frozen? ⟨w.heap.size + 1, 2, none⟩ = false := frozen_later hb1 (v := .int .u64 0) (cell_newest (by simp) rfl) (frozen_newest (by simp))
  have f3 : w1.frozen? ⟨w.heap.size + 1, 3, none⟩ = false := frozen_later hb1 (v := .int .u64 0) (cell_newest (by simp) rfl) (frozen_newest (by simp))
  clear hb1
  go_wp2_with fail
  refine (wordOf_any _ _ _ _ _ _ _ _ _).mono ?_
  rintro e w2 ⟨rfl, hb2⟩
  have f0 := frozen_later hb2 z0 f0
  have f1 := frozen_later hb2 z1 f1
  have f2 := frozen_later hb2 z2 f2
  have f3 := frozen_later hb2 z3 f3
  have z0 := cell_later hb2 z0
  have z1 := cell_later hb2 z1
  have z2 := cell_later hb2 z2
  have z3 := cell_later hb2 z3
  have B2 : Hid (Below _ _ w2) := hb2
  have hz2 := hb2.size
  clear hb2 k8 k9 k10 k11 k12 k13 k14 k15 q8 r8
  have e0 := U_c0 (leW [b0, b1, b2, b3, b4, b5, b6, b7])
  have e2 := U_c2 (leW [b0, b1, b2, b3, b4, b5, b6, b7])
  have e1 := U_c1 (leW [d0, d1, d2, d3, d4, d5, d6, d7])
  have e3 := U_c3 (leW [d0, d1, d2, d3, d4, d5, d6, d7])
  go_wp2
  refine bodyPost_ret (v := .agg #[.int .u64 (U (leW [b0, b1, b2, b3, b4, b5, b6, b7] ^^^ c0)), .int .u64 (U (leW [d0, d1, d2, d3, d4, d5, d6, d7] ^^^ c1)), .int .u64 (U (leW [b0, b1, b2, b3, b4, b5, b6, b7] ^^^ c2)), .int .u64 (U (leW [d0, d1, d2, d3, d4, d5, d6, d7] ^^^ c3))]) (by simp [results, Try.results23, go_sem, z0, z1, z2, z3]) rfl ⟨rfl, ?_⟩
  have b0 : Below w.heap.size w w2 := ((((Below.refl _ _).alloc (Nat.le_refl _) _).alloc (by simp) _).trans (B1.out.mono (by simp; omega))).trans (B2.out.mono (by omega))
  exact (((b0.setCell (by simp) _).setCell (by simp) _).setCell (by simp) _).setCell (by simp) _
end Go.Proofs.Ytpnfkcbbjcimgaa
