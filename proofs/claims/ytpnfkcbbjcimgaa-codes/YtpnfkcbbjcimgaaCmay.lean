import Derived.Test.YtpnfkcbbjcimgaaCwrit
namespace Go.Proofs.Ytpnfkcbbjcimgaa
open Go.RowKit
attribute [local go_sem] row_0 row_1 row_2 row_3 row_4 row_5 row_30 row_31
def firstB (q : Rq) : Bool := isKind q.kd && inB q.ac 255 && inB q.dv 255 && inB q.mo 255 && inB q.rg 65535 && inB q.cu 4294967295 && decide (q.sn ≤ 8) && decide (q.tx.size ≤ 16)
set_option maxRecDepth 100000 in
set_option maxHeartbeats 4000000 in
theorem rmay_first (q : Rq) (w : World) (_hn : q.sn ≤ 9223372036854775807) (_ht : q.tx.size ≤ 9223372036854775807) (h : firstB q = false) :
    Calls Try.prog 30 #[.agg q.row] w fun e w' => e = .returned (.bool false) ∧ Below w.heap.size w w' := by
  unfold firstB isKind at h
  by_cases h1 : q.kd < 1
  · clear h
    go_enter Try.func30, Try.ntmps30
    go_wp2_with (go_at_call 50; refine (in_any _ _ _).mono ?_; rintro e w' ⟨rfl, rfl⟩)
    go_ret
    exact ⟨rfl, (((Below.refl _ _).alloc (Nat.le_refl _) _).alloc (by simp) _).alloc (by simp; omega) _⟩
  by_cases h2 : q.kd > 6
  · clear h
    go_enter Try.func30, Try.ntmps30
    go_wp2_with (go_at_call 50; refine (in_any _ _ _).mono ?_; rintro e w' ⟨rfl, rfl⟩)
    go_ret
    exact ⟨rfl, (((Below.refl _ _).alloc (Nat.le_refl _) _).alloc (by simp) _).alloc (by simp; omega) _⟩
  by_cases g0 : inB q.ac 255 = false
  · clear h
    go_enter Try.func30, Try.ntmps30
    go_wp2_with (go_at_call 50; refine (in_any _ _ _).mono ?_; rintro e w' ⟨rfl, rfl⟩)
    go_ret
    exact ⟨rfl, (((Below.refl _ _).alloc (Nat.le_refl _) _).alloc (by simp) _).alloc (by simp; omega) _⟩
  have g0 : inB q.ac 255 = true := by simpa using g0
  by_cases g1 : inB q.dv 255 = false
  · clear h
    go_enter Try.func30, Try.ntmps30
    go_wp2_with (go_at_call 50; refine (in_any _ _ _).mono ?_; rintro e w' ⟨rfl, rfl⟩)
    go_ret
    exact ⟨rfl, (((Below.refl _ _).alloc (Nat.le_refl _) _).alloc (by simp) _).alloc (by simp; omega) _⟩
  have g1 : inB q.dv 255 = true := by simpa using g1
  by_cases g2 : inB q.mo 255 = false
  · clear h
    go_enter Try.func30, Try.ntmps30
    go_wp2_with (go_at_call 50; refine (in_any _ _ _).mono ?_; rintro e w' ⟨rfl, rfl⟩)
    go_ret
    exact ⟨rfl, (((Below.refl _ _).alloc (Nat.le_refl _) _).alloc (by simp) _).alloc (by simp; omega) _⟩
  have g2 : inB q.mo 255 = true := by simpa using g2
  by_cases g3 : inB q.rg 65535 = false
  · clear h
    go_enter Try.func30, Try.ntmps30
    go_wp2_with (go_at_call 50; refine (in_any _ _ _).mono ?_; rintro e w' ⟨rfl, rfl⟩)
    go_ret
    exact ⟨rfl, (((Below.refl _ _).alloc (Nat.le_refl _) _).alloc (by simp) _).alloc (by simp; omega) _⟩
  have g3 : inB q.rg 65535 = true := by simpa using g3
  by_cases g4 : inB q.cu 4294967295 = false
  · clear h
    go_enter Try.func30, Try.ntmps30
    go_wp2_with (go_at_call 50; refine (in_any _ _ _).mono ?_; rintro e w' ⟨rfl, rfl⟩)
    go_ret
    exact ⟨rfl, (((Below.refl _ _).alloc (Nat.le_refl _) _).alloc (by simp) _).alloc (by simp; omega) _⟩
  have g4 : inB q.cu 4294967295 = true := by simpa using g4
  by_cases h3 : q.sn > 8
  · clear h
    go_enter Try.func30, Try.ntmps30
    go_wp2_with (go_at_call 50; refine (in_any _ _ _).mono ?_; rintro e w' ⟨rfl, rfl⟩)
    go_ret
    exact ⟨rfl, (((Below.refl _ _).alloc (Nat.le_refl _) _).alloc (by simp) _).alloc (by simp; omega) _⟩
  by_cases h4 : q.tx.size > 16
  · clear h
    go_enter Try.func30, Try.ntmps30
    go_wp2_with (go_at_call 50; refine (in_any _ _ _).mono ?_; rintro e w' ⟨rfl, rfl⟩)
    go_ret
    exact ⟨rfl, (((Below.refl _ _).alloc (Nat.le_refl _) _).alloc (by simp) _).alloc (by simp; omega) _⟩
  exfalso
  rw [g0, g1, g2, g3, g4] at h
  simp at h
  omega
end Go.Proofs.Ytpnfkcbbjcimgaa
