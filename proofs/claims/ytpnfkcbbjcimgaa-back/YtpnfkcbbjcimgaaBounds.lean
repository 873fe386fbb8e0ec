import Derived.Test.YtpnfkcbbjcimgaaChecked
import Derived.WalkKit
import Derived.WalkSpells
import Derived.WalkLawsBesides
import Derived.RegionTactic
import Derived.BigRegion
import Derived.BigQuiet
import Derived.Deep.RegionWith
import Derived.Deep.DeepCutAuto
import Derived.Deep.QuietTactic
import Derived.Deep.DeepMust
import Derived.Test.YtpnfkcbbjcimgaaSip
import Derived.Test.YtpnfkcbbjcimgaaEqb
namespace Go.Proofs.Ytpnfkcbbjcimgaa
open Go.RowKit
/-- From 0 to a bound. -/
def inB (n most : Int) : Bool := decide (0 ≤ n) && decide (n ≤ most)
theorem inB_iff {n most : Int} : inB n most = true ↔ 0 ≤ n ∧ n ≤ most := by simp [inB]
set_option maxHeartbeats 400000 in
theorem within_any (n most : Int) (w : World) : Calls Try.prog 82 #[.int .i64 n, .int .i64 most] w fun e w' => e = .returned (.bool (inB n most)) ∧ w' = w := by
  by_cases h0 : 0 ≤ n
  · by_cases h1 : n ≤ most
    · have e : inB n most = true := inB_iff.2 ⟨h0, h1⟩
      rw [e]
      clear e
      go_enter Try.func82, Try.ntmps82
      go_wp2
      go_ret
      exact ⟨rfl, rfl⟩
    · have e : inB n most = false := by simp [inB, h1]
      rw [e]
      clear e
      go_enter Try.func82, Try.ntmps82
      go_wp2
      go_ret
      exact ⟨rfl, rfl⟩
  · have e : inB n most = false := by simp [inB, h0]
    rw [e]
    clear e
    go_enter Try.func82, Try.ntmps82
    go_wp2
    go_ret
    exact ⟨rfl, rfl⟩
/-- The bounds of a kind. -/
structure Bd where
  a : Int
  d : Int
  r : Int
  c : Int
  m : Int
  cl : Int
  t : Int
  k : Bool
  mac : Bool
def bdV (b : Bd) : Value := .agg #[.int .i64 b.a, .int .i64 b.d, .int .i64 b.r, .int .i64 b.c, .int .i64 b.m, .int .i64 b.cl, .int .i64 b.t, .bool b.k, .bool b.mac]
def bdOf (kind : Int) : Bd :=
  if kind = 1 then ⟨255, 255, 65535, 0, 0, 0, 0, true, false⟩
  else if kind = 2 then ⟨255, 255, 0, 0, 0, 0, 0, false, true⟩
  else if kind = 3 then ⟨0, 255, 0, 0, 0, 0, 0, false, false⟩
  else if kind = 4 then ⟨255, 0, 0, 0, 0, 8, 16, false, false⟩
  else if kind = 5 then ⟨0, 0, 0, 4294967295, 255, 0, 0, false, false⟩
  else if kind = 6 then ⟨0, 0, 0, 4294967295, 0, 0, 0, false, false⟩
  else ⟨0, 0, 0, 0, 0, 0, 0, false, false⟩
def isKind (kind : Int) : Bool := decide (1 ≤ kind ∧ kind ≤ 6)

set_option maxRecDepth 100000 in
set_option maxHeartbeats 1000000 in
theorem boundsOf_any (kd : Int) (w : World) : Calls Try.prog 51 #[.int .i64 kd] w fun e w' => e = .returned (.tuple #[bdV (bdOf kd), .bool (isKind kd)]) ∧ Below w.heap.size w w' := by
  by_cases h1 : kd = 1
  · subst h1
    go_enter Try.func51, Try.ntmps51
    go_wp2
    exact bodyPost_ret (v := .tuple #[bdV (bdOf 1), .bool (isKind 1)]) (by simp [results, Try.results51, go_sem, bdV, bdOf, isKind]) rfl ⟨rfl, (Below.refl _ _).alloc (Nat.le_refl _) _⟩
  by_cases h2 : kd = 2
  · subst h2
    go_enter Try.func51, Try.ntmps51
    go_wp2
    exact bodyPost_ret (v := .tuple #[bdV (bdOf 2), .bool (isKind 2)]) (by simp [results, Try.results51, go_sem, bdV, bdOf, isKind]) rfl ⟨rfl, (Below.refl _ _).alloc (Nat.le_refl _) _⟩
  by_cases h3 : kd = 3
  · subst h3
    go_enter Try.func51, Try.ntmps51
    go_wp2
    exact bodyPost_ret (v := .tuple #[bdV (bdOf 3), .bool (isKind 3)]) (by simp [results, Try.results51, go_sem, bdV, bdOf, isKind]) rfl ⟨rfl, (Below.refl _ _).alloc (Nat.le_refl _) _⟩
  by_cases h4 : kd = 4
  · subst h4
    go_enter Try.func51, Try.ntmps51
    go_wp2
    exact bodyPost_ret (v := .tuple #[bdV (bdOf 4), .bool (isKind 4)]) (by simp [results, Try.results51, go_sem, bdV, bdOf, isKind]) rfl ⟨rfl, (Below.refl _ _).alloc (Nat.le_refl _) _⟩
  by_cases h5 : kd = 5
  · subst h5
    go_enter Try.func51, Try.ntmps51
    go_wp2
    exact bodyPost_ret (v := .tuple #[bdV (bdOf 5), .bool (isKind 5)]) (by simp [results, Try.results51, go_sem, bdV, bdOf, isKind]) rfl ⟨rfl, (Below.refl _ _).alloc (Nat.le_refl _) _⟩
  by_cases h6 : kd = 6
  · subst h6
    go_enter Try.func51, Try.ntmps51
    go_wp2
    exact bodyPost_ret (v := .tuple #[bdV (bdOf 6), .bool (isKind 6)]) (by simp [results, Try.results51, go_sem, bdV, bdOf, isKind]) rfl ⟨rfl, (Below.refl _ _).alloc (Nat.le_refl _) _⟩
  have n1 : (kd == 1) = false := beq_eq_false_iff_ne.2 h1
  have n2 : (kd == 2) = false := beq_eq_false_iff_ne.2 h2
  have n3 : (kd == 3) = false := beq_eq_false_iff_ne.2 h3
  have n4 : (kd == 4) = false := beq_eq_false_iff_ne.2 h4
  have n5 : (kd == 5) = false := beq_eq_false_iff_ne.2 h5
  have n6 : (kd == 6) = false := beq_eq_false_iff_ne.2 h6
  have e1 : bdOf kd = ⟨0, 0, 0, 0, 0, 0, 0, false, false⟩ := by simp [bdOf, h1, h2, h3, h4, h5, h6]
  have e2 : isKind kd = false := by unfold isKind; exact decide_eq_false (by omega)
  rw [e1, e2]
  clear h1 h2 h3 h4 h5 h6 e1 e2
  go_enter Try.func51, Try.ntmps51
  go_wp2
  exact bodyPost_ret (v := .tuple #[bdV ⟨0, 0, 0, 0, 0, 0, 0, false, false⟩, .bool false]) (by simp [results, Try.results51, go_sem, bdV]) rfl ⟨rfl, (Below.refl _ _).alloc (Nat.le_refl _) _⟩
def numB (b : Bd) (ac dv rg cu mo : Int) : Bool := inB ac b.a && inB dv b.d && inB rg b.r && inB cu b.c && inB mo b.m
set_option maxRecDepth 100000 in
set_option maxHeartbeats 2000000 in
theorem holdNumbers_any (b : Bd) (kd ac dv rg cu mo : Int) (k0 k1 k2 k3 k4 k5 k6 k7 k8 k9 k10 k11 k12 k13 k14 k15 m0 m1 m2 m3 m4 m5 m6 m7 : BitVec 8) (sa : Option Addr) (sn sc : Nat) (tx : ByteArray) (w : World) :
    Calls Try.prog 52 #[bdV b, .agg #[.int .i64 kd, .int .i64 ac, .int .i64 dv, .int .i64 rg, .int .i64 cu, .int .i64 mo, .int .u8 (B k0), .int .u8 (B k1), .int .u8 (B k2), .int .u8 (B k3), .int .u8 (B k4), .int .u8 (B k5), .int .u8 (B k6), .int .u8 (B k7), .int .u8 (B k8), .int .u8 (B k9), .int .u8 (B k10), .int .u8 (B k11), .int .u8 (B k12), .int .u8 (B k13), .int .u8 (B k14), .int .u8 (B k15), .int .u8 (B m0), .int .u8 (B m1), .int .u8 (B m2), .int .u8 (B m3), .int .u8 (B m4), .int .u8 (B m5), .int .u8 (B m6), .int .u8 (B m7), .slice sa sn sc, .string tx]] w fun e w' => e = .returned (.bool (numB b ac dv rg cu mo)) ∧ Below w.heap.size w w' := by
  unfold bdV
  obtain ⟨ba, bd, br, bc, bm, bcl, bt, bk, bmac⟩ := b
  dsimp only [numB]
  cases h0 : inB ac ba with
  | false =>
    go_enter Try.func52, Try.ntmps52
    go_wp2_with (go_at_call 82; refine (within_any _ _ _).mono ?_; rintro e w' ⟨rfl, rfl⟩)
    go_ret
    exact ⟨by simp, ((Below.refl _ _).alloc (Nat.le_refl _) _).alloc (by simp) _⟩
  | true =>
    cases h1 : inB dv bd with
    | false =>
      go_enter Try.func52, Try.ntmps52
      go_wp2_with (go_at_call 82; refine (within_any _ _ _).mono ?_; rintro e w' ⟨rfl, rfl⟩)
      go_ret
      exact ⟨by simp, ((Below.refl _ _).alloc (Nat.le_refl _) _).alloc (by simp) _⟩
    | true =>
      cases h2 : inB rg br with
      | false =>
        go_enter Try.func52, Try.ntmps52
        go_wp2_with (go_at_call 82; refine (within_any _ _ _).mono ?_; rintro e w' ⟨rfl, rfl⟩)
        go_ret
        exact ⟨by simp, ((Below.refl _ _).alloc (Nat.le_refl _) _).alloc (by simp) _⟩
      | true =>
        cases h3 : inB cu bc with
        | false =>
          go_enter Try.func52, Try.ntmps52
          go_wp2_with (go_at_call 82; refine (within_any _ _ _).mono ?_; rintro e w' ⟨rfl, rfl⟩)
          go_ret
          exact ⟨by simp, ((Below.refl _ _).alloc (Nat.le_refl _) _).alloc (by simp) _⟩
        | true =>
          cases h4 : inB mo bm with
          | false =>
            go_enter Try.func52, Try.ntmps52
            go_wp2_with (go_at_call 82; refine (within_any _ _ _).mono ?_; rintro e w' ⟨rfl, rfl⟩)
            go_ret
            exact ⟨by simp, ((Below.refl _ _).alloc (Nat.le_refl _) _).alloc (by simp) _⟩
          | true =>
            go_enter Try.func52, Try.ntmps52
            go_wp2_with (go_at_call 82; refine (within_any _ _ _).mono ?_; rintro e w' ⟨rfl, rfl⟩)
            go_ret
            exact ⟨by simp, ((Below.refl _ _).alloc (Nat.le_refl _) _).alloc (by simp) _⟩
end Go.Proofs.Ytpnfkcbbjcimgaa
