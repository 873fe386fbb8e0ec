import Derived.Test.YtpnfkcbbjcimgaaWmix
import Derived.Test.YtpnfkcbbjcimgaaRword
import Derived.Test.YtpnfkcbbjcimgaaRrounds
namespace Go.Proofs.Ytpnfkcbbjcimgaa
open Go.RowKit
attribute [local go_sem] U_add U_xor
/-- What is left of a word behind k bytes. -/
def hAt (x : BitVec 64) (k : Nat) : BitVec 64 := x >>> (8 * k)
theorem hAt_zero (x : BitVec 64) : hAt x 0 = x := by unfold hAt; simp
theorem hAt_div (x : BitVec 64) (k : Nat) : U (hAt x k) / 256 = U (hAt x (k + 1)) := by
  have h := U_shr (hAt x k) 8
  rw [show (256 : Int) = 2 ^ 8 from rfl, h]
  unfold hAt
  rw [← BitVec.shiftRight_add, Nat.mul_add]
theorem hAt_mod (x : BitVec 64) (k : Nat) : U (hAt x k) % 256 = B (byteOf x k) := by
  rw [← byteOf_walk, U_shr]
  simp [IntKind.wrap, IntKind.bits, IntKind.signed, hAt]
theorem hd_walk (x : BitVec 64) (k : Nat) : IntKind.u64.wrap ((U (hAt x k)).tdiv 256) = U (hAt x (k + 1)) := by
  have h0 := U_nonneg (hAt x k)
  have h1 := U_lt (hAt x k)
  rw [← hAt_div, Int.tdiv_eq_ediv_of_nonneg h0, IntKind.wrap_u64]
  omega
theorem hm_walk (x : BitVec 64) (k : Nat) : (U (hAt x k)).tmod 256 % 256 = B (byteOf x k) := by
  have h0 := U_nonneg (hAt x k)
  rw [← hAt_mod, Int.tmod_eq_emod_of_nonneg h0]
  omega
theorem U_c8 (x : BitVec 64) : bits .xor .u64 (U x) 576460752303423488 = U (x ^^^ c8) := U_xor x c8
/-- The four words behind so many of the two words that are taken in. -/
def mixTo (q0 q1 q2 : BitVec 64) : Nat → V4
  | 0 => ⟨q0 ^^^ c0, q1 ^^^ c1, q0 ^^^ c2, q1 ^^^ c3⟩
  | 1 => absorbed ⟨q0 ^^^ c0, q1 ^^^ c1, q0 ^^^ c2, q1 ^^^ c3⟩ q2
  | _ => absorbed (absorbed ⟨q0 ^^^ c0, q1 ^^^ c1, q0 ^^^ c2, q1 ^^^ c3⟩ q2) c8
/-- What lies in memory at the head of a round of Mix. -/
def MixAt (s : Nat) (q0 q1 q2 : BitVec 64) (j : Nat) (w : World) : Prop :=
  St (s + 1 + 1 + 1) w (mixTo q0 q1 q2 j).a (mixTo q0 q1 q2 j).b (mixTo q0 q1 q2 j).c (mixTo q0 q1 q2 j).d ∧ Z8 (s + 1 + 1) w ∧
  w.cell? ⟨s + 1 + 1 + 1 + 1, 0, none⟩ = some (.int .u64 (U q2)) ∧ w.cell? ⟨s + 1 + 1 + 1 + 1, 1, none⟩ = some (.int .u64 576460752303423488) ∧ w.heap.size = s + 1 + 1 + 1 + 1 + 1
set_option maxRecDepth 100000 in
set_option maxHeartbeats 1000000 in
theorem rmix_any (b0 b1 b2 b3 b4 b5 b6 b7 d0 d1 d2 d3 d4 d5 d6 d7 n0 n1 n2 n3 n4 n5 n6 n7 : BitVec 8) (w : World) :
    Calls Try.prog 8 #[.agg #[.int .u8 (B b0), .int .u8 (B b1), .int .u8 (B b2), .int .u8 (B b3), .int .u8 (B b4), .int .u8 (B b5), .int .u8 (B b6), .int .u8 (B b7), .int .u8 (B d0), .int .u8 (B d1), .int .u8 (B d2), .int .u8 (B d3), .int .u8 (B d4), .int .u8 (B d5), .int .u8 (B d6), .int .u8 (B d7)], .agg #[.int .u8 (B n0), .int .u8 (B n1), .int .u8 (B n2), .int .u8 (B n3), .int .u8 (B n4), .int .u8 (B n5), .int .u8 (B n6), .int .u8 (B n7)]] w
      fun e w' => e = .returned (outB (sipMix (leW [b0, b1, b2, b3, b4, b5, b6, b7]) (leW [d0, d1, d2, d3, d4, d5, d6, d7]) (leW [n0, n1, n2, n3, n4, n5, n6, n7]))) ∧ Below w.heap.size w w' := by
  have KC : ∀ (K : Array Value) (N : Obj) (Z : Obj) (i : Nat) (v : Value), K[i]? = some v → (((w.alloc (.cells K 22)).alloc N).alloc Z).cell? ⟨w.heap.size, i, none⟩ = some v := fun K N Z i v h => by
    rw [World.cell?_alloc_lt _ _ _ (by simp; omega), World.cell?_alloc_lt _ _ _ (by simp)]; exact cell_newest rfl h
  have NC : ∀ (K : Obj) (N : Array Value) (Z V : Obj) (i : Nat) (v : Value), N[i]? = some v → ((((w.alloc K).alloc (.cells N 23)).alloc Z).alloc V).cell? ⟨w.heap.size + 1, i, none⟩ = some v := fun K N Z V i v h => by
    rw [World.cell?_alloc_lt _ _ _ (by simp), World.cell?_alloc_lt _ _ _ (by simp)]; exact cell_newest (by simp) h
  go_enter Try.func8, Try.ntmps8
  go_wp2_with fail
  refine (refword_any _ _ _ 0 _ rfl b0 b1 b2 b3 b4 b5 b6 b7 _ (KC _ _ _ _ _ rfl) (KC _ _ _ _ _ rfl) (KC _ _ _ _ _ rfl) (KC _ _ _ _ _ rfl) (KC _ _ _ _ _ rfl) (KC _ _ _ _ _ rfl) (KC _ _ _ _ _ rfl) (KC _ _ _ _ _ rfl) (by omega) (by omega)).mono ?_
  rintro e w1 ⟨rfl, rfl⟩
  go_wp2_with fail
  refine (refword_any _ _ _ 8 _ rfl d0 d1 d2 d3 d4 d5 d6 d7 _ (KC _ _ _ _ _ rfl) (KC _ _ _ _ _ rfl) (KC _ _ _ _ _ rfl) (KC _ _ _ _ _ rfl) (KC _ _ _ _ _ rfl) (KC _ _ _ _ _ rfl) (KC _ _ _ _ _ rfl) (KC _ _ _ _ _ rfl) (by omega) (by omega)).mono ?_
  rintro e w1 ⟨rfl, rfl⟩
  clear KC
  have e0 := U_c0 (leW [b0, b1, b2, b3, b4, b5, b6, b7])
  have e2 := U_c2 (leW [b0, b1, b2, b3, b4, b5, b6, b7])
  have e1 := U_c1 (leW [d0, d1, d2, d3, d4, d5, d6, d7])
  have e3 := U_c3 (leW [d0, d1, d2, d3, d4, d5, d6, d7])
  go_wp2_with fail
  refine (refword_any _ _ _ 0 _ rfl n0 n1 n2 n3 n4 n5 n6 n7 _ (NC _ _ _ _ _ _ rfl) (NC _ _ _ _ _ _ rfl) (NC _ _ _ _ _ _ rfl) (NC _ _ _ _ _ _ rfl) (NC _ _ _ _ _ _ rfl) (NC _ _ _ _ _ _ rfl) (NC _ _ _ _ _ _ rfl) (NC _ _ _ _ _ _ rfl) (by omega) (by omega)).mono ?_
  rintro e w1 ⟨rfl, rfl⟩
  clear NC e0 e1 e2 e3
  go_wp2_with fail
  go_loopw [9] (fun i wr => ∃ j : Nat, j ≤ 2 ∧ i = .int .i64 j ∧ MixAt w.heap.size (leW [b0, b1, b2, b3, b4, b5, b6, b7]) (leW [d0, d1, d2, d3, d4, d5, d6, d7]) (leW [n0, n1, n2, n3, n4, n5, n6, n7]) j wr ∧ Below w.heap.size w wr) (fun i _ => 2 - (intOf i).toNat)
  case atStart =>
    refine ⟨0, by omega, rfl, ⟨?_, ?_, ?_, ?_, ?_⟩, ?_⟩
    · exact (St.newest (by simp)).later ((Below.refl _ _).alloc (Nat.le_refl _) _)
    · exact ((Z8.newest (by simp)).alloc _).alloc _
    · exact cell_newest (by simp) rfl
    · exact cell_newest (by simp) rfl
    · simp
    · exact (((((Below.refl _ _).alloc (Nat.le_refl _) _).alloc (by simp) _).alloc (by simp; omega) _).alloc (by simp; omega) _).alloc (by simp; omega) _
  case round =>
    obtain ⟨j, hj, rfl, ⟨hs, hZ, m0, m1, hsz⟩, hb⟩ := hrel
    have Bl : Hid (Below w.heap.size w wr) := hb
    have Zs : Hid (Z8 (w.heap.size + 1 + 1) wr) := hZ
    clear hb hZ
    rcases (show j = 0 ∨ j = 1 ∨ j = 2 from by omega) with rfl | rfl | rfl
    · obtain ⟨v, hv⟩ : ∃ v, Hid (v = mixTo (leW [b0, b1, b2, b3, b4, b5, b6, b7]) (leW [d0, d1, d2, d3, d4, d5, d6, d7]) (leW [n0, n1, n2, n3, n4, n5, n6, n7]) 0) := ⟨_, rfl⟩
      rw [← hv.out] at hs
      have H : Hid (St _ wr v.a v.b v.c v.d) := hs
      obtain ⟨k0, k1, k2, k3, f0, f1, f2, f3⟩ := hs
      go_wp2_with fail
      go_region
      go_wp2_with fail
      refine (refrounds_any (w.heap.size + 1 + 1 + 1) ⟨v.a, v.b, v.c, v.d ^^^ leW [n0, n1, n2, n3, n4, n5, n6, n7]⟩ _ 2 rfl (by omega) _ (H.out.set3 _).drew).mono ?_
      rintro e w5 ⟨rfl, hs5, ht5⟩
      clear k0 k1 k2 k3 f0 f1 f2 f3
      have T5 : Hid (Turn (w.heap.size + 1 + 1 + 1) wr w5) := ((Turn.refl _ _).set _ _).drew.trans ht5
      have H5 : Hid (St (w.heap.size + 1 + 1 + 1) w5 _ _ _ _) := hs5
      have m0' : w5.cell? ⟨w.heap.size + 1 + 1 + 1 + 1, 0, none⟩ = _ := (T5.out.cell (by simp)).trans m0
      have m1' : w5.cell? ⟨w.heap.size + 1 + 1 + 1 + 1, 1, none⟩ = _ := (T5.out.cell (by simp)).trans m1
      clear ht5
      obtain ⟨k0, k1, k2, k3, f0, f1, f2, f3⟩ := hs5
      go_wp2_with fail
      go_region
      go_wp2_with fail
      go_roundw
      case rel =>
        have T6 := (T5.out.set 0 (.int .u64 (U ((rnds 2 ⟨v.a, v.b, v.c, v.d ^^^ leW [n0, n1, n2, n3, n4, n5, n6, n7]⟩).a ^^^ leW [n0, n1, n2, n3, n4, n5, n6, n7])))).drew
        refine ⟨0 + 1, by omega, rfl, ⟨?_, Zs.out.turn T6 (by omega), (T6.cell (by simp)).trans m0, (T6.cell (by simp)).trans m1, T6.size.trans hsz⟩, Bl.out.trans (T6.below (by omega))⟩
        have h := (H5.out.set0 ((rnds 2 ⟨v.a, v.b, v.c, v.d ^^^ leW [n0, n1, n2, n3, n4, n5, n6, n7]⟩).a ^^^ leW [n0, n1, n2, n3, n4, n5, n6, n7])).drew
        have ev : mixTo (leW [b0, b1, b2, b3, b4, b5, b6, b7]) (leW [d0, d1, d2, d3, d4, d5, d6, d7]) (leW [n0, n1, n2, n3, n4, n5, n6, n7]) (0 + 1) = absorbed v (leW [n0, n1, n2, n3, n4, n5, n6, n7]) := by rw [hv.out]; rfl
        rw [ev]
        exact h
      case measure => simp [intOf]
    · obtain ⟨v, hv⟩ : ∃ v, Hid (v = mixTo (leW [b0, b1, b2, b3, b4, b5, b6, b7]) (leW [d0, d1, d2, d3, d4, d5, d6, d7]) (leW [n0, n1, n2, n3, n4, n5, n6, n7]) 1) := ⟨_, rfl⟩
      rw [← hv.out] at hs
      have H : Hid (St _ wr v.a v.b v.c v.d) := hs
      obtain ⟨k0, k1, k2, k3, f0, f1, f2, f3⟩ := hs
      have e8 := U_c8 v.d
      go_wp2_with fail
      go_region
      go_wp2_with fail
      refine (refrounds_any (w.heap.size + 1 + 1 + 1) ⟨v.a, v.b, v.c, v.d ^^^ c8⟩ _ 2 rfl (by omega) _ (H.out.set3 _).drew).mono ?_
      rintro e w5 ⟨rfl, hs5, ht5⟩
      clear k0 k1 k2 k3 f0 f1 f2 f3
      have T5 : Hid (Turn (w.heap.size + 1 + 1 + 1) wr w5) := ((Turn.refl _ _).set _ _).drew.trans ht5
      have H5 : Hid (St (w.heap.size + 1 + 1 + 1) w5 _ _ _ _) := hs5
      have m0' : w5.cell? ⟨w.heap.size + 1 + 1 + 1 + 1, 0, none⟩ = _ := (T5.out.cell (by simp)).trans m0
      have m1' : w5.cell? ⟨w.heap.size + 1 + 1 + 1 + 1, 1, none⟩ = _ := (T5.out.cell (by simp)).trans m1
      clear ht5
      obtain ⟨k0, k1, k2, k3, f0, f1, f2, f3⟩ := hs5
      have e9 := U_c8 (rnds 2 ⟨v.a, v.b, v.c, v.d ^^^ c8⟩).a
      go_wp2_with fail
      go_region
      go_wp2_with fail
      go_roundw
      case rel =>
        have T6 := (T5.out.set 0 (.int .u64 (U ((rnds 2 ⟨v.a, v.b, v.c, v.d ^^^ c8⟩).a ^^^ c8)))).drew
        refine ⟨1 + 1, by omega, rfl, ⟨?_, Zs.out.turn T6 (by omega), (T6.cell (by simp)).trans m0, (T6.cell (by simp)).trans m1, T6.size.trans hsz⟩, Bl.out.trans (T6.below (by omega))⟩
        have h := (H5.out.set0 ((rnds 2 ⟨v.a, v.b, v.c, v.d ^^^ c8⟩).a ^^^ c8)).drew
        have ev : mixTo (leW [b0, b1, b2, b3, b4, b5, b6, b7]) (leW [d0, d1, d2, d3, d4, d5, d6, d7]) (leW [n0, n1, n2, n3, n4, n5, n6, n7]) (1 + 1) = absorbed v c8 := by rw [hv.out]; rfl
        rw [ev]
        exact h
      case measure => simp [intOf]
    · obtain ⟨v, hv⟩ : ∃ v, Hid (v = mixTo (leW [b0, b1, b2, b3, b4, b5, b6, b7]) (leW [d0, d1, d2, d3, d4, d5, d6, d7]) (leW [n0, n1, n2, n3, n4, n5, n6, n7]) 2) := ⟨_, rfl⟩
      rw [← hv.out] at hs
      have H : Hid (St _ wr v.a v.b v.c v.d) := hs
      obtain ⟨k0, k1, k2, k3, f0, f1, f2, f3⟩ := hs
      have e8 := U_xor_255 v.c
      clear m0 m1
      go_wp2_with fail
      refine (refrounds_any (w.heap.size + 1 + 1 + 1) ⟨v.a, v.b, v.c ^^^ 255#64, v.d⟩ _ 4 rfl (by omega) _ (H.out.set2 _)).mono ?_
      rintro e w5 ⟨rfl, hs5, ht5⟩
      clear k0 k1 k2 k3 f0 f1 f2 f3 e8
      have T5 := ((Turn.refl (w.heap.size + 1 + 1 + 1) wr).set 2 (.int .u64 (U (v.c ^^^ 255#64)))).trans ht5
      have Z5 : Hid (Z8 (w.heap.size + 1 + 1) w5) := Zs.out.turn T5 (by omega)
      have B5 : Hid (Below w.heap.size w w5) := Bl.out.trans (T5.below (by omega))
      have hz5 : w5.heap.size = w.heap.size + 1 + 1 + 1 + 1 + 1 := T5.size.trans hsz
      clear T5 ht5 hsz
      obtain ⟨k0, k1, k2, k3, f0, f1, f2, f3⟩ := hs5
      obtain ⟨X, hX⟩ : ∃ X, Hid (X = sipMix (leW [b0, b1, b2, b3, b4, b5, b6, b7]) (leW [d0, d1, d2, d3, d4, d5, d6, d7]) (leW [n0, n1, n2, n3, n4, n5, n6, n7])) := ⟨_, rfl⟩
      have hX2 : (rnds 4 ⟨v.a, v.b, v.c ^^^ 255#64, v.d⟩).a ^^^ (rnds 4 ⟨v.a, v.b, v.c ^^^ 255#64, v.d⟩).b ^^^ (rnds 4 ⟨v.a, v.b, v.c ^^^ 255#64, v.d⟩).c ^^^ (rnds 4 ⟨v.a, v.b, v.c ^^^ 255#64, v.d⟩).d = X := by rw [hX.out, hv.out]; rfl
      go_wp2_with fail
      go_quiet (fail)
      have Z7 : Hid (Z8 (w.heap.size + 1 + 1) (w5.drewN nq)) := Z5.out
      have B7 : Hid (Below w.heap.size w (w5.drewN nq)) := B5.out.trans ⟨rfl, rfl, rfl, Nat.le_refl _, fun _ _ => rfl⟩
      have hz7 : (w5.drewN nq).heap.size = w.heap.size + 1 + 1 + 1 + 1 + 1 := hz5
      clear hX2 k0 k1 k2 k3 f0 f1 f2 f3 hz5 Z5 B5 H Bl Zs
      generalize w5.drewN nq = w7 at *
      go_wp2_with fail
      go_loopw [10, 12] (fun h i wr => ∃ k : Nat, k ≤ 8 ∧ i = .int .i64 k ∧ h = .int .u64 (U (hAt X k)) ∧ wr = w7.alloc (.cells (outTo X k) 23)) (fun _ i _ => left8 i)
      case atStart => exact ⟨0, Nat.zero_le _, rfl, by rw [hAt_zero], rfl⟩
      case round =>
        obtain ⟨k, hk, rfl, rfl, hwr⟩ := hrel
        subst hwr
        rcases (show k = 0 ∨ k = 1 ∨ k = 2 ∨ k = 3 ∨ k = 4 ∨ k = 5 ∨ k = 6 ∨ k = 7 ∨ k = 8 from by omega) with rfl | rfl | rfl | rfl | rfl | rfl | rfl | rfl | rfl
        · rw [outTo_0]
          go_wp2
          go_roundw
          case rel => exact ⟨1, by omega, rfl, by rw [hd_walk], by rw [outTo_1, hm_walk]⟩
          case measure => simp [left8, intOf]
        · rw [outTo_1]
          go_wp2
          go_roundw
          case rel => exact ⟨2, by omega, rfl, by rw [hd_walk], by rw [outTo_2, hm_walk]⟩
          case measure => simp [left8, intOf]
        · rw [outTo_2]
          go_wp2
          go_roundw
          case rel => exact ⟨3, by omega, rfl, by rw [hd_walk], by rw [outTo_3, hm_walk]⟩
          case measure => simp [left8, intOf]
        · rw [outTo_3]
          go_wp2
          go_roundw
          case rel => exact ⟨4, by omega, rfl, by rw [hd_walk], by rw [outTo_4, hm_walk]⟩
          case measure => simp [left8, intOf]
        · rw [outTo_4]
          go_wp2
          go_roundw
          case rel => exact ⟨5, by omega, rfl, by rw [hd_walk], by rw [outTo_5, hm_walk]⟩
          case measure => simp [left8, intOf]
        · rw [outTo_5]
          go_wp2
          go_roundw
          case rel => exact ⟨6, by omega, rfl, by rw [hd_walk], by rw [outTo_6, hm_walk]⟩
          case measure => simp [left8, intOf]
        · rw [outTo_6]
          go_wp2
          go_roundw
          case rel => exact ⟨7, by omega, rfl, by rw [hd_walk], by rw [outTo_7, hm_walk]⟩
          case measure => simp [left8, intOf]
        · rw [outTo_7]
          go_wp2
          go_roundw
          case rel => exact ⟨8, by omega, rfl, by rw [hd_walk], by rw [outTo_8, hm_walk]⟩
          case measure => simp [left8, intOf]
        · rw [outTo_8]
          have Zx := Z7.out
          obtain ⟨z0, f0⟩ := Zx 0 (by omega)
          obtain ⟨z1, f1⟩ := Zx 1 (by omega)
          obtain ⟨z2, f2⟩ := Zx 2 (by omega)
          obtain ⟨z3, f3⟩ := Zx 3 (by omega)
          obtain ⟨z4, f4⟩ := Zx 4 (by omega)
          obtain ⟨z5, f5⟩ := Zx 5 (by omega)
          obtain ⟨z6, f6⟩ := Zx 6 (by omega)
          obtain ⟨z7, f7⟩ := Zx 7 (by omega)
          clear Zx
          go_wp2
          refine bodyPost_ret (v := outB X) (by simp [results, Try.results8, go_sem, outB, outTo_8, hz7, z0, z1, z2, z3, z4, z5, z6, z7]) rfl ⟨by rw [hX.out], ?_⟩
          exact ((((((((B7.out.setCell (by simp; omega) _).setCell (by simp; omega) _).setCell (by simp; omega) _).setCell (by simp; omega) _).setCell (by simp; omega) _).setCell (by simp; omega) _).setCell (by simp; omega) _).setCell (by simp; omega) _).alloc (by simp; omega) _
end Go.Proofs.Ytpnfkcbbjcimgaa
