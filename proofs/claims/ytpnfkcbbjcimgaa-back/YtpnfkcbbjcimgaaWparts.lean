import Derived.Test.YtpnfkcbbjcimgaaWrest
namespace Go.Proofs.Ytpnfkcbbjcimgaa
open Go.RowKit
attribute [local go_sem] U_add U_xor
/-- The bytes of an array. -/
def Bs (l : List (BitVec 8)) : Array Value := (l.map fun x => Value.int .u8 (B x)).toArray
def absorbed (v : V4) (m : BitVec 64) : V4 :=
  let r := rnds 2 ⟨v.a, v.b, v.c, v.d ^^^ m⟩
  ⟨r.a ^^^ m, r.b, r.c, r.d⟩
def finished (v : V4) : V4 := rnds 4 ⟨v.a, v.b, v.c ^^^ 255#64, v.d⟩
theorem U_xor_255 (x : BitVec 64) : bits .xor .u64 (U x) 255 = U (x ^^^ 255#64) := U_xor x 255#64
set_option maxHeartbeats 400000 in
theorem absorb_any (b : Nat) (v : V4) (m : BitVec 64) (n : Int) (hn : n = U m) (w : World) (hs : St b w v.a v.b v.c v.d) :
    Calls Try.prog 24 #[.pointer (some ⟨b, 0, none⟩), .int .u64 n] w fun e w' => e = .returned (.tuple #[]) ∧ St b w' (absorbed v m).a (absorbed v m).b (absorbed v m).c (absorbed v m).d ∧ Turn b w w' := by
  subst hn
  have H0 : Hid (St b w v.a v.b v.c v.d) := hs
  obtain ⟨c0, c1, c2, c3, f0, f1, f2, f3⟩ := hs
  go_enter Try.func24, Try.ntmps24
  go_wp2_with fail
  refine (rounds_any b ⟨v.a, v.b, v.c, v.d ^^^ m⟩ _ 2 rfl (by omega) _ (H0.out.set3 _)).mono ?_
  rintro e w' ⟨rfl, hs1, ht1⟩
  clear c0 c1 c2 c3 f0 f1 f2 f3
  have H1 := hs1
  have T : Hid (Turn b w w') := ((Turn.refl b w).set 3 _).trans ht1
  have H : Hid (St b w' _ _ _ _) := H1
  clear H1 ht1
  obtain ⟨c0, c1, c2, c3, f0, f1, f2, f3⟩ := hs1
  go_wp2
  go_end0
  exact ⟨rfl, H.out.set0 _, T.out.set _ _⟩
set_option maxHeartbeats 400000 in
theorem finish_any (b : Nat) (v : V4) (w : World) (hs : St b w v.a v.b v.c v.d) :
    Calls Try.prog 27 #[.pointer (some ⟨b, 0, none⟩)] w fun e w' => e = .returned (.int .u64 (U ((finished v).a ^^^ (finished v).b ^^^ (finished v).c ^^^ (finished v).d))) ∧ Turn b w w' := by
  have H0 : Hid (St b w v.a v.b v.c v.d) := hs
  obtain ⟨c0, c1, c2, c3, f0, f1, f2, f3⟩ := hs
  have x255 := U_xor_255 v.c
  go_enter Try.func27, Try.ntmps27
  go_wp2_with fail
  refine (rounds_any b ⟨v.a, v.b, v.c ^^^ 255#64, v.d⟩ _ 4 rfl (by omega) _ (H0.out.set2 _)).mono ?_
  rintro e w' ⟨rfl, hs1, ht1⟩
  clear c0 c1 c2 c3 f0 f1 f2 f3 x255
  have T : Hid (Turn b w w') := ((Turn.refl b w).set 2 _).trans ht1
  clear ht1
  obtain ⟨c0, c1, c2, c3, f0, f1, f2, f3⟩ := hs1
  go_wp2
  go_region
  all_goals
    go_wp2
    go_ret
    exact ⟨rfl, T.out.drew⟩

def left8 (v : Value) : Nat := 8 - (intOf v).toNat
set_option maxRecDepth 100000 in
set_option maxHeartbeats 400000 in
theorem wordOf_core (b0 b1 b2 b3 b4 b5 b6 b7 : BitVec 8) (g : Nat → BitVec 8) (f : Nat → BitVec 64) (hg : Hid (∀ k, g k = [b0, b1, b2, b3, b4, b5, b6, b7].getD k 0))
    (hf0 : Hid (f 0 = 0)) (hf : Hid (∀ k, k < 8 → f (k + 1) = f k ||| (g k).zeroExtend 64 <<< (8 * k))) (w : World) :
    Calls Try.prog 25 #[.agg #[.int .u8 (B b0), .int .u8 (B b1), .int .u8 (B b2), .int .u8 (B b3), .int .u8 (B b4), .int .u8 (B b5), .int .u8 (B b6), .int .u8 (B b7)]] w fun e w' => e = .returned (.int .u64 (U (f 8))) ∧ Below w.heap.size w w' := by
  have i0 : Hid (∀ (k : Nat), k < 8 → ∀ (w : World), (Instr.index 23 (.agg #[.int .u8 (B b0), .int .u8 (B b1), .int .u8 (B b2), .int .u8 (B b3), .int .u8 (B b4), .int .u8 (B b5), .int .u8 (B b6), .int .u8 (B b7)]) (.int .i64 k)).run Try.prog w = .ok (.int .u8 (B (g k))) w) := by
    intro k hk w
    rw [hg.out]
    rcases (show k = 0 ∨ k = 1 ∨ k = 2 ∨ k = 3 ∨ k = 4 ∨ k = 5 ∨ k = 6 ∨ k = 7 from by omega) with rfl | rfl | rfl | rfl | rfl | rfl | rfl | rfl
    all_goals kernel_rfl
  go_enter Try.func25, Try.ntmps25
  go_wp2
  go_loop [3, 7] (fun n i => ∃ k : Nat, k ≤ 8 ∧ i = .int .i64 k ∧ n = .int .u64 (U (f k))) (fun _ i => left8 i)
  case atStart => exact ⟨0, Nat.zero_le _, rfl, by rw [hf0.out]; rfl⟩
  case round =>
    rename_i hw
    clear hw
    obtain ⟨k, hk, rfl, rfl⟩ := hrel
    have hx1 := B_nonneg (g k)
    have hy1 := B_lt (g k)
    by_cases hlt : k < 8
    · have j0 := i0.out k hlt
      go_wp2
      go_round
      case rel => exact ⟨k + 1, by omega, by go_num, by rw [word_step, hf.out k hlt]⟩
      case measure => simp [left8, intOf]; omega
    · go_wp2
      go_ret
      have e : k = 8 := by omega
      subst e
      exact ⟨rfl, (Below.refl _ _).alloc (Nat.le_refl _) _⟩
theorem wordOf_any (b0 b1 b2 b3 b4 b5 b6 b7 : BitVec 8) (w : World) :
    Calls Try.prog 25 #[.agg #[.int .u8 (B b0), .int .u8 (B b1), .int .u8 (B b2), .int .u8 (B b3), .int .u8 (B b4), .int .u8 (B b5), .int .u8 (B b6), .int .u8 (B b7)]] w fun e w' => e = .returned (.int .u64 (U (leW [b0, b1, b2, b3, b4, b5, b6, b7]))) ∧ Below w.heap.size w w' :=
  wordOf_core b0 b1 b2 b3 b4 b5 b6 b7 (fun k => [b0, b1, b2, b3, b4, b5, b6, b7].getD k 0) (fun k => leW ([b0, b1, b2, b3, b4, b5, b6, b7].take k)) (fun _ => rfl) rfl
    (fun k hk => by
      have e : [b0, b1, b2, b3, b4, b5, b6, b7].take (k + 1) = [b0, b1, b2, b3, b4, b5, b6, b7].take k ++ [[b0, b1, b2, b3, b4, b5, b6, b7].getD k 0] := by
        rw [List.take_succ_eq_append_getElem (by simpa using hk)]
        simp [List.getD, List.getElem?_eq_getElem (show k < [b0, b1, b2, b3, b4, b5, b6, b7].length from by simpa using hk)]
      have hl : ([b0, b1, b2, b3, b4, b5, b6, b7].take k).length = k := by rw [List.length_take]; simp; omega
      show leW (List.take (k + 1) _) = _
      rw [e, leW_snoc _ _ (by omega), hl]) w
/-- The cells behind k rounds of bytesOf. -/
def outTo (x : BitVec 64) (k : Nat) : Array Value := ((List.range 8).map fun i => if i < k then Value.int .u8 (B (byteOf x i)) else .int .u8 0).toArray
def outB (x : BitVec 64) : Value := .agg (outTo x 8)
theorem outTo_0 (x : BitVec 64) : outTo x 0 = #[.int .u8 0, .int .u8 0, .int .u8 0, .int .u8 0, .int .u8 0, .int .u8 0, .int .u8 0, .int .u8 0] := rfl
theorem outTo_1 (x : BitVec 64) : outTo x 1 = #[.int .u8 (B (byteOf x 0)), .int .u8 0, .int .u8 0, .int .u8 0, .int .u8 0, .int .u8 0, .int .u8 0, .int .u8 0] := rfl
theorem outTo_2 (x : BitVec 64) : outTo x 2 = #[.int .u8 (B (byteOf x 0)), .int .u8 (B (byteOf x 1)), .int .u8 0, .int .u8 0, .int .u8 0, .int .u8 0, .int .u8 0, .int .u8 0] := rfl
theorem outTo_3 (x : BitVec 64) : outTo x 3 = #[.int .u8 (B (byteOf x 0)), .int .u8 (B (byteOf x 1)), .int .u8 (B (byteOf x 2)), .int .u8 0, .int .u8 0, .int .u8 0, .int .u8 0, .int .u8 0] := rfl
theorem outTo_4 (x : BitVec 64) : outTo x 4 = #[.int .u8 (B (byteOf x 0)), .int .u8 (B (byteOf x 1)), .int .u8 (B (byteOf x 2)), .int .u8 (B (byteOf x 3)), .int .u8 0, .int .u8 0, .int .u8 0, .int .u8 0] := rfl
theorem outTo_5 (x : BitVec 64) : outTo x 5 = #[.int .u8 (B (byteOf x 0)), .int .u8 (B (byteOf x 1)), .int .u8 (B (byteOf x 2)), .int .u8 (B (byteOf x 3)), .int .u8 (B (byteOf x 4)), .int .u8 0, .int .u8 0, .int .u8 0] := rfl
theorem outTo_6 (x : BitVec 64) : outTo x 6 = #[.int .u8 (B (byteOf x 0)), .int .u8 (B (byteOf x 1)), .int .u8 (B (byteOf x 2)), .int .u8 (B (byteOf x 3)), .int .u8 (B (byteOf x 4)), .int .u8 (B (byteOf x 5)), .int .u8 0, .int .u8 0] := rfl
theorem outTo_7 (x : BitVec 64) : outTo x 7 = #[.int .u8 (B (byteOf x 0)), .int .u8 (B (byteOf x 1)), .int .u8 (B (byteOf x 2)), .int .u8 (B (byteOf x 3)), .int .u8 (B (byteOf x 4)), .int .u8 (B (byteOf x 5)), .int .u8 (B (byteOf x 6)), .int .u8 0] := rfl
theorem outTo_8 (x : BitVec 64) : outTo x 8 = #[.int .u8 (B (byteOf x 0)), .int .u8 (B (byteOf x 1)), .int .u8 (B (byteOf x 2)), .int .u8 (B (byteOf x 3)), .int .u8 (B (byteOf x 4)), .int .u8 (B (byteOf x 5)), .int .u8 (B (byteOf x 6)), .int .u8 (B (byteOf x 7))] := rfl
theorem bq0 (x : BitVec 64) : U x % 256 = B (byteOf x 0) := by
  have h := byteOf_walk x 0
  simpa [IntKind.wrap, IntKind.bits, IntKind.signed] using h
theorem bq1 (x : BitVec 64) : U x / 256 % 256 = B (byteOf x 1) := by
  have h := byteOf_walk x 1
  simpa [IntKind.wrap, IntKind.bits, IntKind.signed] using h
theorem bq2 (x : BitVec 64) : U x / 65536 % 256 = B (byteOf x 2) := by
  have h := byteOf_walk x 2
  simpa [IntKind.wrap, IntKind.bits, IntKind.signed] using h
theorem bq3 (x : BitVec 64) : U x / 16777216 % 256 = B (byteOf x 3) := by
  have h := byteOf_walk x 3
  simpa [IntKind.wrap, IntKind.bits, IntKind.signed] using h
theorem bq4 (x : BitVec 64) : U x / 4294967296 % 256 = B (byteOf x 4) := by
  have h := byteOf_walk x 4
  simpa [IntKind.wrap, IntKind.bits, IntKind.signed] using h
theorem bq5 (x : BitVec 64) : U x / 1099511627776 % 256 = B (byteOf x 5) := by
  have h := byteOf_walk x 5
  simpa [IntKind.wrap, IntKind.bits, IntKind.signed] using h
theorem bq6 (x : BitVec 64) : U x / 281474976710656 % 256 = B (byteOf x 6) := by
  have h := byteOf_walk x 6
  simpa [IntKind.wrap, IntKind.bits, IntKind.signed] using h
theorem bq7 (x : BitVec 64) : U x / 72057594037927936 % 256 = B (byteOf x 7) := by
  have h := byteOf_walk x 7
  simpa [IntKind.wrap, IntKind.bits, IntKind.signed] using h
set_option maxRecDepth 100000 in
set_option maxHeartbeats 1000000 in
theorem bytesOf_any (x : BitVec 64) (w : World) :
    Calls Try.prog 26 #[.int .u64 (U x)] w fun e w' => e = .returned (outB x) ∧ Below w.heap.size w w' := by
  go_enter Try.func26, Try.ntmps26
  go_wp2
  go_loopw [5] (fun i wr => ∃ k : Nat, k ≤ 8 ∧ i = .int .i64 k ∧ wr = (w.alloc (.cells (outTo x 0) 23)).alloc (.cells (outTo x k) 23)) (fun i _ => left8 i)
  case atStart => exact ⟨0, Nat.zero_le _, rfl, rfl⟩
  case round =>
    obtain ⟨k, hk, rfl, hwr⟩ := hrel
    subst hwr
    rcases (show k = 0 ∨ k = 1 ∨ k = 2 ∨ k = 3 ∨ k = 4 ∨ k = 5 ∨ k = 6 ∨ k = 7 ∨ k = 8 from by omega) with rfl | rfl | rfl | rfl | rfl | rfl | rfl | rfl | rfl
    · rw [outTo_0]
      go_wp2
      go_roundw
      case rel => exact ⟨1, by omega, rfl, by rw [outTo_1, bq0]⟩
      case measure => simp [left8, intOf]
    · rw [outTo_0, outTo_1]
      go_wp2
      go_roundw
      case rel => exact ⟨2, by omega, rfl, by rw [outTo_2, bq1]⟩
      case measure => simp [left8, intOf]
    · rw [outTo_0, outTo_2]
      go_wp2
      go_roundw
      case rel => exact ⟨3, by omega, rfl, by rw [outTo_3, bq2]⟩
      case measure => simp [left8, intOf]
    · rw [outTo_0, outTo_3]
      go_wp2
      go_roundw
      case rel => exact ⟨4, by omega, rfl, by rw [outTo_4, bq3]⟩
      case measure => simp [left8, intOf]
    · rw [outTo_0, outTo_4]
      go_wp2
      go_roundw
      case rel => exact ⟨5, by omega, rfl, by rw [outTo_5, bq4]⟩
      case measure => simp [left8, intOf]
    · rw [outTo_0, outTo_5]
      go_wp2
      go_roundw
      case rel => exact ⟨6, by omega, rfl, by rw [outTo_6, bq5]⟩
      case measure => simp [left8, intOf]
    · rw [outTo_0, outTo_6]
      go_wp2
      go_roundw
      case rel => exact ⟨7, by omega, rfl, by rw [outTo_7, bq6]⟩
      case measure => simp [left8, intOf]
    · rw [outTo_0, outTo_7]
      go_wp2
      go_roundw
      case rel => exact ⟨8, by omega, rfl, by rw [outTo_8, bq7]⟩
      case measure => simp [left8, intOf]
    · rw [outTo_0, outTo_8]
      go_wp2
      exact bodyPost_ret (v := outB x) (by simp [results, Try.results26, go_sem, outB, outTo_8]) rfl ⟨rfl, ((Below.refl _ _).alloc (Nat.le_refl _) _).alloc (by simp) _⟩
end Go.Proofs.Ytpnfkcbbjcimgaa
