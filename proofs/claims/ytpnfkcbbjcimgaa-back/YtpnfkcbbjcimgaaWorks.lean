import Derived.Test.YtpnfkcbbjcimgaaWmix
import Derived.Test.YtpnfkcbbjcimgaaRdec
namespace Go.Proofs.Ytpnfkcbbjcimgaa
open Go.RowKit
def keyTo (k : Nat) : Array Value := ((List.range 16).map fun i => if i < k then Value.int .u8 (i : Int) else .int .u8 0).toArray
def nonTo (k : Nat) : Array Value := ((List.range 8).map fun i => if i < k then Value.int .u8 (i : Int) else .int .u8 0).toArray
theorem keyTo_0 : keyTo 0 = #[.int .u8 0, .int .u8 0, .int .u8 0, .int .u8 0, .int .u8 0, .int .u8 0, .int .u8 0, .int .u8 0, .int .u8 0, .int .u8 0, .int .u8 0, .int .u8 0, .int .u8 0, .int .u8 0, .int .u8 0, .int .u8 0] := rfl
theorem nonTo_0 : nonTo 0 = #[.int .u8 0, .int .u8 0, .int .u8 0, .int .u8 0, .int .u8 0, .int .u8 0, .int .u8 0, .int .u8 0] := rfl
theorem keyTo_1 : keyTo 1 = #[.int .u8 0, .int .u8 0, .int .u8 0, .int .u8 0, .int .u8 0, .int .u8 0, .int .u8 0, .int .u8 0, .int .u8 0, .int .u8 0, .int .u8 0, .int .u8 0, .int .u8 0, .int .u8 0, .int .u8 0, .int .u8 0] := rfl
theorem nonTo_1 : nonTo 1 = #[.int .u8 0, .int .u8 0, .int .u8 0, .int .u8 0, .int .u8 0, .int .u8 0, .int .u8 0, .int .u8 0] := rfl
theorem keyTo_2 : keyTo 2 = #[.int .u8 0, .int .u8 1, .int .u8 0, .int .u8 0, .int .u8 0, .int .u8 0, .int .u8 0, .int .u8 0, .int .u8 0, .int .u8 0, .int .u8 0, .int .u8 0, .int .u8 0, .int .u8 0, .int .u8 0, .int .u8 0] := rfl
theorem nonTo_2 : nonTo 2 = #[.int .u8 0, .int .u8 1, .int .u8 0, .int .u8 0, .int .u8 0, .int .u8 0, .int .u8 0, .int .u8 0] := rfl
theorem keyTo_3 : keyTo 3 = #[.int .u8 0, .int .u8 1, .int .u8 2, .int .u8 0, .int .u8 0, .int .u8 0, .int .u8 0, .int .u8 0, .int .u8 0, .int .u8 0, .int .u8 0, .int .u8 0, .int .u8 0, .int .u8 0, .int .u8 0, .int .u8 0] := rfl
theorem nonTo_3 : nonTo 3 = #[.int .u8 0, .int .u8 1, .int .u8 2, .int .u8 0, .int .u8 0, .int .u8 0, .int .u8 0, .int .u8 0] := rfl
theorem keyTo_4 : keyTo 4 = #[.int .u8 0, .int .u8 1, .int .u8 2, .int .u8 3, .int .u8 0, .int .u8 0, .int .u8 0, .int .u8 0, .int .u8 0, .int .u8 0, .int .u8 0, .int .u8 0, .int .u8 0, .int .u8 0, .int .u8 0, .int .u8 0] := rfl
theorem nonTo_4 : nonTo 4 = #[.int .u8 0, .int .u8 1, .int .u8 2, .int .u8 3, .int .u8 0, .int .u8 0, .int .u8 0, .int .u8 0] := rfl
theorem keyTo_5 : keyTo 5 = #[.int .u8 0, .int .u8 1, .int .u8 2, .int .u8 3, .int .u8 4, .int .u8 0, .int .u8 0, .int .u8 0, .int .u8 0, .int .u8 0, .int .u8 0, .int .u8 0, .int .u8 0, .int .u8 0, .int .u8 0, .int .u8 0] := rfl
theorem nonTo_5 : nonTo 5 = #[.int .u8 0, .int .u8 1, .int .u8 2, .int .u8 3, .int .u8 4, .int .u8 0, .int .u8 0, .int .u8 0] := rfl
theorem keyTo_6 : keyTo 6 = #[.int .u8 0, .int .u8 1, .int .u8 2, .int .u8 3, .int .u8 4, .int .u8 5, .int .u8 0, .int .u8 0, .int .u8 0, .int .u8 0, .int .u8 0, .int .u8 0, .int .u8 0, .int .u8 0, .int .u8 0, .int .u8 0] := rfl
theorem nonTo_6 : nonTo 6 = #[.int .u8 0, .int .u8 1, .int .u8 2, .int .u8 3, .int .u8 4, .int .u8 5, .int .u8 0, .int .u8 0] := rfl
theorem keyTo_7 : keyTo 7 = #[.int .u8 0, .int .u8 1, .int .u8 2, .int .u8 3, .int .u8 4, .int .u8 5, .int .u8 6, .int .u8 0, .int .u8 0, .int .u8 0, .int .u8 0, .int .u8 0, .int .u8 0, .int .u8 0, .int .u8 0, .int .u8 0] := rfl
theorem nonTo_7 : nonTo 7 = #[.int .u8 0, .int .u8 1, .int .u8 2, .int .u8 3, .int .u8 4, .int .u8 5, .int .u8 6, .int .u8 0] := rfl
theorem keyTo_8 : keyTo 8 = #[.int .u8 0, .int .u8 1, .int .u8 2, .int .u8 3, .int .u8 4, .int .u8 5, .int .u8 6, .int .u8 7, .int .u8 0, .int .u8 0, .int .u8 0, .int .u8 0, .int .u8 0, .int .u8 0, .int .u8 0, .int .u8 0] := rfl
theorem nonTo_8 : nonTo 8 = #[.int .u8 0, .int .u8 1, .int .u8 2, .int .u8 3, .int .u8 4, .int .u8 5, .int .u8 6, .int .u8 7] := rfl
theorem keyTo_9 : keyTo 9 = #[.int .u8 0, .int .u8 1, .int .u8 2, .int .u8 3, .int .u8 4, .int .u8 5, .int .u8 6, .int .u8 7, .int .u8 8, .int .u8 0, .int .u8 0, .int .u8 0, .int .u8 0, .int .u8 0, .int .u8 0, .int .u8 0] := rfl
theorem nonTo_9 : nonTo 9 = #[.int .u8 0, .int .u8 1, .int .u8 2, .int .u8 3, .int .u8 4, .int .u8 5, .int .u8 6, .int .u8 7] := rfl
theorem keyTo_10 : keyTo 10 = #[.int .u8 0, .int .u8 1, .int .u8 2, .int .u8 3, .int .u8 4, .int .u8 5, .int .u8 6, .int .u8 7, .int .u8 8, .int .u8 9, .int .u8 0, .int .u8 0, .int .u8 0, .int .u8 0, .int .u8 0, .int .u8 0] := rfl
theorem nonTo_10 : nonTo 10 = #[.int .u8 0, .int .u8 1, .int .u8 2, .int .u8 3, .int .u8 4, .int .u8 5, .int .u8 6, .int .u8 7] := rfl
theorem keyTo_11 : keyTo 11 = #[.int .u8 0, .int .u8 1, .int .u8 2, .int .u8 3, .int .u8 4, .int .u8 5, .int .u8 6, .int .u8 7, .int .u8 8, .int .u8 9, .int .u8 10, .int .u8 0, .int .u8 0, .int .u8 0, .int .u8 0, .int .u8 0] := rfl
theorem nonTo_11 : nonTo 11 = #[.int .u8 0, .int .u8 1, .int .u8 2, .int .u8 3, .int .u8 4, .int .u8 5, .int .u8 6, .int .u8 7] := rfl
theorem keyTo_12 : keyTo 12 = #[.int .u8 0, .int .u8 1, .int .u8 2, .int .u8 3, .int .u8 4, .int .u8 5, .int .u8 6, .int .u8 7, .int .u8 8, .int .u8 9, .int .u8 10, .int .u8 11, .int .u8 0, .int .u8 0, .int .u8 0, .int .u8 0] := rfl
theorem nonTo_12 : nonTo 12 = #[.int .u8 0, .int .u8 1, .int .u8 2, .int .u8 3, .int .u8 4, .int .u8 5, .int .u8 6, .int .u8 7] := rfl
theorem keyTo_13 : keyTo 13 = #[.int .u8 0, .int .u8 1, .int .u8 2, .int .u8 3, .int .u8 4, .int .u8 5, .int .u8 6, .int .u8 7, .int .u8 8, .int .u8 9, .int .u8 10, .int .u8 11, .int .u8 12, .int .u8 0, .int .u8 0, .int .u8 0] := rfl
theorem nonTo_13 : nonTo 13 = #[.int .u8 0, .int .u8 1, .int .u8 2, .int .u8 3, .int .u8 4, .int .u8 5, .int .u8 6, .int .u8 7] := rfl
theorem keyTo_14 : keyTo 14 = #[.int .u8 0, .int .u8 1, .int .u8 2, .int .u8 3, .int .u8 4, .int .u8 5, .int .u8 6, .int .u8 7, .int .u8 8, .int .u8 9, .int .u8 10, .int .u8 11, .int .u8 12, .int .u8 13, .int .u8 0, .int .u8 0] := rfl
theorem nonTo_14 : nonTo 14 = #[.int .u8 0, .int .u8 1, .int .u8 2, .int .u8 3, .int .u8 4, .int .u8 5, .int .u8 6, .int .u8 7] := rfl
theorem keyTo_15 : keyTo 15 = #[.int .u8 0, .int .u8 1, .int .u8 2, .int .u8 3, .int .u8 4, .int .u8 5, .int .u8 6, .int .u8 7, .int .u8 8, .int .u8 9, .int .u8 10, .int .u8 11, .int .u8 12, .int .u8 13, .int .u8 14, .int .u8 0] := rfl
theorem nonTo_15 : nonTo 15 = #[.int .u8 0, .int .u8 1, .int .u8 2, .int .u8 3, .int .u8 4, .int .u8 5, .int .u8 6, .int .u8 7] := rfl
theorem keyTo_16 : keyTo 16 = #[.int .u8 0, .int .u8 1, .int .u8 2, .int .u8 3, .int .u8 4, .int .u8 5, .int .u8 6, .int .u8 7, .int .u8 8, .int .u8 9, .int .u8 10, .int .u8 11, .int .u8 12, .int .u8 13, .int .u8 14, .int .u8 15] := rfl
theorem nonTo_16 : nonTo 16 = #[.int .u8 0, .int .u8 1, .int .u8 2, .int .u8 3, .int .u8 4, .int .u8 5, .int .u8 6, .int .u8 7] := rfl
theorem mix_word : sipMix (leW [0#8, 1#8, 2#8, 3#8, 4#8, 5#8, 6#8, 7#8]) (leW [8#8, 9#8, 10#8, 11#8, 12#8, 13#8, 14#8, 15#8]) (leW [0#8, 1#8, 2#8, 3#8, 4#8, 5#8, 6#8, 7#8]) = 10661697595502699618#64 := by kernel_rfl
theorem mix_out : outB 10661697595502699618#64 = .agg #[.int .u8 98, .int .u8 36, .int .u8 147, .int .u8 154, .int .u8 121, .int .u8 245, .int .u8 245, .int .u8 147] := by kernel_rfl
theorem B_0 : B 0#8 = 0 := rfl
theorem B_1 : B 1#8 = 1 := rfl
theorem B_2 : B 2#8 = 2 := rfl
theorem B_3 : B 3#8 = 3 := rfl
theorem B_4 : B 4#8 = 4 := rfl
theorem B_5 : B 5#8 = 5 := rfl
theorem B_6 : B 6#8 = 6 := rfl
theorem B_7 : B 7#8 = 7 := rfl
theorem B_8 : B 8#8 = 8 := rfl
theorem B_9 : B 9#8 = 9 := rfl
theorem B_10 : B 10#8 = 10 := rfl
theorem B_11 : B 11#8 = 11 := rfl
theorem B_12 : B 12#8 = 12 := rfl
theorem B_13 : B 13#8 = 13 := rfl
theorem B_14 : B 14#8 = 14 := rfl
theorem B_15 : B 15#8 = 15 := rfl

/-- The document's example. -/
theorem mix_example (w : World) : Calls Try.prog 7 #[.agg #[.int .u8 0, .int .u8 1, .int .u8 2, .int .u8 3, .int .u8 4, .int .u8 5, .int .u8 6, .int .u8 7, .int .u8 8, .int .u8 9, .int .u8 10, .int .u8 11, .int .u8 12, .int .u8 13, .int .u8 14, .int .u8 15], .agg #[.int .u8 0, .int .u8 1, .int .u8 2, .int .u8 3, .int .u8 4, .int .u8 5, .int .u8 6, .int .u8 7]] w fun e w' => e = .returned (.agg #[.int .u8 98, .int .u8 36, .int .u8 147, .int .u8 154, .int .u8 121, .int .u8 245, .int .u8 245, .int .u8 147]) ∧ Below w.heap.size w w' := by
  have h := wmix_any 0#8 1#8 2#8 3#8 4#8 5#8 6#8 7#8 8#8 9#8 10#8 11#8 12#8 13#8 14#8 15#8 0#8 1#8 2#8 3#8 4#8 5#8 6#8 7#8 w
  rw [mix_word, mix_out, B_0, B_1, B_2, B_3, B_4, B_5, B_6, B_7, B_8, B_9, B_10, B_11, B_12, B_13, B_14, B_15] at h
  exact h
def q3 : Rq := ⟨3, 0, 3, 0, 0, 0, zf, zf, none, 0, 0, ⟨#[]⟩⟩
theorem build_q3 (w : World) : (Instr.build 28 #[(0, .int .i64 3), (2, .int .i64 3)]).run Try.prog w = .ok (.agg q3.row) w := by kernel_rfl
theorem may_q3 : mayB q3 [] = true := by kernel_rfl
theorem enc_q3 : strB (numTo ((bodyOf q3 []).length : Int) 2 2 ++ bodyOf q3 []) = strB [0#8, 2#8, 3#8, 3#8] := by kernel_rfl
theorem wpList_build_q3 {w : World} {ops : Array Oper} {rest : List Oper} {o : Oper} {a : Act} {Q : Exit → Act → World → Prop} (hgd : o.guard = none) (ho : o.op = .build 28 #[(0, .const (.int .i64 3)), (2, .const (.int .i64 3))]) (h : wpList Try.prog ops Q rest (a.put o.dst (.agg q3.row)) w) : wpList Try.prog ops Q (o :: rest) a w := by
  refine wpList_plain hgd fun K hK => ?_
  unfold Oper.wp execOp
  simp only [ho, Sem.run_bind, Sem.run_pure, List.map_toArray, List.map_cons, List.map_nil]
  rw [show a.eval (.const (.int .i64 3)) = .int .i64 3 from rfl, build_q3]
  exact hK _ _ h
def left16 (v : Value) : Nat := 16 - (intOf v).toNat
set_option maxRecDepth 100000 in
set_option maxHeartbeats 4000000 in
theorem works_any (w : World) : Calls Try.prog 20 #[] w fun e w' => e = .returned (.bool true) ∧ Below w.heap.size w w' := by
  go_enter Try.func20, Try.ntmps20
  go_wp2
  go_loopw [3] (fun i wr => ∃ k : Nat, k ≤ 16 ∧ i = .int .i64 k ∧ wr = (w.alloc (.cells (keyTo k) 22)).alloc (.cells (nonTo k) 23)) (fun i _ => left16 i)
  case atStart => exact ⟨0, Nat.zero_le _, rfl, rfl⟩
  case round =>
    obtain ⟨k, hk, rfl, hwr⟩ := hrel
    subst hwr
    rcases (show k = 0 ∨ k = 1 ∨ k = 2 ∨ k = 3 ∨ k = 4 ∨ k = 5 ∨ k = 6 ∨ k = 7 ∨ k = 8 ∨ k = 9 ∨ k = 10 ∨ k = 11 ∨ k = 12 ∨ k = 13 ∨ k = 14 ∨ k = 15 ∨ k = 16 from by omega) with rfl | rfl | rfl | rfl | rfl | rfl | rfl | rfl | rfl | rfl | rfl | rfl | rfl | rfl | rfl | rfl | rfl
    · rw [keyTo_0, nonTo_0]
      go_wp2
      go_roundw
      case rel => exact ⟨1, by omega, rfl, by rw [keyTo_1, nonTo_1]⟩
      case measure => simp [left16, intOf]
    · rw [keyTo_1, nonTo_1]
      go_wp2
      go_roundw
      case rel => exact ⟨2, by omega, rfl, by rw [keyTo_2, nonTo_2]⟩
      case measure => simp [left16, intOf]
    · rw [keyTo_2, nonTo_2]
      go_wp2
      go_roundw
      case rel => exact ⟨3, by omega, rfl, by rw [keyTo_3, nonTo_3]⟩
      case measure => simp [left16, intOf]
    · rw [keyTo_3, nonTo_3]
      go_wp2
      go_roundw
      case rel => exact ⟨4, by omega, rfl, by rw [keyTo_4, nonTo_4]⟩
      case measure => simp [left16, intOf]
    · rw [keyTo_4, nonTo_4]
      go_wp2
      go_roundw
      case rel => exact ⟨5, by omega, rfl, by rw [keyTo_5, nonTo_5]⟩
      case measure => simp [left16, intOf]
    · rw [keyTo_5, nonTo_5]
      go_wp2
      go_roundw
      case rel => exact ⟨6, by omega, rfl, by rw [keyTo_6, nonTo_6]⟩
      case measure => simp [left16, intOf]
    · rw [keyTo_6, nonTo_6]
      go_wp2
      go_roundw
      case rel => exact ⟨7, by omega, rfl, by rw [keyTo_7, nonTo_7]⟩
      case measure => simp [left16, intOf]
    · rw [keyTo_7, nonTo_7]
      go_wp2
      go_roundw
      case rel => exact ⟨8, by omega, rfl, by rw [keyTo_8, nonTo_8]⟩
      case measure => simp [left16, intOf]
    · rw [keyTo_8, nonTo_8]
      go_wp2
      go_roundw
      case rel => exact ⟨9, by omega, rfl, by rw [keyTo_9, nonTo_9]⟩
      case measure => simp [left16, intOf]
    · rw [keyTo_9, nonTo_9]
      go_wp2
      go_roundw
      case rel => exact ⟨10, by omega, rfl, by rw [keyTo_10, nonTo_10]⟩
      case measure => simp [left16, intOf]
    · rw [keyTo_10, nonTo_10]
      go_wp2
      go_roundw
      case rel => exact ⟨11, by omega, rfl, by rw [keyTo_11, nonTo_11]⟩
      case measure => simp [left16, intOf]
    · rw [keyTo_11, nonTo_11]
      go_wp2
      go_roundw
      case rel => exact ⟨12, by omega, rfl, by rw [keyTo_12, nonTo_12]⟩
      case measure => simp [left16, intOf]
    · rw [keyTo_12, nonTo_12]
      go_wp2
      go_roundw
      case rel => exact ⟨13, by omega, rfl, by rw [keyTo_13, nonTo_13]⟩
      case measure => simp [left16, intOf]
    · rw [keyTo_13, nonTo_13]
      go_wp2
      go_roundw
      case rel => exact ⟨14, by omega, rfl, by rw [keyTo_14, nonTo_14]⟩
      case measure => simp [left16, intOf]
    · rw [keyTo_14, nonTo_14]
      go_wp2
      go_roundw
      case rel => exact ⟨15, by omega, rfl, by rw [keyTo_15, nonTo_15]⟩
      case measure => simp [left16, intOf]
    · rw [keyTo_15, nonTo_15]
      go_wp2
      go_roundw
      case rel => exact ⟨16, by omega, rfl, by rw [keyTo_16, nonTo_16]⟩
      case measure => simp [left16, intOf]
    · rw [keyTo_16, nonTo_16]
      go_wp2_with fail
      refine (mix_example _).mono ?_
      rintro e w1 ⟨rfl, hb1⟩
      have hz1 := hb1.size
      simp at hz1
      have B1 : Hid (Below w.heap.size w (w1.alloc (.cells #[.int .u8 98, .int .u8 36, .int .u8 147, .int .u8 154, .int .u8 121, .int .u8 245, .int .u8 245, .int .u8 147] 23))) := (((((Below.refl _ _).alloc (Nat.le_refl _) _).alloc (by simp) _).trans (hb1.mono (by simp; omega))).alloc (by omega) _)
      clear hb1
      go_wp2_with (refine wpList_build_q3 rfl rfl ?_)
      refine (encode_ok q3 [] _ may_q3 (by decide) (by decide) ⟨rfl, .inl rfl⟩ (fun h0 => absurd rfl h0)).mono ?_
      rintro e w2 ⟨he, hb2⟩
      rw [enc_q3] at he
      subst he
      have hz2 := hb2.size
      simp at hz2
      have R2 := Row.of (blk_later hb2 (by simp) (blk_newest (w := w1) rfl (.cells #[.int .u8 98, .int .u8 36, .int .u8 147, .int .u8 154, .int .u8 121, .int .u8 245, .int .u8 245, .int .u8 147] 23)))
      unfold Row at R2
      have B2 : Hid (Below w.heap.size w w2) := B1.out.trans (hb2.mono (by simp; omega))
      clear hb2 B1
      have O : Hid (Own (w2.alloc (.cells #[.int .u8 0, .int .u8 2, .int .u8 3, .int .u8 3] 5)) w2.heap.size (.slice (some ⟨w2.heap.size, 0, none⟩) 4 4) [0#8, 2#8, 3#8, 3#8]) := Own.lit rfl (Nat.le_refl _) rfl rfl rfl (by omega)
      have hcv := O.out.text (by simp)
      have hq : ∀ W : World, (Op.equalIn 10000 23 (.agg #[.int .u8 98, .int .u8 36, .int .u8 147, .int .u8 154, .int .u8 121, .int .u8 245, .int .u8 245, .int .u8 147]) (.agg #[.int .u8 98, .int .u8 36, .int .u8 147, .int .u8 154, .int .u8 121, .int .u8 245, .int .u8 245, .int .u8 147])).run Try.prog W = .ok true W := fun W => by
        have h := eq23 [98, 36, 147, 154, 121, 245, 245, 147] [98, 36, 147, 154, 121, 245, 245, 147] rfl rfl W
        exact h
      go_wp2
      go_ret
      exact ⟨rfl, B2.out.alloc (by have := B2.out.size; omega) _⟩
end Go.Proofs.Ytpnfkcbbjcimgaa
