import Derived.Test.YtpnfkcbbjcimgaaWrot
namespace Go.Proofs.Ytpnfkcbbjcimgaa
open Go.RowKit
attribute [local go_sem] U_add U_xor
set_option maxRecDepth 100000 in
set_option maxHeartbeats 2000000 in
theorem round_any (b : Nat) (x0 x1 x2 x3 : BitVec 64) (w : World) (hs : St b w x0 x1 x2 x3) :
    Calls Try.prog 81 #[.pointer (some ⟨b, 0, none⟩)] w fun e w' => e = .returned (.tuple #[]) ∧ St b w' (rnd ⟨x0, x1, x2, x3⟩).a (rnd ⟨x0, x1, x2, x3⟩).b (rnd ⟨x0, x1, x2, x3⟩).c (rnd ⟨x0, x1, x2, x3⟩).d ∧ Turn b w w' := by
  go_enter Try.func81, Try.ntmps81
  have T : Hid (Turn b w w) := Turn.refl _ _
  have H : Hid (St b w x0 x1 x2 x3) := hs
  obtain ⟨c0, c1, c2, c3, f0, f1, f2, f3⟩ := hs
  go_upto_region 0 with fail
  go_cut [] (fun wx => St b wx (x0 + x1) x1 x2 x3 ∧ Turn b w wx)
  case first =>
    go_region
    all_goals
      go_wp2_with fail
      go_meet
      case rel => exact ⟨by first | exact (H.out.set0 _).drew | exact H.out.set0 _, by first | exact (T.out.set _ _).drew | exact T.out.set _ _⟩
  obtain ⟨hs, ht⟩ := hcut
  clear H c0 c1 c2 c3 f0 f1 f2 f3 T
  have T : Hid (Turn b w wc) := ht
  clear ht
  obtain ⟨y0, hy0⟩ : ∃ y, Hid (y = (x0 + x1)) := ⟨_, rfl⟩
  rw [← hy0.out] at hs
  have H : Hid (St b wc y0 x1 x2 x3) := hs
  obtain ⟨c0, c1, c2, c3, f0, f1, f2, f3⟩ := hs
  go_upto_region 1 with fail
  go_cut [] (fun wx => St b wx y0 (rol x1 13 ^^^ y0) x2 x3 ∧ Turn b w wx)
  case first =>
    go_region_with (go_at_call 90; refine (rot_any _ _ 13 (by decide) (by omega) (by omega) _).mono ?_; rintro e w' ⟨rfl, rfl⟩)
    all_goals
      go_wp2_with fail
      go_meet
      case rel => exact ⟨by first | exact (H.out.set1 _).drew | exact H.out.set1 _, by first | exact (T.out.set _ _).drew | exact T.out.set _ _⟩
  obtain ⟨hs, ht⟩ := hcut
  clear H c0 c1 c2 c3 f0 f1 f2 f3 T
  have T : Hid (Turn b w wc) := ht
  clear ht
  obtain ⟨y1, hy1⟩ : ∃ y, Hid (y = (rol x1 13 ^^^ y0)) := ⟨_, rfl⟩
  rw [← hy1.out] at hs
  have H : Hid (St b wc y0 y1 x2 x3) := hs
  obtain ⟨c0, c1, c2, c3, f0, f1, f2, f3⟩ := hs
  go_upto_region 2 with fail
  go_cut [] (fun wx => St b wx (rol y0 32) y1 x2 x3 ∧ Turn b w wx)
  case first =>
    go_wp2_with (go_at_call 90; refine (rot_any _ _ 32 (by decide) (by omega) (by omega) _).mono ?_; rintro e w' ⟨rfl, rfl⟩)
    all_goals
      go_wp2_with fail
      go_meet
      case rel => exact ⟨by first | exact (H.out.set0 _).drew | exact H.out.set0 _, by first | exact (T.out.set _ _).drew | exact T.out.set _ _⟩
  obtain ⟨hs, ht⟩ := hcut
  clear H c0 c1 c2 c3 f0 f1 f2 f3 T
  have T : Hid (Turn b w wc) := ht
  clear ht
  obtain ⟨y2, hy2⟩ : ∃ y, Hid (y = (rol y0 32)) := ⟨_, rfl⟩
  rw [← hy2.out] at hs
  have H : Hid (St b wc y2 y1 x2 x3) := hs
  obtain ⟨c0, c1, c2, c3, f0, f1, f2, f3⟩ := hs
  go_upto_region 3 with fail
  go_cut [] (fun wx => St b wx y2 y1 (x2 + x3) x3 ∧ Turn b w wx)
  case first =>
    go_region
    all_goals
      go_wp2_with fail
      go_meet
      case rel => exact ⟨by first | exact (H.out.set2 _).drew | exact H.out.set2 _, by first | exact (T.out.set _ _).drew | exact T.out.set _ _⟩
  obtain ⟨hs, ht⟩ := hcut
  clear H c0 c1 c2 c3 f0 f1 f2 f3 T
  have T : Hid (Turn b w wc) := ht
  clear ht
  obtain ⟨y3, hy3⟩ : ∃ y, Hid (y = (x2 + x3)) := ⟨_, rfl⟩
  rw [← hy3.out] at hs
  have H : Hid (St b wc y2 y1 y3 x3) := hs
  obtain ⟨c0, c1, c2, c3, f0, f1, f2, f3⟩ := hs
  go_upto_region 4 with fail
  go_cut [] (fun wx => St b wx y2 y1 y3 (rol x3 16 ^^^ y3) ∧ Turn b w wx)
  case first =>
    go_region_with (go_at_call 90; refine (rot_any _ _ 16 (by decide) (by omega) (by omega) _).mono ?_; rintro e w' ⟨rfl, rfl⟩)
    all_goals
      go_wp2_with fail
      go_meet
      case rel => exact ⟨by first | exact (H.out.set3 _).drew | exact H.out.set3 _, by first | exact (T.out.set _ _).drew | exact T.out.set _ _⟩
  obtain ⟨hs, ht⟩ := hcut
  clear H c0 c1 c2 c3 f0 f1 f2 f3 T
  have T : Hid (Turn b w wc) := ht
  clear ht
  obtain ⟨y4, hy4⟩ : ∃ y, Hid (y = (rol x3 16 ^^^ y3)) := ⟨_, rfl⟩
  rw [← hy4.out] at hs
  have H : Hid (St b wc y2 y1 y3 y4) := hs
  obtain ⟨c0, c1, c2, c3, f0, f1, f2, f3⟩ := hs
  go_upto_region 5 with fail
  go_cut [] (fun wx => St b wx (y2 + y4) y1 y3 y4 ∧ Turn b w wx)
  case first =>
    go_region
    all_goals
      go_wp2_with fail
      go_meet
      case rel => exact ⟨by first | exact (H.out.set0 _).drew | exact H.out.set0 _, by first | exact (T.out.set _ _).drew | exact T.out.set _ _⟩
  obtain ⟨hs, ht⟩ := hcut
  clear H c0 c1 c2 c3 f0 f1 f2 f3 T
  have T : Hid (Turn b w wc) := ht
  clear ht
  obtain ⟨y5, hy5⟩ : ∃ y, Hid (y = (y2 + y4)) := ⟨_, rfl⟩
  rw [← hy5.out] at hs
  have H : Hid (St b wc y5 y1 y3 y4) := hs
  obtain ⟨c0, c1, c2, c3, f0, f1, f2, f3⟩ := hs
  go_upto_region 6 with fail
  go_cut [] (fun wx => St b wx y5 y1 y3 (rol y4 21 ^^^ y5) ∧ Turn b w wx)
  case first =>
    go_region_with (go_at_call 90; refine (rot_any _ _ 21 (by decide) (by omega) (by omega) _).mono ?_; rintro e w' ⟨rfl, rfl⟩)
    all_goals
      go_wp2_with fail
      go_meet
      case rel => exact ⟨by first | exact (H.out.set3 _).drew | exact H.out.set3 _, by first | exact (T.out.set _ _).drew | exact T.out.set _ _⟩
  obtain ⟨hs, ht⟩ := hcut
  clear H c0 c1 c2 c3 f0 f1 f2 f3 T
  have T : Hid (Turn b w wc) := ht
  clear ht
  obtain ⟨y6, hy6⟩ : ∃ y, Hid (y = (rol y4 21 ^^^ y5)) := ⟨_, rfl⟩
  rw [← hy6.out] at hs
  have H : Hid (St b wc y5 y1 y3 y6) := hs
  obtain ⟨c0, c1, c2, c3, f0, f1, f2, f3⟩ := hs
  go_upto_region 7 with fail
  go_cut [] (fun wx => St b wx y5 y1 (y3 + y1) y6 ∧ Turn b w wx)
  case first =>
    go_region
    all_goals
      go_wp2_with fail
      go_meet
      case rel => exact ⟨by first | exact (H.out.set2 _).drew | exact H.out.set2 _, by first | exact (T.out.set _ _).drew | exact T.out.set _ _⟩
  obtain ⟨hs, ht⟩ := hcut
  clear H c0 c1 c2 c3 f0 f1 f2 f3 T
  have T : Hid (Turn b w wc) := ht
  clear ht
  obtain ⟨y7, hy7⟩ : ∃ y, Hid (y = (y3 + y1)) := ⟨_, rfl⟩
  rw [← hy7.out] at hs
  have H : Hid (St b wc y5 y1 y7 y6) := hs
  obtain ⟨c0, c1, c2, c3, f0, f1, f2, f3⟩ := hs
  go_upto_region 8 with fail
  go_cut [] (fun wx => St b wx y5 (rol y1 17 ^^^ y7) y7 y6 ∧ Turn b w wx)
  case first =>
    go_region_with (go_at_call 90; refine (rot_any _ _ 17 (by decide) (by omega) (by omega) _).mono ?_; rintro e w' ⟨rfl, rfl⟩)
    all_goals
      go_wp2_with fail
      go_meet
      case rel => exact ⟨by first | exact (H.out.set1 _).drew | exact H.out.set1 _, by first | exact (T.out.set _ _).drew | exact T.out.set _ _⟩
  obtain ⟨hs, ht⟩ := hcut
  clear H c0 c1 c2 c3 f0 f1 f2 f3 T
  have T : Hid (Turn b w wc) := ht
  clear ht
  obtain ⟨y8, hy8⟩ : ∃ y, Hid (y = (rol y1 17 ^^^ y7)) := ⟨_, rfl⟩
  rw [← hy8.out] at hs
  have H : Hid (St b wc y5 y8 y7 y6) := hs
  obtain ⟨c0, c1, c2, c3, f0, f1, f2, f3⟩ := hs
  go_wp2_with (go_at_call 90; refine (rot_any _ _ 32 (by decide) (by omega) (by omega) _).mono ?_; rintro e w' ⟨rfl, rfl⟩)
  go_end0
  have h := H.out.set2 (rol y7 32)
  rw [hy8.out, hy7.out, hy6.out, hy5.out, hy4.out, hy3.out, hy2.out, hy1.out, hy0.out] at h
  refine ⟨rfl, ?_, T.out.set _ _⟩
  rw [hy7.out, hy3.out, hy1.out, hy0.out]
  exact h
end Go.Proofs.Ytpnfkcbbjcimgaa
