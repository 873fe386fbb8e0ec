import Derived.Test.YtpnfkcbbjcimgaaWround
namespace Go.Proofs.Ytpnfkcbbjcimgaa
open Go.RowKit
attribute [local go_sem] U_add U_xor
set_option maxHeartbeats 400000 in
theorem rounds_any (b : Nat) (v : V4) (n : Int) (m : Nat) (hn : n = (m : Int)) (hm : m ≤ 100) (w : World) (hs : St b w v.a v.b v.c v.d) :
    Calls Try.prog 48 #[.pointer (some ⟨b, 0, none⟩), .int .i64 n] w fun e w' => e = .returned (.tuple #[]) ∧ St b w' (rnds m v).a (rnds m v).b (rnds m v).c (rnds m v).d ∧ Turn b w w' := by
  subst hn
  have H0 : Hid (St b w v.a v.b v.c v.d) := hs
  clear hs
  go_enter Try.func48, Try.ntmps48
  go_wp2
  go_loopw [5] (fun i wr => ∃ j : Nat, j ≤ m ∧ i = .int .i64 j ∧ St b wr (rnds j v).a (rnds j v).b (rnds j v).c (rnds j v).d ∧ Turn b w wr) (fun i _ => m - (intOf i).toNat)
  case atStart => exact ⟨0, Nat.zero_le _, rfl, H0.out, Turn.refl _ _⟩
  case round =>
    obtain ⟨j, hj, rfl, hs, ht⟩ := hrel
    have H : Hid (St b wr (rnds j v).a (rnds j v).b (rnds j v).c (rnds j v).d) := hs
    have T : Hid (Turn b w wr) := ht
    clear hs ht
    by_cases hlt : j < m
    · go_wp2_with fail
      refine (round_any b _ _ _ _ _ H.out).mono ?_
      rintro e w' ⟨rfl, hs1, ht1⟩
      go_wp2
      go_roundw
      case rel => exact ⟨j + 1, by omega, by go_num, hs1, T.out.trans ht1⟩
      case measure => simp [intOf]; omega
    · go_wp2
      go_end0
      have e : j = m := by omega
      subst e
      exact ⟨rfl, H.out, T.out⟩
end Go.Proofs.Ytpnfkcbbjcimgaa
