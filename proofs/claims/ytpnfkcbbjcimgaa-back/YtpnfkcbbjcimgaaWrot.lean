import Derived.Test.YtpnfkcbbjcimgaaChecked
import Derived.WalkKit
import Derived.WalkSpells
import Derived.WalkLawsBesides
import Derived.RegionTactic
import Derived.BigRegion
import Derived.BigQuiet
import Derived.Deep.RegionWith
import Derived.Deep.DeepCutAuto
import Derived.Deep.QuietTactic
import Derived.Deep.DeepMust
import Derived.Test.YtpnfkcbbjcimgaaSip
namespace Go.Proofs.Ytpnfkcbbjcimgaa
open Go.RowKit
attribute [local go_sem] U_add U_xor
theorem ret_u64 {a b : Int} (h : a = b) : Ending.returned (.int .u64 a) = .returned (.int .u64 b) := by rw [h]
set_option maxHeartbeats 400000 in
theorem rot_any (x : BitVec 64) (k : Int) (m : Nat) (hk : bits BinOp.and IntKind.u64 (IntKind.u64.wrap k) 63 = (m : Int)) (h0 : 0 < m) (h1 : m < 64) (w : World) :
    Calls Try.prog 90 #[.int .u64 (U x), .int .i64 k] w fun e w' => e = .returned (.int .u64 (U (rol x m))) ∧ w' = w := by
  have hx := U_nonneg x
  have hy := U_lt x
  go_enter Try.func90, Try.ntmps90
  go_wp2
  go_ret
  exact ⟨ret_u64 (rol_walk x m), rfl⟩
set_option maxHeartbeats 400000 in
theorem turned_any (x : BitVec 64) (k : Int) (m : Nat) (hk : k = (m : Int)) (h1 : m < 64) (w : World) :
    Calls Try.prog 49 #[.int .u64 (U x), .int .i64 k] w fun e w' => e = .returned (.int .u64 (U (rol x m))) ∧ w' = w := by
  subst hk
  go_enter Try.func49, Try.ntmps49
  go_wp2
  go_loop [0, 5] (fun n i => ∃ j : Nat, j ≤ m ∧ i = .int .i64 j ∧ n = .int .u64 (U (rol x j))) (fun _ i => m - (intOf i).toNat)
  case atStart => exact ⟨0, Nat.zero_le _, rfl, by rw [rol_zero]⟩
  case round =>
    obtain ⟨j, hj, rfl, rfl⟩ := hrel
    have hx := U_nonneg (rol x j)
    have hy := U_lt (rol x j)
    by_cases hlt : j < m
    · go_wp2
      go_round
      case rel => exact ⟨j + 1, by omega, by go_num, by rw [rol_step, rol_succ x j (by omega)]⟩
      case measure => simp [intOf]; omega
    · go_wp2
      go_ret
      have e : j = m := by omega
      subst e
      exact ⟨rfl, rfl⟩

end Go.Proofs.Ytpnfkcbbjcimgaa
