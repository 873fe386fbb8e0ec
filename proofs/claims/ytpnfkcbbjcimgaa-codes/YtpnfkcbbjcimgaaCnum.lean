import Derived.Test.YtpnfkcbbjcimgaaWin
import Derived.Laws.Concat
namespace Go.Proofs.Ytpnfkcbbjcimgaa
open Go.RowKit
set_option maxHeartbeats 400000 in
theorem in_any (n most : Int) (w : World) : Calls Try.prog 50 #[.int .i64 n, .int .i64 most] w fun e w' => e = .returned (.bool (inB n most)) ∧ w' = w := by
  by_cases h0 : 0 ≤ n
  · by_cases h1 : n ≤ most
    · have e : inB n most = true := inB_iff.2 ⟨h0, h1⟩
      rw [e]
      clear e
      go_enter Try.func50, Try.ntmps50
      go_wp2
      go_ret
      exact ⟨rfl, rfl⟩
    · have e : inB n most = false := by simp [inB, h1]
      rw [e]
      clear e
      go_enter Try.func50, Try.ntmps50
      go_wp2
      go_ret
      exact ⟨rfl, rfl⟩
  · have e : inB n most = false := by simp [inB, h0]
    rw [e]
    clear e
    go_enter Try.func50, Try.ntmps50
    go_wp2
    go_ret
    exact ⟨rfl, rfl⟩
theorem strB_append (a b : List (BitVec 8)) : strB a ++ strB b = strB (a ++ b) := by
  apply str_ext
  rw [ByteArray.toList_data_append, strB_toList, strB_toList, strB_toList, List.map_append]
theorem numTo_cons (n : Int) (k : Nat) : numTo n (k + 1) (k + 1) = numTo (n / 256) k k ++ [BitVec.ofInt 8 n] := by
  rw [numTo_succ]
  have e1 : k + 1 - 1 - k = 0 := by omega
  rw [e1]
  have e2 : numTo n (k + 1) k = numTo (n / 256) k k := by
    unfold numTo
    apply List.map_congr_left
    intro i hi
    rw [List.mem_range] at hi
    have h1 : k + 1 - 1 - i = (k - 1 - i) + 1 := by omega
    rw [h1, Int.ediv_ediv_of_nonneg (by omega)]
    congr 2
    rw [show 8 * (k - 1 - i + 1) = 8 + 8 * (k - 1 - i) from by omega, Int.pow_add]
    rfl
  rw [e2]
  simp
theorem conv1 (g : Nat) (x : BitVec 8) (W : World) (h : W.cell? ⟨g, 0, none⟩ = some (.int .u8 (B x))) : (convert 65 9 (.slice (some ⟨g, 0, none⟩) 1 1)).run Try.prog W = .ok (.string (strB [x])) W := by
  rw [← strB_nums]
  refine run_convert_bytes_arg W 65 5 Try.underlying65 Try.underlying5 g 0 1 1 ([x].map B) (by simp) ?_ 9 Try.underlying9
  intro i hi
  have : i = 0 := by omega
  subst this
  exact h
end Go.Proofs.Ytpnfkcbbjcimgaa
