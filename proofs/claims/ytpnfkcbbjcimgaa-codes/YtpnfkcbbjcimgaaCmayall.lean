import Derived.Test.YtpnfkcbbjcimgaaCbad
import Derived.Test.YtpnfkcbbjcimgaaCgood
namespace Go.Proofs.Ytpnfkcbbjcimgaa
open Go.RowKit
/-- May: of every request. -/
theorem rmay_any (q : Rq) (cl : List (Int × Int)) (w : World) (hn : q.sn ≤ 9223372036854775807) (ht : q.tx.size ≤ 9223372036854775807) (hcl : Cl w q.sa q.sn cl) :
    Calls Try.prog 30 #[.agg q.row] w fun e w' => e = .returned (.bool (mayB q cl)) ∧ Below w.heap.size w w' := by
  rw [may_same]
  cases h : firstB q
  · exact rmay_first q w hn ht h
  · cases hc : clOk (-1) cl
    · exact rmay_bad q cl w q.sa rfl hcl h hc
    · rw [Bool.true_and, Bool.true_and]
      exact rmay_good q cl w q.sa rfl hcl h hc
end Go.Proofs.Ytpnfkcbbjcimgaa
