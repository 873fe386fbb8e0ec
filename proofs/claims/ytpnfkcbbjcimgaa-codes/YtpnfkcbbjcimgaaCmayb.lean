import Derived.Test.YtpnfkcbbjcimgaaCmay
namespace Go.Proofs.Ytpnfkcbbjcimgaa
open Go.RowKit
theorem tx_empty (s : ByteArray) : s.toList.isEmpty = decide (s = ByteArray.empty) := by
  rw [Bool.eq_iff_iff, List.isEmpty_iff, decide_eq_true_eq]
  exact toList_nil_iff_emptyBytes s
def acOk (q : Rq) : Bool := decide (q.kd = 1 ∨ q.kd = 2 ∨ q.kd = 4) || (q.ac == 0)
def dvOk (q : Rq) : Bool := decide (q.kd = 1 ∨ q.kd = 2 ∨ q.kd = 3) || (q.dv == 0)
def rgOk (q : Rq) : Bool := decide (q.kd = 1) || ((q.rg == 0) && zB q.key)
def mcOk (q : Rq) : Bool := decide (q.kd = 2) || zB q.mac
def sdOk (q : Rq) : Bool := decide (q.kd = 4) || (decide (q.sn = 0) && decide (q.tx.size = 0))
def cuOk (q : Rq) : Bool := decide (q.kd = 5 ∨ q.kd = 6) || (q.cu == 0)
def moOk (q : Rq) : Bool := decide (q.kd = 5) || (q.mo == 0)
def tailB (q : Rq) : Bool := acOk q && dvOk q && rgOk q && mcOk q && sdOk q && cuOk q && moOk q
set_option maxHeartbeats 2000000 in
/-- The two sides' word on what may be. -/
theorem may_same (q : Rq) (cl : List (Int × Int)) : mayB q cl = (firstB q && (clOk (-1) cl && tailB q)) := by
  unfold mayB firstB tailB acOk dvOk rgOk mcOk sdOk cuOk moOk arrB numB isKind
  generalize clOk (-1) cl = c
  generalize zB q.key = zk
  generalize zB q.mac = zm
  generalize q.kd = kd
  generalize q.ac = ac
  generalize q.dv = dv
  generalize q.rg = rg
  generalize q.cu = cu
  generalize q.mo = mo
  generalize q.sn = sn
  generalize q.tx.size = tx
  by_cases hk : 1 ≤ kd ∧ kd ≤ 6
  · have h6 : kd = 1 ∨ kd = 2 ∨ kd = 3 ∨ kd = 4 ∨ kd = 5 ∨ kd = 6 := by omega
    rw [Bool.eq_iff_iff]
    rcases h6 with rfl | rfl | rfl | rfl | rfl | rfl <;> cases c <;> cases zk <;> cases zm <;>
      simp [bdOf, inB] <;> omega
  · simp [hk]
end Go.Proofs.Ytpnfkcbbjcimgaa
