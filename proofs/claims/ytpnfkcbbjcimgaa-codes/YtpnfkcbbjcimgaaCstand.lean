import Derived.Test.YtpnfkcbbjcimgaaCmayb
namespace Go.Proofs.Ytpnfkcbbjcimgaa
open Go.RowKit
attribute [local go_sem] row_0 row_1 row_2 row_3 row_4 row_5 row_6 row_7 row_8 row_9 row_10 row_11 row_12 row_13 row_14 row_15 row_16 row_17 row_18 row_19 row_20 row_21 row_22 row_23 row_24 row_25 row_26 row_27 row_28 row_29 row_31
/-- The device of the claim before. -/
def before (cl : List (Int × Int)) : Nat → Int
  | 0 => -1
  | m + 1 => (cl.getD m (0, 0)).1
theorem first_facts {q : Rq} (h : firstB q = true) : (1 ≤ q.kd ∧ q.kd ≤ 6) ∧ inB q.ac 255 = true ∧ inB q.dv 255 = true ∧ inB q.mo 255 = true ∧ inB q.rg 65535 = true ∧ inB q.cu 4294967295 = true ∧ q.sn ≤ 8 ∧ q.tx.size ≤ 16 := by
  unfold firstB isKind at h
  simp only [Bool.and_eq_true, decide_eq_true_eq] at h
  obtain ⟨⟨⟨⟨⟨⟨⟨a, b⟩, c⟩, d⟩, e⟩, f⟩, g⟩, i⟩ := h
  exact ⟨a, b, c, d, e, f, g, i⟩
structure Stand (w : World) (q : Rq) (wr : World) : Prop where
  req : wr.heap[w.heap.size]? = some (.cells q.row 28)
  key : wr.heap[w.heap.size + 1]? = some (.cells #[.int .u8 0, .int .u8 0, .int .u8 0, .int .u8 0, .int .u8 0, .int .u8 0, .int .u8 0, .int .u8 0, .int .u8 0, .int .u8 0, .int .u8 0, .int .u8 0, .int .u8 0, .int .u8 0, .int .u8 0, .int .u8 0] 22)
  mac : wr.heap[w.heap.size + 1 + 1]? = some (.cells #[.int .u8 0, .int .u8 0, .int .u8 0, .int .u8 0, .int .u8 0, .int .u8 0, .int .u8 0, .int .u8 0] 23)
  bel : Below w.heap.size w wr
theorem Stand.drewN {w : World} {q : Rq} {wr : World} (h : Stand w q wr) (n : Nat) : Stand w q (wr.drewN n) := ⟨h.req, h.key, h.mac, h.bel.trans ⟨rfl, rfl, rfl, Nat.le_refl _, fun _ _ => rfl⟩⟩
end Go.Proofs.Ytpnfkcbbjcimgaa
