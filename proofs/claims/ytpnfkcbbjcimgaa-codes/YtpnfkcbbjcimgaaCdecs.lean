import Derived.Test.YtpnfkcbbjcimgaaCdec
import Derived.Test.YtpnfkcbbjcimgaaCdmath
namespace Go.Proofs.Ytpnfkcbbjcimgaa
open Go.RowKit
theorem rdec_ok (l : List (BitVec 8)) (hl : l.length ≤ 140737488355328) (w : World) (h : decB l = true) :
    Calls Try.prog 36 #[.string (strB l)] w fun e w' => ∃ sa sn sc, e = .returned (.tuple #[.agg ((refD l).rq sa sn sc).row, .int .i64 0]) ∧ OwnC w' w.heap.size (.slice sa sn sc) (refD l).cl ∧ Below w.heap.size w w' :=
  (rdec_core l _ hl w rfl _ _ rfl rfl).mono fun e w' ⟨hb, h1, _⟩ => by
    obtain ⟨sa, sn, sc, he, ho⟩ := h1 ((ref_dec l).trans h)
    exact ⟨sa, sn, sc, he, ho, hb⟩
theorem rdec_bad (l : List (BitVec 8)) (hl : l.length ≤ 140737488355328) (w : World) (h : decB l = false) :
    Calls Try.prog 36 #[.string (strB l)] w fun e w' => e = .returned (.tuple #[.agg z0.row, .int .i64 6]) ∧ Below w.heap.size w w' :=
  (rdec_core l _ hl w rfl _ _ rfl rfl).mono fun _ _ ⟨hb, _, h2⟩ => ⟨h2 ((ref_dec l).trans h), hb⟩
end Go.Proofs.Ytpnfkcbbjcimgaa
