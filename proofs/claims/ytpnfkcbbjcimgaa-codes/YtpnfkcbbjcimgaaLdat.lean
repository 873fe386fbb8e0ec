import Derived.Test.YtpnfkcbbjcimgaaCdecs
import Derived.Test.YtpnfkcbbjcimgaaLooks
namespace Go.Proofs.Ytpnfkcbbjcimgaa
open Go.RowKit
/-- What both sides read. -/
def dq (l : List (BitVec 8)) : Rq := if decB l = true then (rdOf l).rq none (rdOf l).cl.length 0 else z0
def dc (l : List (BitVec 8)) : List (Int × Int) := if decB l = true then (rdOf l).cl else []
def df (l : List (BitVec 8)) : Int := if decB l = true then 0 else 6
theorem df_cases (l : List (BitVec 8)) : df l = 0 ∨ df l = 6 := by unfold df; split <;> simp
theorem dc_small (l : List (BitVec 8)) : (dc l).length ≤ 8 := by
  unfold dc
  split
  · rename_i h
    unfold decB at h
    exact (mayB_small (Bool.and_eq_true _ _ ▸ h).2).1
  · simp
theorem OwnC.len {w : World} {base : Nat} {sa : Option Addr} {sn sc : Nat} {cl : List (Int × Int)} (h : OwnC w base (.slice sa sn sc) cl) : cl.length = sn := by
  obtain ⟨_, _, _, e, hc, _, _⟩ := h.cl
  cases e
  exact hc.1
theorem z0_with : z0.withSl none 0 0 = z0 := rfl
theorem wire_dec_any (l : List (BitVec 8)) (hl : l.length ≤ 140737488355328) (w : World) :
    Calls Try.prog 21 #[.string (strB l)] w fun e w' => ∃ sa sn sc, e = .returned (.tuple #[.agg ((dq l).withSl sa sn sc).row, .int .i64 (df l)]) ∧ OwnC w' w.heap.size (.slice sa sn sc) (dc l) ∧ (df l ≠ 0 → sa = none ∧ sn = 0 ∧ sc = 0) ∧ Below w.heap.size w w' := by
  by_cases h : decB l = true
  · refine (decode_ok l hl w h).mono ?_
    rintro e w' ⟨sa, sn, sc, rfl, ho, hb⟩
    refine ⟨sa, sn, sc, ?_, ?_, fun hf => absurd (by unfold df; rw [if_pos h]) hf, hb⟩
    · unfold dq df
      rw [if_pos h, if_pos h]
      rfl
    · unfold dc
      rw [if_pos h]
      exact ho
  · have h' : decB l = false := by simpa using h
    refine (decode_bad l hl w h').mono ?_
    rintro e w' ⟨rfl, hb⟩
    refine ⟨none, 0, 0, ?_, ?_, fun _ => ⟨rfl, rfl, rfl⟩, hb⟩
    · unfold dq df
      rw [if_neg h, if_neg h]
      rfl
    · unfold dc
      rw [if_neg h]
      exact OwnC.nil _ _
theorem ref_dec_any (l : List (BitVec 8)) (hl : l.length ≤ 140737488355328) (w : World) :
    Calls Try.prog 36 #[.string (strB l)] w fun e w' => ∃ sa sn sc, e = .returned (.tuple #[.agg ((dq l).withSl sa sn sc).row, .int .i64 (df l)]) ∧ OwnC w' w.heap.size (.slice sa sn sc) (dc l) ∧ Below w.heap.size w w' := by
  by_cases h : decB l = true
  · refine (rdec_ok l hl w h).mono ?_
    rintro e w' ⟨sa, sn, sc, rfl, ho, hb⟩
    have s := ref_same l h
    refine ⟨sa, sn, sc, ?_, ?_, hb⟩
    · unfold dq df
      rw [if_pos h, if_pos h, row_same s]
    · unfold dc
      rw [if_pos h, ← s.cl]
      exact ho
  · have h' : decB l = false := by simpa using h
    refine (rdec_bad l hl w h').mono ?_
    rintro e w' ⟨rfl, hb⟩
    refine ⟨none, 0, 0, ?_, ?_, hb⟩
    · unfold dq df
      rw [if_neg h, if_neg h]
      rfl
    · unfold dc
      rw [if_neg h]
      exact OwnC.nil _ _
theorem Fr.below {S : Nat → Prop} {N : Nat} {w0 w1 w2 : World} (h : Fr S w1 w2) (hb : Below N w0 w1) (hN : N ≤ w1.heap.size) (hS : ∀ k, k < N → ¬ S k) : Below N w0 w2 :=
  hb.trans ⟨h.os, h.tape, h.output, h.size, fun k hk => h.block k (by omega) (hS k hk)⟩
theorem OwnC.later {w wx : World} {base : Nat} {sa : Option Addr} {sn sc : Nat} {cl : List (Int × Int)} (h : OwnC w base (.slice sa sn sc) cl) (hb : Below w.heap.size w wx) : OwnC wx base (.slice sa sn sc) cl :=
  h.kept (fun a ha => hb.block _ (OwnC.lt h a ha))
theorem OwnC.low {w : World} {base b2 : Nat} {v : Value} {cl : List (Int × Int)} (h : OwnC w base v cl) (hb : b2 ≤ base) : OwnC w b2 v cl := World.ownsRow.mono h hb
theorem OwnC.lo {w : World} {base : Nat} {sa : Option Addr} {sn sc : Nat} {cl : List (Int × Int)} (h : OwnC w base (.slice sa sn sc) cl) : ∀ a, sa = some a → base ≤ a.block := fun a ha => by
  obtain ⟨_, _, _, e, _, _, h2⟩ := h.cl
  cases e
  exact (h2 a ha).1
theorem OwnC.cl' {w : World} {base : Nat} {sa : Option Addr} {sn sc : Nat} {cl : List (Int × Int)} (h : OwnC w base (.slice sa sn sc) cl) : Cl w sa sn cl := by
  obtain ⟨_, _, _, e, hc, _, _⟩ := h.cl
  cases e
  exact hc
end Go.Proofs.Ytpnfkcbbjcimgaa
