import Derived.Test.YtpnfkcbbjcimgaaChecked
import Derived.WalkKit
import Derived.ChangeKeysEq
namespace Go.Proofs.Ytpnfkcbbjcimgaa
open Go.RowKit
theorem cells5 : Try.prog.cellsOf 5 = 1 := by kernel_rfl
/-- Numbers as the cells of an array of bytes. -/
def u8s (l : List Int) : Array Value := (l.map fun x => Value.int .u8 x).toArray
theorem part5 (l : List Int) (i : Nat) (x : Int) (h : l[i]? = some x) (w : World) : (part 5 (u8s l) i).run Try.prog w = .ok (.int .u8 x) w := by
  have hc : (u8s l)[i]? = some (.int .u8 x) := by simp [u8s, h]
  unfold part
  simp [hc]
theorem eqItems5 (d : Nat) (xs ys : List Int) (w : World) : ∀ is : List Nat, (∀ i ∈ is, i < xs.length ∧ i < ys.length) →
    (Op.eqItems (d + 1) 5 1 (u8s xs) (u8s ys) is).run Try.prog w = .ok (is.all fun i => xs.getD i 0 == ys.getD i 0) w
  | [], _ => by simp [Op.eqItems]
  | i :: is, h => by
    obtain ⟨h1, h2⟩ := h i (by simp)
    have ih := eqItems5 d xs ys w is (fun j hj => h j (by simp [hj]))
    have e1 := part5 xs i xs[i] (List.getElem?_eq_getElem h1) w
    have e2 := part5 ys i ys[i] (List.getElem?_eq_getElem h2) w
    have g1 : xs.getD i 0 = xs[i] := by simp [List.getD, List.getElem?_eq_getElem h1]
    have g2 : ys.getD i 0 = ys[i] := by simp [List.getD, List.getElem?_eq_getElem h2]
    simp only [Op.eqItems, Sem.run_bind, Nat.mul_one, e1, e2, Result.andThen_ok, run_equalIn_int w d 5 .u8 .u8 _ _ Try.underlying5, List.all_cons, g1, g2]
    by_cases hq : xs[i] = ys[i]
    · simp [hq, ih]
    · simp [hq]
theorem info5 : (Try.prog.info? 5).isSome = true := by kernel_rfl
theorem eq23 (xs ys : List Int) (hx : xs.length = 8) (hy : ys.length = 8) (w : World) : (Op.equalIn 10000 23 (.agg (u8s xs)) (.agg (u8s ys))).run Try.prog w = .ok ((List.range 8).all fun i => xs.getD i 0 == ys.getD i 0) w := by
  obtain ⟨i5, h5⟩ := Option.isSome_iff_exists.1 info5
  rw [show (10000 : Nat) = 9999 + 1 from rfl, run_equalIn_array (P := Try.prog) w 9999 (u8s xs) (u8s ys) Try.underlying23 h5, cells5]
  exact eqItems5 9998 xs ys w _ (fun i hi => by rw [List.mem_range] at hi; omega)
theorem eq22 (xs ys : List Int) (hx : xs.length = 16) (hy : ys.length = 16) (w : World) : (Op.equalIn 10000 22 (.agg (u8s xs)) (.agg (u8s ys))).run Try.prog w = .ok ((List.range 16).all fun i => xs.getD i 0 == ys.getD i 0) w := by
  obtain ⟨i5, h5⟩ := Option.isSome_iff_exists.1 info5
  rw [show (10000 : Nat) = 9999 + 1 from rfl, run_equalIn_array (P := Try.prog) w 9999 (u8s xs) (u8s ys) Try.underlying22 h5, cells5]
  exact eqItems5 9998 xs ys w _ (fun i hi => by rw [List.mem_range] at hi; omega)
end Go.Proofs.Ytpnfkcbbjcimgaa
