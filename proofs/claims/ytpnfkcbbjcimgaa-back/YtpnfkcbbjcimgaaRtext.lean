import Derived.Test.YtpnfkcbbjcimgaaRclaims
import Derived.Lib.UnsafeStr
import Derived.Lib.BufferWrite
import Derived.Laws.MakeOwn
namespace Go.Proofs.Ytpnfkcbbjcimgaa
open Go.RowKit
theorem setRow_new (W : World) (A C : Array Value) (t : TypeId) : (W.alloc (.cells A t)).setRow W.heap.size C = W.alloc (.cells C t) := by
  unfold World.setRow World.alloc
  congr 1
  apply Array.ext_getElem?
  intro i
  rw [Array.getElem?_modify, Array.getElem?_push, Array.getElem?_push]
  by_cases h : W.heap.size = i
  · subst h; simp
  · simp [h, Ne.symm h]
/-- A slice of bytes is made. -/
theorem made_bytes (n : Nat) (hn : n ≤ 1000) : ∃ M : Array Value, M.size = n ∧ ∀ W : World, (Instr.makeSlice 65 (.int .i64 (n : Int)) (.int .i64 (n : Int))).run Try.prog W = .ok (.slice (some ⟨W.heap.size, 0, none⟩) n n) (W.alloc (.cells M 5)) := by
  obtain ⟨i, hi, y0, y1, y2⟩ := info_parts rowInfo5
  refine ⟨madeCells (Value.int .u8 0).cells (((n : Nat) : Int).toNat * i.size), by rw [size_madeCells, y1]; simp, fun W => ?_⟩
  simpa using run_make (P := Try.prog) W 65 5 i (.int .u8 0) Try.underlying65 hi y0 .i64 .i64 n n (by omega) (by omega) (by rw [y2]; omega) (by omega)
/-- A string is copied into it. -/
theorem filled_bytes (s : ByteArray) (M : Array Value) (hM : M.size = s.size) (w : World) :
    (Builtin.copy_ #[65, 9] 3 #[.slice (some ⟨w.heap.size, 0, none⟩) s.size s.size, .string s]).run Try.prog (w.alloc (.cells M 5)) = .ok (goInt s.size) (w.alloc (.cells (Lib.strCells s).toArray 5)) := by
  have one : (Try.prog.info? 5).map (·.size) = some 1 := by kernel_rfl
  have h := Lib.run_copy_row_string (P := Try.prog) (w.alloc (.cells M 5)) 65 9 3 5 w.heap.size 0 s.size s.size s M 5 Try.underlying65 one (blk_newest rfl _) (Nat.le_refl _) (by omega)
  rw [setRow_new] at h
  have e : M.toList.drop (0 + s.size) = [] := List.drop_of_length_le (by rw [Array.length_toList]; omega)
  rw [e, List.take_zero, List.nil_append, List.append_nil] at h
  exact h
theorem strCells_length (s : ByteArray) : (Lib.strCells s).length = s.size := by
  rw [strCells_txB, List.length_map]; unfold txB; rw [List.length_map, Array.length_toList]; rfl
/-- Its bytes, taken as a string. -/
theorem shared_text (s : ByteArray) (h0 : 0 < s.size) (hs : s.size ≤ 1000) (w : World) :
    (Builtin.unsafeString_ #[160, 3] 9 #[.pointer (some ⟨w.heap.size, 0, none⟩), .int .i64 (s.size : Int)]).run Try.prog (w.alloc (.cells (Lib.strCells s).toArray 5)) = .ok (.string s) ((w.alloc (.cells (Lib.strCells s).toArray 5)).freeze ⟨w.heap.size, 0, none⟩ s.size) := by
  have hz : s.data.toList.length = s.size := by rw [Array.length_toList]; rfl
  have hg : (w.alloc (.cells (Lib.strCells s).toArray 5)).heap[w.heap.size]? = some (.cells (Lib.strCells s).toArray 5) := blk_newest rfl _
  have h := Lib.run_unsafeString_row (P := Try.prog) (w.alloc (.cells (Lib.strCells s).toArray 5)) 160 3 9 5 Try.underlying160 cells5 w.heap.size s.size (by unfold World.shape?; rw [hg]; simp [strCells_length]) s.data.toList (fun e => by rw [e] at hz; simp at hz; omega) (by omega) (by omega)
    (fun j x hx => by
      have hadd : (⟨w.heap.size, 0, none⟩ : Addr).add j = ⟨w.heap.size, j, none⟩ := by unfold Addr.add; split <;> simp_all
      rw [hadd, Row.of hg j]
      simp [Lib.strCells, hx])
  rw [hz] at h
  exact h
set_option maxRecDepth 100000 in
set_option maxHeartbeats 1000000 in
theorem cloneIn_any (s : ByteArray) (w : World) (hlim : s.size ≤ 1000) : Calls Try.prog 91 #[.string s] w fun e w' => e = .returned (.string s) ∧ Below w.heap.size w w' := by
  by_cases h0 : s.size = 0
  · have hs : s = ⟨#[]⟩ := str_ext (List.eq_nil_of_length_eq_zero (by rw [Array.length_toList]; exact h0))
    subst hs
    go_enter Try.func91, Try.ntmps91
    go_wp2
    go_ret
    exact ⟨rfl, Below.refl _ _⟩
  · obtain ⟨M, hM, hmk⟩ := made_bytes s.size hlim
    have hcp := filled_bytes s M hM w
    have hus := shared_text s (by omega) hlim w
    go_enter Try.func91, Try.ntmps91
    go_wp2
    go_ret
    exact ⟨rfl, Lib.below_freeze ((Below.refl _ w).alloc (Nat.le_refl _) _) (p := ⟨w.heap.size, 0, none⟩) (Nat.le_refl _) _⟩
set_option maxHeartbeats 400000 in
theorem clone_any (s : ByteArray) (w : World) (hlim : s.size ≤ 1000) : Calls Try.prog 89 #[.string s] w fun e w' => e = .returned (.string s) ∧ Below w.heap.size w w' := by
  go_enter Try.func89, Try.ntmps89
  go_wp2_with fail
  refine (cloneIn_any s w hlim).mono ?_
  rintro e w1 ⟨rfl, hb1⟩
  have B1 : Hid (Below w.heap.size w w1) := hb1
  clear hb1
  go_wp2
  go_ret
  exact ⟨rfl, B1.out⟩
/-- Reading a text. -/
def textR (l : List (BitVec 8)) (sh : Bool) : Tk := takeR (takeR l sh 1).l (takeR l sh 1).sh (beN (takeR l sh 1).got).toNat
theorem below_grown {b : Nat} {w w1 w2 : World} (h : w.grownBy w1 (some b)) (k : Below w1.heap.size w1 w2) : w.grownBy w2 (some b) :=
  grown_new h (row := none) ⟨k.os, k.tape, k.output, k.size, fun j hj _ => k.block j hj⟩ (fun _ h => by cases h)
set_option maxHeartbeats 400000 in
theorem text_any (b : Nat) (l : List (BitVec 8)) (sh : Bool) (w : World) (hin : In w b l sh) :
    Calls Try.prog 80 #[.pointer (some ⟨b, 0, none⟩)] w fun e w' => e = .returned (.string (strB (textR l sh).got)) ∧ In w' b (textR l sh).l (textR l sh).sh ∧ w.grownBy w' (some b) := by
  have hbd := beN_bound _ 1 (takeR_len l sh 1).2
  go_enter Try.func80, Try.ntmps80
  go_wp2_with fail
  refine (number_any b l sh _ 1 rfl (by omega) _ hin).mono ?_
  rintro e w1 ⟨rfl, hin1, ht1⟩
  have I1 : Hid (In w1 b (takeR l sh 1).l (takeR l sh 1).sh) := hin1
  have T1 : Hid (Turn b w w1) := ht1
  have HB : Hid (0 ≤ beN (takeR l sh 1).got ∧ beN (takeR l sh 1).got < 256 ^ 1) := hbd
  clear hin1 ht1 hin hbd
  go_wp2_with fail
  refine (take_any b (takeR l sh 1).l (takeR l sh 1).sh _ (beN (takeR l sh 1).got).toNat (Int.toNat_of_nonneg HB.out.1).symm (by have := HB.out.2; omega) _ I1.out).mono ?_
  rintro e w2 ⟨rfl, hin2, ht2⟩
  have I2 : Hid (In w2 b (textR l sh).l (textR l sh).sh) := hin2
  have T2 : Hid (Turn b w w2) := T1.out.trans ht2
  have hL : Hid ((strB (takeR (takeR l sh 1).l (takeR l sh 1).sh (beN (takeR l sh 1).got).toNat).got).size ≤ 1000) := by
    show _ ≤ _
    rw [strB_size]
    have := (takeR_len (takeR l sh 1).l (takeR l sh 1).sh (beN (takeR l sh 1).got).toNat).2
    have := HB.out.2
    omega
  clear hin2 ht2 I1 T1
  go_wp2_with fail
  refine (clone_any _ _ hL.out).mono ?_
  rintro e w3 ⟨rfl, hb3⟩
  have I3 : Hid (In w3 b (textR l sh).l (textR l sh).sh) := I2.out.later hb3
  have G3 : Hid (w.grownBy w3 (some b)) := below_grown T2.out.grown hb3
  clear hb3
  go_wp2
  go_ret
  exact ⟨rfl, I3.out, G3.out⟩
end Go.Proofs.Ytpnfkcbbjcimgaa
