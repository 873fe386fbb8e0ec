import Derived.Test.YtpnfkcbbjcimgaaWenc
import Derived.Lib.Strings
namespace Go.Proofs.Ytpnfkcbbjcimgaa
open Go.RowKit
theorem strB_size (l : List (BitVec 8)) : (strB l).size = l.length := by
  unfold strB
  show ((l.map UInt8.ofBitVec).toArray).size = _
  simp
theorem strB_toList (l : List (BitVec 8)) : (strB l).data.toList = l.map UInt8.ofBitVec := by unfold strB; simp
theorem str_ext {a b : ByteArray} (h : a.data.toList = b.data.toList) : a = b := by
  apply ByteArray.ext
  exact Array.toList_inj.1 h
theorem strB_take (l : List (BitVec 8)) (n : Nat) : (strB l).extract 0 n = strB (l.take n) := by
  apply str_ext
  rw [Lib.extract_data, strB_toList, strB_toList, List.map_take]
  simp
theorem strB_drop (l : List (BitVec 8)) (n : Nat) : (strB l).extract n l.length = strB (l.drop n) := by
  apply str_ext
  rw [Lib.extract_data, strB_toList, strB_toList, List.map_drop]
  rw [List.take_of_length_le (by simp)]
theorem strB_txB (s : ByteArray) : strB (txB s) = s := by
  apply str_ext
  rw [strB_toList]
  unfold txB
  rw [List.map_map]
  exact List.map_id'' (fun x => rfl) _
theorem txB_strB (l : List (BitVec 8)) : txB (strB l) = l := by
  unfold txB
  rw [strB_toList, List.map_map]
  exact List.map_id'' (fun x => rfl) _
/-- What is left of a body, in memory. -/
def In (w : World) (b : Nat) (l : List (BitVec 8)) (sh : Bool) : Prop :=
  w.cell? ⟨b, 0, none⟩ = some (.string (strB l)) ∧ w.cell? ⟨b, 1, none⟩ = some (.bool sh) ∧ w.frozen? ⟨b, 0, none⟩ = false ∧ w.frozen? ⟨b, 1, none⟩ = false ∧ l.length ≤ 140737488355328
theorem In.later {w wx : World} {b : Nat} {l : List (BitVec 8)} {sh : Bool} (h : In w b l sh) (hb : Below w.heap.size w wx) : In wx b l sh := by
  obtain ⟨h1, h2, h3, h4, h5⟩ := h
  have hlt := World.block_lt_of_cell? w _ h1
  exact ⟨(hb.cell (p := ⟨b, 0, none⟩) hlt).trans h1, (hb.cell (p := ⟨b, 1, none⟩) hlt).trans h2, (hb.frozen (p := ⟨b, 0, none⟩) hlt).trans h3, (hb.frozen (p := ⟨b, 1, none⟩) hlt).trans h4, h5⟩
theorem In.turn {w wx : World} {b c : Nat} {l : List (BitVec 8)} {sh : Bool} (h : In w b l sh) (ht : Turn c w wx) (hne : b ≠ c) : In wx b l sh := by
  obtain ⟨h1, h2, h3, h4, h5⟩ := h
  exact ⟨(ht.cell (p := ⟨b, 0, none⟩) hne).trans h1, (ht.cell (p := ⟨b, 1, none⟩) hne).trans h2, (ht.frozen (p := ⟨b, 0, none⟩) hne).trans h3, (ht.frozen (p := ⟨b, 1, none⟩) hne).trans h4, h5⟩
/-- Taking so many bytes: what is taken, what is left, whether it is short. -/
structure Tk where
  got : List (BitVec 8)
  l : List (BitVec 8)
  sh : Bool
def takeR (l : List (BitVec 8)) (sh : Bool) (n : Nat) : Tk := if sh = true ∨ l.length < n then ⟨[], l, true⟩ else ⟨l.take n, l.drop n, false⟩
theorem takeR_len (l : List (BitVec 8)) (sh : Bool) (n : Nat) : (takeR l sh n).l.length ≤ l.length ∧ (takeR l sh n).got.length ≤ n := by
  unfold takeR; split
  · exact ⟨Nat.le_refl _, Nat.zero_le _⟩
  · exact ⟨by simp, List.length_take_le _ _⟩
set_option maxRecDepth 100000 in
set_option maxHeartbeats 1000000 in
theorem take_any (b : Nat) (l : List (BitVec 8)) (sh : Bool) (k : Int) (n : Nat) (hk : k = (n : Int)) (hn : n ≤ 1000) (w : World) (hin : In w b l sh) :
    Calls Try.prog 78 #[.pointer (some ⟨b, 0, none⟩), .int .i64 k] w fun e w' => e = .returned (.string (strB (takeR l sh n).got)) ∧ In w' b (takeR l sh n).l (takeR l sh n).sh ∧ Turn b w w' := by
  subst hk
  obtain ⟨c0, c1, f0, f1, hl⟩ := hin
  have hsz := strB_size l
  cases sh with
  | true =>
    have e : takeR l true n = ⟨[], l, true⟩ := by unfold takeR; simp
    rw [e]
    clear e
    go_enter Try.func78, Try.ntmps78
    go_wp2
    go_ret
    refine ⟨rfl, ⟨?_, ?_, ?_, ?_, hl⟩, (Turn.refl _ _).set _ _⟩
    · rw [World.cell?_setCell_other _ _ _ _ (by simp)]; exact c0
    · exact World.cell?_setCell_same _ _ _ c1
    · simp [f0]
    · simp [f1]
  | false =>
    by_cases h : l.length < n
    · have e : takeR l false n = ⟨[], l, true⟩ := by unfold takeR; simp [h]
      rw [e]
      clear e
      go_enter Try.func78, Try.ntmps78
      go_wp2
      go_ret
      refine ⟨rfl, ⟨?_, ?_, ?_, ?_, hl⟩, (Turn.refl _ _).set _ _⟩
      · rw [World.cell?_setCell_other _ _ _ _ (by simp)]; exact c0
      · exact World.cell?_setCell_same _ _ _ c1
      · simp [f0]
      · simp [f1]
    · have e : takeR l false n = ⟨l.take n, l.drop n, false⟩ := by unfold takeR; simp [h]
      rw [e]
      clear e
      have ht := strB_take l n
      have hd := strB_drop l n
      go_enter Try.func78, Try.ntmps78
      go_wp2
      go_ret
      refine ⟨rfl, ⟨?_, ?_, ?_, ?_, ?_⟩, (Turn.refl _ _).set _ _⟩
      · exact World.cell?_setCell_same _ _ _ c0
      · rw [World.cell?_setCell_other _ _ _ _ (by simp)]; exact c1
      · simp [f0]
      · simp [f1]
      · rw [List.length_drop]; omega
/-- Bytes as a number, the highest first. -/
def beN (l : List (BitVec 8)) : Int := l.foldl (fun n b => n * 256 + B b) 0
theorem beN_snoc (l : List (BitVec 8)) (b : BitVec 8) : beN (l ++ [b]) = beN l * 256 + B b := by unfold beN; rw [List.foldl_append]; rfl
theorem beN_bound (l : List (BitVec 8)) : ∀ k, l.length ≤ k → 0 ≤ beN l ∧ beN l < 256 ^ k := by
  rw [← List.reverse_reverse l]
  generalize l.reverse = m
  induction m with
  | nil => intro k _; exact ⟨by decide, Int.pow_pos (by decide)⟩
  | cons b m ih =>
    intro k hk
    rw [List.reverse_cons] at hk ⊢
    rw [beN_snoc]
    cases k with
    | zero => simp at hk
    | succ k =>
      have := ih k (by simp at hk ⊢; omega)
      have h0 := B_nonneg b
      have h1 := B_lt b
      rw [Int.pow_succ]
      omega
theorem i64_or8 (x y : Int) (h0 : 0 ≤ x) (h1 : x < 72057594037927936 / 2) (h2 : 0 ≤ y) (h3 : y < 256) : bits .or .i64 (x * 256) y = x * 256 + y :=
  bits_join .i64 63 (by decide) (fun n a b => by rw [IntKind.wrap_i64]; omega) 8 (x * 256) y (by omega) (by omega) (by omega) (by omega) (by omega) (by omega)
theorem wrap64_B (b : BitVec 8) : wrap64 (B b) = B b := by
  have h0 := B_nonneg b
  have h1 := B_lt b
  unfold wrap64
  omega
theorem str_index (l : List (BitVec 8)) (k : Nat) (h : k < (strB l).size) : (((strB l)[k]).toNat : Int) = B (l.getD k 0) := by
  have hk : k < l.length := by rw [strB_size] at h; exact h
  have e : (strB l)[k] = UInt8.ofBitVec l[k] := by
    show (strB l).data[k] = _
    simp [strB]
  rw [e]
  unfold B
  simp [List.getD, List.getElem?_eq_getElem hk]
set_option maxRecDepth 100000 in
set_option maxHeartbeats 1000000 in
theorem number_any (b : Nat) (l : List (BitVec 8)) (sh : Bool) (k : Int) (n : Nat) (hk : k = (n : Int)) (hn : n ≤ 4) (w : World) (hin : In w b l sh) :
    Calls Try.prog 77 #[.pointer (some ⟨b, 0, none⟩), .int .i64 k] w fun e w' => e = .returned (.int .i64 (beN (takeR l sh n).got)) ∧ In w' b (takeR l sh n).l (takeR l sh n).sh ∧ Turn b w w' := by
  subst hk
  have hgl := (takeR_len l sh n).2
  go_enter Try.func77, Try.ntmps77
  go_wp2_with fail
  refine (take_any b l sh _ n rfl (by omega) _ hin).mono ?_
  rintro e w1 ⟨rfl, hin1, ht1⟩
  have I1 : Hid (In w1 b (takeR l sh n).l (takeR l sh n).sh) := hin1
  have T1 : Hid (Turn b w w1) := ht1
  clear hin1 ht1 hin
  obtain ⟨g, hg⟩ : ∃ g, Hid (g = (takeR l sh n).got) := ⟨_, rfl⟩
  rw [← hg.out]
  rw [← hg.out] at hgl
  have hsz := strB_size g
  go_wp2_with fail
  go_loop [6, 7] (fun x i => ∃ j : Nat, j ≤ g.length ∧ i = .int .i64 j ∧ x = .int .i64 (beN (g.take j))) (fun _ i => g.length - (intOf i).toNat)
  case atStart => exact ⟨0, Nat.zero_le _, rfl, rfl⟩
  case round =>
    obtain ⟨j, hj, rfl, rfl⟩ := hrel
    by_cases hlt : j < g.length
    · obtain ⟨q0, q1⟩ := beN_bound (g.take j) 4 (by rw [List.length_take]; omega)
      have HS : Hid (beN (g.take (j + 1)) = beN (g.take j) * 256 + B (g.getD j 0)) := by
        show _ = _
        rw [List.take_succ_eq_append_getElem hlt, beN_snoc]
        simp [List.getD, List.getElem?_eq_getElem hlt]
      have hx1 := B_nonneg (g.getD j 0)
      have hy1 := B_lt (g.getD j 0)
      have hix : Hid (∀ h : j < (strB g).size, (((strB g)[j]).toNat : Int) = B (g.getD j 0)) := fun h => str_index g j h
      go_wp2
      go_round
      case rel => exact ⟨j + 1, by omega, by go_num, by rw [hix.out (by omega), wrap64_B, i64_or8 _ _ q0 (by omega) hx1 hy1, HS.out]⟩
      case measure => simp [intOf]; omega
    · have e : g.take j = g := List.take_of_length_le (by omega)
      go_wp2
      go_ret
      exact ⟨by rw [← hg.out]; rfl, I1.out, T1.out⟩
end Go.Proofs.Ytpnfkcbbjcimgaa
