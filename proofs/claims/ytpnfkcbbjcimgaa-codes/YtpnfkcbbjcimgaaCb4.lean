import Derived.Test.YtpnfkcbbjcimgaaCb12
import Derived.Test.YtpnfkcbbjcimgaaCstand
import Derived.Test.YtpnfkcbbjcimgaaMathb
namespace Go.Proofs.Ytpnfkcbbjcimgaa
open Go.RowKit
attribute [local go_sem] row_1 row_2 row_3 row_4 row_5 row_31
theorem clOk_get (cl : List (Int × Int)) (l : Int) (h : clOk l cl = true) (i : Nat) (hi : i < cl.length) : 0 ≤ (cl.getD i (0, 0)).1 ∧ (cl.getD i (0, 0)).1 ≤ 255 ∧ 0 ≤ (cl.getD i (0, 0)).2 ∧ (cl.getD i (0, 0)).2 ≤ 65535 := by
  have e : cl.getD i (0, 0) = cl[i] := by simp [List.getD, List.getElem?_eq_getElem hi]
  rw [e]
  exact clOk_bounds cl l h _ (List.getElem_mem hi)
theorem clBytes_take (cl : List (Int × Int)) (k : Nat) (h : k < cl.length) : clBytes (cl.take (k + 1)) = clBytes (cl.take k) ++ [BitVec.ofInt 8 (cl.getD k (0, 0)).1] ++ numTo (cl.getD k (0, 0)).2 2 2 := by
  have e : cl.getD k (0, 0) = cl[k] := by simp [List.getD, List.getElem?_eq_getElem h]
  rw [List.take_succ_eq_append_getElem h, clBytes_snoc, e]
theorem str_nil (s : ByteArray) : s = s ++ strB (clBytes (([] : List (Int × Int)).take 0)) := by
  apply str_ext
  rw [ByteArray.toList_data_append]
  simp [clBytes, strB]
theorem clBytes_small (cl : List (Int × Int)) (k : Nat) (h : k ≤ 8) : (strB (clBytes (cl.take k))).size ≤ 24 := by
  rw [strB_size, clBytes_length, List.length_take]
  omega
set_option maxRecDepth 100000 in
set_option maxHeartbeats 8000000 in
theorem rbody4 (q : Rq) (_hk : Hid (q.kd = 4)) (hk0 : q.row[0]? = some (.int .i64 4)) (cl : List (Int × Int)) (w : World) (v : Option Addr) (hv : q.row[30]? = some (.slice v q.sn q.sc)) (hcl : Cl w v q.sn cl)
    (h0 : 0 ≤ q.ac) (h1 : q.ac ≤ 255) (h2 : q.sn ≤ 8) (h3 : q.tx.size ≤ 16) (hok : Hid (clOk (-1) cl = true)) :
    Calls Try.prog 31 #[.agg q.row] w fun e w' => e = .returned (.string (strB (body4 q cl))) ∧ Below w.heap.size w w' := by
  have HC : Hid (Cl w v q.sn cl) := hcl
  clear hcl
  obtain ⟨s1, e1, z1⟩ := str_at 1 4
  obtain ⟨s2, e2, z2⟩ := str_at 1 q.ac
  obtain ⟨s3, e3, z3⟩ := str_at 1 q.sn
  obtain ⟨s4, e4, z4⟩ := str_at 1 q.tx.size
  have z12 : (s1 ++ s2).size = 2 := by rw [ByteArray.size_append, z1, z2]
  obtain ⟨s0, e0, z0⟩ : ∃ s : ByteArray, Hid (s = s1 ++ s2 ++ s3) ∧ s.size = 3 := ⟨_, rfl, by rw [ByteArray.size_append, z12, z3]⟩
  go_enter Try.func31, Try.ntmps31
  go_wp2_with fail
  refine (written_str 1 _ _ s1 e1.out (by omega) (by omega) (by omega) rfl _).mono ?_
  rintro e w1 ⟨rfl, hb1⟩
  have X1 : Hid (w1.heap[w.heap.size]? = some (.cells q.row 28)) := blk_later hb1 (by simp) (blk_newest (w := w) rfl (.cells q.row 28))
  have hlt : w.heap.size < w1.heap.size := Nat.lt_of_lt_of_le (by simp) hb1.size
  have R1 := Row.of X1.out
  have B1 : Hid (Below w.heap.size w w1) := ((Below.refl _ _).alloc (Nat.le_refl _) _).trans (hb1.mono (by simp))
  unfold Row at R1
  clear hb1
  go_upto_region 13 with fail
  refine wp_region_quiet (C := fun wx => Below w1.heap.size w1 wx) (by kernel_rfl) (by kernel_rfl) ((Below.refl _ _).drew) ?_
  have ld : ∀ (i : Nat) (v : Value), q.row[i]? = some v → ∀ wx, Below w1.heap.size w1 wx → wx.cell? ⟨w.heap.size, i, none⟩ = some v := fun i v hv wx hC => (Row.of (blk_later hC hlt X1.out) i).trans hv
  have nx : ∀ {wx wy : World}, Below w1.heap.size w1 wx → Below wx.heap.size wx wy → Below w1.heap.size w1 wy := fun a b => a.trans (b.mono a.size)
  clear R1
  refine q_val (by rfl) (.string s1) (fun _ _ => by kernel_rfl) ?_
  refine q_val (by rfl) (.pointer (some ⟨w.heap.size, 1, none⟩)) (fun _ _ => by kernel_rfl) ?_
  refine q_val (by rfl) (.int .i64 q.ac) (fun wx hC => by have := ld 1 _ rfl wx hC; go_simp) ?_
  refine q_call (by rfl) (.string s2) 32 #[.int .i64 q.ac, .int .i64 1] (fun _ => by kernel_rfl) (fun wx hC => (written_str 1 _ _ s2 e2.out h0 (by omega) (by omega) rfl wx).mono fun _ _ h => ⟨h.1, nx hC h.2⟩) ?_
  refine q_val (by rfl) (.string (s1 ++ s2)) (fun _ _ => by go_simp) ?_
  refine q_val (by rfl) (.pointer (some ⟨w.heap.size, 30, none⟩)) (fun _ _ => by kernel_rfl) ?_
  refine q_val (by rfl) (.slice v q.sn q.sc) (fun wx hC => by have := ld 30 _ hv wx hC; go_simp) ?_
  refine q_val (by rfl) (.int .i64 q.sn) (fun wx hC => by go_simp) ?_
  refine q_call (by rfl) (.string s3) 32 #[.int .i64 q.sn, .int .i64 1] (fun _ => by kernel_rfl) (fun wx hC => (written_str 1 _ _ s3 e3.out (by omega) (by omega) (by omega) rfl wx).mono fun _ _ h => ⟨h.1, nx hC h.2⟩) ?_
  refine q_val (by rfl) (.string s0) (fun _ _ => by rw [e0.out]; go_simp) ?_
  refine q_val (by rfl) (.string s0) (fun _ _ => by go_simp) ?_
  refine wpQuiet_nil ?_
  intro w2 hb2
  have hlt2 : w.heap.size < w2.heap.size := Nat.lt_of_lt_of_le hlt hb2.size
  have X2 : Hid (w2.heap[w.heap.size]? = some (.cells q.row 28)) := blk_later hb2 hlt X1.out
  have B2 : Hid (Below w.heap.size w w2) := B1.out.trans (hb2.mono B1.out.size)
  clear hb2 ld nx X1 B1
  go_wp2_with fail
  go_loopw [3, 4] (fun s i wr => ∃ (k : Nat) (t : ByteArray), k ≤ q.sn ∧ i = .int .i64 k ∧ s = .string t ∧ t = s0 ++ strB (clBytes (cl.take k)) ∧ wr.heap[w.heap.size]? = some (.cells q.row 28) ∧ Below w.heap.size w wr) (fun _ i _ => q.sn - (intOf i).toNat)
  case atStart => exact ⟨0, s0, Nat.zero_le _, rfl, rfl, str_nil s0, X2.out, B2.out⟩
  case round =>
    obtain ⟨k, t, hk, rfl, rfl, ht, hx, hb⟩ := hrel
    have HT : Hid (t = s0 ++ strB (clBytes (cl.take k))) := ht
    have XX : Hid (wr.heap[w.heap.size]? = some (.cells q.row 28)) := hx
    have BB : Hid (Below w.heap.size w wr) := hb
    have hl : cl.length = q.sn := HC.out.1
    have zt : t.size = 3 + 3 * k := by
      rw [ht, ByteArray.size_append, z0, strB_size, clBytes_length, List.length_take]
      omega
    have hltr : w.heap.size < wr.heap.size := (Array.getElem?_eq_some_iff.1 hx).1
    have R := Row.of hx
    unfold Row at R
    clear hx hb ht X2 B2
    by_cases hlt : k < q.sn
    · obtain ⟨b, off, hs, hcell⟩ := HC.out.2.resolve_left (by omega)
      subst hs
      obtain ⟨d0, d1, d2, d3⟩ := clOk_get cl (-1) hok.out k (by omega)
      have c1 : Hid (∀ wx, Below wr.heap.size wr wx → wx.cell? ⟨b, off + k * 2, none⟩ = some (.int .i64 (cl.getD k (0, 0)).1)) := fun wx hC => cell_later (BB.out.trans (hC.mono BB.out.size)) (hcell k hlt).1
      have c2 : Hid (∀ wx, Below wr.heap.size wr wx → wx.cell? ⟨b, off + k * 2 + 1, none⟩ = some (.int .i64 (cl.getD k (0, 0)).2)) := fun wx hC => cell_later (BB.out.trans (hC.mono BB.out.size)) (hcell k hlt).2
      have hnext := clBytes_take cl k (by omega)
      generalize (cl.getD k (0, 0)).1 = d at *
      generalize (cl.getD k (0, 0)).2 = r at *
      obtain ⟨t1, f1, y1⟩ := str_at 1 d
      obtain ⟨t2, f2, y2⟩ := str_at 2 r
      have zt1 : (t ++ t1).size = 4 + 3 * k := by rw [ByteArray.size_append, zt, y1]; omega
      have HN : Hid (t ++ t1 ++ t2 = s0 ++ strB (clBytes (cl.take (k + 1)))) := by
        show _ = _
        rw [HT.out, f1.out, f2.out, hnext, ← strB_append, ← strB_append, numTo_one, ByteArray.append_assoc, ByteArray.append_assoc, ByteArray.append_assoc]
      clear hnext hcell
      go_upto_region 17 with fail
      refine wp_region_quiet (C := fun wx => Below wr.heap.size wr wx) (by kernel_rfl) (by kernel_rfl) ((Below.refl _ _).drew) ?_
      have ld : ∀ (i : Nat) (v : Value), q.row[i]? = some v → ∀ wx, Below wr.heap.size wr wx → wx.cell? ⟨w.heap.size, i, none⟩ = some v := fun i v hv wx hC => (Row.of (blk_later hC hltr XX.out) i).trans hv
      have nx : ∀ {wx wy : World}, Below wr.heap.size wr wx → Below wx.heap.size wx wy → Below wr.heap.size wr wy := fun a b => a.trans (b.mono a.size)
      clear R
      refine q_val (by rfl) (.string t) (fun _ _ => by kernel_rfl) ?_
      refine q_val (by rfl) (.pointer (some ⟨w.heap.size, 30, none⟩)) (fun _ _ => by kernel_rfl) ?_
      refine q_val (by rfl) (.slice (some ⟨b, off, none⟩) q.sn q.sc) (fun wx hC => by have := ld 30 _ hv wx hC; go_simp) ?_
      refine q_val (by rfl) (.int .i64 k) (fun _ _ => by kernel_rfl) ?_
      refine q_val (by rfl) (.pointer (some ⟨b, off + k * 2, none⟩)) (fun _ _ => by go_simp) ?_
      refine q_val (by rfl) (.pointer (some ⟨b, off + k * 2, none⟩)) (fun _ _ => by kernel_rfl) ?_
      refine q_val (by rfl) (.int .i64 d) (fun wx hC => by have := c1.out wx hC; go_simp) ?_
      refine q_call (by rfl) (.string t1) 32 #[.int .i64 d, .int .i64 1] (fun _ => by kernel_rfl) (fun wx hC => (written_str 1 _ _ t1 f1.out d0 (by omega) (by omega) rfl wx).mono fun _ _ h => ⟨h.1, nx hC h.2⟩) ?_
      refine q_val (by rfl) (.string (t ++ t1)) (fun _ _ => by go_simp; omega) ?_
      refine q_val (by rfl) (.pointer (some ⟨w.heap.size, 30, none⟩)) (fun _ _ => by kernel_rfl) ?_
      refine q_val (by rfl) (.slice (some ⟨b, off, none⟩) q.sn q.sc) (fun wx hC => by have := ld 30 _ hv wx hC; go_simp) ?_
      refine q_val (by rfl) (.int .i64 k) (fun _ _ => by kernel_rfl) ?_
      refine q_val (by rfl) (.pointer (some ⟨b, off + k * 2, none⟩)) (fun _ _ => by go_simp) ?_
      refine q_val (by rfl) (.pointer (some ⟨b, off + k * 2 + 1, none⟩)) (fun _ _ => by kernel_rfl) ?_
      refine q_val (by rfl) (.int .i64 r) (fun wx hC => by have := c2.out wx hC; go_simp) ?_
      refine q_call (by rfl) (.string t2) 32 #[.int .i64 r, .int .i64 2] (fun _ => by kernel_rfl) (fun wx hC => (written_str 2 _ _ t2 f2.out d2 (by omega) (by omega) rfl wx).mono fun _ _ h => ⟨h.1, nx hC h.2⟩) ?_
      refine q_val (by rfl) (.string (t ++ t1 ++ t2)) (fun _ _ => by go_simp; omega) ?_
      refine q_val (by rfl) (.string (t ++ t1 ++ t2)) (fun _ _ => by go_simp) ?_
      refine wpQuiet_nil ?_
      intro w3 hb3
      have X3 : Hid (w3.heap[w.heap.size]? = some (.cells q.row 28)) := blk_later hb3 hltr XX.out
      have B3 : Hid (Below w.heap.size w w3) := BB.out.trans (hb3.mono BB.out.size)
      clear hb3 ld nx
      go_wp2
      go_roundw
      case rel => exact ⟨k + 1, _, by omega, by go_num, rfl, HN.out, X3.out, B3.out⟩
      case measure => simp [intOf]; omega
    · have hz : Hid (strB (body4 q cl) = t ++ s4 ++ q.tx) := by
        show _ = _
        have e : cl.take k = cl := List.take_of_length_le (by omega)
        rw [HT.out, e, e0.out, e1.out, e2.out, e3.out, e4.out, ← strB_txB q.tx, strB_append, strB_append, strB_append, strB_append, strB_append, strB_txB, numTo_one, numTo_one, numTo_one, numTo_one]
        rfl
      have zt4 : (t ++ s4).size = 4 + 3 * k := by rw [ByteArray.size_append, zt, z4]; omega
      go_upto_region 18 with fail
      refine wp_region_quiet (C := fun wx => Below wr.heap.size wr wx) (by kernel_rfl) (by kernel_rfl) ((Below.refl _ _).drew) ?_
      have ld : ∀ (i : Nat) (v : Value), q.row[i]? = some v → ∀ wx, Below wr.heap.size wr wx → wx.cell? ⟨w.heap.size, i, none⟩ = some v := fun i v hv wx hC => (Row.of (blk_later hC hltr XX.out) i).trans hv
      have nx : ∀ {wx wy : World}, Below wr.heap.size wr wx → Below wx.heap.size wx wy → Below wr.heap.size wr wy := fun a b => a.trans (b.mono a.size)
      clear R
      refine q_val (by rfl) (.string t) (fun _ _ => by kernel_rfl) ?_
      refine q_val (by rfl) (.pointer (some ⟨w.heap.size, 31, none⟩)) (fun _ _ => by kernel_rfl) ?_
      refine q_val (by rfl) (.string q.tx) (fun wx hC => by have := ld 31 _ rfl wx hC; go_simp) ?_
      refine q_val (by rfl) (.int .i64 q.tx.size) (fun wx hC => by go_simp) ?_
      refine q_call (by rfl) (.string s4) 32 #[.int .i64 q.tx.size, .int .i64 1] (fun _ => by kernel_rfl) (fun wx hC => (written_str 1 _ _ s4 e4.out (by omega) (by omega) (by omega) rfl wx).mono fun _ _ h => ⟨h.1, nx hC h.2⟩) ?_
      refine q_val (by rfl) (.string (t ++ s4)) (fun _ _ => by go_simp; omega) ?_
      refine q_val (by rfl) (.pointer (some ⟨w.heap.size, 31, none⟩)) (fun _ _ => by kernel_rfl) ?_
      refine q_val (by rfl) (.string q.tx) (fun wx hC => by have := ld 31 _ rfl wx hC; go_simp) ?_
      refine q_val (by rfl) (.string (t ++ s4 ++ q.tx)) (fun _ _ => by go_simp; omega) ?_
      refine q_val (by rfl) (.string (t ++ s4 ++ q.tx)) (fun _ _ => by go_simp) ?_
      refine wpQuiet_nil ?_
      intro w3 hb3
      have B3 : Hid (Below w.heap.size w w3) := BB.out.trans (hb3.mono BB.out.size)
      clear hb3 ld nx
      go_wp2
      go_ret
      exact ⟨by rw [hz.out]; kernel_rfl, B3.out⟩
end Go.Proofs.Ytpnfkcbbjcimgaa
