import Derived.Test.YtpnfkcbbjcimgaaCb5
namespace Go.Proofs.Ytpnfkcbbjcimgaa
open Go.RowKit
attribute [local go_sem] row_1 row_2 row_3 row_4 row_5 row_31
theorem mac_cell (q : Rq) {W : World} {g : Nat} (h : W.heap[g]? = some (.cells q.row 28)) : ∀ i, i < 8 → W.cell? ⟨g, 22 + i, none⟩ = some (.int .u8 ((q.macB.map B).getD i 0)) := by
  intro i hi
  have e := Row.of h (22 + i)
  have hh : i = 0 ∨ i = 1 ∨ i = 2 ∨ i = 3 ∨ i = 4 ∨ i = 5 ∨ i = 6 ∨ i = 7 := by omega
  rcases hh with rfl | rfl | rfl | rfl | rfl | rfl | rfl | rfl <;> exact e
theorem key_cell (q : Rq) {W : World} {g : Nat} (h : W.heap[g]? = some (.cells q.row 28)) : ∀ i, i < 16 → W.cell? ⟨g, 6 + i, none⟩ = some (.int .u8 ((q.keyB.map B).getD i 0)) := by
  intro i hi
  have e := Row.of h (6 + i)
  have hh : i = 0 ∨ i = 1 ∨ i = 2 ∨ i = 3 ∨ i = 4 ∨ i = 5 ∨ i = 6 ∨ i = 7 ∨ i = 8 ∨ i = 9 ∨ i = 10 ∨ i = 11 ∨ i = 12 ∨ i = 13 ∨ i = 14 ∨ i = 15 := by omega
  rcases hh with rfl | rfl | rfl | rfl | rfl | rfl | rfl | rfl | rfl | rfl | rfl | rfl | rfl | rfl | rfl | rfl <;> exact e
theorem conv_mac (q : Rq) (g : Nat) (s : ByteArray) (hs : s = strB q.macB) (W : World) (h : W.heap[g]? = some (.cells q.row 28)) : (convert 65 9 (.slice (some ⟨g, 22, none⟩) 8 8)).run Try.prog W = .ok (.string s) W := by
  rw [hs, ← strB_nums]
  exact run_convert_bytes_arg W 65 5 Try.underlying65 Try.underlying5 g 22 8 8 (q.macB.map B) (by simp [Rq.macB]) (mac_cell q h) 9 Try.underlying9
theorem conv_key (q : Rq) (g : Nat) (s : ByteArray) (hs : s = strB q.keyB) (W : World) (h : W.heap[g]? = some (.cells q.row 28)) : (convert 65 9 (.slice (some ⟨g, 6, none⟩) 16 16)).run Try.prog W = .ok (.string s) W := by
  rw [hs, ← strB_nums]
  exact run_convert_bytes_arg W 65 5 Try.underlying65 Try.underlying5 g 6 16 16 (q.keyB.map B) (by simp [Rq.keyB]) (key_cell q h) 9 Try.underlying9
set_option maxRecDepth 100000 in
set_option maxHeartbeats 2000000 in
theorem rbody2 (q : Rq) (_hk : Hid (q.kd = 2)) (hk0 : q.row[0]? = some (.int .i64 2)) (w : World) (h0 : 0 ≤ q.ac) (h1 : q.ac ≤ 255) (h2 : 0 ≤ q.dv) (h3 : q.dv ≤ 255) :
    Calls Try.prog 31 #[.agg q.row] w fun e w' => e = .returned (.string (strB (body2 q))) ∧ Below w.heap.size w w' := by
  obtain ⟨s1, e1, z1⟩ := str_at 1 2
  obtain ⟨s2, e2, z2⟩ := str_at 1 q.ac
  obtain ⟨s3, e3, z3⟩ := str_at 1 q.dv
  obtain ⟨s4, e4, z4⟩ : ∃ s : ByteArray, Hid (s = strB q.macB) ∧ s.size = 8 := ⟨_, rfl, by rw [strB_size]; rfl⟩
  have hz : Hid (strB (body2 q) = s1 ++ s2 ++ s3 ++ s4) := by
    show _ = _
    rw [e1.out, e2.out, e3.out, e4.out, strB_append, strB_append, strB_append, numTo_one, numTo_one, numTo_one]
    rfl
  have z12 : (s1 ++ s2).size = 2 := by rw [ByteArray.size_append, z1, z2]
  have z123 : (s1 ++ s2 ++ s3).size = 3 := by rw [ByteArray.size_append, z12, z3]
  go_enter Try.func31, Try.ntmps31
  go_wp2_with fail
  refine (written_str 1 _ _ s1 e1.out (by omega) (by omega) (by omega) rfl _).mono ?_
  rintro e w1 ⟨rfl, hb1⟩
  have X1 : Hid (w1.heap[w.heap.size]? = some (.cells q.row 28)) := blk_later hb1 (by simp) (blk_newest (w := w) rfl (.cells q.row 28))
  have hlt : w.heap.size < w1.heap.size := Nat.lt_of_lt_of_le (by simp) hb1.size
  have R1 := Row.of X1.out
  have B1 : Hid (Below w.heap.size w w1) := ((Below.refl _ _).alloc (Nat.le_refl _) _).trans (hb1.mono (by simp))
  unfold Row at R1
  clear hb1
  go_upto_region 6 with fail
  refine wp_region_quiet (C := fun wx => Below w1.heap.size w1 wx) (by kernel_rfl) (by kernel_rfl) ((Below.refl _ _).drew) ?_
  have ld : ∀ (i : Nat) (v : Value), q.row[i]? = some v → ∀ wx, Below w1.heap.size w1 wx → wx.cell? ⟨w.heap.size, i, none⟩ = some v := fun i v hv wx hC => (Row.of (blk_later hC hlt X1.out) i).trans hv
  have nx : ∀ {wx wy : World}, Below w1.heap.size w1 wx → Below wx.heap.size wx wy → Below w1.heap.size w1 wy := fun a b => a.trans (b.mono a.size)
  clear R1
  refine q_val (by rfl) (.string s1) (fun _ _ => by kernel_rfl) ?_
  refine q_val (by rfl) (.pointer (some ⟨w.heap.size, 1, none⟩)) (fun _ _ => by kernel_rfl) ?_
  refine q_val (by rfl) (.int .i64 q.ac) (fun wx hC => by have := ld 1 _ rfl wx hC; go_simp) ?_
  refine q_call (by rfl) (.string s2) 32 #[.int .i64 q.ac, .int .i64 1] (fun _ => by kernel_rfl) (fun wx hC => (written_str 1 _ _ s2 e2.out h0 (by omega) (by omega) rfl wx).mono fun _ _ h => ⟨h.1, nx hC h.2⟩) ?_
  refine q_val (by rfl) (.string (s1 ++ s2)) (fun _ _ => by go_simp) ?_
  refine q_val (by rfl) (.pointer (some ⟨w.heap.size, 2, none⟩)) (fun _ _ => by kernel_rfl) ?_
  refine q_val (by rfl) (.int .i64 q.dv) (fun wx hC => by have := ld 2 _ rfl wx hC; go_simp) ?_
  refine q_call (by rfl) (.string s3) 32 #[.int .i64 q.dv, .int .i64 1] (fun _ => by kernel_rfl) (fun wx hC => (written_str 1 _ _ s3 e3.out h2 (by omega) (by omega) rfl wx).mono fun _ _ h => ⟨h.1, nx hC h.2⟩) ?_
  refine q_val (by rfl) (.string (s1 ++ s2 ++ s3)) (fun _ _ => by go_simp) ?_
  refine q_val (by rfl) (.pointer (some ⟨w.heap.size, 22, none⟩)) (fun _ _ => by kernel_rfl) ?_
  refine q_val (by rfl) (.slice (some ⟨w.heap.size, 22, none⟩) 8 8) (fun _ _ => by kernel_rfl) ?_
  refine q_val (by rfl) (.string s4) (fun wx hC => by have := conv_mac q _ s4 e4.out wx (blk_later hC hlt X1.out); go_simp) ?_
  refine q_val (by rfl) (.string (s1 ++ s2 ++ s3 ++ s4)) (fun _ _ => by go_simp) ?_
  refine q_val (by rfl) (.string (s1 ++ s2 ++ s3 ++ s4)) (fun _ _ => by go_simp) ?_
  refine wpQuiet_nil ?_
  intro w2 hb2
  have B2 : Hid (Below w.heap.size w w2) := B1.out.trans (hb2.mono B1.out.size)
  clear hb2
  go_wp2
  go_ret
  exact ⟨by rw [hz.out]; kernel_rfl, B2.out⟩
set_option maxRecDepth 100000 in
set_option maxHeartbeats 2000000 in
theorem rbody1 (q : Rq) (_hk : Hid (q.kd = 1)) (hk0 : q.row[0]? = some (.int .i64 1)) (w : World) (h0 : 0 ≤ q.ac) (h1 : q.ac ≤ 255) (h2 : 0 ≤ q.dv) (h3 : q.dv ≤ 255) (h4 : 0 ≤ q.rg) (h5 : q.rg ≤ 65535) :
    Calls Try.prog 31 #[.agg q.row] w fun e w' => e = .returned (.string (strB (body1 q))) ∧ Below w.heap.size w w' := by
  obtain ⟨s1, e1, z1⟩ := str_at 1 1
  obtain ⟨s2, e2, z2⟩ := str_at 1 q.ac
  obtain ⟨s3, e3, z3⟩ := str_at 1 q.dv
  obtain ⟨s4, e4, z4⟩ : ∃ s : ByteArray, Hid (s = strB q.keyB) ∧ s.size = 16 := ⟨_, rfl, by rw [strB_size]; rfl⟩
  obtain ⟨s5, e5, z5⟩ := str_at 2 q.rg
  have hz : Hid (strB (body1 q) = s1 ++ s2 ++ s3 ++ s4 ++ s5) := by
    show _ = _
    rw [e1.out, e2.out, e3.out, e4.out, e5.out, strB_append, strB_append, strB_append, strB_append, numTo_one, numTo_one, numTo_one]
    rfl
  have z12 : (s1 ++ s2).size = 2 := by rw [ByteArray.size_append, z1, z2]
  have z123 : (s1 ++ s2 ++ s3).size = 3 := by rw [ByteArray.size_append, z12, z3]
  have z1234 : (s1 ++ s2 ++ s3 ++ s4).size = 19 := by rw [ByteArray.size_append, z123, z4]
  go_enter Try.func31, Try.ntmps31
  go_wp2_with fail
  refine (written_str 1 _ _ s1 e1.out (by omega) (by omega) (by omega) rfl _).mono ?_
  rintro e w1 ⟨rfl, hb1⟩
  have X1 : Hid (w1.heap[w.heap.size]? = some (.cells q.row 28)) := blk_later hb1 (by simp) (blk_newest (w := w) rfl (.cells q.row 28))
  have hlt : w.heap.size < w1.heap.size := Nat.lt_of_lt_of_le (by simp) hb1.size
  have R1 := Row.of X1.out
  have B1 : Hid (Below w.heap.size w w1) := ((Below.refl _ _).alloc (Nat.le_refl _) _).trans (hb1.mono (by simp))
  unfold Row at R1
  clear hb1
  go_upto_region 4 with fail
  refine wp_region_quiet (C := fun wx => Below w1.heap.size w1 wx) (by kernel_rfl) (by kernel_rfl) ((Below.refl _ _).drew) ?_
  have ld : ∀ (i : Nat) (v : Value), q.row[i]? = some v → ∀ wx, Below w1.heap.size w1 wx → wx.cell? ⟨w.heap.size, i, none⟩ = some v := fun i v hv wx hC => (Row.of (blk_later hC hlt X1.out) i).trans hv
  have nx : ∀ {wx wy : World}, Below w1.heap.size w1 wx → Below wx.heap.size wx wy → Below w1.heap.size w1 wy := fun a b => a.trans (b.mono a.size)
  clear R1
  refine q_val (by rfl) (.string s1) (fun _ _ => by kernel_rfl) ?_
  refine q_val (by rfl) (.pointer (some ⟨w.heap.size, 1, none⟩)) (fun _ _ => by kernel_rfl) ?_
  refine q_val (by rfl) (.int .i64 q.ac) (fun wx hC => by have := ld 1 _ rfl wx hC; go_simp) ?_
  refine q_call (by rfl) (.string s2) 32 #[.int .i64 q.ac, .int .i64 1] (fun _ => by kernel_rfl) (fun wx hC => (written_str 1 _ _ s2 e2.out h0 (by omega) (by omega) rfl wx).mono fun _ _ h => ⟨h.1, nx hC h.2⟩) ?_
  refine q_val (by rfl) (.string (s1 ++ s2)) (fun _ _ => by go_simp) ?_
  refine q_val (by rfl) (.pointer (some ⟨w.heap.size, 2, none⟩)) (fun _ _ => by kernel_rfl) ?_
  refine q_val (by rfl) (.int .i64 q.dv) (fun wx hC => by have := ld 2 _ rfl wx hC; go_simp) ?_
  refine q_call (by rfl) (.string s3) 32 #[.int .i64 q.dv, .int .i64 1] (fun _ => by kernel_rfl) (fun wx hC => (written_str 1 _ _ s3 e3.out h2 (by omega) (by omega) rfl wx).mono fun _ _ h => ⟨h.1, nx hC h.2⟩) ?_
  refine q_val (by rfl) (.string (s1 ++ s2 ++ s3)) (fun _ _ => by go_simp) ?_
  refine q_val (by rfl) (.pointer (some ⟨w.heap.size, 6, none⟩)) (fun _ _ => by kernel_rfl) ?_
  refine q_val (by rfl) (.slice (some ⟨w.heap.size, 6, none⟩) 16 16) (fun _ _ => by kernel_rfl) ?_
  refine q_val (by rfl) (.string s4) (fun wx hC => by have := conv_key q _ s4 e4.out wx (blk_later hC hlt X1.out); go_simp) ?_
  refine q_val (by rfl) (.string (s1 ++ s2 ++ s3 ++ s4)) (fun _ _ => by go_simp) ?_
  refine q_val (by rfl) (.pointer (some ⟨w.heap.size, 3, none⟩)) (fun _ _ => by kernel_rfl) ?_
  refine q_val (by rfl) (.int .i64 q.rg) (fun wx hC => by have := ld 3 _ rfl wx hC; go_simp) ?_
  refine q_call (by rfl) (.string s5) 32 #[.int .i64 q.rg, .int .i64 2] (fun _ => by kernel_rfl) (fun wx hC => (written_str 2 _ _ s5 e5.out h4 (by omega) (by omega) rfl wx).mono fun _ _ h => ⟨h.1, nx hC h.2⟩) ?_
  refine q_val (by rfl) (.string (s1 ++ s2 ++ s3 ++ s4 ++ s5)) (fun _ _ => by go_simp) ?_
  refine q_val (by rfl) (.string (s1 ++ s2 ++ s3 ++ s4 ++ s5)) (fun _ _ => by go_simp) ?_
  refine wpQuiet_nil ?_
  intro w2 hb2
  have B2 : Hid (Below w.heap.size w w2) := B1.out.trans (hb2.mono B1.out.size)
  clear hb2
  go_wp2
  go_ret
  exact ⟨by rw [hz.out]; kernel_rfl, B2.out⟩
end Go.Proofs.Ytpnfkcbbjcimgaa
