import Derived.Test.YtpnfkcbbjcimgaaCbody
namespace Go.Proofs.Ytpnfkcbbjcimgaa
open Go.RowKit
attribute [local go_sem] row_1 row_2 row_3 row_4 row_5 row_31
theorem written_str (k : Nat) (n x : Int) (s : ByteArray) (hs : s = strB (numTo n k k)) (h0 : 0 ≤ n) (h1 : n ≤ 9223372036854775807) (hk : k ≤ 8) (hx : x = (k : Int)) (w : World) : Calls Try.prog 32 #[.int .i64 n, .int .i64 x] w fun e w' => e = .returned (.string s) ∧ Below w.heap.size w w' := by
  subst hs
  exact written_any k n x h0 h1 hk hx w
theorem str_at (k : Nat) (n : Int) : ∃ s : ByteArray, Hid (s = strB (numTo n k k)) ∧ s.size = k := ⟨_, rfl, by rw [strB_size, numTo_length]⟩
set_option maxRecDepth 100000 in
set_option maxHeartbeats 2000000 in
theorem rbody5 (q : Rq) (_hk : Hid (q.kd = 5)) (hk0 : q.row[0]? = some (.int .i64 5)) (w : World) (h0 : 0 ≤ q.cu) (h1 : q.cu ≤ 4294967295) (h2 : 0 ≤ q.mo) (h3 : q.mo ≤ 255) :
    Calls Try.prog 31 #[.agg q.row] w fun e w' => e = .returned (.string (strB (body5 q))) ∧ Below w.heap.size w w' := by
  obtain ⟨s1, e1, z1⟩ := str_at 1 5
  obtain ⟨s2, e2, z2⟩ := str_at 4 q.cu
  obtain ⟨s3, e3, z3⟩ := str_at 1 q.mo
  have hz : Hid (strB (body5 q) = s1 ++ s2 ++ s3) := by
    show _ = _
    rw [e1.out, e2.out, e3.out, strB_append, strB_append, numTo_one, numTo_one]
    rfl
  have z12 : (s1 ++ s2).size = 5 := by rw [ByteArray.size_append, z1, z2]
  go_enter Try.func31, Try.ntmps31
  go_wp2_with fail
  refine (written_str 1 _ _ s1 e1.out (by omega) (by omega) (by omega) rfl _).mono ?_
  rintro e w1 ⟨rfl, hb1⟩
  have X1 : Hid (w1.heap[w.heap.size]? = some (.cells q.row 28)) := blk_later hb1 (by simp) (blk_newest (w := w) rfl (.cells q.row 28))
  have hlt : w.heap.size < w1.heap.size := Nat.lt_of_lt_of_le (by simp) hb1.size
  have R1 := Row.of X1.out
  have B1 : Hid (Below w.heap.size w w1) := ((Below.refl _ _).alloc (Nat.le_refl _) _).trans (hb1.mono (by simp))
  unfold Row at R1
  clear hb1
  go_upto_region 10 with fail
  refine wp_region_quiet (C := fun wx => Below w1.heap.size w1 wx) (by kernel_rfl) (by kernel_rfl) ((Below.refl _ _).drew) ?_
  have ld : ∀ (i : Nat) (v : Value), q.row[i]? = some v → ∀ wx, Below w1.heap.size w1 wx → wx.cell? ⟨w.heap.size, i, none⟩ = some v := fun i v hv wx hC => (Row.of (blk_later hC hlt X1.out) i).trans hv
  have nx : ∀ {wx wy : World}, Below w1.heap.size w1 wx → Below wx.heap.size wx wy → Below w1.heap.size w1 wy := fun a b => a.trans (b.mono a.size)
  clear R1
  refine q_val (by rfl) (.string s1) (fun _ _ => by rfl) ?_
  refine q_val (by rfl) (.pointer (some ⟨w.heap.size, 4, none⟩)) (fun _ _ => by kernel_rfl) ?_
  refine q_val (by rfl) (.int .i64 q.cu) (fun wx hC => by have := ld 4 _ rfl wx hC; go_simp) ?_
  refine q_call (by rfl) (.string s2) 32 #[.int .i64 q.cu, .int .i64 4] (fun _ => by kernel_rfl) (fun wx hC => (written_str 4 _ _ s2 e2.out h0 (by omega) (by omega) rfl wx).mono fun _ _ h => ⟨h.1, nx hC h.2⟩) ?_
  refine q_val (by rfl) (.string (s1 ++ s2)) (fun _ _ => by go_simp) ?_
  refine q_val (by rfl) (.pointer (some ⟨w.heap.size, 5, none⟩)) (fun _ _ => by kernel_rfl) ?_
  refine q_val (by rfl) (.int .i64 q.mo) (fun wx hC => by have := ld 5 _ rfl wx hC; go_simp) ?_
  refine q_call (by rfl) (.string s3) 32 #[.int .i64 q.mo, .int .i64 1] (fun _ => by kernel_rfl) (fun wx hC => (written_str 1 _ _ s3 e3.out h2 (by omega) (by omega) rfl wx).mono fun _ _ h => ⟨h.1, nx hC h.2⟩) ?_
  refine q_val (by rfl) (.string (s1 ++ s2 ++ s3)) (fun _ _ => by go_simp) ?_
  refine q_val (by rfl) (.string (s1 ++ s2 ++ s3)) (fun _ _ => by go_simp) ?_
  refine wpQuiet_nil ?_
  intro w2 hb2
  have B2 : Hid (Below w.heap.size w w2) := B1.out.trans (hb2.mono B1.out.size)
  clear hb2
  go_wp2
  go_ret
  exact ⟨by rw [hz.out]; kernel_rfl, B2.out⟩
end Go.Proofs.Ytpnfkcbbjcimgaa
