import Derived.Test.YtpnfkcbbjcimgaaMath
namespace Go.Proofs.Ytpnfkcbbjcimgaa
theorem beN_one (n : Int) (h0 : 0 ≤ n) (h1 : n ≤ 255) : beN [BitVec.ofInt 8 n] = n := by
  show (0 : Int) * 256 + B (BitVec.ofInt 8 n) = n
  rw [B_ofInt]; omega
theorem beN_two (n : Int) (h0 : 0 ≤ n) (h1 : n ≤ 65535) : beN (numTo n 2 2) = n := by
  show ((0 : Int) * 256 + B (BitVec.ofInt 8 (n / 2 ^ (8 * 1)))) * 256 + B (BitVec.ofInt 8 (n / 2 ^ (8 * 0))) = n
  rw [B_ofInt, B_ofInt]; omega
theorem beN_four (n : Int) (h0 : 0 ≤ n) (h1 : n ≤ 4294967295) : beN (numTo n 4 4) = n := by
  show ((((0 : Int) * 256 + B (BitVec.ofInt 8 (n / 2 ^ (8 * 3)))) * 256 + B (BitVec.ofInt 8 (n / 2 ^ (8 * 2)))) * 256 + B (BitVec.ofInt 8 (n / 2 ^ (8 * 1)))) * 256 + B (BitVec.ofInt 8 (n / 2 ^ (8 * 0))) = n
  rw [B_ofInt, B_ofInt, B_ofInt, B_ofInt]; omega
theorem clIter_succ (n : Nat) (s : Cs) : clIter (n + 1) s = clStep (clIter n s) := rfl
/-- Claims that were written are read as they were. -/
theorem clIter_written (rest : List (BitVec 8)) : ∀ (m acc : List (Int × Int)), (∀ c ∈ m, 0 ≤ c.1 ∧ c.1 ≤ 255 ∧ 0 ≤ c.2 ∧ c.2 ≤ 65535) → clIter m.length ⟨acc, clBytes m.reverse ++ rest, false⟩ = ⟨acc ++ m.reverse, rest, false⟩ := by
  intro m
  induction m generalizing rest with
  | nil => intro acc _; simp [clBytes, clIter]
  | cons c m ih =>
    intro acc hb
    obtain ⟨b1, b2, b3, b4⟩ := hb c (by simp)
    rw [List.reverse_cons, clBytes_snoc, List.length_cons, clIter_succ, List.append_assoc, List.append_assoc, ih _ acc (fun x hx => hb x (by simp [hx]))]
    unfold clStep
    dsimp only
    rw [takeR_app [BitVec.ofInt 8 c.1] _ 1 rfl]
    dsimp only
    rw [takeR_app (numTo c.2 2 2) _ 2 (numTo_length _ _ _)]
    dsimp only
    rw [beN_one c.1 b1 b2, beN_two c.2 b3 b4, List.append_assoc]
theorem clOk_bounds : ∀ (cl : List (Int × Int)) (l : Int), clOk l cl = true → ∀ c ∈ cl, 0 ≤ c.1 ∧ c.1 ≤ 255 ∧ 0 ≤ c.2 ∧ c.2 ≤ 65535
  | [], _, _, c, hc => by simp at hc
  | x :: cl, l, h, c, hc => by
    simp only [clOk, Bool.and_eq_true] at h
    obtain ⟨⟨⟨_, h2⟩, h3⟩, h4⟩ := h
    rcases List.mem_cons.1 hc with rfl | hc
    · have a := inB_iff.1 h2
      have b := inB_iff.1 h3
      omega
    · exact clOk_bounds cl _ h4 c hc
theorem claimsR_written (cl : List (Int × Int)) (rest : List (BitVec 8)) (n : Nat) (hn : cl.length = n) (h8 : n ≤ 8) (h : clOk (-1) cl = true) : claimsR ([BitVec.ofInt 8 (n : Int)] ++ (clBytes cl ++ rest)) false = ⟨cl, rest, false⟩ := by
  unfold claimsR
  rw [takeR_app [BitVec.ofInt 8 (n : Int)] _ 1 rfl]
  dsimp only
  rw [beN_one n (by omega) (by omega), Int.toNat_natCast, ← hn]
  have := clIter_written rest cl.reverse [] (fun c hc => clOk_bounds cl _ h c (by simpa using hc))
  simpa using this
theorem textR_written (tx rest : List (BitVec 8)) (h : tx.length ≤ 16) : textR ([BitVec.ofInt 8 (tx.length : Int)] ++ (tx ++ rest)) false = ⟨tx, rest, false⟩ := by
  unfold textR
  rw [takeR_app [BitVec.ofInt 8 (tx.length : Int)] _ 1 rfl]
  dsimp only
  rw [beN_one _ (by omega) (by omega), Int.toNat_natCast]
  exact takeR_app _ _ _ rfl
/-- What is read is what was written. -/
structure Same (q : Rq) (cl : List (Int × Int)) (d : Dat) : Prop where
  kd : d.kd = q.kd
  ac : d.ac = q.ac
  dv : d.dv = q.dv
  rg : d.rg = q.rg
  cu : d.cu = q.cu
  mo : d.mo = q.mo
  k : ∀ i, i < 16 → d.k i = q.k i
  m : ∀ i, i < 8 → d.m i = q.m i
  cl : d.cl = cl
  tx : d.tx = txB q.tx
  l : d.l = []
  sh : d.sh = false
theorem zB_key {q : Rq} (h : zB q.key = true) : ∀ i, i < 16 → q.k i = 0 := by
  intro i hi
  have hB : ∀ x : BitVec 8, (B x == 0) = true → x = 0 := fun x hx => by
    have : B x = 0 := by simpa using hx
    unfold B at this
    exact BitVec.eq_of_toNat_eq (by simpa using this)
  simp only [zB, Rq.key, keyL, List.all_cons, List.all_nil, Bool.and_eq_true] at h
  obtain ⟨a0, a1, a2, a3, a4, a5, a6, a7, a8, a9, a10, a11, a12, a13, a14, a15, _⟩ := h
  rcases (show i = 0 ∨ i = 1 ∨ i = 2 ∨ i = 3 ∨ i = 4 ∨ i = 5 ∨ i = 6 ∨ i = 7 ∨ i = 8 ∨ i = 9 ∨ i = 10 ∨ i = 11 ∨ i = 12 ∨ i = 13 ∨ i = 14 ∨ i = 15 from by omega) with rfl | rfl | rfl | rfl | rfl | rfl | rfl | rfl | rfl | rfl | rfl | rfl | rfl | rfl | rfl | rfl <;> (apply hB; assumption)
theorem zB_mac {q : Rq} (h : zB q.mac = true) : ∀ i, i < 8 → q.m i = 0 := by
  intro i hi
  have hB : ∀ x : BitVec 8, (B x == 0) = true → x = 0 := fun x hx => by
    have : B x = 0 := by simpa using hx
    unfold B at this
    exact BitVec.eq_of_toNat_eq (by simpa using this)
  simp only [zB, Rq.mac, macL, List.all_cons, List.all_nil, Bool.and_eq_true] at h
  obtain ⟨a0, a1, a2, a3, a4, a5, a6, a7, _⟩ := h
  rcases (show i = 0 ∨ i = 1 ∨ i = 2 ∨ i = 3 ∨ i = 4 ∨ i = 5 ∨ i = 6 ∨ i = 7 from by omega) with rfl | rfl | rfl | rfl | rfl | rfl | rfl | rfl <;> (apply hB; assumption)
theorem keyB_get (q : Rq) : ∀ i, i < 16 → q.keyB.getD i 0 = q.k i := by
  intro i hi
  rcases (show i = 0 ∨ i = 1 ∨ i = 2 ∨ i = 3 ∨ i = 4 ∨ i = 5 ∨ i = 6 ∨ i = 7 ∨ i = 8 ∨ i = 9 ∨ i = 10 ∨ i = 11 ∨ i = 12 ∨ i = 13 ∨ i = 14 ∨ i = 15 from by omega) with rfl | rfl | rfl | rfl | rfl | rfl | rfl | rfl | rfl | rfl | rfl | rfl | rfl | rfl | rfl | rfl <;> rfl
theorem macB_get (q : Rq) : ∀ i, i < 8 → q.macB.getD i 0 = q.m i := by
  intro i hi
  rcases (show i = 0 ∨ i = 1 ∨ i = 2 ∨ i = 3 ∨ i = 4 ∨ i = 5 ∨ i = 6 ∨ i = 7 from by omega) with rfl | rfl | rfl | rfl | rfl | rfl | rfl | rfl <;> rfl
theorem mayB_all {q : Rq} {cl : List (Int × Int)} (h : mayB q cl = true) : (0 ≤ q.ac ∧ q.ac ≤ (bdOf q.kd).a) ∧ (0 ≤ q.dv ∧ q.dv ≤ (bdOf q.kd).d) ∧ (0 ≤ q.rg ∧ q.rg ≤ (bdOf q.kd).r) ∧ (0 ≤ q.cu ∧ q.cu ≤ (bdOf q.kd).c) ∧ (0 ≤ q.mo ∧ q.mo ≤ (bdOf q.kd).m) ∧
    ((bdOf q.kd).k = true ∨ zB q.key = true) ∧ ((bdOf q.kd).mac = true ∨ zB q.mac = true) ∧ (q.tx.size : Int) ≤ (bdOf q.kd).t ∧ (q.sn : Int) ≤ (bdOf q.kd).cl ∧ clOk (-1) cl = true := by
  have ht := mayB_tx h
  have hc := mayB_cl h
  unfold mayB numB arrB at h
  simp only [Bool.and_eq_true, Bool.or_eq_true] at h
  obtain ⟨⟨⟨⟨⟨_, ⟨⟨⟨⟨a, b⟩, c⟩, d⟩, e⟩⟩, f, g⟩, _⟩, _⟩, k⟩ := h
  exact ⟨inB_iff.1 a, inB_iff.1 b, inB_iff.1 c, inB_iff.1 d, inB_iff.1 e, f, g, ht, hc, k⟩
theorem tx_nil {s : ByteArray} (h : (s.size : Int) ≤ 0) : txB s = [] := List.eq_nil_of_length_eq_zero (by rw [txB_length]; omega)
theorem rd_written (q : Rq) (cl : List (Int × Int)) (h : mayB q cl = true) (hc : cl.length = q.sn) : Same q cl (rdOf (bodyOf q cl)) := by
  have hk := mayB_kind h
  obtain ⟨ha, hd, hr, hcu, hm, hky, hmc, htx, hcl, hok⟩ := mayB_all h
  clear h
  by_cases k1 : q.kd = 1
  · have hbd : bdOf q.kd = ⟨255, 255, 65535, 0, 0, 0, 0, true, false⟩ := by simp [bdOf, k1]
    rw [hbd] at ha hd hr hcu hm hky hmc htx hcl
    dsimp only at ha hd hr hcu hm hky hmc htx hcl
    have hz := zB_mac (hmc.resolve_left (by simp))
    have hcl0 : cl = [] := List.eq_nil_of_length_eq_zero (by omega)
    have e : bodyOf q cl = [BitVec.ofInt 8 1] ++ ([BitVec.ofInt 8 q.ac] ++ ([BitVec.ofInt 8 q.dv] ++ (q.keyB ++ (numTo q.rg 2 2 ++ [])))) := by simp [bodyOf, k1, body1]
    rw [e]
    unfold rdOf
    rw [takeR_app [BitVec.ofInt 8 1] _ 1 rfl]
    dsimp only
    rw [beN_one 1 (by omega) (by omega), if_pos rfl]
    unfold rd1
    rw [takeR_app [BitVec.ofInt 8 q.ac] _ 1 rfl]
    dsimp only
    rw [takeR_app [BitVec.ofInt 8 q.dv] _ 1 rfl]
    dsimp only
    rw [takeR_app q.keyB _ 16 rfl]
    dsimp only
    rw [takeR_app (numTo q.rg 2 2) _ 2 (numTo_length _ _ _)]
    exact ⟨k1.symm, beN_one _ ha.1 ha.2, beN_one _ hd.1 hd.2, beN_two _ hr.1 hr.2, by dsimp only; omega, by dsimp only; omega, keyB_get q, fun i hi => (hz i hi).symm, hcl0.symm, (tx_nil htx).symm, rfl, rfl⟩
  by_cases k2 : q.kd = 2
  · have hbd : bdOf q.kd = ⟨255, 255, 0, 0, 0, 0, 0, false, true⟩ := by simp [bdOf, k2]
    rw [hbd] at ha hd hr hcu hm hky hmc htx hcl
    dsimp only at ha hd hr hcu hm hky hmc htx hcl
    have hz := zB_key (hky.resolve_left (by simp))
    have hcl0 : cl = [] := List.eq_nil_of_length_eq_zero (by omega)
    have e : bodyOf q cl = [BitVec.ofInt 8 2] ++ ([BitVec.ofInt 8 q.ac] ++ ([BitVec.ofInt 8 q.dv] ++ (q.macB ++ []))) := by simp [bodyOf, k2, body2]
    rw [e]
    unfold rdOf
    rw [takeR_app [BitVec.ofInt 8 2] _ 1 rfl]
    dsimp only
    rw [beN_one 2 (by omega) (by omega), if_neg (by decide), if_pos rfl]
    unfold rd2
    rw [takeR_app [BitVec.ofInt 8 q.ac] _ 1 rfl]
    dsimp only
    rw [takeR_app [BitVec.ofInt 8 q.dv] _ 1 rfl]
    dsimp only
    rw [takeR_app q.macB _ 8 rfl]
    exact ⟨k2.symm, beN_one _ ha.1 ha.2, beN_one _ hd.1 hd.2, by dsimp only; omega, by dsimp only; omega, by dsimp only; omega, fun i hi => (hz i hi).symm, macB_get q, hcl0.symm, (tx_nil htx).symm, rfl, rfl⟩
  by_cases k3 : q.kd = 3
  · have hbd : bdOf q.kd = ⟨0, 255, 0, 0, 0, 0, 0, false, false⟩ := by simp [bdOf, k3]
    rw [hbd] at ha hd hr hcu hm hky hmc htx hcl
    dsimp only at ha hd hr hcu hm hky hmc htx hcl
    have hz := zB_key (hky.resolve_left (by simp))
    have hy := zB_mac (hmc.resolve_left (by simp))
    have hcl0 : cl = [] := List.eq_nil_of_length_eq_zero (by omega)
    have e : bodyOf q cl = [BitVec.ofInt 8 3] ++ ([BitVec.ofInt 8 q.dv] ++ []) := by simp [bodyOf, k3, body3]
    rw [e]
    unfold rdOf
    rw [takeR_app [BitVec.ofInt 8 3] _ 1 rfl]
    dsimp only
    rw [beN_one 3 (by omega) (by omega), if_neg (by decide), if_neg (by decide), if_pos rfl]
    unfold rd3
    rw [takeR_app [BitVec.ofInt 8 q.dv] _ 1 rfl]
    exact ⟨k3.symm, by dsimp only; omega, beN_one _ hd.1 hd.2, by dsimp only; omega, by dsimp only; omega, by dsimp only; omega, fun i hi => (hz i hi).symm, fun i hi => (hy i hi).symm, hcl0.symm, (tx_nil htx).symm, rfl, rfl⟩
  by_cases k4 : q.kd = 4
  · have hbd : bdOf q.kd = ⟨255, 0, 0, 0, 0, 8, 16, false, false⟩ := by simp [bdOf, k4]
    rw [hbd] at ha hd hr hcu hm hky hmc htx hcl
    dsimp only at ha hd hr hcu hm hky hmc htx hcl
    have hz := zB_key (hky.resolve_left (by simp))
    have hy := zB_mac (hmc.resolve_left (by simp))
    have hT := txB_length q.tx
    have e : bodyOf q cl = [BitVec.ofInt 8 4] ++ ([BitVec.ofInt 8 q.ac] ++ ([BitVec.ofInt 8 (q.sn : Int)] ++ (clBytes cl ++ ([BitVec.ofInt 8 ((txB q.tx).length : Int)] ++ (txB q.tx ++ []))))) := by rw [hT]; simp [bodyOf, k4, body4]
    rw [e]
    unfold rdOf
    rw [takeR_app [BitVec.ofInt 8 4] _ 1 rfl]
    dsimp only
    rw [beN_one 4 (by omega) (by omega), if_neg (by decide), if_neg (by decide), if_neg (by decide), if_pos rfl]
    unfold rd4
    rw [takeR_app [BitVec.ofInt 8 q.ac] _ 1 rfl]
    dsimp only
    rw [claimsR_written cl _ q.sn hc (by omega) hok]
    dsimp only
    rw [textR_written (txB q.tx) _ (by omega)]
    exact ⟨k4.symm, beN_one _ ha.1 ha.2, by dsimp only; omega, by dsimp only; omega, by dsimp only; omega, by dsimp only; omega, fun i hi => (hz i hi).symm, fun i hi => (hy i hi).symm, rfl, rfl, rfl, rfl⟩
  by_cases k5 : q.kd = 5
  · have hbd : bdOf q.kd = ⟨0, 0, 0, 4294967295, 255, 0, 0, false, false⟩ := by simp [bdOf, k5]
    rw [hbd] at ha hd hr hcu hm hky hmc htx hcl
    dsimp only at ha hd hr hcu hm hky hmc htx hcl
    have hz := zB_key (hky.resolve_left (by simp))
    have hy := zB_mac (hmc.resolve_left (by simp))
    have hcl0 : cl = [] := List.eq_nil_of_length_eq_zero (by omega)
    have e : bodyOf q cl = [BitVec.ofInt 8 5] ++ (numTo q.cu 4 4 ++ ([BitVec.ofInt 8 q.mo] ++ [])) := by simp [bodyOf, k5, body5]
    rw [e]
    unfold rdOf
    rw [takeR_app [BitVec.ofInt 8 5] _ 1 rfl]
    dsimp only
    rw [beN_one 5 (by omega) (by omega), if_neg (by decide), if_neg (by decide), if_neg (by decide), if_neg (by decide), if_pos rfl]
    unfold rd5
    rw [takeR_app (numTo q.cu 4 4) _ 4 (numTo_length _ _ _)]
    dsimp only
    rw [takeR_app [BitVec.ofInt 8 q.mo] _ 1 rfl]
    exact ⟨k5.symm, by dsimp only; omega, by dsimp only; omega, by dsimp only; omega, beN_four _ hcu.1 hcu.2, beN_one _ hm.1 hm.2, fun i hi => (hz i hi).symm, fun i hi => (hy i hi).symm, hcl0.symm, (tx_nil htx).symm, rfl, rfl⟩
  · have k6 : q.kd = 6 := by omega
    have hbd : bdOf q.kd = ⟨0, 0, 0, 4294967295, 0, 0, 0, false, false⟩ := by simp [bdOf, k6]
    rw [hbd] at ha hd hr hcu hm hky hmc htx hcl
    dsimp only at ha hd hr hcu hm hky hmc htx hcl
    have hz := zB_key (hky.resolve_left (by simp))
    have hy := zB_mac (hmc.resolve_left (by simp))
    have hcl0 : cl = [] := List.eq_nil_of_length_eq_zero (by omega)
    have e : bodyOf q cl = [BitVec.ofInt 8 6] ++ (numTo q.cu 4 4 ++ []) := by simp [bodyOf, k6, body6]
    rw [e]
    unfold rdOf
    rw [takeR_app [BitVec.ofInt 8 6] _ 1 rfl]
    dsimp only
    rw [beN_one 6 (by omega) (by omega), if_neg (by decide), if_neg (by decide), if_neg (by decide), if_neg (by decide), if_neg (by decide), if_pos rfl]
    unfold rd6
    rw [takeR_app (numTo q.cu 4 4) _ 4 (numTo_length _ _ _)]
    exact ⟨k6.symm, by dsimp only; omega, by dsimp only; omega, by dsimp only; omega, beN_four _ hcu.1 hcu.2, by dsimp only; omega, fun i hi => (hz i hi).symm, fun i hi => (hy i hi).symm, hcl0.symm, (tx_nil htx).symm, rfl, rfl⟩
end Go.Proofs.Ytpnfkcbbjcimgaa
