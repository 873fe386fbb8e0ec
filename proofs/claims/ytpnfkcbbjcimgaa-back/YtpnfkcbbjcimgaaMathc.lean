import Derived.Test.YtpnfkcbbjcimgaaMathb
namespace Go.Proofs.Ytpnfkcbbjcimgaa
theorem key_same {q : Rq} {d : Dat} (h : ∀ i, i < 16 → d.k i = q.k i) (sa : Option Addr) (sn sc : Nat) : (d.rq sa sn sc).key = q.key := by
  show keyL (d.k 0) (d.k 1) (d.k 2) (d.k 3) (d.k 4) (d.k 5) (d.k 6) (d.k 7) (d.k 8) (d.k 9) (d.k 10) (d.k 11) (d.k 12) (d.k 13) (d.k 14) (d.k 15) = keyL (q.k 0) (q.k 1) (q.k 2) (q.k 3) (q.k 4) (q.k 5) (q.k 6) (q.k 7) (q.k 8) (q.k 9) (q.k 10) (q.k 11) (q.k 12) (q.k 13) (q.k 14) (q.k 15)
  rw [h 0 (by omega), h 1 (by omega), h 2 (by omega), h 3 (by omega), h 4 (by omega), h 5 (by omega), h 6 (by omega), h 7 (by omega), h 8 (by omega), h 9 (by omega), h 10 (by omega), h 11 (by omega), h 12 (by omega), h 13 (by omega), h 14 (by omega), h 15 (by omega)]
theorem mac_same {q : Rq} {d : Dat} (h : ∀ i, i < 8 → d.m i = q.m i) (sa : Option Addr) (sn sc : Nat) : (d.rq sa sn sc).mac = q.mac := by
  show macL (d.m 0) (d.m 1) (d.m 2) (d.m 3) (d.m 4) (d.m 5) (d.m 6) (d.m 7) = macL (q.m 0) (q.m 1) (q.m 2) (q.m 3) (q.m 4) (q.m 5) (q.m 6) (q.m 7)
  rw [h 0 (by omega), h 1 (by omega), h 2 (by omega), h 3 (by omega), h 4 (by omega), h 5 (by omega), h 6 (by omega), h 7 (by omega)]
theorem mayB_same {q : Rq} {cl : List (Int × Int)} {d : Dat} (s : Same q cl d) (hc : cl.length = q.sn) : mayB (d.rq none d.cl.length 0) d.cl = mayB q cl := by
  have ht : (d.rq none d.cl.length 0).tx = q.tx := by show strB d.tx = q.tx; rw [s.tx, strB_txB]
  have hn : (d.rq none d.cl.length 0).sn = q.sn := by show d.cl.length = q.sn; rw [s.cl, hc]
  unfold mayB
  rw [key_same s.k, mac_same s.m, ht, hn, s.cl]
  show (isKind d.kd && numB (bdOf d.kd) d.ac d.dv d.rg d.cu d.mo && arrB (bdOf d.kd) q.key q.mac && decide ((q.tx.size : Int) ≤ (bdOf d.kd).t) && decide ((q.sn : Int) ≤ (bdOf d.kd).cl) && clOk (-1) cl) = _
  rw [s.kd, s.ac, s.dv, s.rg, s.cu, s.mo]
/-- What was written is a body of a request. -/
theorem decB_written (q : Rq) (cl : List (Int × Int)) (h : mayB q cl = true) (hc : cl.length = q.sn) : decB (bodyOf q cl) = true := by
  have s := rd_written q cl h hc
  unfold decB
  rw [mayB_same s hc, h, s.l, s.sh]
  rfl
theorem ofInt_B (n : Int) (x : BitVec 8) (h : n % 256 = B x) : BitVec.ofInt 8 n = x := by
  have := B_ofInt n
  rw [h] at this
  unfold B at this
  exact BitVec.eq_of_toNat_eq (by omega)
theorem one_back (g : List (BitVec 8)) (h : g.length = 1) : [BitVec.ofInt 8 (beN g)] = g := by
  match g, h with
  | [x], _ =>
    have h0 := B_nonneg x
    have h1 := B_lt x
    have e : beN [x] = B x := by show (0 : Int) * 256 + B x = B x; omega
    rw [e, ofInt_B (B x) x (by omega)]
theorem two_back (g : List (BitVec 8)) (h : g.length = 2) : numTo (beN g) 2 2 = g := by
  match g, h with
  | [x, y], _ =>
    have h0 := B_nonneg x
    have h1 := B_lt x
    have h2 := B_nonneg y
    have h3 := B_lt y
    have e : beN [x, y] = B x * 256 + B y := by show ((0 : Int) * 256 + B x) * 256 + B y = _; omega
    rw [e]
    show [BitVec.ofInt 8 ((B x * 256 + B y) / 2 ^ (8 * 1)), BitVec.ofInt 8 ((B x * 256 + B y) / 2 ^ (8 * 0))] = _
    rw [ofInt_B _ x (by omega), ofInt_B _ y (by omega)]
theorem four_back (g : List (BitVec 8)) (h : g.length = 4) : numTo (beN g) 4 4 = g := by
  match g, h with
  | [x, y, z, v], _ =>
    have h0 := B_nonneg x
    have h1 := B_lt x
    have h2 := B_nonneg y
    have h3 := B_lt y
    have h4 := B_nonneg z
    have h5 := B_lt z
    have h6 := B_nonneg v
    have h7 := B_lt v
    have e : beN [x, y, z, v] = ((B x * 256 + B y) * 256 + B z) * 256 + B v := by show ((((0 : Int) * 256 + B x) * 256 + B y) * 256 + B z) * 256 + B v = _; omega
    rw [e]
    show [BitVec.ofInt 8 ((((B x * 256 + B y) * 256 + B z) * 256 + B v) / 2 ^ (8 * 3)), BitVec.ofInt 8 ((((B x * 256 + B y) * 256 + B z) * 256 + B v) / 2 ^ (8 * 2)), BitVec.ofInt 8 ((((B x * 256 + B y) * 256 + B z) * 256 + B v) / 2 ^ (8 * 1)), BitVec.ofInt 8 ((((B x * 256 + B y) * 256 + B z) * 256 + B v) / 2 ^ (8 * 0))] = _
    rw [ofInt_B _ x (by omega), ofInt_B _ y (by omega), ofInt_B _ z (by omega), ofInt_B _ v (by omega)]
theorem clIter_read : ∀ (n : Nat) (s : Cs), (clIter n s).sh = false → ∃ nc, (clIter n s).cl = s.cl ++ nc ∧ nc.length = n ∧ s.l = clBytes nc ++ (clIter n s).l
  | 0, s, _ => ⟨[], by simp [clIter], rfl, by simp [clIter, clBytes]⟩
  | n + 1, s, h => by
    have h' : (clStep (clIter n s)).sh = false := h
    have hs := (clStep_tail [] h').2
    obtain ⟨nc, h1, h2, h3⟩ := clIter_read n s hs
    rw [clIter_succ]
    generalize clIter n s = k at *
    obtain ⟨kc, kl, ks⟩ := k
    dsimp only at *
    unfold clStep at h' ⊢
    dsimp only at h' ⊢
    obtain ⟨a1, a2, a3⟩ := takeR_sh h'
    obtain ⟨b1, b2, b3⟩ := takeR_sh a1
    generalize takeR kl ks 1 = u at *
    generalize takeR u.l u.sh 2 = v at *
    refine ⟨nc ++ [(beN u.got, beN v.got)], by rw [h1, List.append_assoc], by simp [h2], ?_⟩
    rw [clBytes_snoc, h3]
    dsimp only
    rw [one_back _ b3, two_back _ a3, List.append_assoc, List.append_assoc, ← a2, ← b2]
theorem claimsR_read (l : List (BitVec 8)) (sh : Bool) (h : (claimsR l sh).sh = false) : l = [BitVec.ofInt 8 ((claimsR l sh).cl.length : Int)] ++ clBytes (claimsR l sh).cl ++ (claimsR l sh).l ∧ sh = false := by
  unfold claimsR at h ⊢
  have h2 := (clIter_tail2 [] _ _ _ _ h).2
  obtain ⟨nc, c1, c2, c3⟩ := clIter_read _ _ h
  obtain ⟨b1, b2, b3⟩ := takeR_sh h2
  have hb := (beN_bound _ 1 (takeR_len l sh 1).2).1
  generalize hX : clIter (beN (takeR l sh 1).got).toNat ⟨[], (takeR l sh 1).l, (takeR l sh 1).sh⟩ = X at *
  dsimp only at c1 c3
  rw [List.nil_append] at c1
  refine ⟨?_, b1⟩
  rw [c1, c2, Int.toNat_of_nonneg hb, one_back _ b3, List.append_assoc, ← c3, ← b2]
theorem textR_read (l : List (BitVec 8)) (sh : Bool) (h : (textR l sh).sh = false) : l = [BitVec.ofInt 8 ((textR l sh).got.length : Int)] ++ (textR l sh).got ++ (textR l sh).l ∧ sh = false := by
  unfold textR at h ⊢
  obtain ⟨a1, a2, a3⟩ := takeR_sh h
  obtain ⟨b1, b2, b3⟩ := takeR_sh a1
  have hb := (beN_bound _ 1 (takeR_len l sh 1).2).1
  refine ⟨?_, b1⟩
  rw [a3, Int.toNat_of_nonneg hb, one_back _ b3, List.append_assoc, ← a2, ← b2]
theorem keyB_back (d : Dat) (g : List (BitVec 8)) (h : g.length = 16) (hd : d.k = fun i => g.getD i 0) (sa : Option Addr) (sn sc : Nat) : (d.rq sa sn sc).keyB = g := by
  obtain ⟨a0, a1, a2, a3, a4, a5, a6, a7, e0, e1, e2, e3, e4, e5, e6, e7, rfl⟩ := list_eq16 g h
  show [d.k 0, d.k 1, d.k 2, d.k 3, d.k 4, d.k 5, d.k 6, d.k 7, d.k 8, d.k 9, d.k 10, d.k 11, d.k 12, d.k 13, d.k 14, d.k 15] = _
  rw [hd]; rfl
theorem macB_back (d : Dat) (g : List (BitVec 8)) (h : g.length = 8) (hd : d.m = fun i => g.getD i 0) (sa : Option Addr) (sn sc : Nat) : (d.rq sa sn sc).macB = g := by
  obtain ⟨a0, a1, a2, a3, a4, a5, a6, a7, rfl⟩ := list_eq8 g h
  show [d.m 0, d.m 1, d.m 2, d.m 3, d.m 4, d.m 5, d.m 6, d.m 7] = _
  rw [hd]; rfl
/-- What is read, written again, is just these bytes. -/
theorem body_read (body : List (BitVec 8)) (h : decB body = true) (sa : Option Addr) (sn sc : Nat) (hn : (rdOf body).cl.length = sn) : bodyOf ((rdOf body).rq sa sn sc) (rdOf body).cl = body := by
  obtain ⟨hs, hl⟩ := decB_whole h
  have hk : 1 ≤ (rdOf body).kd ∧ (rdOf body).kd ≤ 6 := by
    unfold decB at h
    simp only [Bool.and_eq_true] at h
    exact mayB_kind h.2
  clear h
  subst hn
  unfold rdOf at hs hl hk ⊢
  dsimp only at hs hl hk ⊢
  have hb := one_back (takeR body false 1).got
  generalize hA : takeR body false 1 = a at *
  by_cases k1 : beN a.got = 1
  · rw [if_pos k1] at hs hl ⊢
    obtain ⟨x1, x2, x3⟩ := takeR_sh (hs : (takeR _ _ 2).sh = false)
    obtain ⟨y1, y2, y3⟩ := takeR_sh x1
    obtain ⟨z1, z2, z3⟩ := takeR_sh y1
    obtain ⟨u1, u2, u3⟩ := takeR_sh z1
    rw [← hA] at u1
    obtain ⟨v1, v2, v3⟩ := takeR_sh u1
    rw [hA] at v2 v3
    have hb := hb v3
    rw [k1] at hb
    have e : bodyOf ((rd1 a.l a.sh).rq sa (rd1 a.l a.sh).cl.length sc) (rd1 a.l a.sh).cl = body1 ((rd1 a.l a.sh).rq sa (rd1 a.l a.sh).cl.length sc) := rfl
    rw [e]
    unfold body1
    rw [keyB_back _ _ y3 rfl]
    have hl' : (takeR (takeR (takeR (takeR a.l a.sh 1).l (takeR a.l a.sh 1).sh 1).l (takeR (takeR a.l a.sh 1).l (takeR a.l a.sh 1).sh 1).sh 16).l (takeR (takeR (takeR a.l a.sh 1).l (takeR a.l a.sh 1).sh 1).l (takeR (takeR a.l a.sh 1).l (takeR a.l a.sh 1).sh 1).sh 16).sh 2).l = [] := hl
    show [BitVec.ofInt 8 1] ++ ([BitVec.ofInt 8 (beN (takeR a.l a.sh 1).got)] ++ [BitVec.ofInt 8 (beN (takeR (takeR a.l a.sh 1).l (takeR a.l a.sh 1).sh 1).got)]) ++ _ ++ numTo (beN (takeR _ _ 2).got) 2 2 = body
    rw [hb, one_back _ u3, one_back _ z3, two_back _ x3]
    rw [hl', List.append_nil] at x2
    rw [List.append_assoc, List.append_assoc, List.append_assoc, ← x2, ← y2, ← z2, ← u2, ← v2]
  by_cases k2 : beN a.got = 2
  · rw [if_neg k1, if_pos k2] at hs hl ⊢
    obtain ⟨y1, y2, y3⟩ := takeR_sh (hs : (takeR _ _ 8).sh = false)
    obtain ⟨z1, z2, z3⟩ := takeR_sh y1
    obtain ⟨u1, u2, u3⟩ := takeR_sh z1
    rw [← hA] at u1
    obtain ⟨v1, v2, v3⟩ := takeR_sh u1
    rw [hA] at v2 v3
    have hb := hb v3
    rw [k2] at hb
    have e : bodyOf ((rd2 a.l a.sh).rq sa (rd2 a.l a.sh).cl.length sc) (rd2 a.l a.sh).cl = body2 ((rd2 a.l a.sh).rq sa (rd2 a.l a.sh).cl.length sc) := rfl
    rw [e]
    unfold body2
    rw [macB_back _ _ y3 rfl]
    have hl' : (takeR (takeR (takeR a.l a.sh 1).l (takeR a.l a.sh 1).sh 1).l (takeR (takeR a.l a.sh 1).l (takeR a.l a.sh 1).sh 1).sh 8).l = [] := hl
    show [BitVec.ofInt 8 2] ++ ([BitVec.ofInt 8 (beN (takeR a.l a.sh 1).got)] ++ [BitVec.ofInt 8 (beN (takeR (takeR a.l a.sh 1).l (takeR a.l a.sh 1).sh 1).got)]) ++ _ = body
    rw [hb, one_back _ u3, one_back _ z3]
    rw [hl', List.append_nil] at y2
    rw [List.append_assoc, List.append_assoc, ← y2, ← z2, ← u2, ← v2]
  by_cases k3 : beN a.got = 3
  · rw [if_neg k1, if_neg k2, if_pos k3] at hs hl ⊢
    obtain ⟨u1, u2, u3⟩ := takeR_sh (hs : (takeR _ _ 1).sh = false)
    rw [← hA] at u1
    obtain ⟨v1, v2, v3⟩ := takeR_sh u1
    rw [hA] at v2 v3
    have hb := hb v3
    rw [k3] at hb
    have e : bodyOf ((rd3 a.l a.sh).rq sa (rd3 a.l a.sh).cl.length sc) (rd3 a.l a.sh).cl = body3 ((rd3 a.l a.sh).rq sa (rd3 a.l a.sh).cl.length sc) := rfl
    rw [e]
    unfold body3
    have hl' : (takeR a.l a.sh 1).l = [] := hl
    show [BitVec.ofInt 8 3] ++ [BitVec.ofInt 8 (beN (takeR a.l a.sh 1).got)] = body
    rw [hb, one_back _ u3]
    rw [hl', List.append_nil] at u2
    rw [← u2, ← v2]
  by_cases k4 : beN a.got = 4
  · rw [if_neg k1, if_neg k2, if_neg k3, if_pos k4] at hs hl ⊢
    obtain ⟨x2, x1⟩ := textR_read _ _ (hs : (textR _ _).sh = false)
    obtain ⟨y2, y1⟩ := claimsR_read _ _ x1
    obtain ⟨u1, u2, u3⟩ := takeR_sh y1
    rw [← hA] at u1
    obtain ⟨v1, v2, v3⟩ := takeR_sh u1
    rw [hA] at v2 v3
    have hb := hb v3
    rw [k4] at hb
    have e : bodyOf ((rd4 a.l a.sh).rq sa (rd4 a.l a.sh).cl.length sc) (rd4 a.l a.sh).cl = body4 ((rd4 a.l a.sh).rq sa (rd4 a.l a.sh).cl.length sc) (rd4 a.l a.sh).cl := rfl
    rw [e]
    unfold body4
    have hl' : (textR (claimsR (takeR a.l a.sh 1).l (takeR a.l a.sh 1).sh).l (claimsR (takeR a.l a.sh 1).l (takeR a.l a.sh 1).sh).sh).l = [] := hl
    show [BitVec.ofInt 8 4] ++ [BitVec.ofInt 8 (beN (takeR a.l a.sh 1).got)] ++ [BitVec.ofInt 8 ((claimsR (takeR a.l a.sh 1).l (takeR a.l a.sh 1).sh).cl.length : Int)] ++ clBytes (claimsR (takeR a.l a.sh 1).l (takeR a.l a.sh 1).sh).cl ++ [BitVec.ofInt 8 ((strB (textR (claimsR (takeR a.l a.sh 1).l (takeR a.l a.sh 1).sh).l (claimsR (takeR a.l a.sh 1).l (takeR a.l a.sh 1).sh).sh).got).size : Int)] ++ txB (strB (textR (claimsR (takeR a.l a.sh 1).l (takeR a.l a.sh 1).sh).l (claimsR (takeR a.l a.sh 1).l (takeR a.l a.sh 1).sh).sh).got) = body
    rw [hb, one_back _ u3, txB_strB, strB_size]
    rw [hl', List.append_nil] at x2
    simp only [List.append_assoc] at x2 y2 ⊢
    rw [← x2, ← y2, ← u2, ← v2]
  by_cases k5 : beN a.got = 5
  · rw [if_neg k1, if_neg k2, if_neg k3, if_neg k4, if_pos k5] at hs hl ⊢
    obtain ⟨z1, z2, z3⟩ := takeR_sh (hs : (takeR _ _ 1).sh = false)
    obtain ⟨u1, u2, u3⟩ := takeR_sh z1
    rw [← hA] at u1
    obtain ⟨v1, v2, v3⟩ := takeR_sh u1
    rw [hA] at v2 v3
    have hb := hb v3
    rw [k5] at hb
    have e : bodyOf ((rd5 a.l a.sh).rq sa (rd5 a.l a.sh).cl.length sc) (rd5 a.l a.sh).cl = body5 ((rd5 a.l a.sh).rq sa (rd5 a.l a.sh).cl.length sc) := rfl
    rw [e]
    unfold body5
    have hl' : (takeR (takeR a.l a.sh 4).l (takeR a.l a.sh 4).sh 1).l = [] := hl
    show [BitVec.ofInt 8 5] ++ numTo (beN (takeR a.l a.sh 4).got) 4 4 ++ [BitVec.ofInt 8 (beN (takeR (takeR a.l a.sh 4).l (takeR a.l a.sh 4).sh 1).got)] = body
    rw [hb, four_back _ u3, one_back _ z3]
    rw [hl', List.append_nil] at z2
    rw [List.append_assoc, ← z2, ← u2, ← v2]
  by_cases k6 : beN a.got = 6
  · rw [if_neg k1, if_neg k2, if_neg k3, if_neg k4, if_neg k5, if_pos k6] at hs hl ⊢
    obtain ⟨u1, u2, u3⟩ := takeR_sh (hs : (takeR _ _ 4).sh = false)
    rw [← hA] at u1
    obtain ⟨v1, v2, v3⟩ := takeR_sh u1
    rw [hA] at v2 v3
    have hb := hb v3
    rw [k6] at hb
    have e : bodyOf ((rd6 a.l a.sh).rq sa (rd6 a.l a.sh).cl.length sc) (rd6 a.l a.sh).cl = body6 ((rd6 a.l a.sh).rq sa (rd6 a.l a.sh).cl.length sc) := rfl
    rw [e]
    unfold body6
    have hl' : (takeR a.l a.sh 4).l = [] := hl
    show [BitVec.ofInt 8 6] ++ numTo (beN (takeR a.l a.sh 4).got) 4 4 = body
    rw [hb, four_back _ u3]
    rw [hl', List.append_nil] at u2
    rw [← u2, ← v2]
  · exfalso
    rw [if_neg k1, if_neg k2, if_neg k3, if_neg k4, if_neg k5, if_neg k6] at hk
    dsimp only at hk
    omega
end Go.Proofs.Ytpnfkcbbjcimgaa
