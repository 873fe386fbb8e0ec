import Derived.Test.YtpnfkcbbjcimgaaCdat
import Derived.Test.YtpnfkcbbjcimgaaSame
namespace Go.Proofs.Ytpnfkcbbjcimgaa
open Go.RowKit
theorem numAt_beN (l : List (BitVec 8)) (i : Nat) : ∀ k, i + k ≤ l.length → numAt l i k = beN ((l.drop i).take k)
  | 0, _ => by simp [numAt, beN]
  | k + 1, h => by
    have hk : k < (l.drop i).length := by rw [List.length_drop]; omega
    rw [List.take_succ_eq_append_getElem hk, beN_snoc, ← numAt_beN l i k (by omega)]
    show numAt l i k * 256 + B (byteAt l (i + k)) = _
    congr 2
    unfold byteAt
    rw [List.getElem_drop, List.getD, List.getElem?_eq_getElem (by omega)]
    rfl
theorem numAt_at (pre x rest : List (BitVec 8)) (i k : Nat) (hi : pre.length = i) (hk : x.length = k) : numAt (pre ++ (x ++ rest)) i k = beN x := by
  subst hi hk
  rw [numAt_beN _ _ _ (by simp), List.drop_left, List.take_left]
theorem byteAt_at (pre x rest : List (BitVec 8)) (i j : Nat) (hi : pre.length = i) (hj : j < x.length) : byteAt (pre ++ (x ++ rest)) (i + j) = x.getD j 0 := by
  subst hi
  unfold byteAt
  rw [List.getD, List.getD, List.getElem?_append_right (by omega), Nat.add_sub_cancel_left, List.getElem?_append_left hj]
theorem clBytes_app (a b : List (Int × Int)) : clBytes (a ++ b) = clBytes a ++ clBytes b := by unfold clBytes; rw [List.flatMap_append]
theorem clAt_written (cl : List (Int × Int)) (l pre post : List (BitVec 8)) (n : Nat) (hn : cl.length = n) (hp : pre.length = 3) (hl : l = pre ++ (clBytes cl ++ post)) (hb : ∀ c ∈ cl, 0 ≤ c.1 ∧ c.1 ≤ 255 ∧ 0 ≤ c.2 ∧ c.2 ≤ 65535) : clAt l n = cl := by
  subst hn
  apply List.ext_getElem (clAt_length _ _)
  intro i h1 h2
  have hc := hb _ (List.getElem_mem h2)
  have e : cl = cl.take i ++ (cl[i] :: cl.drop (i + 1)) := by rw [← List.drop_eq_getElem_cons h2, List.take_append_drop]
  have e1 : clBytes cl = clBytes (cl.take i) ++ ([BitVec.ofInt 8 cl[i].1] ++ (numTo cl[i].2 2 2 ++ clBytes (cl.drop (i + 1)))) := by
    have h := congrArg clBytes e
    rw [clBytes_app] at h
    exact h
  have hlen : (clBytes (cl.take i)).length = 3 * i := by rw [clBytes_length, List.length_take]; omega
  have l1 : l = (pre ++ clBytes (cl.take i)) ++ ([BitVec.ofInt 8 cl[i].1] ++ (numTo cl[i].2 2 2 ++ clBytes (cl.drop (i + 1)) ++ post)) := by
    rw [hl, e1]; simp only [List.append_assoc]
  have l2 : l = (pre ++ clBytes (cl.take i) ++ [BitVec.ofInt 8 cl[i].1]) ++ (numTo cl[i].2 2 2 ++ (clBytes (cl.drop (i + 1)) ++ post)) := by
    rw [hl, e1]; simp only [List.append_assoc]
  have a1 : numAt l (3 + 3 * i) 1 = cl[i].1 := by
    rw [l1, numAt_at _ _ _ _ 1 (by rw [List.length_append, hp, hlen]) rfl]
    exact beN_one _ hc.1 hc.2.1
  have a2 : numAt l (4 + 3 * i) 2 = cl[i].2 := by
    rw [l2, numAt_at _ _ _ _ 2 (by rw [List.length_append, List.length_append, hp, hlen]; show 3 + 3 * i + 1 = _; omega) (numTo_length _ _ _)]
    exact beN_two _ hc.2.2.1 hc.2.2.2
  have g : (clAt l cl.length)[i] = (numAt l (3 + 3 * i) 1, numAt l (4 + 3 * i) 2) := by simp [clAt]
  rw [g, a1, a2]
theorem refD_written (q : Rq) (cl : List (Int × Int)) (h : mayB q cl = true) (hc : cl.length = q.sn) : Same q cl (refD (bodyOf q cl)) := by
  have hk := mayB_kind h
  obtain ⟨ha, hd, hr, hcu, hm, hky, hmc, htx, hcl, hok⟩ := mayB_all h
  clear h
  by_cases k1 : q.kd = 1
  · have hbd : bdOf q.kd = ⟨255, 255, 65535, 0, 0, 0, 0, true, false⟩ := by simp [bdOf, k1]
    rw [hbd] at ha hd hr hcu hm hky hmc htx hcl
    dsimp only at ha hd hr hcu hm hky hmc htx hcl
    have hz := zB_mac (hmc.resolve_left (by simp))
    have hcl0 : cl = [] := List.eq_nil_of_length_eq_zero (by omega)
    have e : bodyOf q cl = [BitVec.ofInt 8 1] ++ ([BitVec.ofInt 8 q.ac] ++ ([BitVec.ofInt 8 q.dv] ++ (q.keyB ++ (numTo q.rg 2 2 ++ [])))) := by simp [bodyOf, k1, body1]
    generalize bodyOf q cl = l at e
    subst e
    have n0 := numAt_at [] [BitVec.ofInt 8 1] ([BitVec.ofInt 8 q.ac] ++ ([BitVec.ofInt 8 q.dv] ++ (q.keyB ++ (numTo q.rg 2 2 ++ [])))) 0 1 rfl rfl
    have n1 := numAt_at [BitVec.ofInt 8 1] [BitVec.ofInt 8 q.ac] ([BitVec.ofInt 8 q.dv] ++ (q.keyB ++ (numTo q.rg 2 2 ++ []))) 1 1 rfl rfl
    have n2 := numAt_at ([BitVec.ofInt 8 1] ++ [BitVec.ofInt 8 q.ac]) [BitVec.ofInt 8 q.dv] (q.keyB ++ (numTo q.rg 2 2 ++ [])) 2 1 rfl rfl
    have n3 := byteAt_at ([BitVec.ofInt 8 1] ++ [BitVec.ofInt 8 q.ac] ++ [BitVec.ofInt 8 q.dv]) q.keyB (numTo q.rg 2 2 ++ []) 3
    have n4 := numAt_at ([BitVec.ofInt 8 1] ++ [BitVec.ofInt 8 q.ac] ++ [BitVec.ofInt 8 q.dv] ++ q.keyB) (numTo q.rg 2 2) [] 19 2 rfl (numTo_length _ _ _)
    simp only [List.append_assoc, List.nil_append] at n0 n1 n2 n3 n4 ⊢
    rw [beN_one 1 (by omega) (by omega)] at n0
    unfold refD
    rw [if_pos n0]
    exact ⟨k1.symm, n1.trans (beN_one _ ha.1 ha.2), n2.trans (beN_one _ hd.1 hd.2), n4.trans (beN_two _ hr.1 hr.2), by dsimp only; omega, by dsimp only; omega, fun i hi => (n3 i rfl hi).trans (keyB_get q i hi), fun i hi => (hz i hi).symm, hcl0.symm, (tx_nil htx).symm, rfl, rfl⟩
  by_cases k2 : q.kd = 2
  · have hbd : bdOf q.kd = ⟨255, 255, 0, 0, 0, 0, 0, false, true⟩ := by simp [bdOf, k2]
    rw [hbd] at ha hd hr hcu hm hky hmc htx hcl
    dsimp only at ha hd hr hcu hm hky hmc htx hcl
    have hz := zB_key (hky.resolve_left (by simp))
    have hcl0 : cl = [] := List.eq_nil_of_length_eq_zero (by omega)
    have e : bodyOf q cl = [BitVec.ofInt 8 2] ++ ([BitVec.ofInt 8 q.ac] ++ ([BitVec.ofInt 8 q.dv] ++ (q.macB ++ []))) := by simp [bodyOf, k2, body2]
    generalize bodyOf q cl = l at e
    subst e
    have n0 := numAt_at [] [BitVec.ofInt 8 2] ([BitVec.ofInt 8 q.ac] ++ ([BitVec.ofInt 8 q.dv] ++ (q.macB ++ []))) 0 1 rfl rfl
    have n1 := numAt_at [BitVec.ofInt 8 2] [BitVec.ofInt 8 q.ac] ([BitVec.ofInt 8 q.dv] ++ (q.macB ++ [])) 1 1 rfl rfl
    have n2 := numAt_at ([BitVec.ofInt 8 2] ++ [BitVec.ofInt 8 q.ac]) [BitVec.ofInt 8 q.dv] (q.macB ++ []) 2 1 rfl rfl
    have n3 := byteAt_at ([BitVec.ofInt 8 2] ++ [BitVec.ofInt 8 q.ac] ++ [BitVec.ofInt 8 q.dv]) q.macB [] 3
    simp only [List.append_assoc, List.nil_append] at n0 n1 n2 n3 ⊢
    rw [beN_one 2 (by omega) (by omega)] at n0
    unfold refD
    rw [if_neg (by rw [n0]; decide), if_pos n0]
    exact ⟨k2.symm, n1.trans (beN_one _ ha.1 ha.2), n2.trans (beN_one _ hd.1 hd.2), by dsimp only; omega, by dsimp only; omega, by dsimp only; omega, fun i hi => (hz i hi).symm, fun i hi => (n3 i rfl hi).trans (macB_get q i hi), hcl0.symm, (tx_nil htx).symm, rfl, rfl⟩
  by_cases k3 : q.kd = 3
  · have hbd : bdOf q.kd = ⟨0, 255, 0, 0, 0, 0, 0, false, false⟩ := by simp [bdOf, k3]
    rw [hbd] at ha hd hr hcu hm hky hmc htx hcl
    dsimp only at ha hd hr hcu hm hky hmc htx hcl
    have hz := zB_key (hky.resolve_left (by simp))
    have hy := zB_mac (hmc.resolve_left (by simp))
    have hcl0 : cl = [] := List.eq_nil_of_length_eq_zero (by omega)
    have e : bodyOf q cl = [BitVec.ofInt 8 3] ++ ([BitVec.ofInt 8 q.dv] ++ []) := by simp [bodyOf, k3, body3]
    generalize bodyOf q cl = l at e
    subst e
    have n0 := numAt_at [] [BitVec.ofInt 8 3] ([BitVec.ofInt 8 q.dv] ++ []) 0 1 rfl rfl
    have n1 := numAt_at [BitVec.ofInt 8 3] [BitVec.ofInt 8 q.dv] [] 1 1 rfl rfl
    simp only [List.nil_append] at n0 n1 ⊢
    rw [beN_one 3 (by omega) (by omega)] at n0
    unfold refD
    rw [if_neg (by rw [n0]; decide), if_neg (by rw [n0]; decide), if_pos n0]
    exact ⟨k3.symm, by dsimp only; omega, n1.trans (beN_one _ hd.1 hd.2), by dsimp only; omega, by dsimp only; omega, by dsimp only; omega, fun i hi => (hz i hi).symm, fun i hi => (hy i hi).symm, hcl0.symm, (tx_nil htx).symm, rfl, rfl⟩
  by_cases k4 : q.kd = 4
  · have hbd : bdOf q.kd = ⟨255, 0, 0, 0, 0, 8, 16, false, false⟩ := by simp [bdOf, k4]
    rw [hbd] at ha hd hr hcu hm hky hmc htx hcl
    dsimp only at ha hd hr hcu hm hky hmc htx hcl
    have hz := zB_key (hky.resolve_left (by simp))
    have hy := zB_mac (hmc.resolve_left (by simp))
    have e : bodyOf q cl = [BitVec.ofInt 8 4] ++ ([BitVec.ofInt 8 q.ac] ++ ([BitVec.ofInt 8 q.sn] ++ (clBytes cl ++ ([BitVec.ofInt 8 q.tx.size] ++ txB q.tx)))) := by simp [bodyOf, k4, body4]
    generalize bodyOf q cl = l at e
    subst e
    have n0 := numAt_at [] [BitVec.ofInt 8 4] ([BitVec.ofInt 8 q.ac] ++ ([BitVec.ofInt 8 q.sn] ++ (clBytes cl ++ ([BitVec.ofInt 8 q.tx.size] ++ txB q.tx)))) 0 1 rfl rfl
    have n1 := numAt_at [BitVec.ofInt 8 4] [BitVec.ofInt 8 q.ac] ([BitVec.ofInt 8 q.sn] ++ (clBytes cl ++ ([BitVec.ofInt 8 q.tx.size] ++ txB q.tx))) 1 1 rfl rfl
    have n2 := numAt_at ([BitVec.ofInt 8 4] ++ [BitVec.ofInt 8 q.ac]) [BitVec.ofInt 8 q.sn] (clBytes cl ++ ([BitVec.ofInt 8 q.tx.size] ++ txB q.tx)) 2 1 rfl rfl
    have n3 := clAt_written cl ([BitVec.ofInt 8 4] ++ ([BitVec.ofInt 8 q.ac] ++ ([BitVec.ofInt 8 q.sn] ++ (clBytes cl ++ ([BitVec.ofInt 8 q.tx.size] ++ txB q.tx))))) ([BitVec.ofInt 8 4] ++ [BitVec.ofInt 8 q.ac] ++ [BitVec.ofInt 8 q.sn]) ([BitVec.ofInt 8 q.tx.size] ++ txB q.tx) q.sn hc rfl (by simp only [List.append_assoc]) (clOk_bounds cl _ hok)
    have n4 : ([BitVec.ofInt 8 4] ++ ([BitVec.ofInt 8 q.ac] ++ ([BitVec.ofInt 8 q.sn] ++ (clBytes cl ++ ([BitVec.ofInt 8 q.tx.size] ++ txB q.tx))))).drop (4 + 3 * q.sn) = txB q.tx := by
      have e2 : [BitVec.ofInt 8 4] ++ ([BitVec.ofInt 8 q.ac] ++ ([BitVec.ofInt 8 q.sn] ++ (clBytes cl ++ ([BitVec.ofInt 8 q.tx.size] ++ txB q.tx)))) = ([BitVec.ofInt 8 4] ++ [BitVec.ofInt 8 q.ac] ++ [BitVec.ofInt 8 q.sn] ++ clBytes cl ++ [BitVec.ofInt 8 q.tx.size]) ++ txB q.tx := by simp only [List.append_assoc]
      rw [e2]
      apply List.drop_left'
      rw [List.length_append, List.length_append, List.length_append, List.length_append, clBytes_length, hc]
      simp
      omega
    simp only [List.append_assoc, List.nil_append] at n0 n1 n2 ⊢
    rw [beN_one 4 (by omega) (by omega)] at n0
    rw [beN_one _ (by omega) (by omega)] at n2
    have n5 := congrArg Int.toNat n2
    rw [Int.toNat_natCast] at n5
    unfold refD
    rw [if_neg (by rw [n0]; decide), if_neg (by rw [n0]; decide), if_neg (by rw [n0]; decide), if_pos n0, n5]
    exact ⟨k4.symm, n1.trans (beN_one _ ha.1 ha.2), by dsimp only; omega, by dsimp only; omega, by dsimp only; omega, by dsimp only; omega, fun i hi => (hz i hi).symm, fun i hi => (hy i hi).symm, n3, n4, rfl, rfl⟩
  by_cases k5 : q.kd = 5
  · have hbd : bdOf q.kd = ⟨0, 0, 0, 4294967295, 255, 0, 0, false, false⟩ := by simp [bdOf, k5]
    rw [hbd] at ha hd hr hcu hm hky hmc htx hcl
    dsimp only at ha hd hr hcu hm hky hmc htx hcl
    have hz := zB_key (hky.resolve_left (by simp))
    have hy := zB_mac (hmc.resolve_left (by simp))
    have hcl0 : cl = [] := List.eq_nil_of_length_eq_zero (by omega)
    have e : bodyOf q cl = [BitVec.ofInt 8 5] ++ (numTo q.cu 4 4 ++ ([BitVec.ofInt 8 q.mo] ++ [])) := by simp [bodyOf, k5, body5]
    generalize bodyOf q cl = l at e
    subst e
    have n0 := numAt_at [] [BitVec.ofInt 8 5] (numTo q.cu 4 4 ++ ([BitVec.ofInt 8 q.mo] ++ [])) 0 1 rfl rfl
    have n1 := numAt_at [BitVec.ofInt 8 5] (numTo q.cu 4 4) ([BitVec.ofInt 8 q.mo] ++ []) 1 4 rfl (numTo_length _ _ _)
    have n2 := numAt_at ([BitVec.ofInt 8 5] ++ numTo q.cu 4 4) [BitVec.ofInt 8 q.mo] [] 5 1 (by rw [List.length_append, numTo_length]; rfl) rfl
    simp only [List.append_assoc, List.nil_append] at n0 n1 n2 ⊢
    rw [beN_one 5 (by omega) (by omega)] at n0
    unfold refD
    rw [if_neg (by rw [n0]; decide), if_neg (by rw [n0]; decide), if_neg (by rw [n0]; decide), if_neg (by rw [n0]; decide), if_pos n0]
    exact ⟨k5.symm, by dsimp only; omega, by dsimp only; omega, by dsimp only; omega, n1.trans (beN_four _ hcu.1 hcu.2), n2.trans (beN_one _ hm.1 hm.2), fun i hi => (hz i hi).symm, fun i hi => (hy i hi).symm, hcl0.symm, (tx_nil htx).symm, rfl, rfl⟩
  · have k6 : q.kd = 6 := by omega
    have hbd : bdOf q.kd = ⟨0, 0, 0, 4294967295, 0, 0, 0, false, false⟩ := by simp [bdOf, k6]
    rw [hbd] at ha hd hr hcu hm hky hmc htx hcl
    dsimp only at ha hd hr hcu hm hky hmc htx hcl
    have hz := zB_key (hky.resolve_left (by simp))
    have hy := zB_mac (hmc.resolve_left (by simp))
    have hcl0 : cl = [] := List.eq_nil_of_length_eq_zero (by omega)
    have e : bodyOf q cl = [BitVec.ofInt 8 6] ++ (numTo q.cu 4 4 ++ []) := by simp [bodyOf, k6, body6]
    generalize bodyOf q cl = l at e
    subst e
    have n0 := numAt_at [] [BitVec.ofInt 8 6] (numTo q.cu 4 4 ++ []) 0 1 rfl rfl
    have n1 := numAt_at [BitVec.ofInt 8 6] (numTo q.cu 4 4) [] 1 4 rfl (numTo_length _ _ _)
    simp only [List.nil_append] at n0 n1 ⊢
    rw [beN_one 6 (by omega) (by omega)] at n0
    unfold refD
    rw [if_neg (by rw [n0]; decide), if_neg (by rw [n0]; decide), if_neg (by rw [n0]; decide), if_neg (by rw [n0]; decide), if_neg (by rw [n0]; decide), if_pos n0]
    exact ⟨k6.symm, by dsimp only; omega, by dsimp only; omega, by dsimp only; omega, n1.trans (beN_four _ hcu.1 hcu.2), by dsimp only; omega, fun i hi => (hz i hi).symm, fun i hi => (hy i hi).symm, hcl0.symm, (tx_nil htx).symm, rfl, rfl⟩
theorem keyB_same {q : Rq} {cl : List (Int × Int)} {d : Dat} (s : Same q cl d) (sa : Option Addr) (sn sc : Nat) : (d.rq sa sn sc).keyB = q.keyB := by
  show [d.k 0, d.k 1, d.k 2, d.k 3, d.k 4, d.k 5, d.k 6, d.k 7, d.k 8, d.k 9, d.k 10, d.k 11, d.k 12, d.k 13, d.k 14, d.k 15] = q.keyB
  rw [s.k 0 (by omega), s.k 1 (by omega), s.k 2 (by omega), s.k 3 (by omega), s.k 4 (by omega), s.k 5 (by omega), s.k 6 (by omega), s.k 7 (by omega), s.k 8 (by omega), s.k 9 (by omega), s.k 10 (by omega), s.k 11 (by omega), s.k 12 (by omega), s.k 13 (by omega), s.k 14 (by omega), s.k 15 (by omega)]
  rfl
theorem macB_same {q : Rq} {cl : List (Int × Int)} {d : Dat} (s : Same q cl d) (sa : Option Addr) (sn sc : Nat) : (d.rq sa sn sc).macB = q.macB := by
  show [d.m 0, d.m 1, d.m 2, d.m 3, d.m 4, d.m 5, d.m 6, d.m 7] = q.macB
  rw [s.m 0 (by omega), s.m 1 (by omega), s.m 2 (by omega), s.m 3 (by omega), s.m 4 (by omega), s.m 5 (by omega), s.m 6 (by omega), s.m 7 (by omega)]
  rfl
theorem body_same {q : Rq} {cl : List (Int × Int)} {d : Dat} (s : Same q cl d) (hc : cl.length = q.sn) : bodyOf (d.rq none d.cl.length 0) d.cl = bodyOf q cl := by
  have ht : (d.rq none d.cl.length 0).tx = q.tx := by show strB d.tx = q.tx; rw [s.tx, strB_txB]
  have hn : (d.rq none d.cl.length 0).sn = q.sn := by show d.cl.length = q.sn; rw [s.cl, hc]
  have e1 : (d.rq none d.cl.length 0).kd = q.kd := s.kd
  have e2 : (d.rq none d.cl.length 0).ac = q.ac := s.ac
  have e3 : (d.rq none d.cl.length 0).dv = q.dv := s.dv
  have e4 : (d.rq none d.cl.length 0).rg = q.rg := s.rg
  have e5 : (d.rq none d.cl.length 0).cu = q.cu := s.cu
  have e6 : (d.rq none d.cl.length 0).mo = q.mo := s.mo
  have e7 := keyB_same s none d.cl.length 0
  have e8 := macB_same s none d.cl.length 0
  rw [s.cl] at *
  unfold bodyOf body1 body2 body3 body4 body5 body6
  rw [e1, e2, e3, e4, e5, e6, e7, e8, ht, hn]
/-- The two sides' word on what is a body. -/
theorem ref_dec (l : List (BitVec 8)) : (mayB ((refD l).rq none (refD l).cl.length 0) (refD l).cl && decide (bodyOf ((refD l).rq none (refD l).cl.length 0) (refD l).cl = l)) = decB l := by
  rw [Bool.eq_iff_iff, Bool.and_eq_true, decide_eq_true_eq]
  constructor
  · rintro ⟨h1, h2⟩
    rw [← h2]
    rw [h2]
    have := decB_written _ _ h1 rfl
    rw [h2] at this
    exact this
  · intro h
    have hb := body_read l h none (rdOf l).cl.length 0 rfl
    have hm : mayB ((rdOf l).rq none (rdOf l).cl.length 0) (rdOf l).cl = true := by
      unfold decB at h
      exact (Bool.and_eq_true _ _ ▸ h).2
    have s := refD_written _ _ hm rfl
    rw [hb] at s
    exact ⟨(mayB_same s rfl).trans hm, (body_same s rfl).trans hb⟩
theorem ref_same (l : List (BitVec 8)) (h : decB l = true) : Same ((rdOf l).rq none (rdOf l).cl.length 0) (rdOf l).cl (refD l) := by
  have hb := body_read l h none (rdOf l).cl.length 0 rfl
  have hm : mayB ((rdOf l).rq none (rdOf l).cl.length 0) (rdOf l).cl = true := by
    unfold decB at h
    exact (Bool.and_eq_true _ _ ▸ h).2
  have s := refD_written _ _ hm rfl
  rw [hb] at s
  exact s
end Go.Proofs.Ytpnfkcbbjcimgaa
