import Derived.Test.YtpnfkcbbjcimgaaLdat
namespace Go.Proofs.Ytpnfkcbbjcimgaa
open Go.RowKit
attribute [local go_sem] row_30
set_option maxRecDepth 100000 in
set_option maxHeartbeats 8000000 in
theorem decodes_any (l : List (BitVec 8)) (hl : l.length ≤ 140737488355328) (w : World) :
    Calls Try.prog 13 #[.string (strB l)] w fun e w' => e = .returned (.bool true) ∧ Below w.heap.size w w' := by
  have WD := wire_dec_any l hl
  have RD := ref_dec_any l hl
  have hcs := dc_small l
  obtain ⟨f, hf⟩ : ∃ f, f = df l := ⟨_, rfl⟩
  have hf2 := df_cases l
  rw [← hf] at hf2
  simp only [← hf] at WD RD
  clear hf
  generalize dq l = q at *
  generalize dc l = cl at *
  obtain ⟨s, hs⟩ : ∃ s, s = strB l := ⟨_, rfl⟩
  rw [← hs] at WD RD ⊢
  clear hs hl
  have HW : Hid _ := WD
  have HR : Hid _ := RD
  clear WD RD
  go_enter Try.func13, Try.ntmps13
  go_wp2_with fail
  refine (HR.out _).mono ?_
  rintro e w1 ⟨sa1, sn1, sc1, rfl, ho1, hb1⟩
  have O1 : Hid (OwnC w1 w.heap.size (.slice sa1 sn1 sc1) cl) := ho1
  have B1 : Hid (Below w.heap.size w w1) := hb1
  have hz1 := hb1.size
  obtain ⟨q1, hq1⟩ : ∃ q1, Hid (q1 = q.withSl sa1 sn1 sc1) := ⟨_, rfl⟩
  rw [← hq1.out]
  clear ho1 hb1
  go_upto_region 2 with (first | (refine wpList_alloc_req rfl rfl ?_) | (refine wpList_store_fresh rfl (.tmp 3) (.tmp 15) rfl w1.heap.size (by rfl) rfl z0 q1 (by rfl) ?_))
  have X1 : Hid ((w1.alloc (.cells q1.row 28)).heap[w1.heap.size]? = some (.cells q1.row 28)) := blk_newest rfl _
  have O1b : Hid (OwnC (w1.alloc (.cells q1.row 28)) w.heap.size (.slice sa1 sn1 sc1) cl) := O1.out.alloc _
  have B1b : Hid (Below w.heap.size w (w1.alloc (.cells q1.row 28))) := B1.out.alloc hz1 _
  have hs1 : (w1.alloc (.cells q1.row 28)).heap.size = w1.heap.size + 1 := by simp
  generalize w1.alloc (.cells q1.row 28) = W1 at *
  clear O1 B1
  go_wp2_with fail
  refine (HW.out _).mono ?_
  rintro e w2 ⟨sa2, sn2, sc2, rfl, ho2, hn2, hb2⟩
  have O2 : Hid (OwnC w2 W1.heap.size (.slice sa2 sn2 sc2) cl) := ho2
  have O1c : Hid (OwnC w2 w.heap.size (.slice sa1 sn1 sc1) cl) := O1b.out.later hb2
  have X1b : Hid (w2.heap[w1.heap.size]? = some (.cells q1.row 28)) := blk_later hb2 (by omega) X1.out
  have B2 : Hid (Below w.heap.size w w2) := B1b.out.trans (hb2.mono (by omega))
  have hz2 := hb2.size
  have HN2 : Hid (f ≠ 0 → sa2 = none ∧ sn2 = 0 ∧ sc2 = 0) := hn2
  obtain ⟨q2, hq2⟩ : ∃ q2, Hid (q2 = q.withSl sa2 sn2 sc2) := ⟨_, rfl⟩
  rw [← hq2.out]
  clear ho2 hb2 hn2 O1b X1 B1b
  go_upto_region 3 with (first | (refine wpList_alloc_req rfl rfl ?_) | (refine wpList_store_fresh rfl (.tmp 5) (.tmp 20) rfl w2.heap.size (by rfl) rfl z0 q2 (by rfl) ?_))
  have X2 : Hid ((w2.alloc (.cells q2.row 28)).heap[w2.heap.size]? = some (.cells q2.row 28)) := blk_newest rfl _
  have X1c : Hid ((w2.alloc (.cells q2.row 28)).heap[w1.heap.size]? = some (.cells q1.row 28)) := blk_alloc (by omega) X1b.out _
  have O1d : Hid (OwnC (w2.alloc (.cells q2.row 28)) w.heap.size (.slice sa1 sn1 sc1) cl) := O1c.out.alloc _
  have O2b : Hid (OwnC (w2.alloc (.cells q2.row 28)) W1.heap.size (.slice sa2 sn2 sc2) cl) := O2.out.alloc _
  have B2b : Hid (Below w.heap.size w (w2.alloc (.cells q2.row 28))) := B2.out.alloc (by omega) _
  have hs2 : (w2.alloc (.cells q2.row 28)).heap.size = w2.heap.size + 1 := by simp
  generalize w2.alloc (.cells q2.row 28) = W2 at *
  clear O1c X1b O2 B2
  go_wp2_with fail
  refine (HW.out _).mono ?_
  rintro e w3 ⟨sa3, sn3, sc3, rfl, ho3, _, hb3⟩
  have O3 : Hid (OwnC w3 W2.heap.size (.slice sa3 sn3 sc3) cl) := ho3
  have O1e : Hid (OwnC w3 w.heap.size (.slice sa1 sn1 sc1) cl) := O1d.out.later hb3
  have O2c : Hid (OwnC w3 W1.heap.size (.slice sa2 sn2 sc2) cl) := O2b.out.later hb3
  have X1d : Hid (w3.heap[w1.heap.size]? = some (.cells q1.row 28)) := blk_later hb3 (by omega) X1c.out
  have X2b : Hid (w3.heap[w2.heap.size]? = some (.cells q2.row 28)) := blk_later hb3 (by omega) X2.out
  have B3 : Hid (Below w.heap.size w w3) := B2b.out.trans (hb3.mono (by omega))
  have hz3 := hb3.size
  have hlt2 : Hid (∀ a, sa2 = some a → a.block < W2.heap.size) := OwnC.lt O2b.out
  obtain ⟨q3, hq3⟩ : ∃ q3, Hid (q3 = q.withSl sa3 sn3 sc3) := ⟨_, rfl⟩
  rw [← hq3.out]
  clear ho3 hb3 O1d O2b X1c X2 B2b HW HR
  go_upto_region 4 with (first | (refine wpList_alloc_req rfl rfl ?_) | (refine wpList_store_fresh rfl (.tmp 7) (.tmp 25) rfl w3.heap.size (by rfl) rfl z0 q3 (by rfl) ?_))
  have Y3 : Hid ((w3.alloc (.cells q3.row 28)).heap[w3.heap.size]? = some (.cells q3.row 28)) := blk_newest rfl _
  have Y1 : Hid ((w3.alloc (.cells q3.row 28)).heap[w1.heap.size]? = some (.cells q1.row 28)) := blk_alloc (by omega) X1d.out _
  have Y2 : Hid ((w3.alloc (.cells q3.row 28)).heap[w2.heap.size]? = some (.cells q2.row 28)) := blk_alloc (by omega) X2b.out _
  have P1 : Hid (OwnC (w3.alloc (.cells q3.row 28)) w.heap.size (.slice sa1 sn1 sc1) cl) := O1e.out.alloc _
  have P2 : Hid (OwnC (w3.alloc (.cells q3.row 28)) W1.heap.size (.slice sa2 sn2 sc2) cl) := O2c.out.alloc _
  have P3 : Hid (OwnC (w3.alloc (.cells q3.row 28)) W2.heap.size (.slice sa3 sn3 sc3) cl) := O3.out.alloc _
  have PB : Hid (Below w.heap.size w (w3.alloc (.cells q3.row 28))) := B3.out.alloc (by omega) _
  have hs3 : (w3.alloc (.cells q3.row 28)).heap.size = w3.heap.size + 1 := by simp
  generalize w3.alloc (.cells q3.row 28) = W3 at *
  clear O3 O1e O2c X1d X2b B3
  have r2 : q2.row = (q1.withSl sa2 sn2 sc2).row := by rw [hq2.out, hq1.out]; rfl
  have r3 : q3.row = (q1.withSl sa3 sn3 sc3).row := by rw [hq3.out, hq1.out]; rfl
  have hsn2 := P2.out.len
  have hsn3 := P3.out.len
  have hsn1 := P1.out.len
  have hq1s : q1.sa = sa1 ∧ q1.sn = sn1 := by rw [hq1.out]; exact ⟨rfl, rfl⟩
  have c30 : q2.row[30]? = some (.slice sa2 sn2 sc2) := by rw [hq2.out]; rfl
  have d30 : q3.row[30]? = some (.slice sa3 sn3 sc3) := by rw [hq3.out]; rfl
  go_wp2_with (first | (refine wpList_load_req rfl (.tmp 5) rfl _ rfl q2 Y2.out ?_) | (refine wpList_load_req rfl (.tmp 3) rfl _ rfl q1 Y1.out ?_))
  refine (sameRequest_true q1 sa2 sn2 sc2 cl _ (by omega) P2.out.cl' (by rw [hq1s.1, hq1s.2]; exact P1.out.cl')).mono ?_
  rintro e w4 ⟨rfl, hb4⟩
  have Z1 : Hid (w4.heap[w1.heap.size]? = some (.cells q1.row 28)) := blk_later hb4 (by omega) Y1.out
  have Z2 : Hid (w4.heap[w2.heap.size]? = some (.cells q2.row 28)) := blk_later hb4 (by omega) Y2.out
  have Z3 : Hid (w4.heap[w3.heap.size]? = some (.cells q3.row 28)) := blk_later hb4 (by omega) Y3.out
  have R1 : Hid (OwnC w4 w.heap.size (.slice sa1 sn1 sc1) cl) := P1.out.later hb4
  have R2 : Hid (OwnC w4 W1.heap.size (.slice sa2 sn2 sc2) cl) := P2.out.later hb4
  have R3 : Hid (OwnC w4 W2.heap.size (.slice sa3 sn3 sc3) cl) := P3.out.later hb4
  have RB : Hid (Below w.heap.size w w4) := PB.out.trans (hb4.mono (by omega))
  have hz4 := hb4.size
  clear hb4 Y1 Y2 Y3 P1 P2 P3 PB
  go_wp2_with (first | (refine wpList_load_req rfl (.tmp 7) rfl _ rfl q3 Z3.out ?_) | (refine wpList_load_req rfl (.tmp 3) rfl _ rfl q1 Z1.out ?_))
  refine (sameRequest_true q1 sa3 sn3 sc3 cl _ (by omega) R3.out.cl' (by rw [hq1s.1, hq1s.2]; exact R1.out.cl')).mono ?_
  rintro e w5 ⟨rfl, hb5⟩
  have V2 : Hid (w5.heap[w2.heap.size]? = some (.cells q2.row 28)) := blk_later hb5 (by omega) Z2.out
  have V3 : Hid (w5.heap[w3.heap.size]? = some (.cells q3.row 28)) := blk_later hb5 (by omega) Z3.out
  have S2 : Hid (OwnC w5 W1.heap.size (.slice sa2 sn2 sc2) cl) := R2.out.later hb5
  have S3 : Hid (OwnC w5 W2.heap.size (.slice sa3 sn3 sc3) cl) := R3.out.later hb5
  have SB : Hid (Below w.heap.size w w5) := RB.out.trans (hb5.mono (by omega))
  have hz5 := hb5.size
  clear hb5 Z1 Z2 Z3 R1 R2 R3 RB r2 r3
  have l2 : w5.cell? ⟨w2.heap.size, 30, none⟩ = some (.slice sa2 sn2 sc2) := (Row.of V2.out 30).trans c30
  go_upto_region 6 with fail
  go_cut [57] (fun c wx => c = .bool false ∧ w5 = wx)
  case first =>
    rcases hf2 with rfl | rfl
    · go_wp2
      go_meet
      case rel => exact ⟨rfl, rfl⟩
    · obtain ⟨rfl, rfl, rfl⟩ := HN2.out (by decide)
      go_wp2
      go_meet
      case rel => exact ⟨rfl, rfl⟩
  obtain ⟨hc, hw⟩ := hcut
  subst hw
  subst hc
  go_upto_region 9 with fail
  obtain ⟨W5, hW5⟩ : ∃ W5, Hid (W5 = w5.alloc (.cells (bkRow (.slice none 0 0)) 49)) := ⟨_, rfl⟩
  have hgoal : w5.alloc (.cells #[.slice none 0 0, .slice none 0 0, .slice none 0 0, .slice none 0 0, .slice none 0 0, .slice none 0 0] 49) = W5 := hW5.out.symm
  rw [hgoal]
  clear hgoal
  have AB : Hid (Bk W5 w5.heap.size (w5.heap.size + 1) (.slice none 0 0) []) := by show Bk _ _ _ _ _; rw [hW5.out]; exact ⟨blk_newest rfl _, World.ownsRow_nil _ _ _ _, fun e he => by simp at he⟩
  have N2 : Hid (W5.heap[w2.heap.size]? = some (.cells q2.row 28)) := by show _ = _; rw [hW5.out]; exact blk_alloc (by omega) V2.out _
  have N3 : Hid (W5.heap[w3.heap.size]? = some (.cells q3.row 28)) := by show _ = _; rw [hW5.out]; exact blk_alloc (by omega) V3.out _
  have T2 : Hid (OwnC W5 W1.heap.size (.slice sa2 sn2 sc2) cl) := by show OwnC _ _ _ _; rw [hW5.out]; exact S2.out.alloc _
  have T3 : Hid (OwnC W5 W2.heap.size (.slice sa3 sn3 sc3) cl) := by show OwnC _ _ _ _; rw [hW5.out]; exact S3.out.alloc _
  have TB : Hid (Below w.heap.size w W5) := by show Below _ _ _; rw [hW5.out]; exact SB.out.alloc (by omega) _
  have hs5 : W5.heap.size = w5.heap.size + 1 := by rw [hW5.out]; simp
  have L3 : Hid (∀ a, sa3 = some a → a.block < w5.heap.size) := OwnC.lt S3.out
  have L2 : Hid (∀ a, sa2 = some a → a.block < w5.heap.size) := OwnC.lt S2.out
  have A1 : Hid (Ap W5 w5.heap.size (w5.heap.size + 1) (.slice none 0 0) [] sa2) := ⟨fun e he => by simp at he, fun e he => by simp at he, OwnC.lt T2.out, by omega, fun g hg => by cases hg⟩
  clear V2 V3 S2 S3 SB hW5 l2 HN2
  have l2 : W5.cell? ⟨w2.heap.size, 30, none⟩ = some (.slice sa2 sn2 sc2) := (Row.of N2.out 30).trans c30
  go_wp2_with fail
  refine (ownClaims_any w5.heap.size (w5.heap.size + 1) (.slice none 0 0) [] sa2 sn2 sc2 cl W5 AB.out (T2.out.low (Nat.zero_le _)) A1.out (by omega) (by simp) (by omega)).mono ?_
  rintro e w6 ⟨rfl, sl, n, c, v6, M1, hI, hM1, hn⟩
  have II : Hid (Iv W5 w5.heap.size (w5.heap.size + 1) (.slice none 0 0) [] sa2 w6 sl n c v6 M1) := hI
  have hz6 := hI.fr.size
  have hmm : ∀ k, k < w5.heap.size → (∀ b, sa2 = some b → b.block ≠ k) → w6.heap[k]? = W5.heap[k]? := fun k hk hne => hI.fr.block k (by omega) (fun h => by
    rcases h with h | h | ⟨b, h1, h2⟩
    · omega
    · cases h
    · exact hne b h1 h2)
  have N3b : Hid (w6.heap[w3.heap.size]? = some (.cells q3.row 28)) := (hmm _ (by omega) (fun b hb e => by have := hlt2.out b hb; omega)).trans N3.out
  have T3b : Hid (OwnC w6 W2.heap.size (.slice sa3 sn3 sc3) cl) := T3.out.kept (fun a ha => hmm _ (L3.out a ha) (fun b hb e => by have h1 := hlt2.out b hb; have h2 := OwnC.lo T3.out a ha; omega))
  have TBb : Hid (Below w.heap.size w w6) := hI.fr.below TB.out (by omega) (fun k hk h => by
    rcases h with h | h | ⟨b, h1, h2⟩
    · omega
    · cases h
    · have := OwnC.lo T2.out b h1; omega)
  have A2 : Hid (Ap w6 w5.heap.size (w5.heap.size + 1) v6 ([] ++ M1) sa3) := by
    refine ⟨fun e he a b ha hb => ?_, fun e he a ha => OwnC.lt (hI.bk.ok e he) a ha, OwnC.lt T3b.out, by omega, fun g hg => ?_⟩
    · have hb3 := L3.out b hb
      have hb4 := OwnC.lo T3.out b hb
      rcases hI.loc e (by simpa using he) a ha with hh | ⟨d, hd1, hd2⟩
      · omega
      · have := hlt2.out d hd1; omega
    · obtain ⟨_, hc⟩ := hI.bk.own.blk g hg
      exact (Array.getElem?_eq_some_iff.1 hc).1
  have l3 : w6.cell? ⟨w3.heap.size, 30, none⟩ = some (.slice sa3 sn3 sc3) := (Row.of N3b.out 30).trans d30
  clear hmm hI l2
  go_wp2_with fail
  refine (ownClaims_any w5.heap.size (w5.heap.size + 1) v6 ([] ++ M1) sa3 sn3 sc3 cl w6 II.out.bk (T3b.out.low (Nat.zero_le _)) A2.out (by omega) (by simp; omega) (by omega)).mono ?_
  rintro e w7 ⟨rfl, sl', n', c', v7, M2, hJ, hM2, hn'⟩
  have hz7 := hJ.fr.size
  have TBc : Hid (Below w.heap.size w w7) := hJ.fr.below TBb.out (by omega) (fun k hk h => by
    rcases h with h | h | ⟨b, h1, h2⟩
    · omega
    · rcases II.out.eloc k h with hh | hh
      · omega
      · cases hh
    · have := OwnC.lo T3.out b h1; omega)
  have KB : Hid (Bk w7 w5.heap.size (w5.heap.size + 1) v7 ([] ++ M1 ++ M2)) := hJ.bk
  have KM : Hid (∀ e ∈ [] ++ M1 ++ M2, 0 ≤ e.mark ∧ e.mark ≤ 1000 ∧ e.sn ≤ 100000) := by
    intro e he
    rcases List.mem_append.1 he with he | he
    · obtain ⟨h1, h2⟩ := II.out.le e (by simpa using he)
      rw [h2]
      exact ⟨by simp, by simp, by omega⟩
    · obtain ⟨h1, h2⟩ := hJ.le e he
      rw [h2]
      simp only [List.nil_append, hM1]
      exact ⟨by omega, by omega, by omega⟩
  clear hJ l3
  go_wp2_with fail
  refine (looks_any w5.heap.size (w5.heap.size + 1) v7 ([] ++ M1 ++ M2) w7 KB.out (by simp; omega) KM.out).mono ?_
  rintro e w8 ⟨rfl, hb8⟩
  have TBd : Hid (Below w.heap.size w w8) := TBc.out.trans (hb8.mono (by omega))
  clear hb8
  go_wp2
  go_ret
  exact ⟨rfl, TBd.out⟩
end Go.Proofs.Ytpnfkcbbjcimgaa
