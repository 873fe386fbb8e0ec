import Derived.Test.YtpnfkcbbjcimgaaLook
namespace Go.Proofs.Ytpnfkcbbjcimgaa
open Go.RowKit
theorem marks_get (n i : Nat) (k : Int) (h : i < n) : (marks n k).getD i (0, 0) = (-1 - k, 0) := by
  simp [marks, List.getD, h]
set_option maxRecDepth 100000 in
set_option maxHeartbeats 4000000 in
theorem looks_any (p base : Nat) (v : Value) (L : List Ent) (w : World) (hB : Bk w p base v L) (hL : L.length ≤ 1000) (hM : ∀ e ∈ L, 0 ≤ e.mark ∧ e.mark ≤ 1000 ∧ e.sn ≤ 100000) :
    Calls Try.prog 19 #[.pointer (some ⟨p, 0, none⟩)] w fun e w' => e = .returned (.bool true) ∧ Below w.heap.size w w' := by
  have HB : Hid (Bk w p base v L) := hB
  have HM : Hid (∀ e ∈ L, 0 ≤ e.mark ∧ e.mark ≤ 1000 ∧ e.sn ≤ 100000) := hM
  obtain ⟨va, vc, hv⟩ := hB.own.form
  have b0 := (Row.of hB.blk 0).trans (bk_0 _)
  have b1 := (Row.of hB.blk 1).trans (bk_1 _)
  clear hB hM
  subst hv
  go_enter Try.func19, Try.ntmps19
  go_wp2_with fail
  go_loopw [3] (fun i wr => i = .int .i64 0 ∧ wr = w) (fun _ _ => 0)
  case atStart => exact ⟨rfl, rfl⟩
  case round =>
  obtain ⟨rfl, hwr⟩ := hrel
  replace hwr := hwr.symm
  subst hwr
  go_wp2_with fail
  go_loopw [5] (fun i wx => i = .int .i64 0 ∧ wx = w) (fun _ _ => 0)
  case atStart => exact ⟨rfl, rfl⟩
  case round =>
  obtain ⟨rfl, hwr⟩ := hrel
  replace hwr := hwr.symm
  subst hwr
  go_wp2_with fail
  go_loopw [8] (fun i wx => ∃ k : Nat, k ≤ L.length ∧ i = .int .i64 k ∧ Below w.heap.size w wx) (fun i _ => L.length - (intOf i).toNat)
  case atStart => exact ⟨0, Nat.zero_le _, rfl, Below.refl _ _⟩
  case round =>
  obtain ⟨k, hk, rfl, hb⟩ := hrel
  have BB : Hid (Below w.heap.size w wr) := hb
  have hzr := hb.size
  clear hb b0 b1
  by_cases hlt : k < L.length
  · obtain ⟨g, hg, hc1, hc2⟩ := HB.out.own.get k hlt
    subst hg
    have hok := HB.out.ok L[k] (List.getElem_mem hlt)
    have hmm := HM.out L[k] (List.getElem_mem hlt)
    obtain ⟨_, _, _, he, hcl, _, _⟩ := OwnC.cl hok
    cases he
    have b2 := cell_later BB.out ((Row.of HB.out.blk 2).trans (bk_2 _))
    have c1 := cell_later BB.out hc1
    have c2 := cell_later BB.out hc2
    have HC : Hid (Cl w L[k].sa L[k].sn (marks L[k].sn L[k].mark)) := hcl
    clear hc1 hc2 hok hcl
    generalize L[k] = e at *
    obtain ⟨sa, sn, sc, mark⟩ := e
    dsimp only at *
    have hw1 : IntKind.i64.wrap (-1 - mark) = -1 - mark := by rw [IntKind.wrap_i64]; omega
    go_wp2_with fail
    obtain ⟨W1, hW1⟩ : ∃ W1, Hid (W1 = wr.alloc (.cells #[.int .i64 (-1 - mark), .int .i64 0] 69)) := ⟨_, rfl⟩
    have MB : Hid (W1.heap[wr.heap.size]? = some (.cells #[.int .i64 (-1 - mark), .int .i64 0] 69)) := by show _ = _; rw [hW1.out]; exact blk_newest rfl _
    have hs1 : W1.heap.size = wr.heap.size + 1 := by rw [hW1.out]; simp
    have BW : Hid (Below wr.heap.size wr W1) := by show Below _ _ _; rw [hW1.out]; exact (Below.refl _ _).alloc (Nat.le_refl _) _
    rw [← hW1.out]
    have Hb2 : Hid _ := b2
    have Hc1 : Hid _ := c1
    clear b2 c1 c2
    go_loopw [10] (fun i wx => ∃ j : Nat, j ≤ sn ∧ i = .int .i64 j ∧ Below W1.heap.size W1 wx) (fun i _ => sn - (intOf i).toNat)
    case atStart => exact ⟨0, Nat.zero_le _, rfl, Below.refl _ _⟩
    case round =>
      obtain ⟨j, hj, rfl, hbx⟩ := hrel
      have BX : Hid (Below W1.heap.size W1 wr) := hbx
      have b2 := cell_later hbx (cell_later BW.out Hb2.out)
      have c1 := cell_later hbx (cell_later BW.out Hc1.out)
      have R := Row.of MB.out
      have m0 := cell_later hbx (R 0)
      have m1 := cell_later hbx (R 1)
      have B1 : Hid (Below w.heap.size w W1) := BB.out.trans (BW.out.mono hzr)
      clear hbx R
      by_cases hlj : j < sn
      · obtain ⟨b, off, hs, hcell⟩ := HC.out.2.resolve_left (by omega)
        subst hs
        have d1 := cell_later BX.out (cell_later B1.out (hcell j hlj).1)
        have d2 := cell_later BX.out (cell_later B1.out (hcell j hlj).2)
        rw [marks_get _ _ _ hlj] at d1 d2
        clear hcell
        go_wp2_with fail
        go_quiet (fail)
        go_wp2
        go_roundw
        case rel => exact ⟨j + 1, by omega, by go_num, BX.out.trans ⟨rfl, rfl, rfl, Nat.le_refl _, fun _ _ => rfl⟩⟩
        case measure => simp [intOf]; omega
      · have hje : j = sn := by omega
        have hw2 := B1.out.size
        go_wp2
        go_roundw
        case rel => exact ⟨k + 1, by omega, by go_num, B1.out.trans (BX.out.mono hw2)⟩
        case measure => simp [intOf]; omega
  · have b3 := cell_later BB.out ((Row.of HB.out.blk 3).trans (bk_3 _))
    have b4 := cell_later BB.out ((Row.of HB.out.blk 4).trans (bk_4 _))
    have b5 := cell_later BB.out ((Row.of HB.out.blk 5).trans (bk_5 _))
    have b2 := cell_later BB.out ((Row.of HB.out.blk 2).trans (bk_2 _))
    go_wp2_with fail
    refine (others_any p _ b3 b4 b5).mono ?_
    rintro e _ ⟨rfl, h9⟩
    rw [h9]
    clear h9
    go_wp2
    go_ret
    exact ⟨rfl, BB.out⟩
end Go.Proofs.Ytpnfkcbbjcimgaa
