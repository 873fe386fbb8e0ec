import Derived.Test.YtpnfkcbbjcimgaaRbody
import Derived.Laws.CopyOwn
namespace Go.Proofs.Ytpnfkcbbjcimgaa
open Go.RowKit
/-- Is a body one of a request that may be? -/
def decB (body : List (BitVec 8)) : Bool := (!(rdOf body).sh && (rdOf body).l.isEmpty) && mayB ((rdOf body).rq none (rdOf body).cl.length 0) (rdOf body).cl
theorem mayB_sl (d : Dat) (sa : Option Addr) (sn sc : Nat) (h : d.cl.length = sn) : mayB (d.rq sa sn sc) d.cl = mayB (d.rq none d.cl.length 0) d.cl := by subst h; rfl
theorem read_any (body : List (BitVec 8)) (hl : body.length ≤ 140737488355328) (w : World) :
    Calls Try.prog 47 #[.string (strB body)] w fun e w' => ∃ sa sn sc, e = .returned (.tuple #[.agg ((rdOf body).rq sa sn sc).row, .bool (!(rdOf body).sh && (rdOf body).l.isEmpty)]) ∧ OwnC w' w.heap.size (.slice sa sn sc) (rdOf body).cl ∧ Below w.heap.size w w' :=
  read_core body _ hl w rfl
theorem clIter_small (n : Nat) (s : Cs) : (clIter n s).l.length ≤ s.l.length := by
  induction n with
  | zero => exact Nat.le_refl _
  | succ n ih =>
    refine Nat.le_trans ?_ ih
    show (clStep (clIter n s)).l.length ≤ _
    unfold clStep
    exact Nat.le_trans (takeR_len _ _ _).1 (takeR_len _ _ _).1
theorem rd_tx (body : List (BitVec 8)) : (rdOf body).tx.length ≤ 1000 := by
  unfold rdOf
  dsimp only
  repeat' split
  all_goals first
    | (show ([] : List (BitVec 8)).length ≤ 1000; simp; done)
    | skip
  unfold rd4 textR
  dsimp only
  refine Nat.le_trans (takeR_len _ _ _).2 ?_
  have := (beN_bound (takeR (claimsR (takeR (takeR body false 1).l (takeR body false 1).sh 1).l (takeR (takeR body false 1).l (takeR body false 1).sh 1).sh).l (claimsR (takeR (takeR body false 1).l (takeR body false 1).sh 1).l (takeR (takeR body false 1).l (takeR body false 1).sh 1).sh).sh 1).got 1 (takeR_len _ _ _).2).2
  omega
set_option maxRecDepth 100000 in
set_option maxHeartbeats 1000000 in
theorem decode_core (body : List (BitVec 8)) (hl : body.length ≤ 140737488355328) (w : World) (wh mb : Bool) (hwh : Hid ((!(rdOf body).sh && (rdOf body).l.isEmpty) = wh)) (hmb : Hid (mayB ((rdOf body).rq none (rdOf body).cl.length 0) (rdOf body).cl = mb)) :
    Calls Try.prog 21 #[.string (strB body)] w fun e w' => Below w.heap.size w w' ∧ ((wh && mb) = true → ∃ sa sn sc, e = .returned (.tuple #[.agg ((rdOf body).rq sa sn sc).row, .int .i64 0]) ∧ OwnC w' w.heap.size (.slice sa sn sc) (rdOf body).cl) ∧
      ((wh && mb) = false → e = .returned (.tuple #[.agg z0.row, .int .i64 6])) := by
  go_enter Try.func21, Try.ntmps21
  go_wp2_with (refine wpList_alloc_req rfl rfl ?_)
  refine (read_any body hl _).mono ?_
  rintro e w1 ⟨sa, sn, sc, he, hown1, hb1⟩
  rw [hwh.out] at he
  subst he
  have hcn : (rdOf body).cl.length = sn := by
    obtain ⟨_, _, _, e, hc, _, _⟩ := hown1.cl
    cases e
    exact hc.1
  have htx : ((rdOf body).rq sa sn sc).tx.size ≤ 9223372036854775807 := by show (strB (rdOf body).tx).size ≤ _; rw [strB_size]; have := rd_tx body; omega
  have HM : Hid (mayB ((rdOf body).rq sa sn sc) (rdOf body).cl = mb) := (mayB_sl _ _ _ _ hcn).trans hmb.out
  obtain ⟨q, hq⟩ : ∃ q, Hid (q = (rdOf body).rq sa sn sc) := ⟨_, rfl⟩
  have hqs : q.sa = sa ∧ q.sn = sn := by rw [hq.out]; exact ⟨rfl, rfl⟩
  rw [← hq.out] at HM htx ⊢
  have hz1 := hb1.size
  simp at hz1
  have O1 : Hid (OwnC w1 (w.heap.size + 1) (.slice sa sn sc) (rdOf body).cl) := by
    show OwnC _ _ _ _
    simpa using hown1
  have X1 : Hid (w1.heap[w.heap.size]? = some (.cells z0.row 28)) := blk_later hb1 (by simp) (blk_newest rfl _)
  have B1 : Hid (Below w.heap.size w w1) := ((Below.refl _ _).alloc (Nat.le_refl _) _).trans (hb1.mono (by simp))
  have HQ : Hid (q.sa = sa ∧ q.sn = sn) := hqs
  have HT : Hid (q.tx.size ≤ 9223372036854775807) := htx
  have HN : Hid ((rdOf body).cl.length = sn) := hcn
  clear hb1 hown1 hqs htx hcn
  have X2 : Hid ((w1.alloc (.cells q.row 28)).heap[w.heap.size]? = some (.cells z0.row 28)) := blk_alloc (by omega) X1.out _
  have Y2 : Hid ((w1.alloc (.cells q.row 28)).heap[w1.heap.size]? = some (.cells q.row 28)) := blk_newest rfl _
  have O2 : Hid (OwnC (w1.alloc (.cells q.row 28)) (w.heap.size + 1) (.slice sa sn sc) (rdOf body).cl) := O1.out.alloc _
  have B2 : Hid (Below w.heap.size w (w1.alloc (.cells q.row 28))) := B1.out.alloc (by omega) _
  clear X1 O1 B1
  cases wh with
  | false =>
    go_upto_region 2 with (first | (refine wpList_alloc_req rfl rfl ?_) | (refine wpList_store_fresh rfl (.tmp 4) (.tmp 9) rfl w1.heap.size (by rfl) rfl z0 q (by rfl) ?_))
    go_wp2_with (first | (refine wpList_build_none rfl rfl ?_) | (refine wpList_store_req rfl (.tmp 2) (.tmp 18) rfl w.heap.size (by rfl) z0 z0 (by rfl) X2.out ?_))
    have hrow := setRow_heap _ _ z0.row z0.row 28 (0, 0) X2.out
    refine bodyPost_ret (v := .tuple #[.agg z0.row, .int .i64 6]) (results_req Try.results21 _ _ w.heap.size z0 (.int .i64 6) rfl rfl hrow) rfl ⟨below_setRow B2.out (Nat.le_refl _) _, fun h => (by cases h), fun _ => rfl⟩
  | true =>
  go_upto_region 2 with (first | (refine wpList_alloc_req rfl rfl ?_) | (refine wpList_store_fresh rfl (.tmp 4) (.tmp 9) rfl w1.heap.size (by rfl) rfl z0 q (by rfl) ?_))
  go_wp2_with (refine wpList_load_req rfl (.tmp 4) rfl _ rfl q Y2.out ?_)
  have hcl := (OwnC.cl O2.out)
  refine (mayBe_any q (rdOf body).cl _ (by obtain ⟨_, _, _, e, _, h, _⟩ := hcl; cases e; rw [HQ.out.2]; exact h) HT.out (by obtain ⟨_, _, _, e, h, _, _⟩ := hcl; cases e; rw [HQ.out.1, HQ.out.2]; exact h)).mono ?_
  rintro e w2 ⟨he, hb2⟩
  rw [HM.out] at he
  subst he
  have hz2 := hb2.size
  simp at hz2
  have X3 : Hid (w2.heap[w.heap.size]? = some (.cells z0.row 28)) := blk_later hb2 (by simp; omega) X2.out
  have Y3 : Hid (w2.heap[w1.heap.size]? = some (.cells q.row 28)) := blk_later hb2 (by simp) Y2.out
  have O3 : Hid (OwnC w2 (w.heap.size + 1) (.slice sa sn sc) (rdOf body).cl) := O2.out.kept (fun a ha => hb2.block _ (by obtain ⟨_, _, _, e, _, _, h⟩ := hcl; cases e; exact (h a ha).2))
  have B3 : Hid (Below w.heap.size w w2) := B2.out.trans (hb2.mono (by simp; omega))
  clear hb2 hcl X2 Y2 O2 B2
  cases mb with
  | false =>
    go_wp2_with (first | (refine wpList_build_none rfl rfl ?_) | (refine wpList_store_req rfl (.tmp 2) (.tmp 18) rfl w.heap.size (by rfl) z0 z0 (by rfl) X3.out ?_))
    have hrow := setRow_heap _ _ z0.row z0.row 28 (0, 0) X3.out
    refine bodyPost_ret (v := .tuple #[.agg z0.row, .int .i64 6]) (results_req Try.results21 _ _ w.heap.size z0 (.int .i64 6) rfl rfl hrow) rfl ⟨below_setRow B3.out (Nat.le_refl _) _, fun h => (by cases h), fun _ => rfl⟩
  | true =>
  go_wp2_with (first | (refine wpList_load_req rfl (.tmp 4) rfl _ rfl q Y3.out ?_) | (refine wpList_store_req rfl (.tmp 2) (.tmp 19) rfl w.heap.size (by rfl) z0 q (by rfl) X3.out ?_))
  have hrow := setRow_heap _ _ z0.row q.row 28 (0, 0) X3.out
  refine bodyPost_ret (v := .tuple #[.agg q.row, .int .i64 0]) (results_req Try.results21 _ _ w.heap.size q (.int .i64 0) rfl rfl hrow) rfl ⟨below_setRow B3.out (Nat.le_refl _) _, fun _ => ⟨sa, sn, sc, by rw [hq.out], ?_⟩, fun h => (by cases h)⟩
  exact World.ownsRow.mono (O3.out.kept (fun a ha => setRow_other _ _ _ _ (by obtain ⟨_, _, _, e, _, _, h⟩ := OwnC.cl O3.out; cases e; have := (h a ha).1; omega))) (by omega)
theorem decode_ok (body : List (BitVec 8)) (hl : body.length ≤ 140737488355328) (w : World) (h : decB body = true) :
    Calls Try.prog 21 #[.string (strB body)] w fun e w' => ∃ sa sn sc, e = .returned (.tuple #[.agg ((rdOf body).rq sa sn sc).row, .int .i64 0]) ∧ OwnC w' w.heap.size (.slice sa sn sc) (rdOf body).cl ∧ Below w.heap.size w w' :=
  (decode_core body hl w _ _ rfl rfl).mono fun e w' ⟨hb, h1, _⟩ => by
    obtain ⟨sa, sn, sc, he, ho⟩ := h1 h
    exact ⟨sa, sn, sc, he, ho, hb⟩
theorem decode_bad (body : List (BitVec 8)) (hl : body.length ≤ 140737488355328) (w : World) (h : decB body = false) :
    Calls Try.prog 21 #[.string (strB body)] w fun e w' => e = .returned (.tuple #[.agg z0.row, .int .i64 6]) ∧ Below w.heap.size w w' :=
  (decode_core body hl w _ _ rfl rfl).mono fun _ _ ⟨hb, _, h2⟩ => ⟨h2 h, hb⟩
end Go.Proofs.Ytpnfkcbbjcimgaa
