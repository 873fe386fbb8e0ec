import Derived.Test.YtpnfkcbbjcimgaaRq
namespace Go.Proofs.Ytpnfkcbbjcimgaa
open Go.RowKit
attribute [local go_sem] row_0 row_30 row_31
/-- May a request be? -/
def mayB (q : Rq) (cl : List (Int × Int)) : Bool :=
  isKind q.kd && numB (bdOf q.kd) q.ac q.dv q.rg q.cu q.mo && arrB (bdOf q.kd) q.key q.mac && decide ((q.tx.size : Int) ≤ (bdOf q.kd).t) && decide ((q.sn : Int) ≤ (bdOf q.kd).cl) && clOk (-1) cl
set_option maxRecDepth 100000 in
set_option maxHeartbeats 4000000 in
theorem mayBe_core (q : Rq) (cl : List (Int × Int)) (w : World) (hn : q.sn ≤ 9223372036854775807) (_ht : q.tx.size ≤ 9223372036854775807) (hcl : Cl w q.sa q.sn cl)
    (ba bd br bc bm bcl bt : Int) (bk bmac ik nb ab cb : Bool) (hbd : Hid (bdOf q.kd = ⟨ba, bd, br, bc, bm, bcl, bt, bk, bmac⟩)) (hik : Hid (isKind q.kd = ik)) (hnb : Hid (numB ⟨ba, bd, br, bc, bm, bcl, bt, bk, bmac⟩ q.ac q.dv q.rg q.cu q.mo = nb)) (hab : Hid (arrB ⟨ba, bd, br, bc, bm, bcl, bt, bk, bmac⟩ q.key q.mac = ab)) (hcb : Hid (clOk (-1) cl = cb)) :
    Calls Try.prog 33 #[.agg q.row] w fun e w' => e = .returned (.bool (ik && nb && ab && decide ((q.tx.size : Int) ≤ bt) && decide ((q.sn : Int) ≤ bcl) && cb)) ∧ Below w.heap.size w w' := by
  have HC : Hid (Cl w q.sa q.sn cl) := hcl
  clear hcl
  go_enter Try.func33, Try.ntmps33
  go_wp2_with fail
  refine (boundsOf_any _ _).mono ?_
  rintro e w1 ⟨he, hb1⟩
  rw [hbd.out, hik.out] at he
  subst he
  simp only [bdV]
  have hz1 := hb1.size
  simp at hz1
  have R0 : w1.heap[w.heap.size]? = some (.cells q.row 28) := blk_later hb1 (by simp) (blk_newest rfl _)
  have H1 : Hid ((w1.alloc (.cells #[.int .i64 ba, .int .i64 bd, .int .i64 br, .int .i64 bc, .int .i64 bm, .int .i64 bcl, .int .i64 bt, .bool bk, .bool bmac] 108)).heap[w.heap.size]? = some (.cells q.row 28)) := blk_alloc (by omega) R0 _
  have D1 := Row.of (blk_newest (w := w1) rfl (.cells #[.int .i64 ba, .int .i64 bd, .int .i64 br, .int .i64 bc, .int .i64 bm, .int .i64 bcl, .int .i64 bt, .bool bk, .bool bmac] 108))
  have B1 : Hid (Below w.heap.size w (w1.alloc (.cells #[.int .i64 ba, .int .i64 bd, .int .i64 br, .int .i64 bc, .int .i64 bm, .int .i64 bcl, .int .i64 bt, .bool bk, .bool bmac] 108))) := (((Below.refl _ _).alloc (Nat.le_refl _) _).trans (hb1.mono (by simp))).alloc (by omega) _
  unfold Row at D1
  clear hb1 R0
  cases ik with
  | false =>
    go_wp2
    go_ret
    exact ⟨by simp, B1.out⟩
  | true =>
  go_wp2_with (refine wpList_load_req rfl (.tmp 1) rfl _ rfl q H1.out ?_)
  refine (holdNumbers_q ⟨ba, bd, br, bc, bm, bcl, bt, bk, bmac⟩ q _).mono ?_
  rintro e w2 ⟨he, hb2⟩
  rw [hnb.out] at he
  subst he
  have hz2 := hb2.size
  simp at hz2
  have H2 : Hid (w2.heap[w.heap.size]? = some (.cells q.row 28)) := blk_later hb2 (by simp; omega) H1.out
  have DH : Hid (w2.heap[w1.heap.size]? = some (.cells #[.int .i64 ba, .int .i64 bd, .int .i64 br, .int .i64 bc, .int .i64 bm, .int .i64 bcl, .int .i64 bt, .bool bk, .bool bmac] 108)) := blk_later hb2 (by simp) (blk_newest rfl _)
  have D2 := Row.of DH.out
  have B2 : Hid (Below w.heap.size w w2) := B1.out.trans (hb2.mono (by simp; omega))
  unfold Row at D2
  clear hb2 H1 D1 B1
  cases nb with
  | false =>
    go_wp2
    go_ret
    exact ⟨by simp, B2.out⟩
  | true =>
  go_wp2_with (refine wpList_load_req rfl (.tmp 1) rfl _ rfl q H2.out ?_)
  refine (holdArrays_q ⟨ba, bd, br, bc, bm, bcl, bt, bk, bmac⟩ q _).mono ?_
  rintro e w3 ⟨he, hb3⟩
  rw [hab.out] at he
  subst he
  have hz3 := hb3.size
  have R3 := Row.of (blk_later hb3 (by omega) H2.out)
  have D3 := Row.of (blk_later hb3 (by omega) DH.out)
  have B3 : Hid (Below w.heap.size w w3) := B2.out.trans (hb3.mono (by omega))
  unfold Row at R3 D3
  clear hb3 H2 D2 B2 DH
  cases ab with
  | false =>
    go_wp2
    go_ret
    exact ⟨by simp, B3.out⟩
  | true =>
  cases h4 : decide ((q.tx.size : Int) ≤ bt) with
  | false =>
    go_wp2
    go_ret
    exact ⟨by have q4 := of_decide_eq_false h4; simp [q4], B3.out⟩
  | true =>
  cases h5 : decide ((q.sn : Int) ≤ bcl) with
  | false =>
    go_wp2
    go_ret
    exact ⟨by have q5 := of_decide_eq_false h5; simp [q5], B3.out⟩
  | true =>
  go_wp2_with fail
  refine (claimsMayBe_any _ _ _ cl _ hn (HC.out.later B3.out)).mono ?_
  rintro e w4 ⟨he, hb4⟩
  rw [hcb.out] at he
  subst he
  go_wp2
  go_ret
  exact ⟨by have q4 := of_decide_eq_true h4; have q5 := of_decide_eq_true h5; simp [q4, q5], B3.out.trans (hb4.mono B3.out.size)⟩
theorem mayBe_any (q : Rq) (cl : List (Int × Int)) (w : World) (hn : q.sn ≤ 9223372036854775807) (ht : q.tx.size ≤ 9223372036854775807) (hcl : Cl w q.sa q.sn cl) :
    Calls Try.prog 33 #[.agg q.row] w fun e w' => e = .returned (.bool (mayB q cl)) ∧ Below w.heap.size w w' :=
  mayBe_core q cl w hn ht hcl (bdOf q.kd).a (bdOf q.kd).d (bdOf q.kd).r (bdOf q.kd).c (bdOf q.kd).m (bdOf q.kd).cl (bdOf q.kd).t (bdOf q.kd).k (bdOf q.kd).mac _ _ _ _ rfl rfl rfl rfl rfl
end Go.Proofs.Ytpnfkcbbjcimgaa
