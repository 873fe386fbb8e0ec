import Derived.Test.YtpnfkcbbjcimgaaCdat
namespace Go.Proofs.Ytpnfkcbbjcimgaa
open Go.RowKit
theorem wrap3 (k : Nat) (hk : k ≤ 255) : IntKind.i64.wrap (3 * (k : Int)) = 3 * (k : Int) := by rw [IntKind.wrap_i64]; omega
theorem wrap33 (k : Nat) (hk : k ≤ 255) : IntKind.i64.wrap (3 + 3 * (k : Int)) = 3 + 3 * (k : Int) := by rw [IntKind.wrap_i64]; omega
theorem wrap43 (k : Nat) (hk : k ≤ 255) : IntKind.i64.wrap (4 + 3 * (k : Int)) = 4 + 3 * (k : Int) := by rw [IntKind.wrap_i64]; omega
section
variable {ops : Array Oper} {Q : Exit → Act → World → Prop} {i : Nat} {K : Act → World → Prop} {a : Act} {w : World} {o : Oper}
theorem wpOp_val (ho : ops[i]? = some o) (hw : Region.wanted o (yielded ops a.tmps) = true) (v : Value) (w' : World) (h : (execOp a.eval o).run Try.prog w = .ok (.value v) w') (hk : K (a.put o.dst v) w') : wpOp Try.prog ops Q i K a w := by
  refine wpOp_step ho (fun K1 hK => ?_)
  rw [if_pos hw]
  unfold Oper.wp
  rw [h]
  exact hK _ _ hk
theorem wpOp_skip (ho : ops[i]? = some o) (hw : Region.wanted o (yielded ops a.tmps) = true) (w' : World) (h : (execOp a.eval o).run Try.prog w = .ok .skip w') (hk : K (a.put o.dst undef) w') : wpOp Try.prog ops Q i K a w := by
  refine wpOp_step ho (fun K1 hK => ?_)
  rw [if_pos hw]
  unfold Oper.wp
  rw [h]
  exact hK _ _ hk
theorem wpOp_call (ho : ops[i]? = some o) (hw : Region.wanted o (yielded ops a.tmps) = true) (v : Value) (f : FuncId) (args : Array Value) (h : (execOp a.eval o).run Try.prog w = .ok (.enter f args) w) (hc : Calls Try.prog f args w fun e w' => e = .returned v ∧ w' = w) (hk : K (a.put o.dst v) w) : wpOp Try.prog ops Q i K a w := by
  refine wpOp_step ho (fun K1 hK => ?_)
  rw [if_pos hw]
  unfold Oper.wp
  rw [h]
  refine hc.mono ?_
  rintro e w' ⟨rfl, rfl⟩
  exact hK _ _ hk
theorem wpOp_appC (ho : ops[i]? = some o) (hw : Region.wanted o (yielded ops a.tmps) = true) (s x : Operand)
    (hop : o.op = .call { callee := .builtin .append, args := #[s, x], argTypes := #[26, 26] }) (base : Nat) (v : Value) (cl nc : List (Int × Int)) (hs : a.eval s = v) (hown : OwnC w base v cl)
    (ad : Addr) (m c : Nat) (hx : a.eval x = .slice (some ad) m c) (hm : nc.length = m) (hnews : ∀ j u, (nc.flatMap cv)[j]? = some u → w.cell? (ad.add j) = some u) (hsm : cl.length + m ≤ 100000) (hbase : base ≤ w.heap.size)
    (h : ∀ v' w', OwnC w' base v' (cl ++ nc) → w.grownBy w' v.ownBlock → K (a.put o.dst v') w') : wpOp Try.prog ops Q i K a w := by
  refine wpOp_step ho (fun K1 hK => ?_)
  rw [if_pos hw]
  obtain ⟨i0, hi, hz0, hz1, hz2⟩ := info_parts rowInfo69
  subst hm
  refine wp_append_own w s x 26 hop base 69 i0 (.agg #[.int .i64 0, .int .i64 0]) 2 16 Try.underlying26 hi hz0 hz1 hz2 rfl (by decide) v cl.length (cl.flatMap cv) hs hown ad nc.length c (nc.flatMap cv) hx (cv_length nc) hnews (cv_one nc) (by unfold maxLen; omega) (by omega) hbase ?_
  intro v' w' h1 h2 _
  refine hK _ _ (h v' w' ?_ h2)
  unfold OwnC
  rw [List.length_append, List.flatMap_append]
  exact h1
end
end Go.Proofs.Ytpnfkcbbjcimgaa
