import Derived.Test.YtpnfkcbbjcimgaaChecked
import Derived.WalkKit
import Derived.WalkSpells
import Derived.WalkLawsBesides
import Derived.RegionTactic
import Derived.BigRegion
import Derived.BigQuiet
import Derived.Deep.RegionWith
import Derived.Deep.DeepCutAuto
import Derived.Deep.QuietTactic
import Derived.Deep.DeepMust
import Derived.Test.YtpnfkcbbjcimgaaSip
import Derived.Lib.AppendStr
namespace Go.Proofs.Ytpnfkcbbjcimgaa
open Go.RowKit
theorem rowInfo5 : (Try.prog.info? 5).map (fun i => (i.zero, i.size, i.bytes)) = some (some (.int .u8 0), 1, 1) := by kernel_rfl
/-- A byte's cell. -/
def bv (b : BitVec 8) : Value := .int .u8 (B b)
/-- A slice that the call itself has made, of these bytes. -/
def Own (w : World) (base : Nat) (v : Value) (l : List (BitVec 8)) : Prop := w.ownsRow base 5 1 v l.length (l.map bv)
theorem bv_one (l : List (BitVec 8)) : ∀ u ∈ l.map bv, u.oneCell' = true := by
  intro u hu
  obtain ⟨b, _, rfl⟩ := List.mem_map.1 hu
  rfl
theorem wpList_app {w : World} {ops : Array Oper} {rest : List Oper} {o : Oper} {a : Act} {Q : Exit → Act → World → Prop} (hgd : o.guard = none) (s x : Operand)
    (ho : o.op = .call { callee := .builtin .append, args := #[s, x], argTypes := #[65, 65] }) (base : Nat) (v : Value) (l nb : List (BitVec 8)) (hs : a.eval s = v) (hown : Own w base v l)
    (ad : Addr) (m c : Nat) (hx : a.eval x = .slice (some ad) m c) (hm : nb.length = m) (hnews : ∀ j u, (nb.map bv)[j]? = some u → w.cell? (ad.add j) = some u) (hsm : l.length + m ≤ 100000) (hbase : base ≤ w.heap.size)
    (h : ∀ v' w', Own w' base v' (l ++ nb) → w.grownBy w' v.ownBlock → wpList Try.prog ops Q rest (a.put o.dst v') w') : wpList Try.prog ops Q (o :: rest) a w := by
  obtain ⟨i0, hi, hz0, hz1, hz2⟩ := info_parts rowInfo5
  subst hm
  refine wpList_append_own w hgd s x 65 ho base 5 i0 (.int .u8 0) 1 1 Try.underlying65 hi hz0 hz1 hz2 rfl (by decide) v l.length (l.map bv) hs hown ad nb.length c (nb.map bv) hx (by simp) hnews (bv_one nb) (by unfold maxLen; omega) (by omega) hbase ?_
  intro v' w' h1 h2 _
  refine h v' w' ?_ h2
  unfold Own
  rw [List.length_append, List.map_append]
  exact h1
theorem Own.alloc {w : World} {base : Nat} {v : Value} {l : List (BitVec 8)} (h : Own w base v l) (o : Obj) : Own (w.alloc o) base v l := World.ownsRow.alloc h o
theorem Own.nil (w : World) (base : Nat) : Own w base (.slice none 0 0) [] := World.ownsRow_nil w base 5 1
theorem Own.below {w w' : World} {base : Nat} {v : Value} {l : List (BitVec 8)} (h : Own w base v l) (hg : w.grownBy w' v.ownBlock) (hb : base ≤ w.heap.size) : Below base w w' :=
  (Below.refl base w).grown hg hb (fun k hk => (World.ownsRow.lt h k hk).1)
theorem news_newest {W : World} {n : Nat} {c : Array Value} {t : TypeId} {nb : List (BitVec 8)} (hn : W.heap.size = n) (hc : c.toList = nb.map bv) : ∀ j u, (nb.map bv)[j]? = some u → (W.alloc (.cells c t)).cell? ((⟨n, 0, none⟩ : Addr).add j) = some u := by
  intro j u hu
  subst hn
  rw [← hc] at hu
  have hadd : (⟨W.heap.size, 0, none⟩ : Addr).add j = ⟨W.heap.size, j, none⟩ := by unfold Addr.add; split <;> simp_all
  rw [hadd, World.cell?_alloc_new]
  simpa using hu
/-- A number as so many bytes, the highest first: the first j of them. -/
def numTo (n : Int) (size j : Nat) : List (BitVec 8) := (List.range j).map fun i => BitVec.ofInt 8 (n / 2 ^ (8 * (size - 1 - i)))
theorem numTo_succ (n : Int) (size j : Nat) : numTo n size (j + 1) = numTo n size j ++ [BitVec.ofInt 8 (n / 2 ^ (8 * (size - 1 - j)))] := by
  unfold numTo
  rw [List.range_succ, List.map_append]; rfl
theorem numTo_length (n : Int) (size j : Nat) : (numTo n size j).length = j := by unfold numTo; simp
theorem B_ofInt (n : Int) : B (BitVec.ofInt 8 n) = n % 256 := by
  unfold B; rw [BitVec.toNat_ofInt]; omega
set_option maxRecDepth 100000 in
set_option maxHeartbeats 1000000 in
theorem appendNumber_any (base : Nat) (v : Value) (l : List (BitVec 8)) (n : Int) (sz : Int) (size : Nat) (hsz : sz = (size : Int)) (hs8 : size ≤ 8) (hl : l.length ≤ 10000) (w : World) (hbase : base ≤ w.heap.size) (hown : Own w base v l) :
    Calls Try.prog 35 #[v, .int .i64 n, .int .i64 sz] w fun e w' => ∃ v', e = .returned v' ∧ Own w' base v' (l ++ numTo n size size) ∧ Below base w w' := by
  subst hsz
  have O0 : Hid (Own w base v l) := hown
  clear hown
  go_enter Try.func35, Try.ntmps35
  go_wp2
  go_loopw [0, 7] (fun v i wr => ∃ j : Nat, j ≤ size ∧ i = .int .i64 ((size : Int) - 1 - j) ∧ Own wr base v (l ++ numTo n size j) ∧ Below base w wr ∧ base ≤ wr.heap.size) (fun _ i _ => (intOf i + 1).toNat)
  case atStart => exact ⟨0, by omega, by go_num, by simpa [numTo] using O0.out, Below.refl _ _, hbase⟩
  case round =>
    obtain ⟨j, hj, rfl, hown, hb, hbs⟩ := hrel
    have O : Hid (Own wr base _ (l ++ numTo n size j)) := hown
    have BB : Hid (Below base w wr) := hb
    clear hown hb O0
    by_cases hlt : j < size
    · have hlen : (l ++ numTo n size j).length + 1 ≤ 100000 := by rw [List.length_append, numTo_length]; omega
      go_wp2_with (at_builtin; refine wpList_app rfl _ _ rfl base _ (l ++ numTo n size j) [BitVec.ofInt 8 (n / 2 ^ (8 * (size - 1 - j)))] rfl (O.out.alloc _) ⟨wr.heap.size, 0, none⟩ 1 1 rfl rfl (news_newest rfl (by simp [bv, B_ofInt])) hlen (by simp; omega) ?_; intro v' w1 hown1 hgrow1)
      have O1 : Hid (Own w1 base v' (l ++ numTo n size (j + 1))) := by
        show Own w1 base v' _
        rw [numTo_succ, ← List.append_assoc]
        exact hown1
      have B1 : Hid (Below base w w1) := (BB.out.alloc hbs _).trans ((O.out.alloc _).below hgrow1 (by simp; omega))
      have hz1 := hgrow1.size
      simp at hz1
      clear hown1 hgrow1
      go_wp2
      go_roundw
      case rel => exact ⟨j + 1, by omega, by go_num, O1.out, B1.out, by omega⟩
      case measure => simp [intOf]; omega
    · have e : j = size := by omega
      subst e
      go_wp2
      go_ret
      exact ⟨_, rfl, O.out, BB.out⟩
end Go.Proofs.Ytpnfkcbbjcimgaa
