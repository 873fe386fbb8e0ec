import Derived.WalkKit
namespace Go.Proofs.Ytpnfkcbbjcimgaa
open Go.RowKit
/-- A word of 64 bits as the number that a uint64 holds. -/
def U (x : BitVec 64) : Int := (x.toNat : Int)
theorem U_nonneg (x : BitVec 64) : 0 ≤ U x := by unfold U; omega
theorem U_lt (x : BitVec 64) : U x < 18446744073709551616 := by unfold U; have := x.isLt; omega
theorem U_inj {x y : BitVec 64} (h : U x = U y) : x = y := by
  unfold U at h; exact BitVec.eq_of_toNat_eq (by omega)
theorem U_add (x y : BitVec 64) : IntKind.u64.wrap (U x + U y) = U (x + y) := by
  rw [IntKind.wrap_u64]; unfold U; rw [BitVec.toNat_add]; omega
theorem U_xor (x y : BitVec 64) : bits .xor .u64 (U x) (U y) = U (x ^^^ y) := by
  unfold U; rw [bits_xor_u64_nat _ _ (by have := x.isLt; omega) (by have := y.isLt; omega), BitVec.toNat_xor]
theorem U_or (x y : BitVec 64) : bits .or .u64 (U x) (U y) = U (x ||| y) := by
  unfold U; rw [bits_or_u64_nat _ _ (by have := x.isLt; omega) (by have := y.isLt; omega), BitVec.toNat_or]
theorem U_shl (x : BitVec 64) (m : Nat) : IntKind.u64.wrap (U x * 2 ^ m) = U (x <<< m) := by
  rw [IntKind.wrap_u64]; unfold U; rw [BitVec.toNat_shiftLeft, Nat.shiftLeft_eq]
  have h : ((2 : Int) ^ m) = ((2 ^ m : Nat) : Int) := by simp
  rw [h, ← Int.natCast_mul]
  generalize x.toNat * 2 ^ m = t
  omega
theorem U_shr (x : BitVec 64) (m : Nat) : U x / 2 ^ m = U (x >>> m) := by
  unfold U; rw [BitVec.toNat_ushiftRight, Nat.shiftRight_eq_div_pow]
  have h : ((2 : Int) ^ m) = ((2 ^ m : Nat) : Int) := by simp
  rw [h, ← Int.natCast_ediv]
/-- Turned left. -/
def rol (x : BitVec 64) (k : Nat) : BitVec 64 := x <<< k ||| x >>> (64 - k)
theorem rol_walk (x : BitVec 64) (m : Nat) : bits .or .u64 (IntKind.u64.wrap (U x * 2 ^ m)) (U x / 2 ^ (64 - m)) = U (rol x m) := by
  rw [U_shl, U_shr, U_or]; rfl
theorem rol_zero (x : BitVec 64) : rol x 0 = x := by
  unfold rol
  apply BitVec.eq_of_getLsbD_eq
  intro i hi
  simp [BitVec.getLsbD_or, BitVec.getLsbD_ushiftRight]
theorem rol_succ (x : BitVec 64) (j : Nat) (hj : j + 1 < 64) : rol x (j + 1) = rol x j <<< 1 ||| rol x j >>> 63 := by
  unfold rol
  apply BitVec.eq_of_getLsbD_eq
  intro i hi
  simp only [BitVec.getLsbD_or, BitVec.getLsbD_shiftLeft, BitVec.getLsbD_ushiftRight]
  by_cases h0 : i = 0
  · subst h0
    have e : (64 - (j + 1)) + 0 = 63 - j := by omega
    simp only [e]
    have : ¬ (63 + 0 < j) := by omega
    have e2 : 63 + 0 - j = 63 - j := by omega
    have hlt : 63 + 0 < 64 := by omega
    rw [e2]
    simp [BitVec.getLsbD_of_ge, show 64 - j + 63 ≥ 64 from by omega, hlt]
    intro h; omega
  · obtain ⟨i, rfl⟩ : ∃ k, i = k + 1 := ⟨i - 1, by omega⟩
    have e1 : i + 1 - (j + 1) = i - j := by omega
    have e2 : 64 - (j + 1) + (i + 1) = 64 - j + i := by omega
    have e3 : i + 1 - 1 = i := by omega
    rw [e1, e2, e3]
    have hi' : i < 64 := by omega
    have hlt : (i + 1 < j + 1) ↔ (i < j) := by omega
    have hz : (x <<< j ||| x >>> (64 - j)).getLsbD (63 + (i + 1)) = false := BitVec.getLsbD_of_ge _ _ (by omega)
    simp only [BitVec.getLsbD_or, BitVec.getLsbD_shiftLeft, BitVec.getLsbD_ushiftRight] at hz
    rw [hz]
    simp [hi, hi', hlt]
theorem rol_step (y : BitVec 64) : IntKind.u64.wrap (IntKind.u64.wrap (U y * 2) + U y / 9223372036854775808) = U (y <<< 1 ||| y >>> 63) := by
  rw [IntKind.wrap_u64, IntKind.wrap_u64]
  unfold U
  rw [BitVec.toNat_or, BitVec.toNat_shiftLeft, BitVec.toNat_ushiftRight, Nat.shiftLeft_eq, Nat.shiftRight_eq_div_pow]
  have hy := y.isLt
  generalize y.toNat = n at hy
  have e : n * 2 ^ 1 % 2 ^ 64 = 2 ^ 1 * (n % 9223372036854775808) := by omega
  rw [e, ← Nat.two_pow_add_eq_or_of_lt (by omega)]
  omega

/-- A byte as the number that it holds. -/
def B (x : BitVec 8) : Int := (x.toNat : Int)
theorem B_nonneg (x : BitVec 8) : 0 ≤ B x := by unfold B; omega
theorem B_lt (x : BitVec 8) : B x < 256 := by unfold B; have := x.isLt; omega
theorem B_of (n : Int) (h0 : 0 ≤ n) (h1 : n < 256) : ∃ x : BitVec 8, n = B x := ⟨BitVec.ofNat 8 n.toNat, by unfold B; rw [BitVec.toNat_ofNat]; omega⟩
/-- Bytes as a number, the lowest first. -/
def leN : List (BitVec 8) → Nat
  | [] => 0
  | b :: r => b.toNat + 256 * leN r
theorem leN_lt (l : List (BitVec 8)) : leN l < 256 ^ l.length := by
  induction l with
  | nil => simp [leN]
  | cons b r ih =>
    have hb := b.isLt
    simp only [leN, List.length_cons, Nat.pow_succ]
    omega
theorem leN_snoc (l : List (BitVec 8)) (b : BitVec 8) : leN (l ++ [b]) = leN l + 256 ^ l.length * b.toNat := by
  induction l with
  | nil => simp [leN]
  | cons c r ih =>
    simp only [leN, List.cons_append, List.length_cons, Nat.pow_succ, ih, Nat.mul_add]
    rw [Nat.mul_comm (256 ^ r.length) 256, Nat.mul_assoc, Nat.add_assoc]
def leW (l : List (BitVec 8)) : BitVec 64 := BitVec.ofNat 64 (leN l)
theorem U_leW (l : List (BitVec 8)) (h : l.length ≤ 8) : U (leW l) = (leN l : Int) := by
  have h1 := leN_lt l
  have h2 : 256 ^ l.length ≤ 256 ^ 8 := Nat.pow_le_pow_right (by omega) h
  unfold U leW
  rw [BitVec.toNat_ofNat, Nat.mod_eq_of_lt]
  exact Nat.lt_of_lt_of_le h1 h2

theorem B_U (b : BitVec 8) : B b = U (b.zeroExtend 64) := by
  unfold B U
  have := b.isLt
  rw [BitVec.toNat_setWidth, Nat.mod_eq_of_lt (by omega)]
theorem toNat_leW (l : List (BitVec 8)) (h : l.length ≤ 8) : (leW l).toNat = leN l := by
  have := U_leW l h
  unfold U at this; omega
theorem leW_snoc (l : List (BitVec 8)) (b : BitVec 8) (h : l.length < 8) : leW (l ++ [b]) = leW l ||| b.zeroExtend 64 <<< (8 * l.length) := by
  apply BitVec.eq_of_toNat_eq
  have hb := b.isLt
  have h1 := leN_lt l
  have e : (256 : Nat) ^ l.length = 2 ^ (8 * l.length) := by rw [show (256 : Nat) = 2 ^ 8 from rfl, ← Nat.pow_mul]
  have hp : 2 ^ (8 * l.length) * 256 ≤ 2 ^ 64 := by
    rw [show (256 : Nat) = 2 ^ 8 from rfl, ← Nat.pow_add]
    exact Nat.pow_le_pow_right (by omega) (by omega)
  have hlt : b.toNat * 2 ^ (8 * l.length) < 2 ^ 64 := by
    refine Nat.lt_of_lt_of_le ?_ hp
    rw [Nat.mul_comm]
    exact Nat.mul_lt_mul_of_pos_left (by omega) (Nat.pow_pos (by omega))
  rw [toNat_leW _ (by simp; omega), leN_snoc, BitVec.toNat_or, toNat_leW _ (by omega), BitVec.toNat_shiftLeft, BitVec.toNat_setWidth, Nat.mod_eq_of_lt (show b.toNat < 2 ^ 64 from by omega), Nat.shiftLeft_eq, Nat.mod_eq_of_lt hlt, e]
  rw [Nat.or_comm, Nat.mul_comm b.toNat, ← Nat.two_pow_add_eq_or_of_lt (by rw [← e]; exact h1)]
  omega
theorem word_step (x : BitVec 64) (b : BitVec 8) (k : Nat) : bits .or .u64 (U x) (IntKind.u64.wrap (B b * 2 ^ (8 * k))) = U (x ||| b.zeroExtend 64 <<< (8 * k)) := by
  rw [B_U, U_shl, U_or]
theorem refword_step (r : List (BitVec 8)) (b : BitVec 8) (h : r.length < 8) : IntKind.u64.wrap (IntKind.u64.wrap (U (leW r) * 256) + B b) = U (leW (b :: r)) := by
  have h1 := leN_lt (b :: r)
  have h2 : 256 ^ (b :: r).length ≤ 256 ^ 8 := Nat.pow_le_pow_right (by omega) (by simp; omega)
  rw [U_leW _ (by omega), U_leW _ (by simp; omega), IntKind.wrap_u64, IntKind.wrap_u64]
  have h3 : leN (b :: r) < 256 ^ 8 := Nat.lt_of_lt_of_le h1 h2
  simp only [leN] at h3 ⊢
  unfold B
  omega
/-- Byte number i of a word. -/
def byteOf (x : BitVec 64) (i : Nat) : BitVec 8 := (x >>> (8 * i)).setWidth 8
theorem byteOf_walk (x : BitVec 64) (k : Nat) : IntKind.u8.wrap (U x / 2 ^ (8 * k)) = B (byteOf x k) := by
  rw [U_shr]
  unfold byteOf U B
  rw [BitVec.toNat_setWidth]
  simp [IntKind.wrap, IntKind.bits, IntKind.signed]
/-- The four words. -/
structure V4 where
  a : BitVec 64
  b : BitVec 64
  c : BitVec 64
  d : BitVec 64
/-- A round. -/
def rnd (v : V4) : V4 :=
  let y0 := v.a + v.b
  let y1 := rol v.b 13 ^^^ y0
  let y2 := rol y0 32
  let y3 := v.c + v.d
  let y4 := rol v.d 16 ^^^ y3
  let y5 := y2 + y4
  let y6 := rol y4 21 ^^^ y5
  let y7 := y3 + y1
  let y8 := rol y1 17 ^^^ y7
  let y9 := rol y7 32
  ⟨y5, y8, y9, y6⟩
def rnds : Nat → V4 → V4
  | 0, v => v
  | n + 1, v => rnd (rnds n v)
/-- Four words lie in a block, and may be written. -/
def St (b : Nat) (w : World) (x0 x1 x2 x3 : BitVec 64) : Prop :=
  w.cell? ⟨b, 0, none⟩ = some (.int .u64 (U x0)) ∧ w.cell? ⟨b, 1, none⟩ = some (.int .u64 (U x1)) ∧
  w.cell? ⟨b, 2, none⟩ = some (.int .u64 (U x2)) ∧ w.cell? ⟨b, 3, none⟩ = some (.int .u64 (U x3)) ∧
  w.frozen? ⟨b, 0, none⟩ = false ∧ w.frozen? ⟨b, 1, none⟩ = false ∧ w.frozen? ⟨b, 2, none⟩ = false ∧ w.frozen? ⟨b, 3, none⟩ = false
theorem St.drew {b : Nat} {w : World} {x0 x1 x2 x3 : BitVec 64} (h : St b w x0 x1 x2 x3) : St b w.drew x0 x1 x2 x3 := h
theorem St.set0 {b : Nat} {w : World} {x0 x1 x2 x3 : BitVec 64} (h : St b w x0 x1 x2 x3) (y : BitVec 64) : St b (w.setCell ⟨b, 0, none⟩ (.int .u64 (U y))) y x1 x2 x3 := by
  obtain ⟨c0, c1, c2, c3, f0, f1, f2, f3⟩ := h
  exact ⟨World.cell?_setCell_same _ _ _ c0, by rw [World.cell?_setCell_other _ _ _ _ (by simp), c1], by rw [World.cell?_setCell_other _ _ _ _ (by simp), c2], by rw [World.cell?_setCell_other _ _ _ _ (by simp), c3], by simp [f0], by simp [f1], by simp [f2], by simp [f3]⟩
theorem St.set1 {b : Nat} {w : World} {x0 x1 x2 x3 : BitVec 64} (h : St b w x0 x1 x2 x3) (y : BitVec 64) : St b (w.setCell ⟨b, 1, none⟩ (.int .u64 (U y))) x0 y x2 x3 := by
  obtain ⟨c0, c1, c2, c3, f0, f1, f2, f3⟩ := h
  exact ⟨by rw [World.cell?_setCell_other _ _ _ _ (by simp), c0], World.cell?_setCell_same _ _ _ c1, by rw [World.cell?_setCell_other _ _ _ _ (by simp), c2], by rw [World.cell?_setCell_other _ _ _ _ (by simp), c3], by simp [f0], by simp [f1], by simp [f2], by simp [f3]⟩
theorem St.set2 {b : Nat} {w : World} {x0 x1 x2 x3 : BitVec 64} (h : St b w x0 x1 x2 x3) (y : BitVec 64) : St b (w.setCell ⟨b, 2, none⟩ (.int .u64 (U y))) x0 x1 y x3 := by
  obtain ⟨c0, c1, c2, c3, f0, f1, f2, f3⟩ := h
  exact ⟨by rw [World.cell?_setCell_other _ _ _ _ (by simp), c0], by rw [World.cell?_setCell_other _ _ _ _ (by simp), c1], World.cell?_setCell_same _ _ _ c2, by rw [World.cell?_setCell_other _ _ _ _ (by simp), c3], by simp [f0], by simp [f1], by simp [f2], by simp [f3]⟩
theorem St.set3 {b : Nat} {w : World} {x0 x1 x2 x3 : BitVec 64} (h : St b w x0 x1 x2 x3) (y : BitVec 64) : St b (w.setCell ⟨b, 3, none⟩ (.int .u64 (U y))) x0 x1 x2 y := by
  obtain ⟨c0, c1, c2, c3, f0, f1, f2, f3⟩ := h
  exact ⟨by rw [World.cell?_setCell_other _ _ _ _ (by simp), c0], by rw [World.cell?_setCell_other _ _ _ _ (by simp), c1], by rw [World.cell?_setCell_other _ _ _ _ (by simp), c2], World.cell?_setCell_same _ _ _ c3, by simp [f0], by simp [f1], by simp [f2], by simp [f3]⟩

/-- Nothing but block b has turned. -/
structure Turn (b : Nat) (w w' : World) : Prop where
  os : w'.os = w.os
  tape : w'.tape = w.tape
  output : w'.output = w.output
  size : w'.heap.size = w.heap.size
  block : ∀ k, k ≠ b → w'.heap[k]? = w.heap[k]?
theorem Turn.refl (b : Nat) (w : World) : Turn b w w := ⟨rfl, rfl, rfl, rfl, fun _ _ => rfl⟩
theorem Turn.trans {b : Nat} {x y z : World} (h : Turn b x y) (k : Turn b y z) : Turn b x z :=
  ⟨k.os.trans h.os, k.tape.trans h.tape, k.output.trans h.output, k.size.trans h.size, fun i hi => (k.block i hi).trans (h.block i hi)⟩
theorem Turn.drew {b : Nat} {x w : World} (h : Turn b x w) : Turn b x w.drew := ⟨h.os, h.tape, h.output, h.size, h.block⟩
theorem Turn.set {b : Nat} {x w : World} (h : Turn b x w) (o : Nat) (v : Value) : Turn b x (w.setCell ⟨b, o, none⟩ v) :=
  h.trans ⟨rfl, rfl, rfl, by simp, fun k hk => Below.heap_setCell _ _ _ _ hk⟩
theorem Turn.below {b B : Nat} {x w : World} (h : Turn b x w) (hB : B ≤ b) : Below B x w :=
  ⟨h.os, h.tape, h.output, Nat.le_of_eq h.size.symm, fun k hk => h.block k (by omega)⟩
theorem Turn.cell {b : Nat} {x w : World} (h : Turn b x w) {p : Addr} (hp : p.block ≠ b) : w.cell? p = x.cell? p := World.cell?_of_block (w := x) (h.block p.block hp)
theorem Turn.frozen {b : Nat} {x w : World} (h : Turn b x w) {p : Addr} (hp : p.block ≠ b) : w.frozen? p = x.frozen? p := World.frozen?_of_block (w := x) (h.block p.block hp)
end Go.Proofs.Ytpnfkcbbjcimgaa
