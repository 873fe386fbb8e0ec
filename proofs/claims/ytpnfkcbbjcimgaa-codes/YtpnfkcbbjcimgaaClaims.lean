import Derived.Test.YtpnfkcbbjcimgaaBounds
namespace Go.Proofs.Ytpnfkcbbjcimgaa
open Go.RowKit
/-- Claims, as they lie in memory. -/
def Cl (w : World) (sa : Option Addr) (sn : Nat) (cl : List (Int × Int)) : Prop :=
  cl.length = sn ∧ (sn = 0 ∨ ∃ b off, sa = some ⟨b, off, none⟩ ∧ ∀ i, i < sn → w.cell? ⟨b, off + i * 2, none⟩ = some (.int .i64 (cl.getD i (0, 0)).1) ∧ w.cell? ⟨b, off + i * 2 + 1, none⟩ = some (.int .i64 (cl.getD i (0, 0)).2))
theorem Cl.later {w wx : World} {sa : Option Addr} {sn : Nat} {cl : List (Int × Int)} (h : Cl w sa sn cl) (hb : Below w.heap.size w wx) : Cl wx sa sn cl := by
  obtain ⟨h1, h2⟩ := h
  refine ⟨h1, ?_⟩
  rcases h2 with h2 | ⟨b, off, h3, h4⟩
  · exact .inl h2
  · exact .inr ⟨b, off, h3, fun i hi => ⟨cell_later hb (h4 i hi).1, cell_later hb (h4 i hi).2⟩⟩
/-- Rising devices, each claim within its bounds. -/
def clOk (last : Int) : List (Int × Int) → Bool
  | [] => true
  | c :: t => !(decide (c.1 ≤ last)) && inB c.1 255 && inB c.2 65535 && clOk c.1 t
set_option maxRecDepth 100000 in
set_option maxHeartbeats 1000000 in
theorem claimsMayBe_any (sa : Option Addr) (sn sc : Nat) (cl : List (Int × Int)) (w : World) (hn : sn ≤ 9223372036854775807) (hcl : Cl w sa sn cl) :
    Calls Try.prog 54 #[.slice sa sn sc] w fun e w' => e = .returned (.bool (clOk (-1) cl)) ∧ Below w.heap.size w w' := by
  have HC : Hid (Cl w sa sn cl) := hcl
  clear hcl
  go_enter Try.func54, Try.ntmps54
  go_wp2
  go_loopw [3, 8] (fun la i wr => ∃ (k : Nat) (l : Int), k ≤ sn ∧ i = .int .i64 k ∧ la = .int .i64 l ∧ clOk (-1) cl = clOk l (cl.drop k) ∧ Below w.heap.size w wr) (fun _ i _ => sn - (intOf i).toNat)
  case atStart => exact ⟨0, -1, Nat.zero_le _, rfl, rfl, rfl, Below.refl _ _⟩
  case round =>
    obtain ⟨k, l, hk, rfl, rfl, he, hb⟩ := hrel
    have BB : Hid (Below w.heap.size w wr) := hb
    have EE : Hid (clOk (-1) cl = clOk l (cl.drop k)) := he
    clear hb he
    by_cases hlt : k < sn
    · have hl := HC.out.1
      obtain ⟨b, off, hs, hcell⟩ := HC.out.2.resolve_left (by omega)
      subst hs
      obtain ⟨c1, c2⟩ := hcell k hlt
      have c1 := cell_later BB.out c1
      have c2 := cell_later BB.out c2
      have HD : Hid (cl.drop k = cl.getD k (0, 0) :: cl.drop (k + 1)) := by
        show _ = _
        rw [List.drop_eq_getElem_cons (by omega)]
        simp [List.getD, List.getElem?_eq_getElem (show k < cl.length from by omega)]
      clear hcell hl
      generalize cl.getD k (0, 0) = c at *
      obtain ⟨d, r⟩ := c
      dsimp only at c1 c2
      by_cases h1 : d ≤ l
      · have HF : Hid (clOk (-1) cl = false) := by show _ = _; rw [EE.out, HD.out]; simp [clOk, h1]
        go_wp2_with (go_at_call 82; refine (within_any _ _ _).mono ?_; rintro e w' ⟨rfl, rfl⟩)
        go_ret
        exact ⟨by rw [HF.out]; rfl, BB.out.alloc BB.out.size _⟩
      · cases h2 : inB d 255 with
        | false =>
          have HF : Hid (clOk (-1) cl = false) := by show _ = _; rw [EE.out, HD.out]; simp [clOk, h2]
          go_wp2_with (go_at_call 82; refine (within_any _ _ _).mono ?_; rintro e w' ⟨rfl, rfl⟩)
          go_ret
          exact ⟨by rw [HF.out]; rfl, BB.out.alloc BB.out.size _⟩
        | true =>
          cases h3 : inB r 65535 with
          | false =>
            have HF : Hid (clOk (-1) cl = false) := by show _ = _; rw [EE.out, HD.out]; simp [clOk, h3]
            go_wp2_with (go_at_call 82; refine (within_any _ _ _).mono ?_; rintro e w' ⟨rfl, rfl⟩)
            go_ret
            exact ⟨by rw [HF.out]; rfl, BB.out.alloc BB.out.size _⟩
          | true =>
            have HF : Hid (clOk (-1) cl = clOk d (cl.drop (k + 1))) := by show _ = _; rw [EE.out, HD.out]; simp [clOk, h1, h2, h3]
            go_wp2_with (go_at_call 82; refine (within_any _ _ _).mono ?_; rintro e w' ⟨rfl, rfl⟩)
            go_roundw
            case rel => exact ⟨k + 1, d, by omega, by go_num, rfl, HF.out, BB.out.alloc BB.out.size _⟩
            case measure => simp [intOf]; omega
    · go_wp2
      go_ret
      have e : cl.drop k = [] := List.drop_of_length_le (by have := HC.out.1; omega)
      exact ⟨by rw [EE.out, e]; rfl, BB.out⟩
def zB (l : List Int) : Bool := l.all fun x => x == 0
theorem all_range (n : Nat) (xs : List Int) (hx : xs.length = n) : ((List.range n).all fun i => xs.getD i 0 == (List.replicate n (0 : Int)).getD i 0) = zB xs := by
  rw [Bool.eq_iff_iff]
  unfold zB
  rw [List.all_eq_true, List.all_eq_true]
  constructor
  · intro h x hx1
    obtain ⟨i, hi, rfl⟩ := List.getElem_of_mem hx1
    have := h i (by rw [List.mem_range]; omega)
    have e1 : xs.getD i 0 = xs[i] := by simp [List.getD, List.getElem?_eq_getElem hi]
    have e2 : (List.replicate n (0 : Int)).getD i 0 = 0 := by simp [List.getD, List.getElem?_replicate]; split <;> rfl
    rw [e1, e2] at this
    exact this
  · intro h i hi
    rw [List.mem_range] at hi
    have e1 : xs.getD i 0 = xs[i]'(by omega) := by simp [List.getD, List.getElem?_eq_getElem (show i < xs.length from by omega)]
    have e2 : (List.replicate n (0 : Int)).getD i 0 = 0 := by simp [List.getD, List.getElem?_replicate]; split <;> rfl
    rw [e1, e2]
    exact h _ (List.getElem_mem _)
def keyL (k0 k1 k2 k3 k4 k5 k6 k7 k8 k9 k10 k11 k12 k13 k14 k15 : BitVec 8) : List Int := [B k0, B k1, B k2, B k3, B k4, B k5, B k6, B k7, B k8, B k9, B k10, B k11, B k12, B k13, B k14, B k15]
def macL (m0 m1 m2 m3 m4 m5 m6 m7 : BitVec 8) : List Int := [B m0, B m1, B m2, B m3, B m4, B m5, B m6, B m7]
theorem eqKey (k0 k1 k2 k3 k4 k5 k6 k7 k8 k9 k10 k11 k12 k13 k14 k15 : BitVec 8) (w : World) : (Op.equalIn 10000 22 (.agg #[.int .u8 (B k0), .int .u8 (B k1), .int .u8 (B k2), .int .u8 (B k3), .int .u8 (B k4), .int .u8 (B k5), .int .u8 (B k6), .int .u8 (B k7), .int .u8 (B k8), .int .u8 (B k9), .int .u8 (B k10), .int .u8 (B k11), .int .u8 (B k12), .int .u8 (B k13), .int .u8 (B k14), .int .u8 (B k15)]) (.agg #[.int .u8 0, .int .u8 0, .int .u8 0, .int .u8 0, .int .u8 0, .int .u8 0, .int .u8 0, .int .u8 0, .int .u8 0, .int .u8 0, .int .u8 0, .int .u8 0, .int .u8 0, .int .u8 0, .int .u8 0, .int .u8 0])).run Try.prog w = .ok (zB (keyL k0 k1 k2 k3 k4 k5 k6 k7 k8 k9 k10 k11 k12 k13 k14 k15)) w := by
  rw [← all_range 16 (keyL k0 k1 k2 k3 k4 k5 k6 k7 k8 k9 k10 k11 k12 k13 k14 k15) rfl]
  exact eq22 (keyL k0 k1 k2 k3 k4 k5 k6 k7 k8 k9 k10 k11 k12 k13 k14 k15) (List.replicate 16 0) rfl rfl w
theorem eqMac (m0 m1 m2 m3 m4 m5 m6 m7 : BitVec 8) (w : World) : (Op.equalIn 10000 23 (.agg #[.int .u8 (B m0), .int .u8 (B m1), .int .u8 (B m2), .int .u8 (B m3), .int .u8 (B m4), .int .u8 (B m5), .int .u8 (B m6), .int .u8 (B m7)]) (.agg #[.int .u8 0, .int .u8 0, .int .u8 0, .int .u8 0, .int .u8 0, .int .u8 0, .int .u8 0, .int .u8 0])).run Try.prog w = .ok (zB (macL m0 m1 m2 m3 m4 m5 m6 m7)) w := by
  rw [← all_range 8 (macL m0 m1 m2 m3 m4 m5 m6 m7) rfl]
  exact eq23 (macL m0 m1 m2 m3 m4 m5 m6 m7) (List.replicate 8 0) rfl rfl w
def arrB (b : Bd) (key mac : List Int) : Bool := (b.k || zB key) && (b.mac || zB mac)
set_option maxRecDepth 100000 in
set_option maxHeartbeats 2000000 in
theorem holdArrays_any (b : Bd) (kd ac dv rg cu mo : Int) (k0 k1 k2 k3 k4 k5 k6 k7 k8 k9 k10 k11 k12 k13 k14 k15 m0 m1 m2 m3 m4 m5 m6 m7 : BitVec 8) (sa : Option Addr) (sn sc : Nat) (tx : ByteArray) (w : World) :
    Calls Try.prog 53 #[bdV b, .agg #[.int .i64 kd, .int .i64 ac, .int .i64 dv, .int .i64 rg, .int .i64 cu, .int .i64 mo, .int .u8 (B k0), .int .u8 (B k1), .int .u8 (B k2), .int .u8 (B k3), .int .u8 (B k4), .int .u8 (B k5), .int .u8 (B k6), .int .u8 (B k7), .int .u8 (B k8), .int .u8 (B k9), .int .u8 (B k10), .int .u8 (B k11), .int .u8 (B k12), .int .u8 (B k13), .int .u8 (B k14), .int .u8 (B k15), .int .u8 (B m0), .int .u8 (B m1), .int .u8 (B m2), .int .u8 (B m3), .int .u8 (B m4), .int .u8 (B m5), .int .u8 (B m6), .int .u8 (B m7), .slice sa sn sc, .string tx]] w fun e w' => e = .returned (.bool (arrB b (keyL k0 k1 k2 k3 k4 k5 k6 k7 k8 k9 k10 k11 k12 k13 k14 k15) (macL m0 m1 m2 m3 m4 m5 m6 m7))) ∧ Below w.heap.size w w' := by
  unfold bdV
  obtain ⟨ba, bd, br, bc, bm, bcl, bt, bk, bmac⟩ := b
  dsimp only [arrB]
  have q1 := eqKey k0 k1 k2 k3 k4 k5 k6 k7 k8 k9 k10 k11 k12 k13 k14 k15
  have q2 := eqMac m0 m1 m2 m3 m4 m5 m6 m7
  generalize keyL k0 k1 k2 k3 k4 k5 k6 k7 k8 k9 k10 k11 k12 k13 k14 k15 = kl at *
  generalize macL m0 m1 m2 m3 m4 m5 m6 m7 = ml at *
  cases bk <;> cases bmac <;> cases h1 : zB kl <;> cases h2 : zB ml
  all_goals
    rw [h1] at q1
    rw [h2] at q2
    clear h1 h2
    go_enter Try.func53, Try.ntmps53
    go_wp2
    go_ret
    exact ⟨by simp, ((Below.refl _ _).alloc (Nat.le_refl _) _).alloc (by simp) _⟩
end Go.Proofs.Ytpnfkcbbjcimgaa
