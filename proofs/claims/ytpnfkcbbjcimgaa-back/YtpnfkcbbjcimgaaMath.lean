import Derived.Test.YtpnfkcbbjcimgaaRdec
namespace Go.Proofs.Ytpnfkcbbjcimgaa
theorem takeR_app (x rest : List (BitVec 8)) (n : Nat) (h : x.length = n) : takeR (x ++ rest) false n = ⟨x, rest, false⟩ := by
  subst h
  unfold takeR
  rw [if_neg (by simp)]
  simp
theorem takeR_sh {l : List (BitVec 8)} {sh : Bool} {n : Nat} (h : (takeR l sh n).sh = false) : sh = false ∧ l = (takeR l sh n).got ++ (takeR l sh n).l ∧ (takeR l sh n).got.length = n := by
  unfold takeR at h ⊢
  split at h
  · cases h
  · rename_i hc
    rw [if_neg hc]
    refine ⟨by cases sh <;> simp_all, by simp, ?_⟩
    have : ¬ l.length < n := fun h' => hc (.inr h')
    rw [List.length_take]; omega
theorem takeR_tail {l : List (BitVec 8)} {sh : Bool} {n : Nat} (t : List (BitVec 8)) (h : (takeR l sh n).sh = false) : takeR (l ++ t) sh n = ⟨(takeR l sh n).got, (takeR l sh n).l ++ t, false⟩ := by
  obtain ⟨h1, h2, h3⟩ := takeR_sh h
  generalize takeR l sh n = k at *
  rw [h1]
  conv => lhs; rw [h2, List.append_assoc]
  exact takeR_app _ _ _ h3
theorem clStep_tail {s : Cs} (t : List (BitVec 8)) (h : (clStep s).sh = false) : clStep ⟨s.cl, s.l ++ t, s.sh⟩ = ⟨(clStep s).cl, (clStep s).l ++ t, false⟩ ∧ s.sh = false := by
  unfold clStep at h ⊢
  dsimp only at h ⊢
  have h1 := (takeR_sh h).1
  rw [takeR_tail t h1]
  dsimp only
  have h2 := takeR_tail t h
  rw [h1] at h2
  rw [h2, h1]
  exact ⟨rfl, (takeR_sh h1).1⟩
theorem clIter_tail (t : List (BitVec 8)) : ∀ (n : Nat) (s : Cs), (clIter n s).sh = false → clIter n ⟨s.cl, s.l ++ t, s.sh⟩ = ⟨(clIter n s).cl, (clIter n s).l ++ t, false⟩ ∧ s.sh = false
  | 0, s, h => by
    have h' : s.sh = false := h
    refine ⟨?_, h'⟩
    show (⟨s.cl, s.l ++ t, s.sh⟩ : Cs) = _
    rw [h']; rfl
  | n + 1, s, h => by
    have h' : (clStep (clIter n s)).sh = false := h
    obtain ⟨h1, h2⟩ := clStep_tail t h'
    obtain ⟨h3, h4⟩ := clIter_tail t n s h2
    refine ⟨?_, h4⟩
    show clStep (clIter n _) = _
    rw [h3]
    rw [h2] at h1
    exact h1
theorem takeR_tail2 {l : List (BitVec 8)} {sh : Bool} {n : Nat} (t : List (BitVec 8)) (h : (takeR l sh n).sh = false) : takeR (l ++ t) false n = ⟨(takeR l sh n).got, (takeR l sh n).l ++ t, false⟩ := by
  have h1 := takeR_tail t h
  rw [(takeR_sh h).1] at h1 ⊢
  exact h1
theorem clIter_tail2 (t : List (BitVec 8)) (n : Nat) (cl : List (Int × Int)) (l : List (BitVec 8)) (sh : Bool) (h : (clIter n ⟨cl, l, sh⟩).sh = false) : clIter n ⟨cl, l ++ t, false⟩ = ⟨(clIter n ⟨cl, l, sh⟩).cl, (clIter n ⟨cl, l, sh⟩).l ++ t, false⟩ ∧ sh = false := by
  obtain ⟨h1, h2⟩ := clIter_tail t n ⟨cl, l, sh⟩ h
  dsimp only at h1 h2
  subst h2
  exact ⟨h1, rfl⟩
theorem rd1_tail (l t : List (BitVec 8)) (sh : Bool) (h : (rd1 l sh).sh = false) : (rd1 (l ++ t) sh).sh = false ∧ (rd1 (l ++ t) sh).l = (rd1 l sh).l ++ t ∧ sh = false := by
  unfold rd1 at h ⊢
  dsimp only at h ⊢
  have h3 := (takeR_sh h).1
  have h2 := (takeR_sh h3).1
  have h1 := (takeR_sh h2).1
  have hs := (takeR_sh h1).1
  subst hs
  rw [takeR_tail2 t h1]
  dsimp only
  rw [takeR_tail2 t h2]
  dsimp only
  rw [takeR_tail2 t h3]
  dsimp only
  rw [takeR_tail2 t h]
  exact ⟨rfl, rfl, rfl⟩
theorem rd2_tail (l t : List (BitVec 8)) (sh : Bool) (h : (rd2 l sh).sh = false) : (rd2 (l ++ t) sh).sh = false ∧ (rd2 (l ++ t) sh).l = (rd2 l sh).l ++ t ∧ sh = false := by
  unfold rd2 at h ⊢
  dsimp only at h ⊢
  have h2 := (takeR_sh h).1
  have h1 := (takeR_sh h2).1
  have hs := (takeR_sh h1).1
  subst hs
  rw [takeR_tail2 t h1]
  dsimp only
  rw [takeR_tail2 t h2]
  dsimp only
  rw [takeR_tail2 t h]
  exact ⟨rfl, rfl, rfl⟩
theorem rd3_tail (l t : List (BitVec 8)) (sh : Bool) (h : (rd3 l sh).sh = false) : (rd3 (l ++ t) sh).sh = false ∧ (rd3 (l ++ t) sh).l = (rd3 l sh).l ++ t ∧ sh = false := by
  unfold rd3 at h ⊢
  dsimp only at h ⊢
  have hs := (takeR_sh h).1
  subst hs
  rw [takeR_tail2 t h]
  exact ⟨rfl, rfl, rfl⟩
theorem rd5_tail (l t : List (BitVec 8)) (sh : Bool) (h : (rd5 l sh).sh = false) : (rd5 (l ++ t) sh).sh = false ∧ (rd5 (l ++ t) sh).l = (rd5 l sh).l ++ t ∧ sh = false := by
  unfold rd5 at h ⊢
  dsimp only at h ⊢
  have h1 := (takeR_sh h).1
  have hs := (takeR_sh h1).1
  subst hs
  rw [takeR_tail2 t h1]
  dsimp only
  rw [takeR_tail2 t h]
  exact ⟨rfl, rfl, rfl⟩
theorem rd6_tail (l t : List (BitVec 8)) (sh : Bool) (h : (rd6 l sh).sh = false) : (rd6 (l ++ t) sh).sh = false ∧ (rd6 (l ++ t) sh).l = (rd6 l sh).l ++ t ∧ sh = false := by
  unfold rd6 at h ⊢
  dsimp only at h ⊢
  have hs := (takeR_sh h).1
  subst hs
  rw [takeR_tail2 t h]
  exact ⟨rfl, rfl, rfl⟩
theorem claimsR_tail (l t : List (BitVec 8)) (sh : Bool) (h : (claimsR l sh).sh = false) : claimsR (l ++ t) false = ⟨(claimsR l sh).cl, (claimsR l sh).l ++ t, false⟩ ∧ sh = false := by
  unfold claimsR at h ⊢
  obtain ⟨h1, h2⟩ := clIter_tail2 t _ _ _ _ h
  rw [takeR_tail2 t h2]
  exact ⟨h1, (takeR_sh h2).1⟩
theorem textR_tail (l t : List (BitVec 8)) (sh : Bool) (h : (textR l sh).sh = false) : textR (l ++ t) false = ⟨(textR l sh).got, (textR l sh).l ++ t, false⟩ ∧ sh = false := by
  unfold textR at h ⊢
  have h1 := (takeR_sh h).1
  rw [takeR_tail2 t h1]
  dsimp only
  exact ⟨takeR_tail2 t h, (takeR_sh h1).1⟩
theorem rd4_tail (l t : List (BitVec 8)) (sh : Bool) (h : (rd4 l sh).sh = false) : (rd4 (l ++ t) sh).sh = false ∧ (rd4 (l ++ t) sh).l = (rd4 l sh).l ++ t ∧ sh = false := by
  unfold rd4 at h ⊢
  dsimp only at h ⊢
  obtain ⟨e3, h2⟩ := textR_tail _ t _ h
  obtain ⟨e2, h1⟩ := claimsR_tail _ t _ h2
  have hs := (takeR_sh h1).1
  subst hs
  rw [takeR_tail2 t h1]
  dsimp only
  rw [e2]
  dsimp only
  rw [e3]
  exact ⟨rfl, rfl, rfl⟩
theorem rd_tail (body t : List (BitVec 8)) (h : (rdOf body).sh = false) : (rdOf (body ++ t)).sh = false ∧ (rdOf (body ++ t)).l = (rdOf body).l ++ t := by
  have key : ∀ (d : Dat), d = rdOf body → (takeR body false 1).sh = false → (rdOf (body ++ t)).sh = false ∧ (rdOf (body ++ t)).l = (rdOf body).l ++ t := by
    intro d _ hA
    have e1 := takeR_tail t hA
    unfold rdOf at h ⊢
    dsimp only at h ⊢
    rw [e1]
    dsimp only
    rw [hA] at h ⊢
    split at h
    · rename_i hk
      rw [if_pos hk, if_pos hk]
      exact ⟨(rd1_tail _ t _ h).1, (rd1_tail _ t _ h).2.1⟩
    · rename_i hk
      rw [if_neg hk, if_neg hk]
      split at h
      · rename_i hk
        rw [if_pos hk, if_pos hk]
        exact ⟨(rd2_tail _ t _ h).1, (rd2_tail _ t _ h).2.1⟩
      · rename_i hk
        rw [if_neg hk, if_neg hk]
        split at h
        · rename_i hk
          rw [if_pos hk, if_pos hk]
          exact ⟨(rd3_tail _ t _ h).1, (rd3_tail _ t _ h).2.1⟩
        · rename_i hk
          rw [if_neg hk, if_neg hk]
          split at h
          · rename_i hk
            rw [if_pos hk, if_pos hk]
            exact ⟨(rd4_tail _ t _ h).1, (rd4_tail _ t _ h).2.1⟩
          · rename_i hk
            rw [if_neg hk, if_neg hk]
            split at h
            · rename_i hk
              rw [if_pos hk, if_pos hk]
              exact ⟨(rd5_tail _ t _ h).1, (rd5_tail _ t _ h).2.1⟩
            · rename_i hk
              rw [if_neg hk, if_neg hk]
              split at h
              · rename_i hk
                rw [if_pos hk, if_pos hk]
                exact ⟨(rd6_tail _ t _ h).1, (rd6_tail _ t _ h).2.1⟩
              · rename_i hk
                rw [if_neg hk, if_neg hk]
                exact ⟨rfl, rfl⟩
  refine key _ rfl ?_
  unfold rdOf at h
  dsimp only at h
  repeat' split at h
  · exact (rd1_tail _ [] _ h).2.2
  · exact (rd2_tail _ [] _ h).2.2
  · exact (rd3_tail _ [] _ h).2.2
  · exact (rd4_tail _ [] _ h).2.2
  · exact (rd5_tail _ [] _ h).2.2
  · exact (rd6_tail _ [] _ h).2.2
  · exact h
theorem decB_whole {b : List (BitVec 8)} (h : decB b = true) : (rdOf b).sh = false ∧ (rdOf b).l = [] := by
  unfold decB at h
  simp only [Bool.and_eq_true, Bool.not_eq_true', List.isEmpty_iff] at h
  exact h.1
/-- Nothing that is longer is a body of a request. -/
theorem decB_longer (b t : List (BitVec 8)) (ht : t ≠ []) (h : decB b = true) : decB (b ++ t) = false := by
  obtain ⟨h1, h2⟩ := decB_whole h
  obtain ⟨_, h4⟩ := rd_tail b t h1
  unfold decB
  rw [h4, h2]
  cases t with
  | nil => exact absurd rfl ht
  | cons x t => simp
end Go.Proofs.Ytpnfkcbbjcimgaa
