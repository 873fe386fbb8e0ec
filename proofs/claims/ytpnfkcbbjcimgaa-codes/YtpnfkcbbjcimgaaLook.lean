import Derived.Test.YtpnfkcbbjcimgaaLown
namespace Go.Proofs.Ytpnfkcbbjcimgaa
open Go.RowKit
set_option maxRecDepth 100000 in
set_option maxHeartbeats 2000000 in
theorem others_any (p : Nat) (w : World) (h3 : w.cell? ⟨p, 3, none⟩ = some (.slice none 0 0)) (h4 : w.cell? ⟨p, 4, none⟩ = some (.slice none 0 0)) (h5 : w.cell? ⟨p, 5, none⟩ = some (.slice none 0 0)) :
    Calls Try.prog 46 #[.pointer (some ⟨p, 0, none⟩)] w fun e w' => e = .returned (.bool true) ∧ w' = w := by
  go_enter Try.func46, Try.ntmps46
  go_wp2_with fail
  go_loopw [3] (fun i wr => i = .int .i64 0 ∧ wr = w) (fun _ _ => 0)
  case atStart => exact ⟨rfl, rfl⟩
  case round =>
    obtain ⟨rfl, rfl⟩ := hrel
    go_wp2_with fail
    go_loopw [6] (fun i wx => i = .int .i64 0 ∧ wx = wr) (fun _ _ => 0)
    case atStart => exact ⟨rfl, rfl⟩
    case round =>
      obtain ⟨rfl, rfl⟩ := hrel
      go_wp2_with fail
      go_loopw [9] (fun i wx => i = .int .i64 0 ∧ wx = wr) (fun _ _ => 0)
      case atStart => exact ⟨rfl, rfl⟩
      case round =>
        obtain ⟨rfl, rfl⟩ := hrel
        go_wp2
        go_ret
        exact ⟨rfl, rfl⟩
theorem ev_get : ∀ (l : List Ent) (i : Nat) (h : i < l.length), (l.flatMap ev)[i * 2]? = some (.slice l[i].sa l[i].sn l[i].sc) ∧ (l.flatMap ev)[i * 2 + 1]? = some (.int .i64 l[i].mark) := by
  intro l
  induction l with
  | nil => intro i hi; simp at hi
  | cons c l ih =>
    intro i hi
    cases i with
    | zero => exact ⟨rfl, rfl⟩
    | succ i =>
      have := ih i (by simpa using hi)
      rw [List.flatMap_cons]
      have e1 : (ev c ++ l.flatMap ev)[(i + 1) * 2]? = (l.flatMap ev)[i * 2]? := by
        rw [List.getElem?_append_right (by simp [ev]; omega)]; congr 1; simp [ev]; omega
      have e2 : (ev c ++ l.flatMap ev)[(i + 1) * 2 + 1]? = (l.flatMap ev)[i * 2 + 1]? := by
        rw [List.getElem?_append_right (by simp [ev]; omega)]; congr 1; simp [ev]; omega
      rw [e1, e2]
      simpa using this
theorem OwnE.get {w : World} {base : Nat} {va : Option Addr} {n vc : Nat} {L : List Ent} (h : OwnE w base (.slice va n vc) L) (i : Nat) (hi : i < L.length) : ∃ g, va = some ⟨g, 0, none⟩ ∧ w.cell? ⟨g, i * 2, none⟩ = some (.slice L[i].sa L[i].sn L[i].sc) ∧ w.cell? ⟨g, i * 2 + 1, none⟩ = some (.int .i64 L[i].mark) := by
  rcases h.2 with ⟨hv, h0⟩ | ⟨g, cap, cur, hv, _, hg, _, _, _, htk⟩
  · omega
  · cases hv
    have hc : ∀ j, j < L.length * 2 → w.cell? ⟨g, j, none⟩ = (L.flatMap ev)[j]? := fun j hj => by
      rw [cell_of_row w g j cur 101 (0, 0) hg, ← htk, List.getElem?_take_of_lt hj, Array.getElem?_toList]
    obtain ⟨e1, e2⟩ := ev_get L i hi
    exact ⟨g, rfl, (hc _ (by omega)).trans e1, (hc _ (by omega)).trans e2⟩
end Go.Proofs.Ytpnfkcbbjcimgaa
