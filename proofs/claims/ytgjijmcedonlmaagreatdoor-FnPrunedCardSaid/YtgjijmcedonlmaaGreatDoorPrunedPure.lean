/-
  Plain facts for FnPruned: what is forced keeps the letters; what pruning leaves.
-/
import Derived.Test.YtgjijmcedonlmaaGreatDoorPruneK
import Derived.Test.YtgjijmcedonlmaaGreatDoorForced
import Derived.Test.YtgjijmcedonlmaaGreatDoorDead
import Derived.Test.YtgjijmcedonlmaaGreatDoorListSpec
namespace Go.Proofs.YtgjijmcedonlmaaGreatDoor
open Go.RowKit

theorem forced_keeps {g : Int × Int × ByteArray} {f : ByteArray} {D : List (List ByteArray)} : ∀ {k : Nat} {t : ByteArray}, forcedTo g f D k = some t → t.size = f.size ∧ ∀ j, j < f.size → f.data.toList.getD j 0 ≠ 63 → t.data.toList.getD j 0 = f.data.toList.getD j 0
  | 0, t, h => by
    rw [forcedTo] at h
    injection h with h
    subst h
    exact ⟨rfl, fun _ _ _ => rfl⟩
  | k + 1, t, h => by
    rw [forcedTo] at h
    cases e : forcedTo g f D k with
    | none => rw [e] at h; cases h
    | some u =>
      rw [e] at h
      simp only at h
      have ih := forced_keeps e
      by_cases h1 : (D.getD k []).length = 1
      · rw [if_pos h1] at h
        by_cases h2 : fitsP (patF g u (k : Int)) ((D.getD k []).getD 0 ⟨#[]⟩) = true
        · rw [putF_yes h2] at h
          simp only [if_true] at h
          injection h with h
          subst h
          obtain ⟨k1, k2⟩ := put_keeps h2
          exact ⟨k1.trans ih.1, fun j hj hn => by
            have h5 := ih.2 j hj hn
            rw [k2 j (by omega) (by rw [h5]; exact hn), h5]⟩
        · rw [putF_no (by simpa using h2)] at h
          simp at h
      · rw [if_neg h1] at h
        injection h with h
        subst h
        exact ih
theorem forced_true {g : Int × Int × ByteArray} {f : ByteArray} {D : List (List ByteArray)} (h : (forcedF g f D).2 = true) : (forcedF g f D).1.size = f.size ∧ ∀ j, j < f.size → f.data.toList.getD j 0 ≠ 63 → (forcedF g f D).1.data.toList.getD j 0 = f.data.toList.getD j 0 := by
  unfold forcedF at h ⊢
  by_cases e : D.length = (slG g).length
  · rw [if_pos e] at h ⊢
    cases e2 : forcedTo g f D D.length with
    | none => rw [e2] at h; cases h
    | some t => exact forced_keeps e2
  · rw [if_neg e] at h
    cases h
theorem forced_false {g : Int × Int × ByteArray} {f : ByteArray} {D : List (List ByteArray)} (h : (forcedF g f D).2 = false) : (forcedF g f D).1 = f := by
  unfold forcedF at h ⊢
  by_cases e : D.length = (slG g).length
  · rw [if_pos e] at h ⊢
    cases e2 : forcedTo g f D D.length with
    | none => rfl
    | some t => rw [e2] at h; cases h
  · rw [if_neg e]
theorem sumN_mono : ∀ {E D : List (List ByteArray)}, E.length = D.length → (∀ i, (E.getD i []).length ≤ (D.getD i []).length) → sumN E ≤ sumN D
  | [], [], _, _ => Nat.le_refl _
  | a :: E, b :: D, hl, h => by
    have h0 := h 0
    have ih := sumN_mono (E := E) (D := D) (by simpa using hl) (fun i => by simpa using h (i + 1))
    simp only [List.getD_cons_zero] at h0
    simp only [sumN, List.map_cons, List.sum_cons] at ih ⊢
    omega
theorem pru_count {g : Int × Int × ByteArray} {D E : List (List ByteArray)} (h : PruF g D E) : sumN E ≤ sumN D := sumN_mono (pruF_len h) (fun i => (pruF_sub h i).length_le)
theorem pru_in {g : Int × Int × ByteArray} {D E : List (List ByteArray)} (h : PruF g D E) (i : Nat) : ∀ z ∈ E.getD i [], hasW (D.getD i []) z = true := fun _ hz => hasW_yes ((pruF_sub h i).subset hz)
theorem pru_sup {g : Int × Int × ByteArray} {D E : List (List ByteArray)} (h : PruF g D E) (hD : D.length = (slG g).length) {i : Nat} (hi : i < D.length) : ∀ z ∈ E.getD i [], supF g E (i : Int) z = true := by
  intro z hz
  have hl := pruF_len h
  obtain ⟨p, hE, hc, -⟩ := h.1 hD
  unfold supF
  rw [decide_eq_true (show E.length = (slG g).length ∧ 0 ≤ (i : Int) ∧ (i : Int) < ((slG g).length : Int) by omega), Bool.true_and, Int.toNat_natCast]
  exact hc i (by omega) z hz
theorem pru_idem {g : Int × Int × ByteArray} {D E E' : List (List ByteArray)} (h : PruF g D E) (hD : D.length = (slG g).length) (h' : PruF g E E') : E' = E := by
  have hl := pruF_len h
  obtain ⟨p, hE, hc, -⟩ := h.1 hD
  exact h'.only ⟨fun _ => pru_again hc, fun hn => absurd (hl.trans hD) hn⟩
end Go.Proofs.YtgjijmcedonlmaaGreatDoor
