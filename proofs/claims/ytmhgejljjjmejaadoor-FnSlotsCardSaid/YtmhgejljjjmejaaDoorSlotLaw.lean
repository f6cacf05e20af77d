/-
  Plain facts that the law FnSlots asks: the numbers of slots follow one another.
-/
import Derived.Test.YtmhgejljjjmejaaDoorSlotNamedS
import Derived.Test.YtmhgejljjjmejaaDoorCrossPure
namespace Go.Proofs.YtmhgejljjjmejaaDoor
open Go.RowKit

/-- Each number up to the last one is the number of a slot. -/
theorem slTo_all (r c : Nat) (s : ByteArray) : ∀ k (v : Int), 1 ≤ v → v ≤ ((slTo r c s k).1 : Int) → ∃ x ∈ (slTo r c s k).2, x.1 = v
  | 0 => fun v h1 h2 => by
    have : ((slTo r c s 0).1 : Int) = 0 := rfl
    omega
  | k + 1 => fun v h1 h2 => by
    have ih := slTo_all r c s k v h1
    revert h2
    show v ≤ ((stepSl (slTo r c s k) k (acN c s k) (dnN r c s k)).1 : Int) → ∃ x ∈ (stepSl (slTo r c s k) k (acN c s k) (dnN r c s k)).2, x.1 = v
    generalize slTo r c s k = y at ih ⊢
    generalize acN c s k = a
    generalize dnN r c s k = d
    intro h2
    by_cases h3 : v ≤ (y.1 : Int)
    · obtain ⟨x, hx, hv⟩ := ih h3
      exact ⟨x, List.mem_append_left _ (List.mem_append_left _ hx), hv⟩
    · unfold stepSl at h2 ⊢
      by_cases ha : 2 ≤ a
      · rw [if_pos (Or.inl ha)] at h2 ⊢
        rw [if_pos ha]
        exact ⟨(((y.1 + 1 : Nat) : Int), false, (k : Int), (a : Int)), List.mem_append_left _ (List.mem_append_right _ (List.mem_singleton.2 rfl)), by simp only at h2 ⊢; omega⟩
      · by_cases hd : 2 ≤ d
        · rw [if_pos (Or.inr hd)] at h2 ⊢
          rw [if_pos hd]
          exact ⟨(((y.1 + 1 : Nat) : Int), true, (k : Int), (d : Int)), List.mem_append_right _ (List.mem_singleton.2 rfl), by simp only at h2 ⊢; omega⟩
        · rw [if_neg (by omega)] at h2
          simp only at h2
          omega
/-- A slot and the one before it: the numbers, and the directions where they are the same. -/
theorem slG_next {g : Int × Int × ByteArray} {i : Nat} (hi : i + 1 < (slG g).length) :
    let x := (slG g).getD i none_Slot
    let y := (slG g).getD (i + 1) none_Slot
    x.1 ≤ y.1 ∧ y.1 ≤ x.1 + 1 ∧ (y.1 = x.1 → x.2.1 = false ∧ y.2.1 = true) := by
  intro x y
  have h3 := slG_numR g
  rw [List.pairwise_iff_getElem] at h3
  have e : ∀ j (h : j < (slG g).length), (slG g)[j] = (slG g).getD j none_Slot := fun j h => by simp [List.getD, h]
  have h4 := h3 i (i + 1) (by omega) hi (by omega)
  rw [e, e] at h4
  have hx := getD_in (show i < (slG g).length by omega)
  have hy := getD_in hi
  have hle : ∀ j, j ≤ i → ((slG g).getD j none_Slot).1 ≤ x.1 := fun j hj => by
    rcases Nat.lt_or_eq_of_le hj with hj | rfl
    · have h5 := h3 j i (by omega) (by omega) hj
      rw [e, e] at h5
      rcases h5 with h5 | h5
      · exact Int.le_of_lt h5
      · exact Int.le_of_eq h5.1
    · exact Int.le_refl _
  have hge : ∀ j, i + 1 ≤ j → j < (slG g).length → y.1 ≤ ((slG g).getD j none_Slot).1 := fun j hj hj2 => by
    rcases Nat.lt_or_eq_of_le hj with hj | rfl
    · have h5 := h3 (i + 1) j (by omega) hj2 hj
      rw [e, e] at h5
      rcases h5 with h5 | h5
      · exact Int.le_of_lt h5
      · exact Int.le_of_eq h5.1
    · exact Int.le_refl _
  refine ⟨by rcases h4 with h4 | h4; exact Int.le_of_lt h4; exact Int.le_of_eq h4.1, ?_, fun he => ?_⟩
  · refine Int.le_of_not_gt fun hgt => ?_
    have hall : ∃ z ∈ slG g, z.1 = x.1 + 1 := by
      rcases slG_cases g with h0 | ⟨R, C, hg, e1, e2, g1, g2, g3, g4, g5, g6, g7⟩
      · rw [h0] at hi; simp at hi
      · have hn := (slTo_numbers R C g.2.2 (R * C)).1
        rw [← g7] at hn
        have hx2 := hn _ hx
        have hy2 := hn _ hy
        rw [g7]
        refine slTo_all R C g.2.2 (R * C) _ ?_ ?_
        · have : 1 ≤ x.1 := hx2.1
          omega
        · have : y.1 ≤ _ := hy2.2
          omega
    obtain ⟨z, hz, hz2⟩ := hall
    obtain ⟨j, hj, rfl⟩ := List.getElem_of_mem hz
    rw [e j hj] at hz2
    rcases Nat.lt_or_ge i j with h9 | h9
    · have := hge j h9 hj; omega
    · have := hle j h9; omega
  · rcases h4 with h4 | h4
    · have h5 : x.1 < y.1 := h4
      omega
    · exact h4.2
end Go.Proofs.YtmhgejljjjmejaaDoor
