/-
  Which slot has a name; SlotNamed of the model.
-/
import Derived.Test.YtmhgejljjjmejaaDoorSlotName
import Derived.Test.YtmhgejljjjmejaaDoorSlotSpecE
namespace Go.Proofs.YtmhgejljjjmejaaDoor
open Go.RowKit

/-- The first slot of the name s is the i-th; -1 if there is none. -/
def NamedAt (l : List SlotV) (s : ByteArray) (i : Int) : Prop :=
  (i = -1 ∧ ∀ y ∈ l, nameB y.1 y.2.1 ≠ s) ∨ ∃ k : Nat, i = k ∧ k < l.length ∧ nameB (l.getD k none_Slot).1 (l.getD k none_Slot).2.1 = s ∧ ∀ y ∈ l.take k, nameB y.1 y.2.1 ≠ s
theorem NamedAt.unique {l : List SlotV} {s : ByteArray} {i j : Int} (h : NamedAt l s i) (h' : NamedAt l s j) : i = j := by
  have key : ∀ (k k' : Nat), k < l.length → k < k' → nameB (l.getD k none_Slot).1 (l.getD k none_Slot).2.1 = s → (∀ y ∈ l.take k', nameB y.1 y.2.1 ≠ s) → False := by
    intro k k' h1 h2 h3 h4
    refine h4 (l.getD k none_Slot) ?_ h3
    rw [List.mem_take_iff_getElem]
    exact ⟨k, by omega, by simp [List.getD, h1]⟩
  rcases h with ⟨rfl, h⟩ | ⟨k, rfl, h1, h2, h3⟩
  · rcases h' with ⟨rfl, _⟩ | ⟨k', rfl, g1, g2, g3⟩
    · rfl
    · exact absurd g2 (h _ (getD_in g1))
  · rcases h' with ⟨rfl, g⟩ | ⟨k', rfl, g1, g2, g3⟩
    · exact absurd h2 (g _ (getD_in h1))
    · rcases Nat.lt_trichotomy k k' with hk | rfl | hk
      · exact (key k k' h1 hk h2 g3).elim
      · rfl
      · exact (key k' k g1 hk g2 h3).elim
/-- A slot before another one has a smaller number, or the same number, and goes across where the other one goes down. -/
def numR (x y : SlotV) : Prop := x.1 < y.1 ∨ (x.1 = y.1 ∧ x.2.1 = false ∧ y.2.1 = true)
theorem slTo_numbers (r c : Nat) (s : ByteArray) : ∀ k, (∀ x ∈ (slTo r c s k).2, 1 ≤ x.1 ∧ x.1 ≤ ((slTo r c s k).1 : Int)) ∧ (slTo r c s k).2.Pairwise numR
  | 0 => ⟨(fun x hx => by cases hx), List.Pairwise.nil⟩
  | k + 1 => by
    obtain ⟨h1, h2⟩ := slTo_numbers r c s k
    show (∀ x ∈ (stepSl (slTo r c s k) k (acN c s k) (dnN r c s k)).2, 1 ≤ x.1 ∧ x.1 ≤ ((stepSl (slTo r c s k) k (acN c s k) (dnN r c s k)).1 : Int)) ∧ (stepSl (slTo r c s k) k (acN c s k) (dnN r c s k)).2.Pairwise numR
    generalize slTo r c s k = y at h1 h2 ⊢
    generalize acN c s k = a
    generalize dnN r c s k = d
    constructor
    · intro x hx
      have hn : (y.1 : Int) ≤ ((stepSl y k a d).1 : Int) ∧ ((2 ≤ a ∨ 2 ≤ d) → (stepSl y k a d).1 = y.1 + 1) := by
        unfold stepSl
        split
        · exact ⟨by simp; omega, fun _ => rfl⟩
        · rename_i h; exact ⟨by simp, fun h' => absurd h' h⟩
      rcases stepSl_mem hx with h | ⟨ha, rfl⟩ | ⟨hd, rfl⟩
      · have := h1 x h; omega
      · have := hn.2 (.inl ha); simp only; omega
      · have := hn.2 (.inr hd); simp only; omega
    · unfold stepSl
      have hm : (2 ≤ a ∨ 2 ≤ d) → (if 2 ≤ a ∨ 2 ≤ d then y.1 + 1 else y.1) = y.1 + 1 := fun h => if_pos h
      generalize (if 2 ≤ a ∨ 2 ≤ d then y.1 + 1 else y.1) = m at hm ⊢
      rw [List.pairwise_append, List.pairwise_append]
      refine ⟨⟨h2, ?_, fun x hx z hz => ?_⟩, ?_, fun x hx z hz => ?_⟩
      · split
        · exact List.pairwise_singleton ..
        · exact List.Pairwise.nil
      · split at hz
        · rename_i ha
          have e := hm (Or.inl ha)
          obtain rfl := List.mem_singleton.1 hz
          have := h1 x hx
          exact Or.inl (by simp only; omega)
        · cases hz
      · split
        · exact List.pairwise_singleton ..
        · exact List.Pairwise.nil
      · split at hz
        · rename_i hd
          have e := hm (Or.inr hd)
          obtain rfl := List.mem_singleton.1 hz
          rcases List.mem_append.1 hx with h | h
          · have := h1 x h
            exact Or.inl (by simp only; omega)
          · split at h
            · obtain rfl := List.mem_singleton.1 h
              exact Or.inr ⟨rfl, rfl, rfl⟩
            · cases h
        · cases hz
theorem slG_num {g : Int × Int × ByteArray} {x : SlotV} (h : x ∈ slG g) : 1 ≤ x.1 ∧ x.1 ≤ 36 := by
  rcases slG_cases g with h0 | ⟨R, C, hg, e1, e2, h1, h2, h3, h4, h5, h6, h7⟩
  · rw [h0] at h; cases h
  · rw [h7] at h
    have h8 := (slTo_numbers R C g.2.2 (R * C)).1 x h
    have h9 := (slTo_bound R C g.2.2 (R * C)).1
    have h10 : R * C ≤ 36 := Nat.mul_le_mul (show R ≤ 6 by omega) (show C ≤ 6 by omega)
    omega
theorem slG_numR (g : Int × Int × ByteArray) : (slG g).Pairwise numR := by
  rcases slG_cases g with h0 | ⟨R, C, hg, e1, e2, h1, h2, h3, h4, h5, h6, h7⟩
  · rw [h0]; exact List.Pairwise.nil
  · rw [h7]; exact (slTo_numbers R C g.2.2 (R * C)).2
theorem slot_num {g : Int × Int × ByteArray} {x : SlotV} (h : x ∈ slG g) : -9223372036854775808 ≤ x.1 ∧ x.1 ≤ 9223372036854775807 := by
  have := slG_num h
  omega
theorem text_differ {a b : ByteArray} (h : a ≠ b) : (a.toList == b.toList) = false := by rw [str_beq]; exact decide_eq_false h

end Go.Proofs.YtmhgejljjjmejaaDoor
