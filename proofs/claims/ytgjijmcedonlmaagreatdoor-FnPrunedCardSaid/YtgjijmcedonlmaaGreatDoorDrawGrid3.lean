/-
  Contracts of the draws of chapter 7, second part: l7Any and the three draws of the laws.
  Contracts of the draws of chapter 7, third part: the three draws of the laws.
-/
import Derived.Test.YtgjijmcedonlmaaGreatDoorDrawGrid
import Derived.Test.YtgjijmcedonlmaaGreatDoorDrawPat
import Derived.Test.YtgjijmcedonlmaaGreatDoorSame
namespace Go.Proofs.YtgjijmcedonlmaaGreatDoor
open Go.RowKit

def ints7 : List Int := [1, 7, 3]
theorem ints7_in : ∀ z ∈ ints7, LO ≤ z ∧ z ≤ HI := by decide
def cells7 : List Int := [0, 1, 4, 8, 11, 35, 36, -1]
theorem cells7_in : ∀ z ∈ cells7, (-1 : Int) ≤ z ∧ z ≤ 36 := by decide

end Go.Proofs.YtgjijmcedonlmaaGreatDoor
namespace Go.Proofs.YtgjijmcedonlmaaGreatDoor
open Go.RowKit

def any7 (t : ByteArray) : List ByteArray := [t, t, t, t ++ ⟨#[47]⟩, t ++ ⟨#[46]⟩, ⟨#[]⟩, ⟨#[46, 47, 46]⟩, ⟨#[46, 46, 47, 46]⟩, ⟨#[46, 46, 120, 47, 46, 46, 46]⟩, ⟨#[46, 46, 46, 46, 46, 46, 46, 47, 46, 46, 46, 46, 46, 46, 46]⟩]
theorem any7_in {t : ByteArray} (ht : t.size ≤ 42) : ∀ y ∈ any7 t, y.size ≤ 50 := by
  intro y hy
  simp only [any7, List.mem_cons, List.not_mem_nil, or_false] at hy
  have h1 : (t ++ ⟨#[47]⟩).size = t.size + 1 := by simp [ByteArray.size_append]; rfl
  have h2 : (t ++ ⟨#[46]⟩).size = t.size + 1 := by simp [ByteArray.size_append]; rfl
  rcases hy with rfl | rfl | rfl | rfl | rfl | rfl | rfl | rfl | rfl | rfl <;> first | omega | decide
theorem textG_size (g : Int × Int × ByteArray) : (textG g).size ≤ 42 := by
  by_cases h : isG g = true
  · obtain ⟨⟨hr1, hr2⟩, ⟨hc1, hc2⟩, -⟩ := of_decide_eq_true h
    have hT : textG g = ⟨(linesG g.2.1.toNat g.2.2 g.1.toNat).toArray⟩ := by unfold textG; rw [if_pos h]
    have h9 := linesG_length g.2.1.toNat g.2.2 g.1.toNat
    rw [hT, ← size_list]
    exact Nat.le_trans h9 (Nat.le_trans (Nat.mul_le_mul (show g.1.toNat ≤ 6 by omega) (show g.2.1.toNat + 1 ≤ 7 by omega)) (by decide))
  · have hT : textG g = ⟨#[]⟩ := by unfold textG; rw [if_neg h]
    rw [hT]
    decide
end Go.Proofs.YtgjijmcedonlmaaGreatDoor
