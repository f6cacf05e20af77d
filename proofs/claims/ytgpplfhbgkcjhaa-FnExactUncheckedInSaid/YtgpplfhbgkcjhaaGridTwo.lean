/-
  The model's contracts of TurnGrid, IsSymmetric.
-/
import Derived.Test.YtgpplfhbgkcjhaaGrid
import Derived.Deep.RegionWith
namespace Go.Proofs.Ytgpplfhbgkcjhaa
open Go.RowKit

/-- What TurnGrid answers. -/
def turnG (g : Int × Int × ByteArray) : Int × Int × ByteArray := if isG g = true then (g.1, g.2.1, backL g.2.2) else (0, 0, ⟨#[]⟩)
def aggG (g : Int × Int × ByteArray) : Value := .agg #[.int .i64 g.1, .int .i64 g.2.1, .string g.2.2]

theorem new_block (w : World) (o : Obj) : (w.alloc o).heap[w.heap.size]? = some o := by
  show (w.heap.push o)[w.heap.size]? = some o
  simp
theorem box33 {w w' : World} {A Z : Array Value} {t u : TypeId} (h : Below ((w.alloc (.cells A t)).alloc (.cells Z u)).heap.size ((w.alloc (.cells A t)).alloc (.cells Z u)) w') :
    w'.heap[w.heap.size]? = some (.cells A t) ∧ w'.heap[w.heap.size + 1]? = some (.cells Z u) ∧ Below w.heap.size w w' := by
  have hz : (w.alloc (.cells A t)).heap.size = w.heap.size + 1 := by simp
  have hz2 : ((w.alloc (.cells A t)).alloc (.cells Z u)).heap.size = w.heap.size + 2 := by simp
  refine ⟨?_, ?_, (((Below.refl _ _).alloc (Nat.le_refl _) _).alloc (by omega) _).trans (h.mono (by omega))⟩
  · rw [h.block w.heap.size (by omega), ((Below.refl (w.heap.size + 1) (w.alloc (.cells A t))).alloc (by omega) (.cells Z u)).block w.heap.size (by omega)]
    exact new_block w _
  · rw [h.block (w.heap.size + 1) (by omega), ← hz]
    exact new_block _ _
theorem cells3 {w : World} {b : Nat} {x y z : Value} {t : TypeId} (h : w.heap[b]? = some (.cells #[x, y, z] t (0, 0))) :
    w.cell? ⟨b, 0, none⟩ = some x ∧ w.cell? ⟨b, 1, none⟩ = some y ∧ w.cell? ⟨b, 2, none⟩ = some z ∧ w.frozen? ⟨b, 0, none⟩ = false ∧ w.frozen? ⟨b, 1, none⟩ = false ∧ w.frozen? ⟨b, 2, none⟩ = false :=
  ⟨Joins.cell_of_block h 0, Joins.cell_of_block h 1, Joins.cell_of_block h 2, Joins.unfrozen_of_block h 0, Joins.unfrozen_of_block h 1, Joins.unfrozen_of_block h 2⟩

theorem size_of_heap {w : World} {b : Nat} {o : Obj} (h : w.heap[b]? = some o) : b < w.heap.size := by
  rcases Nat.lt_or_ge b w.heap.size with h9 | h9
  · exact h9
  · rw [Array.getElem?_eq_none h9] at h; cases h

theorem toList_ne {a b : ByteArray} (h : a ≠ b) : ¬ a.toList = b.toList := by
  intro e
  apply h
  have h9 : (a.toList == b.toList) = decide (a = b) := str_beq a b
  rw [e, beq_self_eq_true] at h9
  exact of_decide_eq_true h9.symm
/-- What IsSymmetric answers. -/
def symG (g : Int × Int × ByteArray) : Bool := isG g && decide (backL g.2.2 = g.2.2)
end Go.Proofs.Ytgpplfhbgkcjhaa