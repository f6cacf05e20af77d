/-
  The model's contracts of chapter 10, first part: the tests on the slots, FormOf's last two rules.
-/
import Derived.Test.YthgnhcjbjdhjfaaGreatDoorFormPure
import Derived.Test.YthgnhcjbjdhjfaaGreatDoorCrossSpecB
import Derived.Deep.RegionWith
import Derived.Deep.RegionHeld3
namespace Go.Proofs.YthgnhcjbjdhjfaaGreatDoor
open Go.RowKit

theorem gbox {W : World} {b : Nat} {r c : Int} {s : ByteArray} {t : TypeId} {mk : Nat × Nat} (h : W.heap[b]? = some (.cells #[.int .i64 r, .int .i64 c, .string s] t mk)) : W.cell? ⟨b, 0, none⟩ = some (.int .i64 r) ∧ W.cell? ⟨b, 1, none⟩ = some (.int .i64 c) ∧ W.cell? ⟨b, 2, none⟩ = some (.string s) := ⟨Joins.cell_of_block h 0, Joins.cell_of_block h 1, Joins.cell_of_block h 2⟩
theorem block_later {W W' : World} {B b : Nat} {o : Obj} (h : W.heap[b]? = some o) (hb : Below B W W') (hB : b < B) : W'.heap[b]? = some o := (hb.block b hB).trans h
theorem short_yes {l : List SlotV} {k : Nat} (h : k < l.length) (h3 : (l.getD k none_Slot).2.2.2 < 3) : (l.any fun x => decide (x.2.2.2 < 3)) = true := List.any_eq_true.2 ⟨_, getD_in h, decide_eq_true h3⟩
theorem short_no {l : List SlotV} (h : ∀ j, j < l.length → ¬ (l.getD j none_Slot).2.2.2 < 3) : (l.any fun x => decide (x.2.2.2 < 3)) = false := by
  rw [Bool.eq_false_iff]
  intro h9
  obtain ⟨x, hx, h8⟩ := List.any_eq_true.1 h9
  obtain ⟨j, hj, e⟩ := List.mem_iff_getElem.1 hx
  have h7 := h j hj
  rw [List.getD_eq_getElem?_getD, List.getElem?_eq_getElem hj, Option.getD_some, e] at h7
  exact h7 (of_decide_eq_true h8)
theorem any_yes {p : Nat → Bool} {n k : Nat} (h : k < n) (hp : p k = true) : ((List.range n).any p) = true := List.any_eq_true.2 ⟨k, List.mem_range.2 h, hp⟩
theorem any_no {p : Nat → Bool} {n : Nat} (h : ∀ j, j < n → p j = false) : ((List.range n).any p) = false := by
  rw [Bool.eq_false_iff]
  intro h9
  obtain ⟨x, hx, h8⟩ := List.any_eq_true.1 h9
  rw [h x (List.mem_range.1 hx)] at h8
  cases h8
theorem unchS_range (g : Int × Int × ByteArray) (k : Int) : -1 ≤ unchS g k ∧ unchS g k ≤ 6 := by
  unfold unchS
  split
  · rename_i h
    have h1 : (cellsS g.2.1 ((slG g).getD k.toNat none_Slot)).length ≤ 6 := by
      rw [cellsS_length]
      have := (slG_small (getD_in (l := slG g) (k := k.toNat) (by omega))).2.2.2.1
      omega
    have h2 : unchN (slG g) g.2.1 (cellsS g.2.1 ((slG g).getD k.toNat none_Slot)) ≤ 6 := by
      unfold unchN
      exact Nat.le_trans (List.length_filter_le _ _) h1
    omega
  · omega
end Go.Proofs.YthgnhcjbjdhjfaaGreatDoor
