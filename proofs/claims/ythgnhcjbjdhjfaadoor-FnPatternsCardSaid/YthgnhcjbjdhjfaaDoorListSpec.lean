/-
  The model's contracts of chapter 5.
-/
import Derived.Test.YthgnhcjbjdhjfaaDoorListedS
import Derived.Test.YthgnhcjbjdhjfaaDoorWordP
namespace Go.Proofs.YthgnhcjbjdhjfaaDoor
open Go.RowKit

/-- What HasWord answers. -/
def hasW (l : List ByteArray) (x : ByteArray) : Bool := l.any fun y => decide (y = x)
theorem hasW_no {l : List ByteArray} {x : ByteArray} (h : ∀ y ∈ l, y ≠ x) : hasW l x = false := by
  unfold hasW
  rw [List.any_eq_false]
  intro y hy
  simpa using h y hy
theorem hasW_yes {l : List ByteArray} {x : ByteArray} (h : x ∈ l) : hasW l x = true := by
  unfold hasW
  rw [List.any_eq_true]
  exact ⟨x, h, by simp⟩
theorem str_ne {a b : ByteArray} (h : a ≠ b) : (a.toList == b.toList) = false := by rw [str_beq]; exact decide_eq_false h
theorem getD_mem {α : Type} (l : List α) (k : Nat) (d : α) (h : k < l.length) : l.getD k d ∈ l := by
  rw [List.getD_eq_getElem?_getD, List.getElem?_eq_getElem h]
  exact List.getElem_mem h
theorem take_next {α : Type} (l : List α) (k : Nat) (d : α) (h : k < l.length) : l.take (k + 1) = l.take k ++ [l.getD k d] := by
  rw [List.take_succ_eq_append_getElem h, List.getD_eq_getElem?_getD, List.getElem?_eq_getElem h]
  rfl

/-- What l5Find answers. -/
def findL (l : List (ByteArray × Int × Int × Int)) (x : ByteArray) : Int := if l.findIdx (fun y => decide (y.1 = x)) < l.length then l.findIdx (fun y => decide (y.1 = x)) else -1
theorem findL_no {l : List (ByteArray × Int × Int × Int)} {x : ByteArray} (h : ∀ y ∈ l, y.1 ≠ x) : findL l x = -1 := by
  unfold findL
  rw [if_neg]
  rw [List.findIdx_lt_length]
  rintro ⟨y, hy, h9⟩
  exact h y hy (of_decide_eq_true h9)
theorem findL_at {l : List (ByteArray × Int × Int × Int)} {x : ByteArray} {k : Nat} (hk : k < l.length) (h : ∀ y ∈ l.take k, y.1 ≠ x) (e : (l.getD k none_Listed).1 = x) : findL l x = k := by
  have h9 : l.findIdx (fun y => decide (y.1 = x)) = k := by
    rw [List.findIdx_eq hk]
    refine ⟨by rw [List.getD_eq_getElem?_getD, List.getElem?_eq_getElem hk] at e; simpa using e, fun j hj => ?_⟩
    refine decide_eq_false (h _ ?_)
    rw [List.mem_take_iff_getElem]
    exact ⟨j, by omega, rfl⟩
  unfold findL
  rw [h9, if_pos hk]
end Go.Proofs.YthgnhcjbjdhjfaaDoor
