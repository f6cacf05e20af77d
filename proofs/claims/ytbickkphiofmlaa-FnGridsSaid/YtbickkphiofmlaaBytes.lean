/-
  Contracts of the exact laws' helpers on byte slices: toByteS copies into new memory, eqByteS tells whether two slices read the same, markByteS writes the slice's own cells alone, heldByteS tells whether they still stand.
-/
import Derived.Test.YtbickkphiofmlaaProg
import Derived.Test.YtbickkphiofmlaaSlices
import Derived.WalkKit
import Derived.WalkLawsBesides
import Derived.WalkSpells
import Derived.WalkSmall
import Derived.OwnWalk
import Derived.Outline
import Derived.Lib.Hide
import Derived.Lib.SmallJoins
import Derived.Laws.AppendOwn
import Derived.Laws.OwnMore
import Derived.RegionTactic
import Derived.ChangeAlike
namespace Go.Proofs.Ytbickkphiofmlaa
open Go.RowKit

theorem infoU8 : (Try.prog.info? 5).map (fun i => (i.zero, i.size, i.bytes)) = some (some (.int .u8 0), 1, 1) := by kernel_rfl

/-- What has been copied after k rounds. -/
def copied (kd : IntKind) (l : List Int) (k : Nat) : List Value := (l.take k).map (Value.int kd) ++ (List.replicate (l.length - k) 0).map (Value.int kd)
theorem copied_length (kd : IntKind) (l : List Int) (k : Nat) (h : k ≤ l.length) : (copied kd l k).length = l.length := by
  unfold copied; simp; omega
theorem copied_set (kd : IntKind) (l : List Int) (k : Nat) (h : k < l.length) : (copied kd l k).set k (.int kd (l.getD k 0)) = copied kd l (k + 1) := by
  unfold copied
  have e : l.length - k = (l.length - (k + 1)) + 1 := by omega
  rw [List.set_append_right _ _ (by simp; omega), e, List.replicate_succ, List.map_cons]
  have e2 : k - ((l.take k).map (Value.int kd)).length = 0 := by simp; omega
  rw [e2, List.set_cons_zero, List.take_succ_eq_append_getElem h, List.map_append]
  simp [List.getD, h]
theorem copied_full (kd : IntKind) (l : List Int) : copied kd l l.length = l.map (Value.int kd) := by
  unfold copied; simp
theorem copied_zero (kd : IntKind) (l : List Int) : (madeCells #[Value.int kd 0] (l.length * 1)).toList = copied kd l 0 := by
  refine List.ext_getElem (by simp [madeCells, copied]) fun i h1 h2 => ?_
  simp [madeCells, copied, Nat.mod_one]
theorem copied_at (kd : IntKind) (l : List Int) (k : Nat) (h : k < l.length) : (copied kd l k)[k]? = some (.int kd 0) := by
  unfold copied
  rw [List.getElem?_append_right (by simp; omega)]
  have e2 : k - ((l.take k).map (Value.int kd)).length = 0 := by simp; omega
  rw [e2]
  have e : l.length - k = (l.length - (k + 1)) + 1 := by omega
  rw [e, List.replicate_succ]
  simp

/-- The numbers that markByteS writes. -/
def marks (k0 : Int) (n : Nat) : List Int := (List.range n).map fun (i : Nat) => (k0 + (i : Int)) % 256
theorem marks_length (k0 : Int) (n : Nat) : (marks k0 n).length = n := by simp [marks]
theorem marks_getD (k0 : Int) (n j : Nat) (h : j < n) : (marks k0 n).getD j 0 = (k0 + (j : Int)) % 256 := by simp [marks, List.getD, h]
/-- What has been marked after j rounds. -/
def marked (k0 : Int) (xs : List Value) (j : Nat) : List Value := (marks k0 j).map (Value.int .u8) ++ xs.drop j
theorem marked_set (k0 : Int) (xs : List Value) (j : Nat) (h : j < xs.length) : (marked k0 xs j).set j (.int .u8 ((k0 + (j : Int)) % 256)) = marked k0 xs (j + 1) := by
  unfold marked
  rw [List.set_append_right _ _ (by simp [marks_length])]
  have e2 : j - ((marks k0 j).map (Value.int .u8)).length = 0 := by simp [marks_length]
  rw [e2, List.drop_eq_getElem_cons h, List.set_cons_zero]
  simp [marks, List.range_succ]
theorem marked_at (k0 : Int) (xs : List Value) (j : Nat) : (marked k0 xs j)[j]? = xs[j]? := by
  unfold marked
  rw [List.getElem?_append_right (by simp [marks_length])]
  simp [marks_length, List.getElem?_drop]
theorem marked_full (k0 : Int) (xs : List Value) : marked k0 xs xs.length = (marks k0 xs.length).map (Value.int .u8) := by
  unfold marked; simp

end Go.Proofs.Ytbickkphiofmlaa
