/-
  Contracts of the exact laws' helpers on slices of integers, as Bytes has them on byte slices: toIntS, eqIntS, markIntS, heldIntS.
-/
import Derived.Test.YthgnhcjbjdhjfaaGreatDoorProg
import Derived.Test.YthgnhcjbjdhjfaaGreatDoorKit
import Derived.WalkKit
import Derived.WalkLawsBesides
import Derived.WalkSpells
import Derived.WalkSmall
import Derived.OwnWalk
import Derived.Outline
import Derived.Lib.Hide
import Derived.Lib.SmallJoins
import Derived.Laws.AppendOwn
import Derived.Laws.OwnMore
import Derived.RegionTactic
import Derived.ChangeAlike
namespace Go.Proofs.YthgnhcjbjdhjfaaGreatDoor
open Go.RowKit

theorem infoInt : (Tryz.prog.info? 3).map (fun i => (i.zero, i.size, i.bytes)) = some (some (.int .i64 0), 1, 8) := by kernel_rfl

/-- The numbers that markIntS writes. -/
def imarks (k0 : Int) (n : Nat) : List Int := (List.range n).map fun (i : Nat) => (k0 + (i : Int))
theorem imarks_length (k0 : Int) (n : Nat) : (imarks k0 n).length = n := by simp [imarks]
theorem imarks_getD (k0 : Int) (n j : Nat) (h : j < n) : (imarks k0 n).getD j 0 = (k0 + (j : Int)) := by simp [imarks, List.getD, h]
/-- What has been imarked after j rounds. -/
def imarked (k0 : Int) (xs : List Value) (j : Nat) : List Value := (imarks k0 j).map (Value.int .i64) ++ xs.drop j
theorem imarked_set (k0 : Int) (xs : List Value) (j : Nat) (h : j < xs.length) : (imarked k0 xs j).set j (.int .i64 ((k0 + (j : Int)))) = imarked k0 xs (j + 1) := by
  unfold imarked
  rw [List.set_append_right _ _ (by simp [imarks_length])]
  have e2 : j - ((imarks k0 j).map (Value.int .i64)).length = 0 := by simp [imarks_length]
  rw [e2, List.drop_eq_getElem_cons h, List.set_cons_zero]
  simp [imarks, List.range_succ]
theorem imarked_at (k0 : Int) (xs : List Value) (j : Nat) : (imarked k0 xs j)[j]? = xs[j]? := by
  unfold imarked
  rw [List.getElem?_append_right (by simp [imarks_length])]
  simp [imarks_length, List.getElem?_drop]
theorem imarked_full (k0 : Int) (xs : List Value) : imarked k0 xs xs.length = (imarks k0 xs.length).map (Value.int .i64) := by
  unfold imarked; simp

end Go.Proofs.YthgnhcjbjdhjfaaGreatDoor
