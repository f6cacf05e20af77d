/-
  The model's contracts of chapter 8, fifth part: SlotsAt.
-/
import Derived.Test.YtdhjgaadfofkkaaDoorSlotSpecD
import Derived.Deep.RegionWith
import Derived.Deep.RegionHeld3
namespace Go.Proofs.YtdhjgaadfofkkaaDoor
open Go.RowKit

/-- What SlotsAt answers, of a list of slots. -/
def atS (l : List SlotV) (c k : Int) : List Int := ((List.range l.length).filter fun i => hasI (cellsS c (l.getD i none_Slot)) k).map fun (i : Nat) => (i : Int)
def atSn (l : List SlotV) (c k : Int) (n : Nat) : List Int := ((List.range n).filter fun i => hasI (cellsS c (l.getD i none_Slot)) k).map fun (i : Nat) => (i : Int)
theorem atSn_next (l : List SlotV) (c k : Int) (n : Nat) : atSn l c k (n + 1) = atSn l c k n ++ (if hasI (cellsS c (l.getD n none_Slot)) k = true then [(n : Int)] else []) := by
  unfold atSn
  rw [List.range_succ, List.filter_append, List.map_append]
  congr 1
  by_cases h : hasI (cellsS c (l.getD n none_Slot)) k = true
  · rw [if_pos h, List.filter_cons_of_pos (p := fun i => hasI (cellsS c (l.getD i none_Slot)) k) h]; rfl
  · rw [if_neg h, List.filter_cons_of_neg (p := fun i => hasI (cellsS c (l.getD i none_Slot)) k) h]; rfl
theorem atSn_length (l : List SlotV) (c k : Int) (n : Nat) : (atSn l c k n).length ≤ n := by
  unfold atSn
  rw [List.length_map]
  refine Nat.le_trans (List.length_filter_le _ _) ?_
  rw [List.length_range]
  exact Nat.le_refl _
theorem clG_in {g : Int × Int × ByteArray} {x : SlotV} (h : x ∈ slG g) : clG g x = cellsS g.2.1 x := if_pos h
theorem cellsS_length (c : Int) (x : SlotV) : (cellsS c x).length = x.2.2.2.toNat := by
  unfold cellsS
  rw [List.length_map, List.length_range]
theorem clG_length (g : Int × Int × ByteArray) (x : SlotV) : (clG g x).length ≤ 6 := by
  unfold clG
  split
  · rename_i h
    obtain ⟨-, -, -, h1, -⟩ := slG_small h
    rw [cellsS_length]
    omega
  · exact Nat.zero_le _
theorem reads_ints {W : World} {base : Nat} {v : Value} {l : List Int} {e : TypeId} (h : W.ownsRow base e 1 v l.length (l.map (Value.int .i64))) (hl : l.length ≤ 140737488355328) : Reads W.heap.size W v .i64 l := reads_own h rfl hl
end Go.Proofs.YtdhjgaadfofkkaaDoor
