/-
  The model's contracts of chapter 4: Backwards, SortLetters, IsRearranged, CountLetter, BeforeWord.
-/
import Derived.Test.YthcbaiokomilaaaDoorWordFacts
import Derived.Deep.RegionWith
namespace Go.Proofs.YthcbaiokomilaaaDoor
open Go.RowKit

theorem extract_one (s : ByteArray) (k : Nat) (h : k < s.size) : (s.extract k (k + 1)).data.toList = [s[k]] := by
  rw [ByteArray.data_extract]
  refine List.ext_getElem ?_ fun i h1 h2 => ?_
  · simp
    have : s.data.size = s.size := rfl
    omega
  · have hi : i = 0 := by simpa using h2
    subst hi
    simp
    rfl
theorem cons_list (s r : ByteArray) (k : Nat) (h : k < s.size) : (s.extract k (k + 1) ++ r).data.toList = s[k] :: r.data.toList := by
  rw [ByteArray.data_append, Array.toList_append, extract_one s k h]
  rfl
theorem snoc_list (s r : ByteArray) (k : Nat) (h : k < s.size) : (r ++ s.extract k (k + 1)).data.toList = r.data.toList ++ [s[k]] := by
  rw [ByteArray.data_append, Array.toList_append, extract_one s k h]

theorem str_beq (a b : ByteArray) : (a.toList == b.toList) = decide (a = b) := by
  rw [ByteArray.toList_eq, ByteArray.toList_eq]
  by_cases h : a = b
  · subst h; simp
  · rw [decide_eq_false h]
    exact beq_eq_false_iff_ne.2 (fun e => h (str_ext e))
theorem count_next (s : ByteArray) (b : UInt8) (k : Nat) (h : k < s.size) : (s.data.toList.take (k + 1)).count b = (s.data.toList.take k).count b + (if s[k] = b then 1 else 0) := by
  rw [take_snoc s k h, List.count_append]
  congr 1
  by_cases e : s[k] = b
  · rw [if_pos e, e]; simp
  · rw [if_neg e, List.count_eq_zero]; simp; exact fun h => e h.symm
end Go.Proofs.YthcbaiokomilaaaDoor
