/-
  The model's contracts of chapter 4: Backwards, SortLetters, IsRearranged, CountLetter, BeforeWord.
-/
import Derived.Test.YtcpojeiciaghmaaWordFacts
import Derived.Deep.RegionWith
namespace Go.Proofs.Ytcpojeiciaghmaa
open Go.RowKit

theorem extract_one (s : ByteArray) (k : Nat) (h : k < s.size) : (s.extract k (k + 1)).data.toList = [s[k]] := by
  rw [ByteArray.data_extract]
  refine List.ext_getElem ?_ fun i h1 h2 => ?_
  · simp
    have : s.data.size = s.size := rfl
    omega
  · have hi : i = 0 := by simpa using h2
    subst hi
    simp
    rfl
theorem cons_list (s r : ByteArray) (k : Nat) (h : k < s.size) : (s.extract k (k + 1) ++ r).data.toList = s[k] :: r.data.toList := by
  rw [ByteArray.data_append, Array.toList_append, extract_one s k h]
  rfl
theorem snoc_list (s r : ByteArray) (k : Nat) (h : k < s.size) : (r ++ s.extract k (k + 1)).data.toList = r.data.toList ++ [s[k]] := by
  rw [ByteArray.data_append, Array.toList_append, extract_one s k h]

theorem str_beq (a b : ByteArray) : (a.toList == b.toList) = decide (a = b) := by
  rw [ByteArray.toList_eq, ByteArray.toList_eq]
  by_cases h : a = b
  · subst h; simp
  · rw [decide_eq_false h]
    exact beq_eq_false_iff_ne.2 (fun e => h (str_ext e))
set_option maxHeartbeats 800000 in
theorem sbef_same (a b : ByteArray) (w : World) :
    Calls Try.prog 56 #[.string a, .string b] w fun e w' => e = .returned (.bool (befW a b)) ∧ w = w' := by
  by_cases h : a.size = b.size
  · have hb : ((a.size : Int) != b.size) = false := by simp; omega
    have HF : Hid (befW a b = Op.bytesLess a.toList b.toList) := Lib.hid (by unfold befW; rw [if_pos h])
    clear h
    go_enter Try.func56, Try.ntmps56
    go_wp2
    go_ret
    exact ⟨by rw [HF.out]; rfl, rfl⟩
  · have hb : ((a.size : Int) != b.size) = true := by simp; omega
    have HF : Hid (befW a b = decide (a.size < b.size)) := Lib.hid (by unfold befW; rw [if_neg h])
    clear h
    go_enter Try.func56, Try.ntmps56
    go_wp2
    go_ret
    exact ⟨by rw [HF.out]; rfl, rfl⟩
theorem sbef_any (a b : ByteArray) (w : World) :
    Calls Try.prog 56 #[.string a, .string b] w fun e w' => e = .returned (.bool (befW a b)) ∧ Below w.heap.size w w' :=
  (sbef_same a b w).mono fun _ _ ⟨h1, h2⟩ => ⟨h1, h2 ▸ Below.refl _ _⟩

theorem count_next (s : ByteArray) (b : UInt8) (k : Nat) (h : k < s.size) : (s.data.toList.take (k + 1)).count b = (s.data.toList.take k).count b + (if s[k] = b then 1 else 0) := by
  rw [take_snoc s k h, List.count_append]
  congr 1
  by_cases e : s[k] = b
  · rw [if_pos e, e]; simp
  · rw [if_neg e, List.count_eq_zero]; simp; exact fun h => e h.symm
end Go.Proofs.Ytcpojeiciaghmaa
