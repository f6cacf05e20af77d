/-
  The model's contracts of chapter 4: Backwards, SortLetters, IsRearranged, CountLetter, BeforeWord.
-/
import Derived.Test.YtbickkphiofmlaaWordFacts
import Derived.Deep.RegionWith
namespace Go.Proofs.Ytbickkphiofmlaa
open Go.RowKit

theorem extract_one (s : ByteArray) (k : Nat) (h : k < s.size) : (s.extract k (k + 1)).data.toList = [s[k]] := by
  rw [ByteArray.data_extract]
  refine List.ext_getElem ?_ fun i h1 h2 => ?_
  · simp
    have : s.data.size = s.size := rfl
    omega
  · have hi : i = 0 := by simpa using h2
    subst hi
    simp
    rfl
theorem cons_list (s r : ByteArray) (k : Nat) (h : k < s.size) : (s.extract k (k + 1) ++ r).data.toList = s[k] :: r.data.toList := by
  rw [ByteArray.data_append, Array.toList_append, extract_one s k h]
  rfl
theorem snoc_list (s r : ByteArray) (k : Nat) (h : k < s.size) : (r ++ s.extract k (k + 1)).data.toList = r.data.toList ++ [s[k]] := by
  rw [ByteArray.data_append, Array.toList_append, extract_one s k h]

set_option maxHeartbeats 800000 in
theorem sback_any (s : ByteArray) (w : World) (hs : s.size ≤ 1048576) :
    Calls Try.prog 44 #[.string s] w fun e w' => e = .returned (.string (backL s)) ∧ Below w.heap.size w w' := by
  by_cases h100 : s.size ≤ 100
  · go_enter Try.func44, Try.ntmps44
    go_wp2
    go_loopw [3, 4] (fun o i wr => ∃ (k : Nat) (r : ByteArray), k ≤ s.size ∧ i = .int .i64 k ∧ o = .string r ∧ Hid (r.data.toList = (s.data.toList.take k).reverse) ∧ r.size ≤ 100 ∧ Below w.heap.size w wr) (fun _ i _ => s.size - (intOf i).toNat)
    case atStart => exact ⟨0, ⟨#[]⟩, Nat.zero_le _, rfl, rfl, Lib.hid (by simp), by decide, Below.refl _ _⟩
    case round =>
      obtain ⟨k, r, hk, rfl, rfl, HR, hr, hbl⟩ := hrel
      by_cases hlt : k < s.size
      · have HR2 : Hid ((s.extract k (k + 1) ++ r).data.toList = (s.data.toList.take (k + 1)).reverse) := Lib.hid (by rw [cons_list s r k hlt, HR.out, take_snoc s k hlt]; simp)
        have hr2 : (s.extract k (k + 1) ++ r).size ≤ 100 := by
          rw [← size_list, HR2.out, List.length_reverse, List.length_take, size_list]
          omega
        go_wp2
        go_roundw
        case rel => exact ⟨k + 1, _, by omega, by go_num, rfl, HR2, hr2, hbl⟩
        case measure => simp [intOf]; omega
      · have HF : Hid (r = backL s) := Lib.hid (str_ext (by rw [back_list h100, HR.out, show k = s.data.toList.length by rw [size_list]; omega, List.take_length]))
        go_wp2
        go_ret
        exact ⟨by rw [← HF.out]; rfl, hbl⟩
  · have HF : Hid (backL s = ⟨#[]⟩) := Lib.hid (by unfold backL; rw [if_neg h100])
    have hd : decide ((s.size : Int) ≤ 100) = false := decide_eq_false (by omega)
    clear h100
    go_enter Try.func44, Try.ntmps44
    go_wp2
    go_loopw [3, 4] (fun o i wr => i = .int .i64 0 ∧ o = .string ⟨#[]⟩ ∧ Below w.heap.size w wr) (fun _ _ _ => 0)
    case atStart => exact ⟨rfl, rfl, Below.refl _ _⟩
    case round =>
      obtain ⟨rfl, rfl, hbl⟩ := hrel
      go_wp2
      all_goals go_ret
      all_goals exact ⟨by rw [HF.out]; rfl, hbl⟩

theorem str_beq (a b : ByteArray) : (a.toList == b.toList) = decide (a = b) := by
  rw [ByteArray.toList_eq, ByteArray.toList_eq]
  by_cases h : a = b
  · subst h; simp
  · rw [decide_eq_false h]
    exact beq_eq_false_iff_ne.2 (fun e => h (str_ext e))
theorem count_next (s : ByteArray) (b : UInt8) (k : Nat) (h : k < s.size) : (s.data.toList.take (k + 1)).count b = (s.data.toList.take k).count b + (if s[k] = b then 1 else 0) := by
  rw [take_snoc s k h, List.count_append]
  congr 1
  by_cases e : s[k] = b
  · rw [if_pos e, e]; simp
  · rw [if_neg e, List.count_eq_zero]; simp; exact fun h => e h.symm
end Go.Proofs.Ytbickkphiofmlaa
