/-
  The program's contracts of chapter 6: MeetPatterns.
  The program's contracts of chapter 6: WordsFitting, LettersAt; and all of them in the form that the laws' walks ask.
-/
import Derived.Test.YtgjijmcedonlmaaGreatDoorPatImplB
import Derived.Test.YtgjijmcedonlmaaGreatDoorListSpec
import Derived.Test.YtgjijmcedonlmaaGreatDoorMix
import Derived.Test.YtgjijmcedonlmaaGreatDoorKit
namespace Go.Proofs.YtgjijmcedonlmaaGreatDoor
open Go.RowKit

/-- The signs after the first j open places have been taken from q. -/
def mixB (p q : ByteArray) (L : List Nat) (i : Nat) : UInt8 := if i ∈ L then q.data.toList.getD i 0 else p.data.toList.getD i 0
theorem mixB_next (p q : ByteArray) (L : List Nat) (t : Nat) (k : Nat) : mixB p q (L ++ [t]) k = if k = t then q.data.toList.getD t 0 else mixB p q L k := by
  unfold mixB
  by_cases e : k = t
  · subst e
    rw [if_pos (by simp), if_pos rfl]
  · rw [if_neg e]
    by_cases h : k ∈ L
    · rw [if_pos (List.mem_append_left _ h), if_pos h]
    · rw [if_neg (by simp [h, e]), if_neg h]
theorem mix_meet (p q : ByteArray) (h : p.size ≤ 8) : mixL p.size (mixB p q (itemsTo (opS p) 64)) = meetL p q p.size := by
  unfold mixL meetL
  refine List.map_congr_left fun i hi => ?_
  have hi2 := List.mem_range.1 hi
  unfold mixB meetB
  have hm : i ∈ itemsTo (opS p) 64 ↔ p.data.toList.getD i 0 = 63 := by
    unfold opS
    rw [itemsTo_set _ _ _ (by omega), List.mem_filter]
    simp only [beq_iff_eq]
    exact ⟨fun h => h.2, fun h => ⟨hi, h⟩⟩
  by_cases e : p.data.toList.getD i 0 = 63
  · rw [if_pos (hm.2 e), if_pos e]
  · rw [if_neg (fun h => e (hm.1 h)), if_neg e]
theorem natI_at (l : List Nat) (j : Nat) (h : j < l.length) : (natI l).getD j 0 = ((l.getD j 0 : Nat) : Int) := by
  unfold natI
  rw [List.getD_eq_getElem?_getD, List.getD_eq_getElem?_getD, List.getElem?_map, List.getElem?_eq_getElem h]
  rfl
theorem take_at {α : Type} (l : List α) (j : Nat) (d : α) (h : j < l.length) : l.take (j + 1) = l.take j ++ [l.getD j d] := by
  rw [List.take_succ_eq_append_getElem h, List.getD_eq_getElem?_getD, List.getElem?_eq_getElem h, Option.getD_some]

end Go.Proofs.YtgjijmcedonlmaaGreatDoor
namespace Go.Proofs.YtgjijmcedonlmaaGreatDoor
open Go.RowKit

theorem withB_any (S k : Nat) (hS : S < 67108864) (hk : k < 26) (w : World) :
    Calls Tryz.prog 94 #[.int .u64 (S : Int), .int .u8 (k : Int)] w fun e w' => e = .returned (.int .u64 ((S ||| 2 ^ k : Nat) : Int)) ∧ w = w' := by
  have h2 : 2 ^ k < 18446744073709551616 := Nat.lt_of_le_of_lt (Nat.pow_le_pow_right (by omega) (Nat.le_of_lt hk)) (by decide)
  have hw : IntKind.u64.wrap (2 ^ k) = ((2 ^ k : Nat) : Int) := by
    rw [show ((2 : Int) ^ k) = ((2 ^ k : Nat) : Int) by simp, IntKind.wrap_u64]
    generalize 2 ^ k = X at h2 ⊢
    omega
  rw [← bits_or_u64_nat S (2 ^ k) (by omega) h2, ← hw]
  clear hw h2
  go_enter Tryz.func94, Tryz.ntmps94
  go_wp2
  go_ret
  exact ⟨rfl, rfl⟩

/-- The letters found in the first k words, as a set of bits. -/
def foF (l : List ByteArray) (t : Int) (c : Nat) : Bool := decide (0 ≤ t) && hasAt l t.toNat (97 + c)
def foS (l : List ByteArray) (t : Int) (k : Nat) : Nat := setTo (foF (l.take k) t) 26
theorem foS_lt (l : List ByteArray) (t : Int) (k : Nat) : foS l t k < 67108864 := setTo_lt _ 26
theorem foS_zero (l : List ByteArray) (t : Int) : foS l t 0 = 0 := by
  unfold foS
  rw [setTo_congr (g := fun _ => false) (fun i _ => by unfold foF hasAt; simp)]
  rfl
theorem foS_no (l : List ByteArray) (t : Int) (k : Nat) (h : k < l.length) (x : ByteArray) (hx : x = l.getD k ⟨#[]⟩) (hn : ¬ (isW x = true ∧ 0 ≤ t ∧ t ≤ (x.size : Int) - 1)) : foS l t (k + 1) = foS l t k := by
  unfold foS
  refine setTo_congr fun c _ => ?_
  unfold foF
  rw [hasAt_next l _ _ k h, ← hx]
  by_cases h0 : 0 ≤ t
  · have h1 : hasAt1 t.toNat (97 + c) x = false := by
      unfold hasAt1
      cases hw : isW x
      · rfl
      · rw [decide_eq_false (show ¬ t.toNat < x.size from fun h3 => hn ⟨hw, h0, by omega⟩)]; rfl
    rw [h1, Bool.or_false]
  · rw [decide_eq_false h0]; rfl
theorem foS_yes (l : List ByteArray) (n : Nat) (k : Nat) (h : k < l.length) (x : ByteArray) (hx : x = l.getD k ⟨#[]⟩) (hw : isW x = true) (hn : n < x.size) (c : Nat) (hc : x[n].toNat = 97 + c) (hc26 : c < 26) : foS l n k ||| 2 ^ c = foS l n (k + 1) := by
  unfold foS
  refine setTo_or hc26 fun i _ => ?_
  unfold foF
  rw [hasAt_next l _ _ k h, ← hx, decide_eq_true (show (0 : Int) ≤ n by omega), Bool.true_and, Bool.true_and]
  congr 1
  unfold hasAt1
  rw [hw, Int.toNat_natCast, decide_eq_true hn, getD_byte x n hn, hc]
  by_cases e : i = c
  · subst e; simp
  · rw [decide_eq_false (show ¬ 97 + c = 97 + i by omega), decide_eq_false e]; rfl
theorem letters_set (l : List ByteArray) (t : Int) : (⟨((itemsTo (foS l t l.length) 64).map fun c => UInt8.ofNat (97 + c)).toArray⟩ : ByteArray) = lettersA l t := by
  unfold foS lettersA lettersL
  rw [itemsTo_set _ _ _ (by omega), List.take_length]
  by_cases h0 : 0 ≤ t
  · rw [if_pos h0]
    congr 3
    refine List.filter_congr fun c _ => ?_
    unfold foF
    rw [decide_eq_true h0]; rfl
  · rw [if_neg h0, List.filter_eq_nil_iff.2 (fun c _ => by unfold foF; rw [decide_eq_false h0]; simp)]
    rfl
/-- The letters of a list of numbers. -/
def ltrI (l : List Nat) : List Int := l.map fun (k : Nat) => (97 + k : Int)
theorem ltrI_length (l : List Nat) : (ltrI l).length = l.length := by simp [ltrI]
theorem ltrI_str (l : List Nat) (h : ∀ k ∈ l, k < 26) : strOfNums (ltrI l) = ⟨(l.map fun c => UInt8.ofNat (97 + c)).toArray⟩ := by
  have h2 : ltrI l = numsL (l.map fun c => UInt8.ofNat (97 + c)) := by
    unfold ltrI numsL
    rw [List.map_map]
    refine List.map_congr_left fun k hk => ?_
    have := h k hk
    show ((97 : Int) + k) = (((UInt8.ofNat (97 + k)).toNat : Nat) : Int)
    rw [UInt8.toNat_ofNat']
    omega
  rw [h2, str_nums]
theorem i_IsPattern (x : ByteArray) (w : World) (hx : x.size ≤ 1048576) (hm : ML w) :
    Calls Tryz.prog 114 #[.string x] w fun e w' => ∃ r, r = isP x ∧ e = .returned (.bool r) ∧ Below w.heap.size w w' :=
  (iip_any x w hm hx).mono fun _ _ ⟨h1, h2⟩ => ⟨_, rfl, h1, h2⟩
theorem i_FitsPattern (x y : ByteArray) (w : World) (hx : x.size ≤ 1048576) (hy : y.size ≤ 1048576) (hm : ML w) :
    Calls Tryz.prog 64 #[.string x, .string y] w fun e w' => ∃ r, r = fitsP x y ∧ e = .returned (.bool r) ∧ Below w.heap.size w w' :=
  (ifits_any x y w hm hx hy).mono fun _ _ ⟨h1, h2⟩ => ⟨_, rfl, h1, h2⟩
end Go.Proofs.YtgjijmcedonlmaaGreatDoor
