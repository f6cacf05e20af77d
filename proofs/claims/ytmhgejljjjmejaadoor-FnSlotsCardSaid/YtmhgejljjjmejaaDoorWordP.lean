/-
  Plain facts on words, and the model's contracts of chapter 4.
  Plain facts on patterns, and the model's contracts of IsPattern, FitsPattern, CountOpen.
  Plain facts on words: turning, sorting and counting letters.
  The model's contracts of chapter 4: Backwards, SortLetters, IsRearranged, CountLetter, BeforeWord.
-/
import Derived.Test.YtmhgejljjjmejaaDoorKit
import Derived.WalkKit
import Derived.WalkLawsBesides
import Derived.WalkSpells
import Derived.BigQuiet
import Derived.Deep.RegionWith
namespace Go.Proofs.YtmhgejljjjmejaaDoor
open Go.RowKit

theorem size_list (s : ByteArray) : s.data.toList.length = s.size := by rw [Array.length_toList]; rfl
theorem str_ext {s t : ByteArray} (h : s.data.toList = t.data.toList) : s = t := by
  cases s; cases t
  simp only [ByteArray.mk.injEq]
  exact Array.toList_inj.1 h
theorem take_snoc (s : ByteArray) (k : Nat) (h : k < s.size) : s.data.toList.take (k + 1) = s.data.toList.take k ++ [s[k]] := by
  rw [List.take_succ_eq_append_getElem (by simpa using h)]; rfl
theorem byte_mem (s : ByteArray) (k : Nat) (h : k < s.size) : s[k] ∈ s.data.toList := by
  show s.data[k] ∈ s.data.toList
  simp

/-- A letter. -/
def isL (b : UInt8) : Prop := 97 ≤ b.toNat ∧ b.toNat ≤ 122
instance (b : UInt8) : Decidable (isL b) := inferInstanceAs (Decidable (_ ∧ _))
/-- A word. -/
def isW (s : ByteArray) : Bool := decide (1 ≤ s.size ∧ s.size ≤ 8 ∧ ∀ b ∈ s.data.toList, isL b)
theorem isW_not {s : ByteArray} {k : Nat} (h : k < s.size) (hn : ¬ isL s[k]) : isW s = false := decide_eq_false (fun hw => hn (hw.2.2 _ (byte_mem s k h)))

end Go.Proofs.YtmhgejljjjmejaaDoor
namespace Go.Proofs.YtmhgejljjjmejaaDoor
open Go.RowKit

/-- A sign of a pattern. -/
def isPL (b : UInt8) : Prop := b.toNat = 63 ∨ isL b
instance (b : UInt8) : Decidable (isPL b) := inferInstanceAs (Decidable (_ ∨ _))
/-- A pattern. -/
def isP (s : ByteArray) : Bool := decide (1 ≤ s.size ∧ s.size ≤ 8 ∧ ∀ b ∈ s.data.toList, isPL b)
theorem isP_not {s : ByteArray} {k : Nat} (h : k < s.size) (hn : ¬ isPL s[k]) : isP s = false := decide_eq_false (fun hw => hn (hw.2.2 _ (byte_mem s k h)))
theorem isP_size {s : ByteArray} (h : isP s = true) : 1 ≤ s.size ∧ s.size ≤ 8 := by
  have h9 := of_decide_eq_true h
  exact ⟨h9.1, h9.2.1⟩
/-- The sign at k fits the letter at k. -/
def fitAt (p s : ByteArray) (k : Nat) : Prop := p.data.toList.getD k 0 = 63 ∨ p.data.toList.getD k 0 = s.data.toList.getD k 0
instance (p s : ByteArray) (k : Nat) : Decidable (fitAt p s k) := inferInstanceAs (Decidable (_ ∨ _))
/-- What FitsPattern answers. -/
def fitsP (p s : ByteArray) : Bool := isP p && isW s && decide (p.size = s.size ∧ ∀ k, k < p.size → fitAt p s k)
theorem getD_byte (s : ByteArray) (k : Nat) (h : k < s.size) : s.data.toList.getD k 0 = s[k] := by
  rw [List.getD_eq_getElem?_getD, List.getElem?_eq_getElem (by rw [size_list]; exact h), Option.getD_some]
  rfl
/-- What CountOpen answers. -/
def openN (p : ByteArray) : Int := if isP p = true then ((p.data.toList.count 63 : Nat) : Int) else -1
end Go.Proofs.YtmhgejljjjmejaaDoor
namespace Go.Proofs.YtmhgejljjjmejaaDoor
open Go.RowKit

/-- What Backwards answers. -/
def backL (s : ByteArray) : ByteArray := if s.size ≤ 100 then ⟨s.data.toList.reverse.toArray⟩ else ⟨#[]⟩
theorem back_list {s : ByteArray} (h : s.size ≤ 100) : (backL s).data.toList = s.data.toList.reverse := by unfold backL; rw [if_pos h]
theorem back_size {s : ByteArray} (h : s.size ≤ 100) : (backL s).size = s.size := by rw [← size_list, back_list h, List.length_reverse, size_list]
theorem back_back {s : ByteArray} (h : s.size ≤ 100) : backL (backL s) = s := by
  refine str_ext ?_
  rw [back_list (by rw [back_size h]; exact h), back_list h, List.reverse_reverse]
theorem isW_back {s : ByteArray} (h : s.size ≤ 100) : isW (backL s) = isW s := by
  unfold isW
  rw [back_size h, back_list h]
  congr 1
  simp

/-- The bytes of letter j. -/
def nth (l : List UInt8) (j : Nat) : List UInt8 := l.filter fun b => b.toNat == 97 + j
def sortB (l : List UInt8) : List UInt8 := (List.range 26).flatMap (nth l)
/-- What SortLetters answers. -/
def sortL (s : ByteArray) : ByteArray := if isW s = true then ⟨(sortB s.data.toList).toArray⟩ else ⟨#[]⟩
theorem sort_list {s : ByteArray} (h : isW s = true) : (sortL s).data.toList = sortB s.data.toList := by unfold sortL; rw [if_pos h]
theorem sum_one (c : Nat) : ∀ (n m : Nat), ((List.range n).map (fun j => if m = j then c else 0)).sum = if m < n then c else 0
  | 0, m => by simp
  | n + 1, m => by
    rw [List.range_succ, List.map_append, List.sum_append, sum_one c n m]
    simp only [List.map_cons, List.map_nil, List.sum_cons, List.sum_nil]
    by_cases h1 : m < n
    · rw [if_pos h1, if_neg (by omega), if_pos (by omega)]
      omega
    · by_cases h2 : m = n
      · rw [if_neg h1, if_pos h2, if_pos (by omega)]
        omega
      · rw [if_neg h1, if_neg h2, if_neg (by omega)]
        rfl
theorem count_nth (a : UInt8) (l : List UInt8) (j : Nat) (ha : isL a) : (nth l j).count a = if a.toNat - 97 = j then l.count a else 0 := by
  unfold isL at ha
  by_cases h : a.toNat - 97 = j
  · rw [if_pos h]
    exact List.count_filter (by simp; omega)
  · rw [if_neg h]
    refine List.count_eq_zero.2 (fun hm => ?_)
    have := (List.mem_filter.1 hm).2
    simp at this
    omega
theorem sort_perm {l : List UInt8} (hl : ∀ b ∈ l, isL b) : (sortB l).Perm l := by
  rw [List.perm_iff_count]
  intro a
  by_cases ha : isL a
  · unfold sortB
    rw [List.count_flatMap]
    have e : (List.map (List.count a ∘ nth l) (List.range 26)) = (List.range 26).map (fun j => if a.toNat - 97 = j then l.count a else 0) := by
      refine List.map_congr_left (fun j _ => ?_)
      exact count_nth a l j ha
    rw [e, sum_one, if_pos (by unfold isL at ha; omega)]
  · rw [List.count_eq_zero.2 (fun hm => ha (hl a hm)), List.count_eq_zero]
    intro hm
    obtain ⟨j, _, hj⟩ := List.mem_flatMap.1 hm
    exact ha (hl a (List.mem_filter.1 hj).1)
theorem nth_reverse (l : List UInt8) (j : Nat) : nth l.reverse j = nth l j := by
  have h : nth l j = List.replicate (nth l j).length (UInt8.ofNat (97 + j)) := by
    refine List.eq_replicate_of_mem (fun b hb => ?_)
    have := (List.mem_filter.1 hb).2
    simp at this
    rw [← this]
    exact (UInt8.ofNat_toNat ..).symm
  have e : nth l.reverse j = (nth l j).reverse := by unfold nth; rw [List.filter_reverse]
  rw [e, h, List.reverse_replicate]
theorem sort_back {s : ByteArray} (h : s.size ≤ 100) : sortL (backL s) = sortL s := by
  unfold sortL
  rw [isW_back h]
  by_cases hw : isW s = true
  · rw [if_pos hw, if_pos hw, back_list h]
    unfold sortB
    rw [show nth s.data.toList.reverse = nth s.data.toList from funext (fun j => nth_reverse _ j)]
  · rw [if_neg hw, if_neg hw]
theorem word_of {s : ByteArray} (h : isW s = true) : 1 ≤ s.size ∧ s.size ≤ 8 ∧ ∀ b ∈ s.data.toList, isL b := of_decide_eq_true h
theorem sort_size {s : ByteArray} (h : isW s = true) : (sortL s).size = s.size := by
  rw [← size_list, sort_list h, (sort_perm (word_of h).2.2).length_eq, size_list]
theorem sort_none {s : ByteArray} (h : isW s = false) : sortL s = ⟨#[]⟩ := by unfold sortL; rw [if_neg (by rw [h]; decide)]
/-- What IsRearranged answers. -/
def rearr (a b : ByteArray) : Bool := isW a && isW b && decide (a ≠ b) && decide (sortL a = sortL b)
theorem rearr_comm (a b : ByteArray) : rearr a b = rearr b a := by
  unfold rearr
  rw [Bool.and_comm (isW a), show decide (a ≠ b) = decide (b ≠ a) from decide_eq_decide.2 ⟨Ne.symm, Ne.symm⟩, show decide (sortL a = sortL b) = decide (sortL b = sortL a) from decide_eq_decide.2 ⟨Eq.symm, Eq.symm⟩]
theorem rearr_self (a : ByteArray) : rearr a a = false := by unfold rearr; simp
/-- What CountLetter answers. -/
def cntL (s t : ByteArray) : Int := if isW s = true ∧ isW t = true ∧ t.size = 1 then ((s.data.toList.count (t.data.toList.headD 0) : Nat) : Int) else 0
theorem rearr_perm {a b : ByteArray} (h : rearr a b = true) : isW a = true ∧ isW b = true ∧ a.data.toList.Perm b.data.toList := by
  unfold rearr at h
  simp only [Bool.and_eq_true, decide_eq_true_eq] at h
  obtain ⟨⟨⟨h1, h2⟩, -⟩, h3⟩ := h
  have h4 := sort_perm (word_of h1).2.2
  have h5 := sort_perm (word_of h2).2.2
  rw [← sort_list h1, h3, sort_list h2] at h4
  exact ⟨h1, h2, h4.symm.trans h5⟩
theorem rearr_size {a b : ByteArray} (h : rearr a b = true) : a.size = b.size := by
  rw [← size_list, ← size_list]
  exact (rearr_perm h).2.2.length_eq
theorem rearr_count {a b : ByteArray} (h : rearr a b = true) (t : ByteArray) : cntL a t = cntL b t := by
  obtain ⟨h1, h2, h3⟩ := rearr_perm h
  unfold cntL
  rw [h1, h2, h3.count_eq]
theorem less_asymm : ∀ (x y : List UInt8), Op.bytesLess x y = true → Op.bytesLess y x = false
  | [], [], h => by simp [Op.bytesLess] at h
  | _ :: _, [], h => by simp [Op.bytesLess] at h
  | [], _ :: _, _ => by simp [Op.bytesLess]
  | a :: x, b :: y, h => by
    have ih := less_asymm x y
    simp only [Op.bytesLess, Bool.or_eq_true, Bool.and_eq_true, decide_eq_true_eq, beq_iff_eq] at h
    simp only [Op.bytesLess, Bool.or_eq_false_iff, Bool.and_eq_false_iff, decide_eq_false_iff_not]
    rcases h with h | ⟨rfl, h⟩
    · exact ⟨UInt8.lt_asymm h, Or.inl (beq_eq_false_iff_ne.2 (fun e => UInt8.lt_irrefl _ (e ▸ h)))⟩
    · exact ⟨UInt8.lt_irrefl _, Or.inr (ih h)⟩
theorem less_total : ∀ (x y : List UInt8), Op.bytesLess x y = false → Op.bytesLess y x = false → x = y
  | [], [], _, _ => rfl
  | _ :: _, [], _, h => by simp [Op.bytesLess] at h
  | [], _ :: _, h, _ => by simp [Op.bytesLess] at h
  | a :: x, b :: y, h, k => by
    have ih := less_total x y
    simp only [Op.bytesLess, Bool.or_eq_false_iff, Bool.and_eq_false_iff, decide_eq_false_iff_not] at h k
    have e : a = b := UInt8.le_antisymm (UInt8.not_lt.1 k.1) (UInt8.not_lt.1 h.1)
    subst e
    simp only [beq_self_eq_true, Bool.true_eq_false, false_or] at h k
    rw [ih h.2 k.2]
/-- What BeforeWord answers. -/
def befW (a b : ByteArray) : Bool := if a.size = b.size then Op.bytesLess a.toList b.toList else decide (a.size < b.size)
theorem bef_asymm {a b : ByteArray} (h : befW a b = true) : befW b a = false := by
  unfold befW at h ⊢
  by_cases e : a.size = b.size
  · rw [if_pos e] at h
    rw [if_pos e.symm]
    exact less_asymm _ _ h
  · rw [if_neg e] at h
    rw [if_neg (Ne.symm e)]
    have := of_decide_eq_true h
    exact decide_eq_false (by omega)
theorem bef_total {a b : ByteArray} (h : befW a b = false) (k : befW b a = false) : a = b := by
  unfold befW at h k
  by_cases e : a.size = b.size
  · rw [if_pos e] at h
    rw [if_pos e.symm] at k
    have h9 := less_total _ _ h k
    rw [ByteArray.toList_eq, ByteArray.toList_eq] at h9
    exact str_ext h9
  · rw [if_neg e] at h
    rw [if_neg (Ne.symm e)] at k
    have h1 := of_decide_eq_false h
    have h2 := of_decide_eq_false k
    omega
end Go.Proofs.YtmhgejljjjmejaaDoor
namespace Go.Proofs.YtmhgejljjjmejaaDoor
open Go.RowKit

theorem extract_one (s : ByteArray) (k : Nat) (h : k < s.size) : (s.extract k (k + 1)).data.toList = [s[k]] := by
  rw [ByteArray.data_extract]
  refine List.ext_getElem ?_ fun i h1 h2 => ?_
  · simp
    have : s.data.size = s.size := rfl
    omega
  · have hi : i = 0 := by simpa using h2
    subst hi
    simp
    rfl
theorem cons_list (s r : ByteArray) (k : Nat) (h : k < s.size) : (s.extract k (k + 1) ++ r).data.toList = s[k] :: r.data.toList := by
  rw [ByteArray.data_append, Array.toList_append, extract_one s k h]
  rfl
theorem snoc_list (s r : ByteArray) (k : Nat) (h : k < s.size) : (r ++ s.extract k (k + 1)).data.toList = r.data.toList ++ [s[k]] := by
  rw [ByteArray.data_append, Array.toList_append, extract_one s k h]

theorem str_beq (a b : ByteArray) : (a.toList == b.toList) = decide (a = b) := by
  rw [ByteArray.toList_eq, ByteArray.toList_eq]
  by_cases h : a = b
  · subst h; simp
  · rw [decide_eq_false h]
    exact beq_eq_false_iff_ne.2 (fun e => h (str_ext e))
theorem count_next (s : ByteArray) (b : UInt8) (k : Nat) (h : k < s.size) : (s.data.toList.take (k + 1)).count b = (s.data.toList.take k).count b + (if s[k] = b then 1 else 0) := by
  rw [take_snoc s k h, List.count_append]
  congr 1
  by_cases e : s[k] = b
  · rw [if_pos e, e]; simp
  · rw [if_neg e, List.count_eq_zero]; simp; exact fun h => e h.symm
end Go.Proofs.YtmhgejljjjmejaaDoor
