/-
  Plain facts on patterns that the law of chapter 6 asks.
-/
import Derived.Test.YthgnhcjbjdhjfaaDoorPatB
import Derived.Test.YthgnhcjbjdhjfaaDoorListSpec
namespace Go.Proofs.YthgnhcjbjdhjfaaDoor
open Go.RowKit

theorem meetL_at (p q : ByteArray) (n k : Nat) (h : k < n) : (meetL p q n).getD k 0 = meetB (p.data.toList.getD k 0) (q.data.toList.getD k 0) := by
  unfold meetL
  rw [List.getD_eq_getElem?_getD, List.getElem?_map, List.getElem?_range h]
  rfl
/-- The meet of two patterns that meet. -/
def mB (p q : ByteArray) : ByteArray := ⟨(meetL p q p.size).toArray⟩
theorem mB_size (p q : ByteArray) : (mB p q).size = p.size := by
  show (meetL p q p.size).toArray.size = p.size
  simp [meetL_length]
theorem mB_at (p q : ByteArray) (k : Nat) (h : k < p.size) : (mB p q).data.toList.getD k 0 = meetB (p.data.toList.getD k 0) (q.data.toList.getD k 0) := meetL_at p q p.size k h
theorem meetP_yes {p q : ByteArray} (h : meetOk p q = true) : meetP p q = (mB p q, true) := by unfold meetP; rw [if_pos h]; rfl
theorem meetP_no {p q : ByteArray} (h : meetOk p q = false) : meetP p q = (⟨#[]⟩, false) := by unfold meetP; rw [h]; rfl
theorem meetOk_of {p q : ByteArray} (h : meetOk p q = true) : isP p = true ∧ isP q = true ∧ p.size = q.size ∧ ∀ k, k < p.size → okM (p.data.toList.getD k 0) (q.data.toList.getD k 0) := by
  unfold meetOk at h
  simp only [Bool.and_eq_true, decide_eq_true_eq] at h
  exact ⟨h.1.1, h.1.2, h.2.1, h.2.2⟩
theorem sign_at {p : ByteArray} (h : isP p = true) (k : Nat) (hk : k < p.size) : isPL (p.data.toList.getD k 0) := by
  rw [getD_byte p k hk]
  exact (of_decide_eq_true h).2.2 _ (byte_mem p k hk)
theorem isP_at {p : ByteArray} (h1 : 1 ≤ p.size) (h2 : p.size ≤ 8) (h : ∀ k, k < p.size → isPL (p.data.toList.getD k 0)) : isP p = true := by
  refine decide_eq_true ⟨h1, h2, fun b hb => ?_⟩
  obtain ⟨k, hk, rfl⟩ := List.mem_iff_getElem.1 hb
  have h3 := h k (by rw [← size_list]; exact hk)
  rw [List.getD_eq_getElem?_getD, List.getElem?_eq_getElem hk] at h3
  exact h3
theorem mB_is {p q : ByteArray} (h : meetOk p q = true) : isP (mB p q) = true := by
  obtain ⟨hp, hq, hs, -⟩ := meetOk_of h
  have h8 := isP_size hp
  refine isP_at (by rw [mB_size]; exact h8.1) (by rw [mB_size]; exact h8.2) fun k hk => ?_
  rw [mB_size] at hk
  rw [mB_at p q k hk]
  unfold meetB
  split
  · exact sign_at hq k (by omega)
  · exact sign_at hp k hk
theorem fits_iff (p x : ByteArray) : fitsP p x = true ↔ isP p = true ∧ isW x = true ∧ p.size = x.size ∧ ∀ k, k < p.size → fitAt p x k := by
  unfold fitsP
  simp only [Bool.and_eq_true, decide_eq_true_eq]
  exact ⟨fun h => ⟨h.1.1, h.1.2, h.2.1, h.2.2⟩, fun h => ⟨⟨h.1, h.2.1⟩, h.2.2.1, h.2.2.2⟩⟩
/-- The meet is fitted by just the words that fit both. -/
theorem meet_fits (p q x : ByteArray) : (fitsP p x && fitsP q x) = ((meetP p q).2 && fitsP (meetP p q).1 x) := by
  cases h : meetOk p q with
  | true =>
    rw [meetP_yes h]
    obtain ⟨hp, hq, hs, hok⟩ := meetOk_of h
    show _ = (true && fitsP (mB p q) x)
    rw [Bool.true_and, Bool.eq_iff_iff, Bool.and_eq_true, fits_iff, fits_iff, fits_iff, mB_size]
    constructor
    · rintro ⟨⟨-, hw, h1, h2⟩, -, -, -, h3⟩
      refine ⟨mB_is h, hw, h1, fun k hk => ?_⟩
      have a1 := h2 k hk
      have a2 := h3 k (by omega)
      unfold fitAt at a1 a2 ⊢
      rw [mB_at p q k hk]
      unfold meetB
      split
      · exact a2
      · rename_i hne
        exact Or.inr (a1.resolve_left hne)
    · rintro ⟨-, hw, h1, h2⟩
      refine ⟨⟨hp, hw, h1, fun k hk => ?_⟩, hq, hw, by omega, fun k hk => ?_⟩
      · have a1 := h2 k hk
        unfold fitAt at a1 ⊢
        rw [mB_at p q k hk] at a1
        unfold meetB at a1
        by_cases e : p.data.toList.getD k 0 = 63
        · exact Or.inl e
        · rw [if_neg e] at a1; exact a1
      · have hk' : k < p.size := by omega
        have a1 := h2 k hk'
        have a2 := hok k hk'
        unfold fitAt at a1 ⊢
        unfold okM at a2
        rw [mB_at p q k hk'] at a1
        unfold meetB at a1
        by_cases e : p.data.toList.getD k 0 = 63
        · rw [if_pos e] at a1; exact a1
        · rw [if_neg e] at a1
          have a3 := a1.resolve_left e
          rcases a2 with a2 | a2 | a2
          · exact absurd a2 e
          · exact Or.inl a2
          · exact Or.inr (a2.symm.trans a3)
  | false =>
    rw [meetP_no h]
    show _ = (false && _)
    rw [Bool.false_and, Bool.eq_false_iff]
    intro hb
    rw [Bool.and_eq_true, fits_iff, fits_iff] at hb
    obtain ⟨⟨hp, -, h1, h2⟩, hq, -, h3, h4⟩ := hb
    refine absurd h (by
      rw [Bool.not_eq_false]
      unfold meetOk
      rw [hp, hq]
      refine decide_eq_true ⟨by omega, fun k hk => ?_⟩
      have a1 := h2 k hk
      have a2 := h4 k (by omega)
      unfold fitAt at a1 a2
      unfold okM
      rcases a1 with a1 | a1
      · exact Or.inl a1
      · rcases a2 with a2 | a2
        · exact Or.inr (Or.inl a2)
        · exact Or.inr (Or.inr (a1.trans a2.symm)))
theorem fits_self (x : ByteArray) (h : isW x = true) : fitsP x x = true := by
  obtain ⟨h1, h2, h3⟩ := word_of h
  exact (fits_iff x x).2 ⟨decide_eq_true ⟨h1, h2, fun b hb => Or.inr (h3 b hb)⟩, h, rfl, fun k _ => Or.inr rfl⟩
theorem open_yes {p : ByteArray} (h : isP p = true) : openN p = ((p.data.toList.count 63 : Nat) : Int) := by unfold openN; rw [if_pos h]
theorem open_no {p : ByteArray} (h : isP p = false) : openN p = -1 := by unfold openN; rw [h]; rfl
theorem open_ge (p : ByteArray) : decide (0 ≤ openN p) = isP p := by
  cases h : isP p
  · rw [open_no h]; rfl
  · rw [open_yes h]; exact decide_eq_true (by omega)
theorem count_at (p : ByteArray) (n : Nat) (h : n = p.size) : p.data.toList.count 63 = (List.range n).countP fun i => p.data.toList.getD i 0 == 63 := by
  rw [← filter_count, size_list, h, List.countP_eq_length_filter]
theorem open_le {p q : ByteArray} (h : meetOk p q = true) : openN (mB p q) ≤ openN p ∧ openN (mB p q) ≤ openN q := by
  obtain ⟨hp, hq, hs, hok⟩ := meetOk_of h
  rw [open_yes hp, open_yes hq, open_yes (mB_is h), count_at p p.size rfl, count_at q p.size hs, count_at (mB p q) p.size (mB_size p q).symm]
  constructor
  · refine Int.ofNat_le.2 (List.countP_mono_left fun k hk hm => ?_)
    rw [mB_at p q k (List.mem_range.1 hk)] at hm
    unfold meetB at hm
    by_cases e : p.data.toList.getD k 0 = 63
    · exact beq_iff_eq.2 e
    · rw [if_neg e] at hm; exact hm
  · refine Int.ofNat_le.2 (List.countP_mono_left fun k hk hm => ?_)
    rw [mB_at p q k (List.mem_range.1 hk)] at hm
    unfold meetB at hm
    by_cases e : p.data.toList.getD k 0 = 63
    · rw [if_pos e] at hm; exact hm
    · rw [if_neg e] at hm; exact absurd (beq_iff_eq.1 hm) e
theorem fitW_at (l : List ByteArray) (p : ByteArray) (k : Nat) (h : k < (fitW l p).length) : fitsP p ((fitW l p).getD k ⟨#[]⟩) = true ∧ hasW l ((fitW l p).getD k ⟨#[]⟩) = true := by
  have h2 := List.mem_filter.1 (getD_mem (fitW l p) k ⟨#[]⟩ h)
  exact ⟨h2.2, hasW_yes h2.1⟩
/-- One of the words has b at place a. -/
def smAt (l : List ByteArray) (a : Nat) (b : UInt8) : Bool := l.any fun x => decide (a < x.size) && decide (x.data.toList.getD a 0 = b)
theorem smAt_next (l : List ByteArray) (a : Nat) (b : UInt8) (k : Nat) (h : k < l.length) (x : ByteArray) (hx : x = l.getD k ⟨#[]⟩) : smAt (l.take (k + 1)) a b = (smAt (l.take k) a b || (decide (a < x.size) && decide (x.data.toList.getD a 0 = b))) := by
  unfold smAt
  rw [take_next l k ⟨#[]⟩ h, List.any_append, ← hx]
  simp
theorem letters_at (l : List ByteArray) (t : Int) (i : Nat) (h : i < (lettersA l t).size) : 0 ≤ t ∧ smAt l t.toNat ((lettersA l t).data.toList.getD i 0) = true ∧ (0 < i → ((lettersA l t).data.toList.getD (i - 1) 0).toNat < ((lettersA l t).data.toList.getD i 0).toNat) := by
  by_cases h0 : 0 ≤ t
  · have he : lettersA l t = ⟨(lettersL l t.toNat 26).toArray⟩ := by unfold lettersA; rw [if_pos h0]
    have hi : i < (lettersL l t.toNat 26).length := by
      rw [he] at h
      have h5 : (⟨(lettersL l t.toNat 26).toArray⟩ : ByteArray).size = (lettersL l t.toNat 26).length := by
        show (lettersL l t.toNat 26).toArray.size = _
        simp
      omega
    rw [he]
    show 0 ≤ t ∧ smAt l t.toNat ((lettersL l t.toNat 26).getD i 0) = true ∧ (0 < i → ((lettersL l t.toNat 26).getD (i - 1) 0).toNat < ((lettersL l t.toNat 26).getD i 0).toNat)
    refine ⟨h0, ?_, fun hp => ?_⟩
    · have hm := getD_mem (lettersL l t.toNat 26) i 0 hi
      obtain ⟨b, hb⟩ : ∃ b, b = (lettersL l t.toNat 26).getD i 0 := ⟨_, rfl⟩
      rw [← hb] at hm ⊢
      unfold lettersL at hm
      obtain ⟨c, hc, rfl⟩ := List.mem_map.1 hm
      have hc2 := List.mem_filter.1 hc
      have hc26 := List.mem_range.1 hc2.1
      obtain ⟨x, hx, hx2⟩ := List.any_eq_true.1 hc2.2
      unfold hasAt1 at hx2
      simp only [Bool.and_eq_true, decide_eq_true_eq] at hx2
      refine List.any_eq_true.2 ⟨x, hx, ?_⟩
      simp only [Bool.and_eq_true, decide_eq_true_eq]
      refine ⟨hx2.1.2, UInt8.toNat_inj.1 ?_⟩
      rw [hx2.2, UInt8.toNat_ofNat']
      omega
    · have hpw : (lettersL l t.toNat 26).Pairwise (fun a b => a.toNat < b.toNat) := by
        unfold lettersL
        rw [List.pairwise_map]
        refine ((List.pairwise_lt_range (n := 26)).filter _).imp_of_mem fun {a b} ha hb hab => ?_
        have h1 := List.mem_range.1 (List.mem_filter.1 ha).1
        have h2 := List.mem_range.1 (List.mem_filter.1 hb).1
        rw [UInt8.toNat_ofNat', UInt8.toNat_ofNat']
        omega
      have h3 := List.pairwise_iff_getElem.1 hpw (i - 1) i (by omega) hi (by omega)
      rw [List.getD_eq_getElem?_getD, List.getD_eq_getElem?_getD, List.getElem?_eq_getElem hi, List.getElem?_eq_getElem (show i - 1 < _ by omega)]
      exact h3
  · unfold lettersA at h
    rw [if_neg h0] at h
    exact absurd h (Nat.not_lt_zero i)
theorem letters_size (l : List ByteArray) (t : Int) : (lettersA l t).size ≤ 26 := by
  unfold lettersA
  split
  · show (lettersL l t.toNat 26).toArray.size ≤ 26
    have := lettersL_len l t.toNat 26
    simpa using this
  · decide
end Go.Proofs.YthgnhcjbjdhjfaaDoor
