/-
  The model's contracts of WordsFitting, MeetPatterns, LettersAt.
  The model's contract of LettersAt.
  Plain facts on sets of small numbers that are held as bits.
-/
import Derived.Test.YtmhgejljjjmejaaDoorWordP
import Derived.Test.YtmhgejljjjmejaaDoorVals
import Derived.BigQuiet
import Derived.Lib.TrailingZeros
import Derived.Laws.Bits64b
import Derived.Lib.ReplaceLaws
import Derived.Lib.IndexBytes
namespace Go.Proofs.YtmhgejljjjmejaaDoor
open Go.RowKit

theorem one_srcP (W : World) (v : Value) (t : TypeId) : ∀ j, j < 1 * 1 → ∃ b off, (some ⟨W.heap.size, 0, none⟩ : Option Addr) = some ⟨b, off, none⟩ ∧ (W.alloc (.cells #[v] t)).cell? ⟨b, off + j, none⟩ = [v][j]? := fun j hj => by
  obtain rfl : j = 0 := by omega
  exact ⟨W.heap.size, 0, rfl, by rw [World.cell?_alloc_mark]; rfl⟩
/-- What WordsFitting answers. -/
def fitW (l : List ByteArray) (p : ByteArray) : List ByteArray := l.filter (fitsP p)
theorem fitW_next (l : List ByteArray) (p : ByteArray) (k : Nat) (h : k < l.length) : fitW (l.take (k + 1)) p = fitW (l.take k) p ++ if fitsP p (l.getD k ⟨#[]⟩) = true then [l.getD k ⟨#[]⟩] else [] := by
  unfold fitW
  rw [List.take_succ_eq_append_getElem h, List.filter_append, List.getD_eq_getElem?_getD, List.getElem?_eq_getElem h, Option.getD_some]
  congr 1
  simp [List.filter_cons]
theorem fitW_length (l : List ByteArray) (p : ByteArray) : (fitW l p).length ≤ l.length := List.length_filter_le _ _

/-- Two signs that meet. -/
def okM (a b : UInt8) : Prop := a = 63 ∨ b = 63 ∨ a = b
instance (a b : UInt8) : Decidable (okM a b) := inferInstanceAs (Decidable (_ ∨ _))
def meetB (a b : UInt8) : UInt8 := if a = 63 then b else a
def meetL (p q : ByteArray) (k : Nat) : List UInt8 := (List.range k).map fun i => meetB (p.data.toList.getD i 0) (q.data.toList.getD i 0)
theorem meetL_next (p q : ByteArray) (k : Nat) : meetL p q (k + 1) = meetL p q k ++ [meetB (p.data.toList.getD k 0) (q.data.toList.getD k 0)] := by
  unfold meetL
  rw [List.range_succ, List.map_append]
  rfl
theorem meetL_length (p q : ByteArray) (k : Nat) : (meetL p q k).length = k := by simp [meetL]
def meetOk (p q : ByteArray) : Bool := isP p && isP q && decide (p.size = q.size ∧ ∀ k, k < p.size → okM (p.data.toList.getD k 0) (q.data.toList.getD k 0))
/-- What MeetPatterns answers. -/
def meetP (p q : ByteArray) : ByteArray × Bool := if meetOk p q = true then (⟨(meetL p q p.size).toArray⟩, true) else (⟨#[]⟩, false)
theorem byte63 {b : UInt8} (h : b ≠ 63) : b.toNat ≠ 63 := fun e => h (UInt8.toNat_inj.1 (by show b.toNat = 63; exact e))

end Go.Proofs.YtmhgejljjjmejaaDoor
namespace Go.Proofs.YtmhgejljjjmejaaDoor
open Go.RowKit

/-- A word of the list has the letter c at its place a. -/
def hasAt1 (a : Nat) (c : Nat) (x : ByteArray) : Bool := isW x && decide (a < x.size) && decide ((x.data.toList.getD a 0).toNat = c)
def hasAt (l : List ByteArray) (a : Nat) (c : Nat) : Bool := l.any (hasAt1 a c)
def lettersL (l : List ByteArray) (a : Nat) (n : Nat) : List UInt8 := ((List.range n).filter fun i => hasAt l a (97 + i)).map fun i => UInt8.ofNat (97 + i)
/-- What LettersAt answers. -/
def lettersA (l : List ByteArray) (t : Int) : ByteArray := if 0 ≤ t then ⟨(lettersL l t.toNat 26).toArray⟩ else ⟨#[]⟩
theorem lettersL_next (l : List ByteArray) (a n : Nat) : lettersL l a (n + 1) = lettersL l a n ++ if hasAt l a (97 + n) = true then [UInt8.ofNat (97 + n)] else [] := by
  unfold lettersL
  rw [List.range_succ, List.filter_append, List.map_append]
  congr 1
  by_cases h : hasAt l a (97 + n) = true <;> simp [h]
theorem lettersL_len (l : List ByteArray) (a n : Nat) : (lettersL l a n).length ≤ n := by
  unfold lettersL
  rw [List.length_map]
  exact Nat.le_trans (List.length_filter_le _ _) (by simp)
theorem hasAt_next (l : List ByteArray) (a c k : Nat) (h : k < l.length) : hasAt (l.take (k + 1)) a c = (hasAt (l.take k) a c || hasAt1 a c (l.getD k ⟨#[]⟩)) := by
  unfold hasAt
  rw [List.take_succ_eq_append_getElem h, List.any_append, List.getD_eq_getElem?_getD, List.getElem?_eq_getElem h, Option.getD_some]
  simp
/-- A letter as a text. -/
def letB (n : Nat) : ByteArray := ⟨#[UInt8.ofNat (97 + n)]⟩
theorem letB_list (n : Nat) : (letB n).data.toList = [UInt8.ofNat (97 + n)] := rfl
theorem letB_size (n : Nat) : (letB n).size = 1 := rfl
theorem enc_letter (n : Nat) (h : n < 26) : Utf8.encode (97 + (n : Int)) = letB n := by
  unfold letB
  have hv : Utf8.valid (97 + (n : Int)) = true := by
    unfold Utf8.valid
    simp
    omega
  unfold Utf8.encode
  have ht : (97 + (n : Int)).toNat = 97 + n := by omega
  simp only [hv, if_true, ht]
  rw [if_pos (by omega)]
end Go.Proofs.YtmhgejljjjmejaaDoor
namespace Go.Proofs.YtmhgejljjjmejaaDoor
open Go.RowKit

/-- The numbers below k of which f is true, as a set of bits. -/
def setTo (f : Nat → Bool) : Nat → Nat
  | 0 => 0
  | k + 1 => if f k = true then setTo f k ||| 2 ^ k else setTo f k
theorem setTo_lt (f : Nat → Bool) : ∀ k, setTo f k < 2 ^ k
  | 0 => by simp [setTo]
  | k + 1 => by
    have h := setTo_lt f k
    have h2 : 2 ^ (k + 1) = 2 ^ k + 2 ^ k := by rw [Nat.pow_succ]; omega
    unfold setTo
    by_cases hf : f k = true
    · rw [if_pos hf]; exact Nat.or_lt_two_pow (by omega) (Nat.pow_lt_pow_right (by omega) (by omega))
    · rw [if_neg hf]; omega
theorem setTo_bit (f : Nat → Bool) : ∀ k i, (setTo f k).testBit i = (decide (i < k) && f i)
  | 0, i => by simp [setTo]
  | k + 1, i => by
    have h := setTo_bit f k i
    unfold setTo
    by_cases hf : f k = true
    · rw [if_pos hf, Nat.testBit_or, h, Nat.testBit_two_pow]
      rcases Nat.lt_trichotomy i k with h1 | h1 | h1
      · rw [decide_eq_true h1, decide_eq_true (show i < k + 1 by omega), decide_eq_false (show ¬ k = i by omega)]; simp
      · subst h1; simp [hf]
      · rw [decide_eq_false (show ¬ i < k by omega), decide_eq_false (show ¬ i < k + 1 by omega), decide_eq_false (show ¬ k = i by omega)]; simp
    · rw [if_neg hf, h]
      rcases Nat.lt_trichotomy i k with h1 | h1 | h1
      · rw [decide_eq_true h1, decide_eq_true (show i < k + 1 by omega)]
      · subst h1; simp at hf; simp [hf]
      · rw [decide_eq_false (show ¬ i < k by omega), decide_eq_false (show ¬ i < k + 1 by omega)]
theorem setTo_congr {f g : Nat → Bool} {k : Nat} (h : ∀ i, i < k → f i = g i) : setTo f k = setTo g k := by
  refine Nat.eq_of_testBit_eq fun i => ?_
  rw [setTo_bit, setTo_bit]
  by_cases hi : i < k
  · rw [h i hi]
  · rw [decide_eq_false hi]; rfl
/-- One number more. -/
theorem setTo_or {f g : Nat → Bool} {k c : Nat} (hc : c < k) (h : ∀ i, i < k → g i = (f i || decide (i = c))) : setTo f k ||| 2 ^ c = setTo g k := by
  refine Nat.eq_of_testBit_eq fun i => ?_
  rw [Nat.testBit_or, setTo_bit, setTo_bit, Nat.testBit_two_pow]
  by_cases hi : i < k
  · rw [h i hi, decide_eq_true hi]
    by_cases hic : i = c
    · subst hic; simp
    · rw [decide_eq_false hic, decide_eq_false (show ¬ c = i by omega)]; simp
  · rw [decide_eq_false hi, decide_eq_false (show ¬ c = i by omega)]; rfl

/-- The numbers below j that are in S, in order. -/
def itemsTo (S j : Nat) : List Nat := (List.range j).filter fun k => S.testBit k
theorem itemsTo_length (S j : Nat) : (itemsTo S j).length ≤ j := by
  have h := List.length_filter_le (fun k => S.testBit k) (List.range j)
  rw [List.length_range] at h
  exact h
theorem itemsTo_lt {S j k : Nat} (h : k ∈ itemsTo S j) : k < j ∧ S.testBit k = true := by
  have h2 := List.mem_filter.1 h
  exact ⟨List.mem_range.1 h2.1, h2.2⟩
theorem itemsTo_next (S j : Nat) : itemsTo S (j + 1) = itemsTo S j ++ if S.testBit j = true then [j] else [] := by
  unfold itemsTo
  rw [List.range_succ, List.filter_append]
  congr 1
  by_cases hb : S.testBit j = true
  · rw [if_pos hb]; simp [hb]
  · rw [if_neg hb]; simp [hb]
/-- Nothing between j and t. -/
theorem itemsTo_gap (S j : Nat) : ∀ t, j ≤ t → (∀ k, j ≤ k → k < t → S.testBit k = false) → itemsTo S t = itemsTo S j
  | 0, h, _ => by rw [show j = 0 by omega]
  | t + 1, h, hg => by
    by_cases e : j = t + 1
    · rw [e]
    · rw [itemsTo_next, hg t (by omega) (by omega), itemsTo_gap S j t (by omega) (fun k h1 h2 => hg k h1 (by omega))]
      simp
theorem itemsTo_set (f : Nat → Bool) (n j : Nat) (h : n ≤ j) : itemsTo (setTo f n) j = (List.range n).filter f := by
  rw [itemsTo_gap (setTo f n) n j h (fun k h1 _ => by rw [setTo_bit, decide_eq_false (show ¬ k < n by omega)]; rfl)]
  unfold itemsTo
  refine List.filter_congr fun k hk => ?_
  rw [setTo_bit, decide_eq_true (List.mem_range.1 hk)]; rfl

theorem ctz_parts (R : Nat) (h0 : R ≠ 0) (h : R < 2 ^ 64) : ∃ m, R = 2 ^ Lib.ctz 64 R * (2 * m + 1) ∧ Lib.ctz 64 R < 64 := by
  have h2 := Lib.ctzFrom_spec 64 R (by omega) h
  unfold Lib.ctz
  rw [if_neg h0]
  exact h2
theorem ctz_at (R : Nat) (h0 : R ≠ 0) (h : R < 2 ^ 64) : R.testBit (Lib.ctz 64 R) = true ∧ (∀ k, k < Lib.ctz 64 R → R.testBit k = false) ∧ Lib.ctz 64 R < 64 ∧ (∀ k, (R &&& (R - 1)).testBit k = (decide (Lib.ctz 64 R + 1 ≤ k) && R.testBit k)) := by
  obtain ⟨m, hm, ht⟩ := ctz_parts R h0 h
  obtain ⟨t, hte⟩ : ∃ t, t = Lib.ctz 64 R := ⟨_, rfl⟩
  rw [← hte] at hm ht ⊢
  have hR : ∀ k, R.testBit k = (decide (k ≥ t) && (2 * m + 1).testBit (k - t)) := fun k => by rw [hm, Nat.testBit_two_pow_mul]
  have hone : 0 < 2 ^ t := Nat.two_pow_pos t
  have hR1 : R - 1 = 2 ^ t * (2 * m) + (2 ^ t - 1) := by
    rw [hm, Nat.mul_add, Nat.mul_one]
    omega
  have hR2 : ∀ k, t ≤ k → (R - 1).testBit k = (2 * m).testBit (k - t) := fun k hk => by
    rw [hR1, Nat.testBit_two_pow_mul_add _ (by omega), if_neg (by omega)]
  refine ⟨?_, fun k hk => ?_, ht, fun k => ?_⟩
  · rw [hR]; simp
  · rw [hR, decide_eq_false (show ¬ k ≥ t by omega)]; rfl
  · rw [Nat.testBit_and]
    by_cases h1 : t + 1 ≤ k
    · rw [decide_eq_true h1, hR2 k (by omega), hR, decide_eq_true (show k ≥ t by omega)]
      obtain ⟨d, hd⟩ : ∃ d, k - t = d + 1 := ⟨k - t - 1, by omega⟩
      rw [hd, Nat.testBit_succ, Nat.testBit_succ, show (2 * m + 1) / 2 = m by omega, show 2 * m / 2 = m by omega]
      simp
    · rw [decide_eq_false h1]
      by_cases h2 : k = t
      · subst h2
        rw [hR2 k (Nat.le_refl _)]
        simp
      · rw [hR, decide_eq_false (show ¬ k ≥ t by omega)]; simp

/-- Each bit of a is in b. -/
def coverB (a b : Nat) : Bool := (List.range 64).all fun i => !a.testBit i || b.testBit i
theorem coverB_of {a b : Nat} (h : ∀ i, i < 64 → a.testBit i = true → b.testBit i = true) : coverB a b = true := by
  refine List.all_eq_true.2 fun i hi => ?_
  cases hA : a.testBit i
  · rfl
  · rw [h i (List.mem_range.1 hi) hA]; rfl
theorem coverB_at {a b : Nat} (h : coverB a b = true) (i : Nat) (hi : i < 64) (hA : a.testBit i = true) : b.testBit i = true := by
  have h2 := List.all_eq_true.1 h i (List.mem_range.2 hi)
  rw [hA] at h2
  simpa using h2
theorem bits_andNot_u64_nat (a b : Nat) (ha : a < 18446744073709551616) (hb : b < 18446744073709551616) :
    ((bits .andNot .u64 (a : Int) (b : Int)) == 0) = coverB a b := by
  have h1 : (BitVec.ofInt 64 (a : Int)).toNat = a := by
    rw [BitVec.ofInt_natCast, BitVec.toNat_ofNat]; exact Nat.mod_eq_of_lt (by omega)
  have h2 : (BitVec.ofInt 64 (b : Int)).toNat = b := by
    rw [BitVec.ofInt_natCast, BitVec.toNat_ofNat]; exact Nat.mod_eq_of_lt (by omega)
  show ((IntKind.u64.wrap ((BitVec.ofInt 64 (a : Int) &&& ~~~ BitVec.ofInt 64 (b : Int)).toNat : Int)) == 0) = _
  obtain ⟨X, hX⟩ : ∃ X, X = BitVec.ofInt 64 (a : Int) &&& ~~~ BitVec.ofInt 64 (b : Int) := ⟨_, rfl⟩
  rw [← hX]
  have hbit : ∀ i, i < 64 → X.toNat.testBit i = (a.testBit i && !b.testBit i) := fun i hi => by
    rw [hX, ← BitVec.getLsbD, BitVec.getLsbD_and, BitVec.getLsbD_not, BitVec.getLsbD, BitVec.getLsbD, h1, h2, decide_eq_true hi]; rfl
  have hlt := X.isLt
  have hw : IntKind.u64.wrap (X.toNat : Int) = (X.toNat : Int) := by rw [IntKind.wrap_u64]; omega
  rw [hw]
  by_cases hz : X.toNat = 0
  · rw [hz]
    rw [coverB_of]
    · rfl
    intro i hi ha2
    have h3 := hbit i hi
    rw [hz, Nat.zero_testBit, ha2] at h3
    simpa using h3.symm
  · have hne : ((X.toNat : Int) == 0) = false := by simp; omega
    rw [hne]
    refine (Bool.eq_false_iff.2 fun hall => hz ?_).symm
    refine Nat.eq_of_testBit_eq fun i => ?_
    rw [Nat.zero_testBit]
    by_cases hi : i < 64
    · rw [hbit i hi]
      cases hA : a.testBit i
      · rfl
      · rw [coverB_at hall i hi hA]; rfl
    · exact Nat.testBit_lt_two_pow (Nat.lt_of_lt_of_le hlt (Nat.pow_le_pow_right (by omega) (by omega)))

/-- How many numbers below 8 are in S. -/
def popB (S : Nat) : Nat := (itemsTo S 8).length

/-- '?' becomes 'a'. -/
def opA (b : UInt8) : UInt8 := if b = 63 then 97 else b
theorem opA_none (l : List UInt8) (h : ∀ b ∈ l, b ≠ 63) : l.map opA = l := by
  induction l with
  | nil => rfl
  | cons b l ih =>
    rw [List.map_cons, ih (fun c hc => h c (List.mem_cons_of_mem _ hc))]
    unfold opA
    rw [if_neg (h b (List.mem_cons_self ..))]
theorem not_mem_of_take {l : List UInt8} {o : Nat} (h : ∀ k, k < o → l[k]? ≠ some 63) : ∀ b ∈ l.take o, b ≠ 63 := by
  intro b hb e
  subst e
  obtain ⟨i, hi⟩ := List.mem_iff_getElem?.1 hb
  by_cases hio : i < o
  · rw [List.getElem?_take_of_lt hio] at hi
    exact h i hio hi
  · rw [List.getElem?_eq_none (by rw [List.length_take]; omega)] at hi
    cases hi
theorem replaceK_ask : ∀ (k : Nat) (l : List UInt8), l.count 63 ≤ k → Lib.replaceK [63] [97] k l = l.map opA
  | 0, l, h => by
    rw [opA_none l (fun b hb e => by subst e; have := List.count_pos_iff.2 hb; omega)]; rfl
  | k + 1, l, h => by
    rw [Lib.replaceK, Lib.index_one]
    rcases Int.lt_or_le (Lib.indexByte l 63) 0 with hn | hp
    · have hge := Lib.indexByte_ge l 63
      have hm : Lib.indexByte l 63 = -1 := by omega
      rw [hm, if_pos (by rfl), opA_none l (fun b hb e => by
        subst e
        obtain ⟨i, hi⟩ := List.mem_iff_getElem?.1 hb
        exact Lib.indexByte_none hm i hi)]
    · obtain ⟨o, ho⟩ : ∃ o : Nat, Lib.indexByte l 63 = o := ⟨(Lib.indexByte l 63).toNat, by omega⟩
      obtain ⟨h1, h2⟩ := Lib.indexByte_some ho
      rw [ho, if_neg (by simp), Int.toNat_natCast]
      have hlt : o < l.length := (List.getElem?_eq_some_iff.1 h1).1
      have hcut : l = l.take o ++ 63 :: l.drop (o + 1) := by
        have h3 := (List.getElem?_eq_some_iff.1 h1).2
        conv => lhs; rw [← List.take_append_drop o l, List.drop_eq_getElem_cons hlt, h3]
      have hc : (l.drop (o + 1)).count 63 ≤ k := by
        rw [hcut, List.count_append, List.count_cons_self] at h
        omega
      show l.take o ++ [97] ++ Lib.replaceK [63] [97] k (l.drop (o + 1)) = _
      rw [replaceK_ask k _ hc]
      conv => rhs; rw [hcut, List.map_append, opA_none _ (not_mem_of_take h2), List.map_cons]
      rw [List.append_assoc]
      rfl
theorem replaceAll_ask (l : List UInt8) : Lib.replaceAll l [63] [97] = l.map opA := by
  unfold Lib.replaceAll Lib.replace
  rw [if_neg (by decide)]
  refine replaceK_ask _ l ?_
  unfold Lib.replaceNum
  rw [if_pos (Or.inl (by omega)), Lib.count_one]
  exact Nat.le_refl _
theorem isL_opA (b : UInt8) : isL (opA b) ↔ isPL b := by
  unfold opA isPL
  by_cases h : b = 63
  · subst h
    rw [if_pos rfl]
    exact ⟨fun _ => Or.inl rfl, fun _ => by unfold isL; decide⟩
  · rw [if_neg h]
    exact ⟨Or.inr, fun h2 => h2.resolve_left (byte63 h)⟩
/-- What replaces its '?' by letters is a word exactly if it was a pattern. -/
theorem isW_ask (s : ByteArray) : isW ⟨(Lib.replaceAll s.data.toList [63] [97]).toArray⟩ = isP s := by
  rw [replaceAll_ask]
  unfold isW isP
  refine decide_eq_decide.2 ?_
  have hsz : (⟨(s.data.toList.map opA).toArray⟩ : ByteArray).size = s.size := by
    show (s.data.toList.map opA).toArray.size = s.size
    simp
  rw [hsz]
  refine and_congr_right fun _ => and_congr_right fun _ => ?_
  constructor
  · intro h b hb
    exact (isL_opA b).1 (h (opA b) (by simpa using ⟨b, by simpa using hb, rfl⟩))
  · intro h b hb
    have hb2 : b ∈ s.data.toList.map opA := by simpa using hb
    obtain ⟨c, hc, rfl⟩ := List.mem_map.1 hb2
    exact (isL_opA c).2 (h c hc)

/-- The open places of a pattern; the places at which two texts differ. -/
def opS (p : ByteArray) : Nat := setTo (fun i => p.data.toList.getD i 0 == 63) p.size
def dfS (p q : ByteArray) : Nat := setTo (fun i => p.data.toList.getD i 0 != q.data.toList.getD i 0) p.size
theorem meet_bits (p q : ByteArray) (hq : p.size = q.size) (h8 : p.size ≤ 8) :
    coverB (dfS p q) (opS p ||| opS q) = decide (∀ k, k < p.size → okM (p.data.toList.getD k 0) (q.data.toList.getD k 0)) := by
  refine Bool.eq_iff_iff.2 ⟨fun h => decide_eq_true fun k hk => ?_, fun h => coverB_of fun i hi hd => ?_⟩
  · unfold okM
    by_cases e : p.data.toList.getD k 0 = q.data.toList.getD k 0
    · exact Or.inr (Or.inr e)
    · have h2 := coverB_at h k (by omega) (by unfold dfS; rw [setTo_bit, decide_eq_true hk]; simpa using e)
      unfold opS at h2
      rw [Nat.testBit_or, setTo_bit, setTo_bit, decide_eq_true hk, decide_eq_true (show k < q.size by omega)] at h2
      simp only [Bool.true_and, Bool.or_eq_true, beq_iff_eq] at h2
      rcases h2 with h2 | h2
      · exact Or.inl h2
      · exact Or.inr (Or.inl h2)
  · unfold dfS at hd
    rw [setTo_bit] at hd
    simp only [Bool.and_eq_true, decide_eq_true_eq, bne_iff_ne, ne_eq] at hd
    have h2 := of_decide_eq_true h i hd.1
    unfold opS
    rw [Nat.testBit_or, setTo_bit, setTo_bit, decide_eq_true hd.1, decide_eq_true (show i < q.size by omega)]
    simp only [Bool.true_and, Bool.or_eq_true, beq_iff_eq]
    rcases h2 with h2 | h2 | h2
    · exact Or.inl h2
    · exact Or.inr h2
    · exact absurd h2 hd.2
theorem opS_lt (p : ByteArray) (h : p.size ≤ 8) : opS p < 256 := Nat.lt_of_lt_of_le (setTo_lt _ _) (Nat.pow_le_pow_right (by omega) h)
theorem dfS_lt (p q : ByteArray) (h : p.size ≤ 8) : dfS p q < 256 := Nat.lt_of_lt_of_le (setTo_lt _ _) (Nat.pow_le_pow_right (by omega) h)
theorem filter_count : ∀ (l : List UInt8), ((List.range l.length).filter fun i => l.getD i 0 == 63).length = l.count 63 := by
  intro l
  have h : l = (List.range l.length).map fun i => l.getD i 0 := by
    refine List.ext_getElem (by simp) fun i h1 h2 => ?_
    simp [List.getD_eq_getElem?_getD, List.getElem?_eq_getElem h1]
  conv => rhs; rw [h, List.count, List.countP_map]
  rw [← List.countP_eq_length_filter]
  rfl
theorem pop_open (p : ByteArray) (h : p.size ≤ 8) : popB (opS p) = p.data.toList.count 63 := by
  unfold popB opS
  rw [itemsTo_set _ _ _ h, ← size_list, filter_count]
end Go.Proofs.YtmhgejljjjmejaaDoor
