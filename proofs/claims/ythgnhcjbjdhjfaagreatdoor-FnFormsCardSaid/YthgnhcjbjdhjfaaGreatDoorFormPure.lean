/-
  Plain facts on the parts of a grid: cells beside one another, what one cell leads to, the number of parts; the bits of the cells beside a set; the codes of the rules of form.
-/
import Derived.Test.YthgnhcjbjdhjfaaGreatDoorCrossPure
namespace Go.Proofs.YthgnhcjbjdhjfaaGreatDoor
open Go.RowKit

/-- Cells i and k stand beside one another in a grid of n cells and c columns. -/
def nearN (c n i k : Nat) : Prop := (0 < i % c ∧ k + 1 = i) ∨ (i % c + 1 < c ∧ k = i + 1) ∨ (c ≤ i ∧ k + c = i) ∨ (i + c < n ∧ k = i + c)
instance (c n i k : Nat) : Decidable (nearN c n i k) := by unfold nearN; infer_instance
/-- The white cells that one cell leads to. -/
inductive Reach (W : Nat → Bool) (c n i : Nat) : Nat → Prop
  | base : Reach W c n i i
  | step (k j : Nat) : Reach W c n i k → nearN c n j k → j < n → W j = true → Reach W c n i j
theorem reach_closed {W : Nat → Bool} {c n i : Nat} {S : Nat → Prop} (h0 : S i) (hc : ∀ j k, j < n → W j = true → S k → nearN c n j k → S j) {j : Nat} (h : Reach W c n i j) : S j := by
  induction h with
  | base => exact h0
  | step k j _ h2 h3 h4 ih => exact hc j k h3 h4 ih h2
theorem reach_lt {W : Nat → Bool} {c n i : Nat} (hi : i < n) {j : Nat} (h : Reach W c n i j) : j < n := by
  cases h with
  | base => exact hi
  | step k j _ h2 h3 h4 => exact h3
theorem reach_white {W : Nat → Bool} {c n i : Nat} (hi : W i = true) {j : Nat} (h : Reach W c n i j) : W j = true := by
  cases h with
  | base => exact hi
  | step k j _ h2 h3 h4 => exact h4
open Classical in
noncomputable def reachB (W : Nat → Bool) (c n i j : Nat) : Bool := decide (Reach W c n i j)
theorem reachB_iff {W : Nat → Bool} {c n i j : Nat} : reachB W c n i j = true ↔ Reach W c n i j := by unfold reachB; simp
/-- One cell more: what is met, and how many parts there are. -/
noncomputable def stepQ (W : Nat → Bool) (c n : Nat) (x : (Nat → Bool) × Nat) (i : Nat) : (Nat → Bool) × Nat := if x.1 i = true then x else (fun j => x.1 j || reachB W c n i j, x.2 + 1)
noncomputable def partsQ (W : Nat → Bool) (c n : Nat) (L : List Nat) : (Nat → Bool) × Nat := L.foldl (stepQ W c n) (fun _ => false, 0)
theorem partsQ_snoc (W : Nat → Bool) (c n : Nat) (L : List Nat) (i : Nat) : partsQ W c n (L ++ [i]) = stepQ W c n (partsQ W c n L) i := by unfold partsQ; rw [List.foldl_append]; rfl
theorem partsQ_le (W : Nat → Bool) (c n : Nat) (L : List Nat) : (partsQ W c n L).2 ≤ L.length := by
  unfold partsQ
  suffices h : ∀ (x : (Nat → Bool) × Nat), (L.foldl (stepQ W c n) x).2 ≤ x.2 + L.length by simpa using h (fun _ => false, 0)
  induction L with
  | nil => intro x; simp
  | cons a L ih =>
    intro x
    have := ih (stepQ W c n x a)
    have h2 : (stepQ W c n x a).2 ≤ x.2 + 1 := by unfold stepQ; split <;> simp
    simp only [List.foldl_cons, List.length_cons]
    omega
/-- The bits of the first cells of the rows, and of the last ones. -/
def leftN (c : Nat) : Nat → Nat
  | 0 => 0
  | q + 1 => leftN c q ||| 2 ^ (q * c)
def rightN (c : Nat) : Nat → Nat
  | 0 => 0
  | q + 1 => rightN c q ||| 2 ^ ((q + 1) * c - 1)
theorem leftN_bit (c : Nat) (hc : 0 < c) : ∀ q x, (leftN c q).testBit x = decide (x < q * c ∧ x % c = 0)
  | 0, x => by simp [leftN]
  | q + 1, x => by
    rw [leftN, Nat.testBit_or, leftN_bit c hc q x, Nat.testBit_two_pow]
    rw [← Bool.decide_or]
    apply decide_eq_decide.2
    rw [Nat.add_mul, Nat.one_mul]
    constructor
    · rintro (⟨h1, h2⟩ | h1)
      · exact ⟨by omega, h2⟩
      · subst h1; exact ⟨by omega, by simp⟩
    · rintro ⟨h1, h2⟩
      by_cases h : x < q * c
      · exact .inl ⟨h, h2⟩
      · right
        have h3 := Nat.div_add_mod x c
        have h4 : x / c = q := by
          have h5 : q ≤ x / c := (Nat.le_div_iff_mul_le hc).2 (by omega)
          have h6 : x / c < q + 1 := (Nat.div_lt_iff_lt_mul hc).2 (by rw [Nat.add_mul]; omega)
          omega
        rw [h4, Nat.mul_comm] at h3
        omega
theorem rightN_bit (c : Nat) (hc : 0 < c) : ∀ q x, (rightN c q).testBit x = decide (x < q * c ∧ x % c = c - 1)
  | 0, x => by simp [rightN]
  | q + 1, x => by
    rw [rightN, Nat.testBit_or, rightN_bit c hc q x, Nat.testBit_two_pow]
    rw [← Bool.decide_or]
    apply decide_eq_decide.2
    rw [Nat.add_mul, Nat.one_mul]
    constructor
    · rintro (⟨h1, h2⟩ | h1)
      · exact ⟨by omega, h2⟩
      · refine ⟨by omega, ?_⟩
        rw [← h1, show q * c + c - 1 = (c - 1) + q * c by omega, Nat.add_mul_mod_self_right]
        exact Nat.mod_eq_of_lt (by omega)
    · rintro ⟨h1, h2⟩
      by_cases h : x < q * c
      · exact .inl ⟨h, h2⟩
      · right
        have h3 := Nat.div_add_mod x c
        have h4 : x / c = q := by
          have h5 : q ≤ x / c := (Nat.le_div_iff_mul_le hc).2 (by omega)
          have h6 : x / c < q + 1 := (Nat.div_lt_iff_lt_mul hc).2 (by rw [Nat.add_mul]; omega)
          omega
        rw [h4, Nat.mul_comm] at h3
        omega
theorem leftN_lt (c q : Nat) (hc : 0 < c) : leftN c q < 2 ^ (q * c) := by
  apply Nat.lt_pow_two_of_testBit
  intro i hi
  rw [leftN_bit c hc]
  exact decide_eq_false (by omega)
theorem rightN_lt (c q : Nat) (hc : 0 < c) : rightN c q < 2 ^ (q * c) := by
  apply Nat.lt_pow_two_of_testBit
  intro i hi
  rw [rightN_bit c hc]
  exact decide_eq_false (by omega)
/-- What is in a and not in b. -/
def andN (a b : Nat) : Nat := (BitVec.ofInt 64 (a : Int) &&& ~~~ BitVec.ofInt 64 (b : Int)).toNat
theorem andN_bit (a b : Nat) (ha : a < 18446744073709551616) (hb : b < 18446744073709551616) (i : Nat) : (andN a b).testBit i = (a.testBit i && !b.testBit i) := by
  have h1 : (BitVec.ofInt 64 (a : Int)).toNat = a := by
    rw [BitVec.ofInt_natCast, BitVec.toNat_ofNat]; exact Nat.mod_eq_of_lt (by omega)
  have h2 : (BitVec.ofInt 64 (b : Int)).toNat = b := by
    rw [BitVec.ofInt_natCast, BitVec.toNat_ofNat]; exact Nat.mod_eq_of_lt (by omega)
  unfold andN
  by_cases hi : i < 64
  · rw [← BitVec.getLsbD, BitVec.getLsbD_and, BitVec.getLsbD_not, BitVec.getLsbD, BitVec.getLsbD, h1, h2, decide_eq_true hi]; rfl
  · rw [Nat.testBit_lt_two_pow (Nat.lt_of_lt_of_le (BitVec.isLt _) (Nat.pow_le_pow_right (by omega) (by omega)))]
    rw [Nat.testBit_lt_two_pow (Nat.lt_of_lt_of_le ha (show 2 ^ 64 ≤ 2 ^ i from Nat.pow_le_pow_right (by omega) (by omega)))]
    rfl
theorem andN_lt (a b : Nat) : andN a b < 18446744073709551616 := BitVec.isLt _
/-- The cells beside those of a set. -/
def besN (r c P : Nat) : Nat := ((((P * 2 ^ c) % 18446744073709551616 ||| P / 2 ^ c) ||| (andN P (rightN c r) * 2) % 18446744073709551616) ||| andN P (leftN c r) / 2)
theorem besN_lt (r c P : Nat) (hP : P < 18446744073709551616) : besN r c P < 18446744073709551616 := by
  unfold besN
  refine Nat.or_lt_two_pow (n := 64) (Nat.or_lt_two_pow (Nat.or_lt_two_pow (Nat.mod_lt _ (by decide)) (Nat.lt_of_le_of_lt (Nat.div_le_self _ _) hP)) (Nat.mod_lt _ (by decide))) (Nat.lt_of_le_of_lt (Nat.div_le_self _ _) (andN_lt _ _))
theorem mod_pred {c j : Nat} (hc : 2 ≤ c) (hj : 1 ≤ j) : (j - 1) % c = c - 1 ↔ j % c = 0 := by
  have h1 := Nat.div_add_mod (j - 1) c
  have h2 := Nat.mod_lt (j - 1) (show 0 < c by omega)
  generalize (j - 1) % c = m at *
  generalize (j - 1) / c = q at *
  have h3 : j = m + 1 + c * q := by omega
  rw [h3, Nat.add_mul_mod_self_left]
  constructor
  · intro h; rw [h, Nat.sub_add_cancel (by omega), Nat.mod_self]
  · intro h
    by_cases h4 : m + 1 < c
    · rw [Nat.mod_eq_of_lt h4] at h; omega
    · omega
theorem mod_succ {c j : Nat} (hc : 2 ≤ c) : (j + 1) % c = 0 ↔ ¬ j % c + 1 < c := by
  have h := mod_pred (c := c) (j := j + 1) hc (by omega)
  rw [Nat.add_sub_cancel] at h
  have h2 := Nat.mod_lt j (show 0 < c by omega)
  rw [← h]; omega
theorem besN_bit {r c n P : Nat} (hc : 2 ≤ c) (hn : n = r * c) (hn36 : n ≤ 36) (hP : P < 2 ^ n) {j : Nat} (hj : j < n) : (besN r c P).testBit j = true ↔ ∃ k, P.testBit k = true ∧ nearN c n j k := by
  have hPk : ∀ k, P.testBit k = true → k < n := fun k h => by
    refine Nat.lt_of_not_le fun h9 => ?_
    rw [Nat.testBit_lt_two_pow (Nat.lt_of_lt_of_le hP (Nat.pow_le_pow_right (by omega) h9))] at h
    cases h
  have hP64 : P < 18446744073709551616 := Nat.lt_of_lt_of_le hP (show 2 ^ n ≤ 2 ^ 64 from Nat.pow_le_pow_right (by omega) (by omega))
  have hL64 : leftN c r < 18446744073709551616 := Nat.lt_of_lt_of_le (leftN_lt c r (by omega)) (show 2 ^ (r * c) ≤ 2 ^ 64 from Nat.pow_le_pow_right (by omega) (by omega))
  have hR64 : rightN c r < 18446744073709551616 := Nat.lt_of_lt_of_le (rightN_lt c r (by omega)) (show 2 ^ (r * c) ≤ 2 ^ 64 from Nat.pow_le_pow_right (by omega) (by omega))
  have e1 : ((P * 2 ^ c) % 18446744073709551616).testBit j = (decide (c ≤ j) && P.testBit (j - c)) := by
    rw [show (18446744073709551616 : Nat) = 2 ^ 64 by rfl, Nat.testBit_mod_two_pow, decide_eq_true (show j < 64 by omega), Bool.true_and, Nat.mul_comm, Nat.testBit_two_pow_mul]
  have e2 : (P / 2 ^ c).testBit j = P.testBit (j + c) := by
    rw [Nat.testBit_div_two_pow]
  have e3 : ((andN P (rightN c r) * 2) % 18446744073709551616).testBit j = (decide (1 ≤ j) && (P.testBit (j - 1) && !(decide (j - 1 < r * c ∧ (j - 1) % c = c - 1)))) := by
    rw [show (18446744073709551616 : Nat) = 2 ^ 64 by rfl, Nat.testBit_mod_two_pow, decide_eq_true (show j < 64 by omega), Bool.true_and, Nat.mul_comm, show (2 : Nat) * andN P (rightN c r) = 2 ^ 1 * andN P (rightN c r) by rfl, Nat.testBit_two_pow_mul, andN_bit _ _ hP64 hR64, rightN_bit c (by omega)]
  have e4 : (andN P (leftN c r) / 2).testBit j = (P.testBit (j + 1) && !(decide (j + 1 < r * c ∧ (j + 1) % c = 0))) := by
    rw [show (andN P (leftN c r) / 2) = andN P (leftN c r) / 2 ^ 1 by rfl, Nat.testBit_div_two_pow, andN_bit _ _ hP64 hL64, leftN_bit c (by omega)]
  unfold besN
  rw [Nat.testBit_or, Nat.testBit_or, Nat.testBit_or, e1, e2, e3, e4]
  simp only [Bool.or_eq_true, Bool.and_eq_true, decide_eq_true_eq, Bool.not_eq_true', decide_eq_false_iff_not]
  unfold nearN
  constructor
  · rintro (((⟨h1, h2⟩ | h1) | ⟨h1, h2, h3⟩) | ⟨h1, h2⟩)
    · exact ⟨_, h2, .inr (.inr (.inl ⟨h1, by omega⟩))⟩
    · exact ⟨_, h1, .inr (.inr (.inr ⟨hPk _ h1, rfl⟩))⟩
    · refine ⟨_, h2, .inl ⟨?_, by omega⟩⟩
      refine Nat.pos_of_ne_zero fun h4 => h3 ⟨by omega, (mod_pred hc h1).2 h4⟩
    · refine ⟨_, h1, .inr (.inl ⟨?_, rfl⟩)⟩
      refine Classical.byContradiction fun h4 => h2 ⟨by have := hPk _ h1; omega, (mod_succ hc).2 h4⟩
  · rintro ⟨k, h1, (⟨h2, h3⟩ | ⟨h2, h3⟩ | ⟨h2, h3⟩ | ⟨h2, h3⟩)⟩
    · obtain rfl : k = j - 1 := by omega
      have hj1 : 1 ≤ j := Nat.pos_of_ne_zero fun h9 => by subst h9; simp at h2
      refine .inl (.inr ⟨hj1, h1, fun h9 => ?_⟩)
      have := (mod_pred hc hj1).1 h9.2
      omega
    · subst h3
      exact .inr ⟨h1, fun h9 => (mod_succ hc).1 h9.2 h2⟩
    · obtain rfl : k = j - c := by omega
      exact .inl (.inl (.inl ⟨h2, h1⟩))
    · subst h3
      exact .inl (.inl (.inr h1))
/-- One round of the program's part. -/
def growN (r c Wn P : Nat) : Nat := P ||| (besN r c P &&& Wn)
theorem growN_le (r c Wn P : Nat) : P ≤ growN r c Wn P := Nat.left_le_or
theorem lt_of_bits {n P : Nat} (h : ∀ k, P.testBit k = true → k < n) : P < 2 ^ n := by
  apply Nat.lt_pow_two_of_testBit
  intro i hi
  cases h9 : P.testBit i
  · rfl
  · have := h i h9; omega
theorem growN_reach {W : Nat → Bool} {r c n Wn i P : Nat} (hc : 2 ≤ c) (hn : n = r * c) (hn36 : n ≤ 36) (hi : i < n) (hW : ∀ k, Wn.testBit k = (decide (k < n) && W k)) (hP : ∀ k, P.testBit k = true → Reach W c n i k) : ∀ k, (growN r c Wn P).testBit k = true → Reach W c n i k := by
  have hPn : P < 2 ^ n := lt_of_bits fun k h => reach_lt hi (hP k h)
  intro k h
  unfold growN at h
  rw [Nat.testBit_or, Nat.testBit_and, hW, Bool.or_eq_true] at h
  rcases h with h | h
  · exact hP k h
  · simp only [Bool.and_eq_true, decide_eq_true_eq] at h
    obtain ⟨h1, h2, h3⟩ := h
    obtain ⟨k2, h4, h5⟩ := (besN_bit hc hn hn36 hPn h2).1 h1
    exact .step k2 k (hP _ h4) h5 h2 h3
theorem growN_done {W : Nat → Bool} {r c n Wn i P : Nat} (hc : 2 ≤ c) (hn : n = r * c) (hn36 : n ≤ 36) (hi : i < n) (hW : ∀ k, Wn.testBit k = (decide (k < n) && W k)) (hP : ∀ k, P.testBit k = true → Reach W c n i k) (h0 : P.testBit i = true) (he : growN r c Wn P = P) : ∀ k, P.testBit k = reachB W c n i k := by
  have hPn : P < 2 ^ n := lt_of_bits fun k h => reach_lt hi (hP k h)
  intro k
  rw [Bool.eq_iff_iff, reachB_iff]
  refine ⟨hP k, fun h => reach_closed (S := fun j => P.testBit j = true) h0 (fun j k h1 h2 h3 h4 => ?_) h⟩
  show P.testBit j = true
  rw [← he]
  unfold growN
  rw [Nat.testBit_or, Nat.testBit_and, hW, h2, (besN_bit hc hn hn36 hPn h1).2 ⟨k, h3, h4⟩, decide_eq_true h1]
  simp
/-- The model's sweep: a row of marks with no white cell that is near a mark. -/
theorem marks_done {W : Nat → Bool} {c n i : Nat} {B : List Bool} (h0 : B.getD i false = true) (hP : ∀ k, B.getD k false = true → Reach W c n i k) (hc : ∀ j, j < n → W j = true → B.getD j false = false → ∀ k, nearN c n j k → B.getD k false = false) : ∀ k, B.getD k false = reachB W c n i k := by
  intro k
  rw [Bool.eq_iff_iff, reachB_iff]
  refine ⟨hP k, fun h => reach_closed (S := fun j => B.getD j false = true) h0 (fun j k h1 h2 h3 h4 => ?_) h⟩
  show B.getD j false = true
  cases h9 : B.getD j false
  · rw [hc j h1 h2 h9 k h4] at h3; cases h3
  · rfl
/-- The number of connected parts of a grid's white cells. -/
noncomputable def partsTo (g : Int × Int × ByteArray) (k : Nat) : (Nat → Bool) × Nat := partsQ (whF g.2.2) g.2.1.toNat g.2.2.size ((List.range k).filter (whF g.2.2))
noncomputable def partsG (g : Int × Int × ByteArray) : Int := if isG g = true then ((partsTo g g.2.2.size).2 : Nat) else 0
theorem partsTo_yes (g : Int × Int × ByteArray) {k : Nat} (h : whF g.2.2 k = true) : partsTo g (k + 1) = stepQ (whF g.2.2) g.2.1.toNat g.2.2.size (partsTo g k) k := by
  unfold partsTo
  rw [List.range_succ, List.filter_append, List.filter_cons_of_pos h, List.filter_nil, partsQ_snoc]
theorem partsTo_no (g : Int × Int × ByteArray) {k : Nat} (h : whF g.2.2 k = false) : partsTo g (k + 1) = partsTo g k := by
  unfold partsTo
  rw [List.range_succ, List.filter_append, List.filter_cons_of_neg (by rw [h]; decide), List.filter_nil, List.append_nil]
theorem partsTo_le (g : Int × Int × ByteArray) (k : Nat) : (partsTo g k).2 ≤ k := by
  refine Nat.le_trans (partsQ_le _ _ _ _) ?_
  have h := List.length_filter_le (whF g.2.2) (List.range k)
  simpa using h
/-- A slot of fewer than three cells. -/
def shortG (g : Int × Int × ByteArray) : Bool := (slG g).any fun x => decide (x.2.2.2 < 3)
/-- A slot of which more than half of the cells are not checked. -/
def halfG (g : Int × Int × ByteArray) : Bool := (List.range (slG g).length).any fun i => decide (((slG g).getD i none_Slot).2.2.2 < 2 * unchS g (i : Int))
/-- A white cell in no slot. -/
def looseG (g : Int × Int × ByteArray) : Bool := (List.range g.2.2.size).any fun i => isWh g (i : Int) && decide ((atS (slG g) g.2.1 (i : Int)).length = 0)
noncomputable def formG (g : Int × Int × ByteArray) : Int := if isG g = false then 1 else if symG g = false then 2 else if partsG g = 1 then (if shortG g = true then 4 else if (halfG g || looseG g) = true then 5 else 0) else 3
def longG (g : Int × Int × ByteArray) : Int := (slG g).foldl (fun n x => max n x.2.2.2) 0
def fnames : List String := ["fine", "grid", "turn", "parts", "short", "alone"]
end Go.Proofs.YthgnhcjbjdhjfaaGreatDoor
