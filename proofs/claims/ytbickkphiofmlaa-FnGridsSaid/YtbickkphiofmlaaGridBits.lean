/-
  Plain facts on bit boards: what Reverse64 reckons; the white cells of a grid as a set of bits; the half turn.
-/
import Derived.Test.YtbickkphiofmlaaBitSet
import Derived.Test.YtbickkphiofmlaaGridFacts
import Derived.Laws.Bits64b
namespace Go.Proofs.Ytbickkphiofmlaa
open Go.RowKit

/-- One exchange of neighbours at a distance. -/
def rvS (k M x : Int) : Int := bits .or .u64 (bits .and .u64 (x / k) M) (IntKind.u64.wrap (bits .and .u64 x M * k))
def rvL (x : Int) : Int := bits .or .u64 (x / 4294967296) (IntKind.u64.wrap (x * 4294967296))
def rvE1 (x : Int) : Int := rvS 16 1085102592571150095 (rvS 4 3689348814741910323 (rvS 2 6148914691236517205 x))
def rvE2 (x : Int) : Int := rvL (rvS 65536 281470681808895 (rvS 256 71777214294589695 x))
def rvN (s M x : Nat) : Nat := (x / 2 ^ s &&& M) ||| ((x &&& M) * 2 ^ s % 2 ^ 64)
def rvM (x : Nat) : Nat := (x / 2 ^ 32) ||| (x * 2 ^ 32 % 2 ^ 64)
def flip (s i : Nat) : Nat := if (i / s) % 2 = 0 then i + s else i - s

theorem rvS_nat (s M x : Nat) (hM : M < 18446744073709551616) (hx : x < 18446744073709551616) : rvS ((2 ^ s : Nat) : Int) (M : Int) (x : Int) = ((rvN s M x : Nat) : Int) := by
  have hd : x / 2 ^ s < 18446744073709551616 := Nat.lt_of_le_of_lt (Nat.div_le_self _ _) hx
  unfold rvS rvN
  rw [← Int.natCast_ediv, bits_and_u64_nat _ _ hd hM, bits_and_u64_nat _ _ hx hM, ← Int.natCast_mul, IntKind.wrap_u64,
    show (((x &&& M) * 2 ^ s : Nat) : Int) % 18446744073709551616 = (((x &&& M) * 2 ^ s % 2 ^ 64 : Nat) : Int) by simp,
    bits_or_u64_nat _ _ (Nat.lt_of_le_of_lt Nat.and_le_right hM) (Nat.mod_lt _ (by decide))]
theorem rvS_at (s M x : Nat) (k Mi : Int) (hk : k = ((2 ^ s : Nat) : Int)) (hm : Mi = (M : Int)) (hM : M < 18446744073709551616) (hx : x < 18446744073709551616) : rvS k Mi (x : Int) = ((rvN s M x : Nat) : Int) := by
  rw [hk, hm]; exact rvS_nat s M x hM hx
theorem rvL_nat (x : Nat) (hx : x < 18446744073709551616) : rvL (x : Int) = ((rvM x : Nat) : Int) := by
  have hd : x / 2 ^ 32 < 18446744073709551616 := Nat.lt_of_le_of_lt (Nat.div_le_self _ _) hx
  unfold rvL rvM
  rw [show (x : Int) / 4294967296 = ((x / 2 ^ 32 : Nat) : Int) by simp, show (x : Int) * 4294967296 = ((x * 2 ^ 32 : Nat) : Int) by simp, IntKind.wrap_u64,
    show ((x * 2 ^ 32 : Nat) : Int) % 18446744073709551616 = ((x * 2 ^ 32 % 2 ^ 64 : Nat) : Int) by simp, bits_or_u64_nat _ _ hd (Nat.mod_lt _ (by decide))]
theorem rvN_lt (s M x : Nat) (hM : M < 18446744073709551616) : rvN s M x < 18446744073709551616 :=
  Nat.or_lt_two_pow (n := 64) (Nat.lt_of_le_of_lt Nat.and_le_right hM) (Nat.mod_lt _ (by decide))
theorem rvM_lt (x : Nat) (hx : x < 18446744073709551616) : rvM x < 18446744073709551616 :=
  Nat.or_lt_two_pow (n := 64) (Nat.lt_of_le_of_lt (Nat.div_le_self _ _) hx) (Nat.mod_lt _ (by decide))
theorem rvN_bit (s M x i : Nat) (hs : 0 < s) (hM : ∀ j, j < 64 → M.testBit j = decide ((j / s) % 2 = 0)) (hi : i < 64) : (rvN s M x).testBit i = x.testBit (flip s i) := by
  unfold rvN flip
  rw [Nat.testBit_or, Nat.testBit_and, Nat.testBit_div_two_pow, Nat.testBit_mod_two_pow, Nat.testBit_mul_two_pow, Nat.testBit_and, hM i hi]
  by_cases h : (i / s) % 2 = 0
  · rw [if_pos h]
    by_cases h2 : s ≤ i
    · have h3 : (i - s) / s = i / s - 1 := by have h9 := Nat.add_div_right (i - s) hs; rw [Nat.sub_add_cancel h2] at h9; rw [h9]; rfl
      have h4 : 1 ≤ i / s := (Nat.le_div_iff_mul_le hs).2 (by rw [Nat.one_mul]; exact h2)
      rw [hM (i - s) (by omega), h3, decide_eq_false (by omega : ¬ (i / s - 1) % 2 = 0)]
      simp [h]
    · simp [h, h2]
  · rw [if_neg h]
    have h4 : 1 ≤ i / s := by
      rcases Nat.eq_zero_or_pos (i / s) with h5 | h5
      · rw [h5] at h; simp at h
      · exact h5
    have h2 : s ≤ i := by have := (Nat.le_div_iff_mul_le hs).1 h4; omega
    have h3 : (i - s) / s = i / s - 1 := by have h9 := Nat.add_div_right (i - s) hs; rw [Nat.sub_add_cancel h2] at h9; rw [h9]; rfl
    rw [hM (i - s) (by omega), h3, decide_eq_true (by omega : (i / s - 1) % 2 = 0)]
    simp [h, h2, hi]
theorem rvM_bit (x i : Nat) (hx : x < 18446744073709551616) (hi : i < 64) : (rvM x).testBit i = x.testBit (flip 32 i) := by
  unfold rvM flip
  rw [Nat.testBit_or, Nat.testBit_div_two_pow, Nat.testBit_mod_two_pow, Nat.testBit_mul_two_pow]
  by_cases h2 : 32 ≤ i
  · rw [if_neg (by omega), Nat.testBit_lt_two_pow (x := x) (i := i + 32) (Nat.lt_of_lt_of_le hx (show (2 : Nat) ^ 64 ≤ 2 ^ (i + 32) from Nat.pow_le_pow_right (by omega) (by omega)))]
    simp [h2, hi]
  · rw [if_pos (by omega)]
    simp [h2]
theorem m1 : ∀ j, j < 64 → (6148914691236517205 : Nat).testBit j = decide ((j / 1) % 2 = 0) := by decide +kernel
theorem m2 : ∀ j, j < 64 → (3689348814741910323 : Nat).testBit j = decide ((j / 2) % 2 = 0) := by decide +kernel
theorem m4 : ∀ j, j < 64 → (1085102592571150095 : Nat).testBit j = decide ((j / 4) % 2 = 0) := by decide +kernel
theorem m8 : ∀ j, j < 64 → (71777214294589695 : Nat).testBit j = decide ((j / 8) % 2 = 0) := by decide +kernel
theorem m16 : ∀ j, j < 64 → (281470681808895 : Nat).testBit j = decide ((j / 16) % 2 = 0) := by decide +kernel
theorem flips : ∀ i, i < 64 → flip 1 (flip 2 (flip 4 (flip 8 (flip 16 (flip 32 i))))) = 63 - i := by decide +kernel
theorem flip_lt : ∀ i, i < 64 → flip 32 i < 64 ∧ flip 16 i < 64 ∧ flip 8 i < 64 ∧ flip 4 i < 64 ∧ flip 2 i < 64 := by decide +kernel
def revA (x : Nat) : Nat := rvN 4 1085102592571150095 (rvN 2 3689348814741910323 (rvN 1 6148914691236517205 x))
def revB (x : Nat) : Nat := rvM (rvN 16 281470681808895 (rvN 8 71777214294589695 x))
def revN (x : Nat) : Nat := revB (revA x)
theorem revA_eq (x : Nat) (hx : x < 18446744073709551616) : rvE1 (x : Int) = ((revA x : Nat) : Int) := by
  unfold rvE1 revA
  rw [rvS_at 1 6148914691236517205 x 2 6148914691236517205 (by decide) (by rfl) (by decide) hx, rvS_at 2 3689348814741910323 _ 4 3689348814741910323 (by decide) (by rfl) (by decide) (rvN_lt _ _ _ (by decide)), rvS_at 4 1085102592571150095 _ 16 1085102592571150095 (by decide) (by rfl) (by decide) (rvN_lt _ _ _ (by decide))]
theorem revB_eq (x : Nat) (hx : x < 18446744073709551616) : rvE2 (x : Int) = ((revB x : Nat) : Int) := by
  unfold rvE2 revB
  rw [rvS_at 8 71777214294589695 x 256 71777214294589695 (by decide) (by rfl) (by decide) hx, rvS_at 16 281470681808895 _ 65536 281470681808895 (by decide) (by rfl) (by decide) (rvN_lt _ _ _ (by decide)), rvL_nat _ (rvN_lt _ _ _ (by decide))]
theorem revA_lt (x : Nat) : revA x < 18446744073709551616 := rvN_lt _ _ _ (by decide)
theorem revN_lt (x : Nat) : revN x < 18446744073709551616 := rvM_lt _ (rvN_lt _ _ _ (by decide))
theorem revN_bit (x i : Nat) (hi : i < 64) : (revN x).testBit i = x.testBit (63 - i) := by
  have f1 := flip_lt i hi
  have f2 := flip_lt _ f1.1
  have f3 := flip_lt _ f2.2.1
  have f4 := flip_lt _ f3.2.2.1
  have f5 := flip_lt _ f4.2.2.2.1
  unfold revN revB revA
  rw [rvM_bit _ _ (rvN_lt _ _ _ (by decide)) hi, rvN_bit 16 _ _ _ (by decide) m16 f1.1, rvN_bit 8 _ _ _ (by decide) m8 f2.2.1, rvN_bit 4 _ _ _ (by decide) m4 f3.2.2.1,
    rvN_bit 2 _ _ _ (by decide) m2 f4.2.2.2.1, rvN_bit 1 _ _ _ (by decide) m1 f5.2.2.2.2, flips i hi]

/-- The white cells among the first k. -/
def wT (s : ByteArray) (k : Nat) : Nat := setTo (fun i => s.data.toList.getD i 0 == 46) k
theorem wT_lt (s : ByteArray) (k : Nat) (h : k ≤ 36) : wT s k < 68719476736 := Nat.lt_of_lt_of_le (setTo_lt _ _) (show (2 : Nat) ^ k ≤ 2 ^ 36 from Nat.pow_le_pow_right (by omega) h)
theorem wT_yes (s : ByteArray) (k : Nat) (h : s.data.toList.getD k 0 = 46) : wT s (k + 1) = wT s k ||| 2 ^ k := by
  unfold wT
  rw [setTo, if_pos (beq_iff_eq.2 h)]
theorem wT_no (s : ByteArray) (k : Nat) (h : s.data.toList.getD k 0 ≠ 46) : wT s (k + 1) = wT s k := by
  unfold wT
  rw [setTo, if_neg (fun e => h (beq_iff_eq.1 e))]
theorem wT_bit (s : ByteArray) (k i : Nat) (h : i < k) : (wT s k).testBit i = decide (s.data.toList.getD i 0 = 46) := by
  unfold wT
  rw [setTo_bit, decide_eq_true h, Bool.true_and]
  by_cases e : s.data.toList.getD i 0 = 46
  · rw [e]; rfl
  · rw [decide_eq_false e]; exact beq_eq_false_iff_ne.2 e
/-- The half turn, by reversing and shifting. -/
theorem turn_bits (s : ByteArray) (n : Nat) (hn : s.size = n) (h : n ≤ 36) : revN (wT s n) / 2 ^ (64 - n) = wT (backL s) n := by
  apply Nat.eq_of_testBit_eq
  intro i
  rw [Nat.testBit_div_two_pow]
  by_cases hi : i < n
  · have hl : s.data.toList.length = n := by rw [size_list, hn]
    rw [revN_bit _ _ (by omega), wT_bit s n _ (by omega), wT_bit _ n _ hi]
    have hb : (backL s).data.toList.getD i 0 = s.data.toList.getD (63 - (i + (64 - n))) 0 := by
      rw [back_list (by omega), List.getD_eq_getElem?_getD, List.getD_eq_getElem?_getD, List.getElem?_reverse (by omega), show s.data.toList.length - 1 - i = 63 - (i + (64 - n)) by omega]
    rw [hb]
  · have h1 : (revN (wT s n)).testBit (i + (64 - n)) = false := Nat.testBit_lt_two_pow (Nat.lt_of_lt_of_le (revN_lt _) (show (2 : Nat) ^ 64 ≤ 2 ^ (i + (64 - n)) from Nat.pow_le_pow_right (by omega) (by omega)))
    rw [h1]
    unfold wT
    rw [setTo_bit, decide_eq_false hi, Bool.false_and]
end Go.Proofs.Ytbickkphiofmlaa
