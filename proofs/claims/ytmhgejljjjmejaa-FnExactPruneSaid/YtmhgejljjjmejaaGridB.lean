/-
  The model's contract of GridText.
  The model's contract of ParseGrid.
  ParseGrid reads back what GridText writes.
  Plain facts on bit boards: what Reverse64 reckons; the white cells of a grid as a set of bits; the half turn.
-/
import Derived.Test.YtmhgejljjjmejaaGrid
import Derived.Test.YtmhgejljjjmejaaPatB
import Derived.Laws.Bits64b
namespace Go.Proofs.Ytmhgejljjjmejaa
open Go.RowKit

/-- The first k lines of a grid's text. -/
def linesG (c : Nat) (s : ByteArray) (k : Nat) : List UInt8 := (List.range k).flatMap fun i => (if i = 0 then [] else [47]) ++ ((s.data.toList.drop (i * c)).take c)
theorem linesG_next (c : Nat) (s : ByteArray) (k : Nat) : linesG c s (k + 1) = linesG c s k ++ ((if k = 0 then [] else [47]) ++ ((s.data.toList.drop (k * c)).take c)) := by
  unfold linesG
  rw [List.range_succ, List.flatMap_append]
  simp
theorem linesG_length (c : Nat) (s : ByteArray) (k : Nat) : (linesG c s k).length ≤ k * (c + 1) := by
  induction k with
  | zero => simp [linesG]
  | succ k ih =>
    rw [linesG_next, List.length_append, List.length_append, List.length_take, Nat.succ_mul]
    have : (if k = 0 then ([] : List UInt8) else [47]).length ≤ 1 := by split <;> simp
    omega
/-- What GridText answers. -/
def textG (g : Int × Int × ByteArray) : ByteArray := if isG g = true then ⟨(linesG g.2.1.toNat g.2.2 g.1.toNat).toArray⟩ else ⟨#[]⟩

end Go.Proofs.Ytmhgejljjjmejaa
namespace Go.Proofs.Ytmhgejljjjmejaa
open Go.RowKit

/-- ParseGrid's loop behind k bytes: lines, columns, cells. -/
def pst (s : List UInt8) : Nat → Nat × Nat × List UInt8
  | 0 => (1, 0, [])
  | k + 1 => if s.getD k 0 = 47 then ((pst s k).1 + 1, (pst s k).2.1, (pst s k).2.2) else ((pst s k).1, (if (pst s k).1 = 1 then k + 1 else (pst s k).2.1), (pst s k).2.2 ++ [s.getD k 0])
def gridP (s : ByteArray) : Int × Int × ByteArray := (((pst s.data.toList s.size).1 : Int), ((pst s.data.toList s.size).2.1 : Int), ⟨(pst s.data.toList s.size).2.2.toArray⟩)
def okP (s : ByteArray) : Bool := decide (textG (gridP s) = s) && isG (gridP s)
/-- What ParseGrid answers. -/
def parseG (s : ByteArray) : (Int × Int × ByteArray) × Bool := if okP s = true then (gridP s, true) else ((0, 0, ⟨#[]⟩), false)

end Go.Proofs.Ytmhgejljjjmejaa
namespace Go.Proofs.Ytmhgejljjjmejaa

/-- One byte of ParseGrid's loop: bytes read, lines, columns, cells. -/
def stp (x : Nat × Nat × Nat × List UInt8) (b : UInt8) : Nat × Nat × Nat × List UInt8 := if b = 47 then (x.1 + 1, x.2.1 + 1, x.2.2.1, x.2.2.2) else (x.1 + 1, x.2.1, (if x.2.1 = 1 then x.1 + 1 else x.2.2.1), x.2.2.2 ++ [b])
theorem pst_fold (s : List UInt8) (k : Nat) (h : k ≤ s.length) : (s.take k).foldl stp (0, 1, 0, []) = (k, pst s k) := by
  induction k with
  | zero => rfl
  | succ k ih =>
    have hk : k < s.length := h
    rw [List.take_succ_eq_append_getElem hk, List.foldl_append, ih (by omega)]
    have hg : s.getD k 0 = s[k] := by rw [List.getD_eq_getElem?_getD, List.getElem?_eq_getElem hk]; rfl
    show stp (k, pst s k) s[k] = _
    unfold stp
    rw [pst, hg]
    split <;> rfl
theorem stp_row (l : List UInt8) (hl : ∀ b ∈ l, b ≠ 47) (i r c : Nat) (t : List UInt8) (hr : r ≠ 1) : l.foldl stp (i, r, c, t) = (i + l.length, r, c, t ++ l) := by
  induction l generalizing i t with
  | nil => simp
  | cons b l ih =>
    rw [List.foldl_cons]
    have h1 : stp (i, r, c, t) b = (i + 1, r, c, t ++ [b]) := by unfold stp; rw [if_neg (hl b (by simp))]; simp [hr]
    rw [h1, ih (fun x hx => hl x (by simp [hx]))]
    simp
    omega
theorem stp_first (l : List UInt8) (hl : ∀ b ∈ l, b ≠ 47) (i c : Nat) (t : List UInt8) : l.foldl stp (i, 1, c, t) = (i + l.length, 1, (if l = [] then c else i + l.length), t ++ l) := by
  induction l generalizing i c t with
  | nil => simp
  | cons b l ih =>
    rw [List.foldl_cons]
    have h1 : stp (i, 1, c, t) b = (i + 1, 1, i + 1, t ++ [b]) := by unfold stp; rw [if_neg (hl b (by simp))]; simp
    rw [h1, ih (fun x hx => hl x (by simp [hx]))]
    by_cases hn : l = []
    · subst hn; simp
    · simp [hn]; omega
theorem lines_fold (C : Nat) (s : ByteArray) (hC : 0 < C) (hs : ∀ b ∈ s.data.toList, b ≠ 47) (k : Nat) (hk : (k + 1) * C ≤ s.data.toList.length) :
    (linesG C s (k + 1)).foldl stp (0, 1, 0, []) = (k + (k + 1) * C, k + 1, C, s.data.toList.take ((k + 1) * C)) := by
  induction k with
  | zero =>
    have h1 : linesG C s 1 = s.data.toList.take C := by simp [linesG]
    have hlen : (s.data.toList.take C).length = C := by rw [List.length_take]; omega
    rw [h1, stp_first _ (fun b hb => hs b (List.mem_of_mem_take hb)), hlen, if_neg (by intro h; rw [h] at hlen; simp at hlen; omega)]
    simp
  | succ k ih =>
    have hk2 : (k + 1 + 1) * C = (k + 1) * C + C := Nat.succ_mul ..
    have hlen : ((s.data.toList.drop ((k + 1) * C)).take C).length = C := by rw [List.length_take, List.length_drop]; omega
    rw [linesG_next, List.foldl_append, ih (by omega), if_neg (by omega), List.foldl_append]
    have h1 : List.foldl stp (k + (k + 1) * C, k + 1, C, s.data.toList.take ((k + 1) * C)) [47] = (k + (k + 1) * C + 1, k + 2, C, s.data.toList.take ((k + 1) * C)) := rfl
    rw [h1, stp_row _ (fun b hb => hs b (List.mem_of_mem_drop (List.mem_of_mem_take hb))) _ _ _ _ (by omega), hlen, hk2, List.take_add]
    congr 1
    omega
/-- What ParseGrid reads off a grid's text is the grid. -/
theorem parse_text {g : Int × Int × ByteArray} (h : isG g = true) : parseG (textG g) = (g, true) := by
  obtain ⟨r, c, s⟩ := g
  obtain ⟨⟨hr1, hr2⟩, ⟨hc1, hc2⟩, hz, hb⟩ := of_decide_eq_true h
  dsimp only at hr1 hr2 hc1 hc2 hz hb
  obtain ⟨R, rfl⟩ : ∃ R : Nat, r = (R : Int) := ⟨r.toNat, by omega⟩
  obtain ⟨C, rfl⟩ : ∃ C : Nat, c = (C : Int) := ⟨c.toNat, by omega⟩
  have hz2 : s.size = R * C := by rw [← Int.natCast_mul] at hz; omega
  have hn : ∀ b ∈ s.data.toList, b ≠ 47 := fun b hm => by rcases hb b hm with rfl | rfl <;> decide
  have hT : textG ((R : Int), (C : Int), s) = ⟨(linesG C s R).toArray⟩ := by unfold textG; rw [if_pos h]; rfl
  obtain ⟨K, rfl⟩ : ∃ K, R = K + 1 := ⟨R - 1, by omega⟩
  have hsl : s.data.toList.length = (K + 1) * C := by rw [size_list, hz2]
  have hF := lines_fold C s (by omega) hn K (by omega)
  have hP := pst_fold (linesG C s (K + 1)) (linesG C s (K + 1)).length (Nat.le_refl _)
  rw [List.take_length, hF] at hP
  have hP2 : pst (linesG C s (K + 1)) (linesG C s (K + 1)).length = (K + 1, C, s.data.toList) := by
    rw [← (Prod.mk.inj hP).2, ← hsl, List.take_length]
  have hG : gridP ⟨(linesG C s (K + 1)).toArray⟩ = (((K + 1 : Nat) : Int), (C : Int), s) := by
    have hsz : (⟨(linesG C s (K + 1)).toArray⟩ : ByteArray).size = (linesG C s (K + 1)).length := by rw [← size_list]
    unfold gridP
    rw [hsz]
    show (((pst (linesG C s (K + 1)) _).1 : Int), ((pst (linesG C s (K + 1)) _).2.1 : Int), (⟨(pst (linesG C s (K + 1)) _).2.2.toArray⟩ : ByteArray)) = _
    rw [hP2]
  have hO : okP (textG (((K + 1 : Nat) : Int), (C : Int), s)) = true := by
    unfold okP
    rw [hT, hG, hT, h]
    simp
  unfold parseG
  rw [if_pos hO, hT, hG]
theorem parse_yes {s : ByteArray} (h : (parseG s).2 = true) : isG (parseG s).1 = true ∧ textG (parseG s).1 = s := by
  unfold parseG at h ⊢
  by_cases ho : okP s = true
  · rw [if_pos ho]
    unfold okP at ho
    rw [Bool.and_eq_true] at ho
    exact ⟨ho.2, of_decide_eq_true ho.1⟩
  · rw [if_neg ho] at h
    cases h
theorem parse_no {s : ByteArray} (h : (parseG s).2 = false) : (parseG s).1 = (0, 0, ⟨#[]⟩) ∧ ∀ g, isG g = true → textG g ≠ s := by
  refine ⟨?_, fun g hg e => ?_⟩
  · unfold parseG at h ⊢
    by_cases ho : okP s = true
    · rw [if_pos ho] at h; cases h
    · rw [if_neg ho]
  · rw [← e, parse_text hg] at h
    cases h
end Go.Proofs.Ytmhgejljjjmejaa
namespace Go.Proofs.Ytmhgejljjjmejaa
open Go.RowKit

/-- One exchange of neighbours at a distance. -/
def rvS (k M x : Int) : Int := bits .or .u64 (bits .and .u64 (x / k) M) (IntKind.u64.wrap (bits .and .u64 x M * k))
def rvL (x : Int) : Int := bits .or .u64 (x / 4294967296) (IntKind.u64.wrap (x * 4294967296))
def rvE1 (x : Int) : Int := rvS 16 1085102592571150095 (rvS 4 3689348814741910323 (rvS 2 6148914691236517205 x))
def rvE2 (x : Int) : Int := rvL (rvS 65536 281470681808895 (rvS 256 71777214294589695 x))
def rvN (s M x : Nat) : Nat := (x / 2 ^ s &&& M) ||| ((x &&& M) * 2 ^ s % 2 ^ 64)
def rvM (x : Nat) : Nat := (x / 2 ^ 32) ||| (x * 2 ^ 32 % 2 ^ 64)
def flip (s i : Nat) : Nat := if (i / s) % 2 = 0 then i + s else i - s

theorem rvS_nat (s M x : Nat) (hM : M < 18446744073709551616) (hx : x < 18446744073709551616) : rvS ((2 ^ s : Nat) : Int) (M : Int) (x : Int) = ((rvN s M x : Nat) : Int) := by
  have hd : x / 2 ^ s < 18446744073709551616 := Nat.lt_of_le_of_lt (Nat.div_le_self _ _) hx
  unfold rvS rvN
  rw [← Int.natCast_ediv, bits_and_u64_nat _ _ hd hM, bits_and_u64_nat _ _ hx hM, ← Int.natCast_mul, IntKind.wrap_u64,
    show (((x &&& M) * 2 ^ s : Nat) : Int) % 18446744073709551616 = (((x &&& M) * 2 ^ s % 2 ^ 64 : Nat) : Int) by simp,
    bits_or_u64_nat _ _ (Nat.lt_of_le_of_lt Nat.and_le_right hM) (Nat.mod_lt _ (by decide))]
theorem rvS_at (s M x : Nat) (k Mi : Int) (hk : k = ((2 ^ s : Nat) : Int)) (hm : Mi = (M : Int)) (hM : M < 18446744073709551616) (hx : x < 18446744073709551616) : rvS k Mi (x : Int) = ((rvN s M x : Nat) : Int) := by
  rw [hk, hm]; exact rvS_nat s M x hM hx
theorem rvL_nat (x : Nat) (hx : x < 18446744073709551616) : rvL (x : Int) = ((rvM x : Nat) : Int) := by
  have hd : x / 2 ^ 32 < 18446744073709551616 := Nat.lt_of_le_of_lt (Nat.div_le_self _ _) hx
  unfold rvL rvM
  rw [show (x : Int) / 4294967296 = ((x / 2 ^ 32 : Nat) : Int) by simp, show (x : Int) * 4294967296 = ((x * 2 ^ 32 : Nat) : Int) by simp, IntKind.wrap_u64,
    show ((x * 2 ^ 32 : Nat) : Int) % 18446744073709551616 = ((x * 2 ^ 32 % 2 ^ 64 : Nat) : Int) by simp, bits_or_u64_nat _ _ hd (Nat.mod_lt _ (by decide))]
theorem rvN_lt (s M x : Nat) (hM : M < 18446744073709551616) : rvN s M x < 18446744073709551616 :=
  Nat.or_lt_two_pow (n := 64) (Nat.lt_of_le_of_lt Nat.and_le_right hM) (Nat.mod_lt _ (by decide))
theorem rvM_lt (x : Nat) (hx : x < 18446744073709551616) : rvM x < 18446744073709551616 :=
  Nat.or_lt_two_pow (n := 64) (Nat.lt_of_le_of_lt (Nat.div_le_self _ _) hx) (Nat.mod_lt _ (by decide))
theorem rvN_bit (s M x i : Nat) (hs : 0 < s) (hM : ∀ j, j < 64 → M.testBit j = decide ((j / s) % 2 = 0)) (hi : i < 64) : (rvN s M x).testBit i = x.testBit (flip s i) := by
  unfold rvN flip
  rw [Nat.testBit_or, Nat.testBit_and, Nat.testBit_div_two_pow, Nat.testBit_mod_two_pow, Nat.testBit_mul_two_pow, Nat.testBit_and, hM i hi]
  by_cases h : (i / s) % 2 = 0
  · rw [if_pos h]
    by_cases h2 : s ≤ i
    · have h3 : (i - s) / s = i / s - 1 := by have h9 := Nat.add_div_right (i - s) hs; rw [Nat.sub_add_cancel h2] at h9; rw [h9]; rfl
      have h4 : 1 ≤ i / s := (Nat.le_div_iff_mul_le hs).2 (by rw [Nat.one_mul]; exact h2)
      rw [hM (i - s) (by omega), h3, decide_eq_false (by omega : ¬ (i / s - 1) % 2 = 0)]
      simp [h]
    · simp [h, h2]
  · rw [if_neg h]
    have h4 : 1 ≤ i / s := by
      rcases Nat.eq_zero_or_pos (i / s) with h5 | h5
      · rw [h5] at h; simp at h
      · exact h5
    have h2 : s ≤ i := by have := (Nat.le_div_iff_mul_le hs).1 h4; omega
    have h3 : (i - s) / s = i / s - 1 := by have h9 := Nat.add_div_right (i - s) hs; rw [Nat.sub_add_cancel h2] at h9; rw [h9]; rfl
    rw [hM (i - s) (by omega), h3, decide_eq_true (by omega : (i / s - 1) % 2 = 0)]
    simp [h, h2, hi]
theorem rvM_bit (x i : Nat) (hx : x < 18446744073709551616) (hi : i < 64) : (rvM x).testBit i = x.testBit (flip 32 i) := by
  unfold rvM flip
  rw [Nat.testBit_or, Nat.testBit_div_two_pow, Nat.testBit_mod_two_pow, Nat.testBit_mul_two_pow]
  by_cases h2 : 32 ≤ i
  · rw [if_neg (by omega), Nat.testBit_lt_two_pow (x := x) (i := i + 32) (Nat.lt_of_lt_of_le hx (show (2 : Nat) ^ 64 ≤ 2 ^ (i + 32) from Nat.pow_le_pow_right (by omega) (by omega)))]
    simp [h2, hi]
  · rw [if_pos (by omega)]
    simp [h2]
theorem m1 : ∀ j, j < 64 → (6148914691236517205 : Nat).testBit j = decide ((j / 1) % 2 = 0) := by decide +kernel
theorem m2 : ∀ j, j < 64 → (3689348814741910323 : Nat).testBit j = decide ((j / 2) % 2 = 0) := by decide +kernel
theorem m4 : ∀ j, j < 64 → (1085102592571150095 : Nat).testBit j = decide ((j / 4) % 2 = 0) := by decide +kernel
theorem m8 : ∀ j, j < 64 → (71777214294589695 : Nat).testBit j = decide ((j / 8) % 2 = 0) := by decide +kernel
theorem m16 : ∀ j, j < 64 → (281470681808895 : Nat).testBit j = decide ((j / 16) % 2 = 0) := by decide +kernel
theorem flips : ∀ i, i < 64 → flip 1 (flip 2 (flip 4 (flip 8 (flip 16 (flip 32 i))))) = 63 - i := by decide +kernel
theorem flip_lt : ∀ i, i < 64 → flip 32 i < 64 ∧ flip 16 i < 64 ∧ flip 8 i < 64 ∧ flip 4 i < 64 ∧ flip 2 i < 64 := by decide +kernel
def revA (x : Nat) : Nat := rvN 4 1085102592571150095 (rvN 2 3689348814741910323 (rvN 1 6148914691236517205 x))
def revB (x : Nat) : Nat := rvM (rvN 16 281470681808895 (rvN 8 71777214294589695 x))
def revN (x : Nat) : Nat := revB (revA x)
theorem revA_eq (x : Nat) (hx : x < 18446744073709551616) : rvE1 (x : Int) = ((revA x : Nat) : Int) := by
  unfold rvE1 revA
  rw [rvS_at 1 6148914691236517205 x 2 6148914691236517205 (by decide) (by rfl) (by decide) hx, rvS_at 2 3689348814741910323 _ 4 3689348814741910323 (by decide) (by rfl) (by decide) (rvN_lt _ _ _ (by decide)), rvS_at 4 1085102592571150095 _ 16 1085102592571150095 (by decide) (by rfl) (by decide) (rvN_lt _ _ _ (by decide))]
theorem revB_eq (x : Nat) (hx : x < 18446744073709551616) : rvE2 (x : Int) = ((revB x : Nat) : Int) := by
  unfold rvE2 revB
  rw [rvS_at 8 71777214294589695 x 256 71777214294589695 (by decide) (by rfl) (by decide) hx, rvS_at 16 281470681808895 _ 65536 281470681808895 (by decide) (by rfl) (by decide) (rvN_lt _ _ _ (by decide)), rvL_nat _ (rvN_lt _ _ _ (by decide))]
theorem revA_lt (x : Nat) : revA x < 18446744073709551616 := rvN_lt _ _ _ (by decide)
theorem revN_lt (x : Nat) : revN x < 18446744073709551616 := rvM_lt _ (rvN_lt _ _ _ (by decide))
theorem revN_bit (x i : Nat) (hi : i < 64) : (revN x).testBit i = x.testBit (63 - i) := by
  have f1 := flip_lt i hi
  have f2 := flip_lt _ f1.1
  have f3 := flip_lt _ f2.2.1
  have f4 := flip_lt _ f3.2.2.1
  have f5 := flip_lt _ f4.2.2.2.1
  unfold revN revB revA
  rw [rvM_bit _ _ (rvN_lt _ _ _ (by decide)) hi, rvN_bit 16 _ _ _ (by decide) m16 f1.1, rvN_bit 8 _ _ _ (by decide) m8 f2.2.1, rvN_bit 4 _ _ _ (by decide) m4 f3.2.2.1,
    rvN_bit 2 _ _ _ (by decide) m2 f4.2.2.2.1, rvN_bit 1 _ _ _ (by decide) m1 f5.2.2.2.2, flips i hi]

/-- The white cells among the first k. -/
def wT (s : ByteArray) (k : Nat) : Nat := setTo (fun i => s.data.toList.getD i 0 == 46) k
theorem wT_lt (s : ByteArray) (k : Nat) (h : k ≤ 36) : wT s k < 68719476736 := Nat.lt_of_lt_of_le (setTo_lt _ _) (show (2 : Nat) ^ k ≤ 2 ^ 36 from Nat.pow_le_pow_right (by omega) h)
theorem wT_yes (s : ByteArray) (k : Nat) (h : s.data.toList.getD k 0 = 46) : wT s (k + 1) = wT s k ||| 2 ^ k := by
  unfold wT
  rw [setTo, if_pos (beq_iff_eq.2 h)]
theorem wT_no (s : ByteArray) (k : Nat) (h : s.data.toList.getD k 0 ≠ 46) : wT s (k + 1) = wT s k := by
  unfold wT
  rw [setTo, if_neg (fun e => h (beq_iff_eq.1 e))]
theorem wT_bit (s : ByteArray) (k i : Nat) (h : i < k) : (wT s k).testBit i = decide (s.data.toList.getD i 0 = 46) := by
  unfold wT
  rw [setTo_bit, decide_eq_true h, Bool.true_and]
  by_cases e : s.data.toList.getD i 0 = 46
  · rw [e]; rfl
  · rw [decide_eq_false e]; exact beq_eq_false_iff_ne.2 e
/-- The half turn, by reversing and shifting. -/
theorem turn_bits (s : ByteArray) (n : Nat) (hn : s.size = n) (h : n ≤ 36) : revN (wT s n) / 2 ^ (64 - n) = wT (backL s) n := by
  apply Nat.eq_of_testBit_eq
  intro i
  rw [Nat.testBit_div_two_pow]
  by_cases hi : i < n
  · have hl : s.data.toList.length = n := by rw [size_list, hn]
    rw [revN_bit _ _ (by omega), wT_bit s n _ (by omega), wT_bit _ n _ hi]
    have hb : (backL s).data.toList.getD i 0 = s.data.toList.getD (63 - (i + (64 - n))) 0 := by
      rw [back_list (by omega), List.getD_eq_getElem?_getD, List.getD_eq_getElem?_getD, List.getElem?_reverse (by omega), show s.data.toList.length - 1 - i = 63 - (i + (64 - n)) by omega]
    rw [hb]
  · have h1 : (revN (wT s n)).testBit (i + (64 - n)) = false := Nat.testBit_lt_two_pow (Nat.lt_of_lt_of_le (revN_lt _) (show (2 : Nat) ^ 64 ≤ 2 ^ (i + (64 - n)) from Nat.pow_le_pow_right (by omega) (by omega)))
    rw [h1]
    unfold wT
    rw [setTo_bit, decide_eq_false hi, Bool.false_and]
end Go.Proofs.Ytmhgejljjjmejaa
