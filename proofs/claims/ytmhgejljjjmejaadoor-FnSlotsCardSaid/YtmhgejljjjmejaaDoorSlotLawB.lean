/-
  Plain facts that the law FnSlots asks, second part: a slot is found by its name; a grid that is turned has as many slots.
-/
import Derived.Test.YtmhgejljjjmejaaDoorSlotLaw
import Derived.Test.YtmhgejljjjmejaaDoorGrid
namespace Go.Proofs.YtmhgejljjjmejaaDoor
open Go.RowKit

def dec36 (n : Nat) : List Nat := if n < 10 then [48 + n] else [48 + n / 10, 48 + n % 10]
theorem dec36_inj : ∀ a b : Fin 37, dec36 a.val = dec36 b.val → a = b := by decide +kernel
theorem dec36_is (n : Nat) (h : n < 37) : (Lib.decDigits n).map UInt8.toNat = dec36 n := by
  unfold dec36
  by_cases h1 : n < 10
  · rw [Lib.decDigits_one h1, if_pos h1]
    simp
    omega
  · rw [Lib.decDigits_two h1 (by omega), if_neg h1]
    simp
    omega
/-- Slots of small numbers with the same name have the same number and direction. -/
theorem name_inj {n m : Int} {d e : Bool} (h1 : 1 ≤ n ∧ n ≤ 36) (h2 : 1 ≤ m ∧ m ≤ 36) (h : nameB n d = nameB m e) : n = m ∧ d = e := by
  obtain ⟨a, rfl⟩ : ∃ a : Nat, n = (a : Int) := ⟨n.toNat, by omega⟩
  obtain ⟨b, rfl⟩ : ∃ b : Nat, m = (b : Int) := ⟨m.toNat, by omega⟩
  have h3 : nameL a d = nameL b e := by
    have h4 : (nameB a d).data.toList = (nameB b e).data.toList := by rw [h]
    simpa [nameB] using h4
  unfold nameL at h3
  rw [Lib.itoa_nonneg, Lib.itoa_nonneg] at h3
  obtain ⟨h5, h6⟩ := List.append_inj' h3 rfl
  constructor
  · have h7 := congrArg (List.map UInt8.toNat) h5
    rw [dec36_is a (by omega), dec36_is b (by omega)] at h7
    have h8 := dec36_inj ⟨a, by omega⟩ ⟨b, by omega⟩ h7
    have h9 : a = b := congrArg Fin.val h8
    omega
  · cases d <;> cases e <;> simp at h6 <;> rfl
/-- A slot is found by its name. -/
theorem named_self {g : Int × Int × ByteArray} {i : Nat} (hi : i < (slG g).length) : NamedAt (slG g) (nameB ((slG g).getD i none_Slot).1 ((slG g).getD i none_Slot).2.1) i := by
  refine Or.inr ⟨i, rfl, hi, rfl, fun y hy he => ?_⟩
  rw [List.mem_take_iff_getElem] at hy
  obtain ⟨j, hj, rfl⟩ := hy
  have hj1 : j < i := by omega
  have hj2 : j < (slG g).length := by omega
  have e1 : (slG g)[i] = (slG g).getD i none_Slot := by simp [List.getD, hi]
  have h1 := slG_numR g
  rw [List.pairwise_iff_getElem] at h1
  have h2 := h1 j i hj2 hi hj1
  rw [e1] at h2
  obtain ⟨h3, h4⟩ := name_inj (slG_num (List.getElem_mem hj2)) (slG_num (getD_in hi)) he
  rcases h2 with h2 | ⟨-, h5, h6⟩
  · omega
  · rw [h5, h6] at h4; cases h4

/-- How many slots a line has. -/
def cntB (bs : List Bool) : Nat := ((List.range bs.length).map fun j => if 2 ≤ runAt bs j then 1 else 0).sum
theorem cnt_runs (bs : List Bool) : (runsP bs).length = cntB bs := by
  unfold runsP cntB
  rw [List.length_flatMap]
  congr 1
  refine List.map_congr_left fun j _ => ?_
  split <;> rfl
theorem cnt_back (bs : List Bool) (h : bs.length ≤ 6) : cntB bs.reverse = cntB bs := by
  rw [← cnt_runs, ← cnt_runs]
  exact (runs_facts bs h).2.2
theorem oneS_length (d : Bool) (k n : Nat) : (oneS d k n).length = if 2 ≤ n then 1 else 0 := by
  unfold oneS
  split <;> rfl
theorem lines_count (r c : Nat) (s : ByteArray) : (linesS r c s).length = ((List.range r).map fun i => cntB (rowB c s i)).sum + ((List.range c).map fun j => cntB (colB r c s j)).sum := by
  unfold linesS
  rw [List.length_append, List.length_flatMap, List.length_flatMap]
  have e1 : ∀ i, (rowB c s i).length = c := fun i => by unfold rowB; simp
  have e2 : ∀ j, (colB r c s j).length = r := fun j => by unfold colB; simp
  congr 2
  · refine List.map_congr_left fun i _ => ?_
    rw [List.length_flatMap]
    unfold cntB
    rw [e1]
    congr 1
    exact List.map_congr_left fun j _ => oneS_length _ _ _
  · refine List.map_congr_left fun j _ => ?_
    rw [List.length_flatMap]
    unfold cntB
    rw [e2]
    congr 1
    exact List.map_congr_left fun i _ => oneS_length _ _ _
theorem slTo_count (r c : Nat) (s : ByteArray) : (slTo r c s (r * c)).2.length = (linesS r c s).length := by
  rw [slTo_raw, numS_length]
  exact (raw_lines r c s).symm.length_eq
theorem whF_back {s : ByteArray} (h : s.size ≤ 100) {k : Nat} (hk : k < s.size) : whF (backL s) k = whF s (s.size - 1 - k) := by
  unfold whF
  rw [back_list h]
  have hl : s.data.toList.length = s.size := by rw [size_list]
  congr 2
  rw [List.getD_eq_getElem?_getD, List.getD_eq_getElem?_getD, List.getElem?_reverse (by omega), hl]
theorem sum_back (n : Nat) (f : Nat → Nat) : ((List.range n).map fun i => f (n - 1 - i)).sum = ((List.range n).map f).sum := by
  have h : ((List.range n).map fun i => f (n - 1 - i)) = ((List.range n).map f).reverse := by
    refine List.ext_getElem (by simp) fun i h1 h2 => ?_
    simp at h1
    simp
  rw [h]
  exact List.sum_reverse _
theorem rowB_back {r c i : Nat} {s : ByteArray} (h : s.size ≤ 100) (hs : s.size = r * c) (hi : i < r) : rowB c (backL s) i = (rowB c s (r - 1 - i)).reverse := by
  unfold rowB
  refine List.ext_getElem (by simp) fun j h1 h2 => ?_
  simp at h1
  have h6 : (i + 1) * c ≤ r * c := Nat.mul_le_mul_right c hi
  have h7 : (r - 1 - i + (i + 1)) * c = r * c := by rw [show r - 1 - i + (i + 1) = r by omega]
  rw [Nat.add_mul] at h6 h7
  rw [Nat.add_mul] at h7
  simp
  rw [whF_back h (by omega)]
  congr 1
  omega
theorem colB_back {r c j : Nat} {s : ByteArray} (h : s.size ≤ 100) (hs : s.size = r * c) (hj : j < c) : colB r c (backL s) j = (colB r c s (c - 1 - j)).reverse := by
  unfold colB
  refine List.ext_getElem (by simp) fun i h1 h2 => ?_
  simp at h1
  have h6 : (i + 1) * c ≤ r * c := Nat.mul_le_mul_right c h1
  have h7 : (r - 1 - i + (i + 1)) * c = r * c := by rw [show r - 1 - i + (i + 1) = r by omega]
  rw [Nat.add_mul] at h6 h7
  rw [Nat.add_mul] at h7
  simp
  rw [whF_back h (by omega)]
  congr 1
  omega
/-- A grid that is turned has as many slots. -/
theorem slots_turn {g : Int × Int × ByteArray} (hg : isG g = true) (hg2 : isG (turnG g) = true) : (slG (turnG g)).length = (slG g).length := by
  obtain ⟨r, c, s⟩ := g
  obtain ⟨R, C, rfl, rfl, h1, h2, h3, h4, h5, h6⟩ := isG_nat hg
  have e1 : slG ((R : Int), (C : Int), s) = (slTo R C s (R * C)).2 := by unfold slG; rw [if_pos hg]; rfl
  have e2 : turnG ((R : Int), (C : Int), s) = ((R : Int), (C : Int), backL s) := by unfold turnG; rw [if_pos hg]
  rw [e2] at hg2
  have e3 : slG ((R : Int), (C : Int), backL s) = (slTo R C (backL s) (R * C)).2 := by unfold slG; rw [if_pos hg2]; rfl
  rw [e2, e1, e3, slTo_count, slTo_count, lines_count, lines_count]
  have hs : s.size ≤ 100 := by omega
  congr 1
  · rw [← sum_back R fun i => cntB (rowB C s i)]
    congr 1
    refine List.map_congr_left fun i hi => ?_
    rw [rowB_back hs h5 (List.mem_range.1 hi), cnt_back _ (by unfold rowB; simp; omega)]
  · rw [← sum_back C fun j => cntB (colB R C s j)]
    congr 1
    refine List.map_congr_left fun j hj => ?_
    rw [colB_back hs h5 (List.mem_range.1 hj), cnt_back _ (by unfold colB; simp; omega)]
theorem isG_turned {g : Int × Int × ByteArray} (h : isG g = true) : isG (turnG g) = true := by
  have hs := isG_size h
  have h1 : turnG g = (g.1, g.2.1, backL g.2.2) := by unfold turnG; rw [if_pos h]
  rw [h1]
  obtain ⟨a, b, c, d⟩ := of_decide_eq_true h
  exact decide_eq_true ⟨a, b, by show ((backL g.2.2).size : Int) = _; rw [back_size (by omega)]; exact c, fun x hx => by
    have hx2 : x ∈ (backL g.2.2).data.toList := hx
    rw [back_list (by omega)] at hx2
    exact d x (List.mem_reverse.1 hx2)⟩
end Go.Proofs.YtmhgejljjjmejaaDoor
