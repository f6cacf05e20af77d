/-
  The program's contracts of chapter 4: CountLetter, SortLetters, IsRearranged, BeforeWord.
  The program's contracts of chapter 4: SortLetters, IsRearranged.
-/
import Derived.Test.YtgjijmcedonlmaaGreatDoorWordI
namespace Go.Proofs.YtgjijmcedonlmaaGreatDoor
open Go.RowKit

theorem count_letter (l : List UInt8) (b : UInt8) (j : Nat) (h : b.toNat = 97 + j) : l.count b = (nth l j).length := by
  unfold nth
  rw [List.count_eq_length_filter]
  congr 1
  refine List.filter_congr fun x _ => ?_
  rw [Bool.eq_iff_iff]
  simp only [beq_iff_eq]
  exact ⟨fun e => by rw [e, h], fun e => UInt8.toNat_inj.1 (by rw [e, h])⟩
theorem one_list (t : ByteArray) (h : t.size = 1) : t.data.toList = [t[0]] := by
  refine List.ext_getElem (by rw [size_list]; simp [h]) fun i h1 h2 => ?_
  have hi : i = 0 := by simpa using h2
  subst hi
  simp
  rfl
theorem isW_one (t : ByteArray) (h : t.size = 1) : isW t = decide (isL t[0]) := by
  unfold isW
  rw [one_list t h]
  simp [h]
/-- What CountLetter answers, by the cells of countLetters. -/
theorem cntL_yes {s t : ByteArray} (hs : isW s = true) (ht : t.size = 1) (j : Nat) (hj : t[0].toNat = 97 + j) (hj25 : j ≤ 25) : cntL s t = ((nth s.data.toList j).length : Nat) := by
  unfold cntL
  rw [if_pos ⟨hs, by rw [isW_one t ht]; exact decide_eq_true ⟨by omega, by omega⟩, ht⟩, one_list t ht, List.headD_cons, count_letter _ _ j hj]
theorem cntL_no {s t : ByteArray} (h : ¬ (isW s = true ∧ isW t = true ∧ t.size = 1)) : cntL s t = 0 := by unfold cntL; rw [if_neg h]
theorem infoI64 : (Tryz.prog.info? 3).map (fun i => (i.zero, i.size, i.bytes)) = some (some (.int .i64 0), 1, 8) := by kernel_rfl
theorem isl_in (j : Nat) (hj : j ≤ 25) (w : World) :
    Calls Tryz.prog 68 #[.int .u8 (97 + j)] w fun e w' => e = .returned (.bool true) ∧ w = w' := by
  have h := isl_any (UInt8.ofNat (97 + j)) w
  have e : (UInt8.ofNat (97 + j)).toNat = 97 + j := by rw [UInt8.toNat_ofNat']; omega
  rw [e, decide_eq_true (show isL (UInt8.ofNat (97 + j)) from ⟨by omega, by omega⟩)] at h
  exact h
end Go.Proofs.YtgjijmcedonlmaaGreatDoor
namespace Go.Proofs.YtgjijmcedonlmaaGreatDoor
open Go.RowKit

theorem infoU8W : (Tryz.prog.info? 5).map (fun i => (i.zero, i.size, i.bytes)) = some (some (.int .u8 0), 1, 1) := by kernel_rfl
/-- The letter number j. -/
def letJ (j : Nat) : UInt8 := UInt8.ofNat (97 + j)
theorem letJ_toNat (j : Nat) (h : j ≤ 25) : (letJ j).toNat = 97 + j := by unfold letJ; rw [UInt8.toNat_ofNat']; omega
theorem nth_rep (l : List UInt8) (j : Nat) : nth l j = List.replicate (nth l j).length (letJ j) := by
  refine List.eq_replicate_of_mem (fun b hb => ?_)
  have := (List.mem_filter.1 hb).2
  simp at this
  unfold letJ
  rw [← this]
  exact (UInt8.ofNat_toNat ..).symm
/-- The sorted bytes behind q letters of number j. -/
def sortAt (l : List UInt8) (j q : Nat) : List UInt8 := (List.range j).flatMap (nth l) ++ List.replicate q (letJ j)
theorem sortAt_next (l : List UInt8) (j : Nat) : sortAt l j (nth l j).length = sortAt l (j + 1) 0 := by
  unfold sortAt
  rw [← nth_rep, List.range_succ]
  simp
theorem sortAt_snoc (l : List UInt8) (j q : Nat) : sortAt l j q ++ [letJ j] = sortAt l j (q + 1) := by
  unfold sortAt
  rw [List.replicate_succ', List.append_assoc]
theorem sortAt_zero (l : List UInt8) : sortAt l 0 0 = [] := rfl
theorem sortAt_all (l : List UInt8) : sortAt l 26 0 = sortB l := by unfold sortAt sortB; simp
theorem sortAt_length (l : List UInt8) (j q : Nat) (hq : q ≤ (nth l j).length) (hj : j < 26) : (sortAt l j q).length ≤ 26 * l.length := by
  unfold sortAt
  rw [List.length_append, List.length_replicate, List.length_flatMap]
  have h : ∀ n, ((List.range n).map fun i => (nth l i).length).sum ≤ n * l.length := by
    intro n
    induction n with
    | zero => simp
    | succ n ih =>
      rw [List.range_succ, List.map_append, List.sum_append]
      simp only [List.map_cons, List.map_nil, List.sum_cons, List.sum_nil]
      have := nth_le l n
      rw [Nat.add_mul]
      omega
  have h1 := h j
  have h2 := nth_le l j
  have h3 : j * l.length + l.length ≤ 26 * l.length := by
    have : (j + 1) * l.length ≤ 26 * l.length := Nat.mul_le_mul_right _ (by omega)
    rw [Nat.add_mul] at this
    omega
  omega
/-- slices.Clone at a slice of bytes that is not nil. -/
theorem clone_w (l : List Int) (hl : l.length ≤ 8388608) (ad : Addr) (cap : Nat) (w : World)
    (hc : ∀ j, j < l.length → ∃ b off, some ad = some ⟨b, off, none⟩ ∧ b < w.heap.size ∧ w.cell? ⟨b, off + j, none⟩ = some (.int .u8 (l.getD j 0))) :
    Calls Tryz.prog 104 #[.slice (some ad) l.length cap] w fun e w' => ∃ v', e = .returned v' ∧ w'.ownsRow w.heap.size 5 1 v' l.length (l.map (Value.int .u8)) ∧ Below w.heap.size w w' := by
  obtain ⟨i0, hi, hz0, hz1, hz2⟩ := info_parts infoU8W
  have q22 : ∀ (w : World) (a : Option Addr) (n c n' c' : Nat), (binOp .eql 22 (.slice a n c) (.slice none n' c')).run Tryz.prog w = .ok (.bool a.isNone) w := fun w a n c n' c' => Lib.run_eql_slice_nil w _ _ a n c n' c' Tryz.underlying22
  have HC := Lib.hid hc
  clear hc
  go_enter Tryz.func104, Tryz.ntmps104
  go_wp2_with (at_builtin; refine append_reads _ rfl _ _ 22 rfl w.heap.size 5 i0 (.int .u8 0) 1 Tryz.underlying22 hi hz0 hz1 hz2 rfl _ 0 [] rfl (own_empty w _) (some ad) l.length cap .u8 l rfl rfl (fun e => by cases e) (alloc_src HC.out _) (by omega) (by omega) (by simp) ?_; intro v1 w1 hown hgrow; rw [Nat.zero_add, List.nil_append] at hown)
  go_ret
  exact ⟨_, rfl, hown, below_own ((Below.refl _ _).alloc (Nat.le_refl _) _) hgrow (own_empty w _) (Nat.le_refl _) (by simp)⟩

/-- What a list reads behind k rounds of turning it from both ends. -/
def revK (l : List Int) (k : Nat) : List Int := (List.range l.length).map fun i => if i < k ∨ l.length ≤ i + k then l.getD (l.length - 1 - i) 0 else l.getD i 0
theorem revK_length (l : List Int) (k : Nat) : (revK l k).length = l.length := by simp [revK]
theorem revK_zero (l : List Int) : revK l 0 = l := by
  refine List.ext_getElem (revK_length l 0) fun i h1 h2 => ?_
  simp only [revK, List.getElem_map, List.getElem_range]
  rw [if_neg (by omega)]
  simp [List.getD, h2]
theorem revK_all (l : List Int) (k : Nat) (h : l.length ≤ 2 * k + 1) : revK l k = l.reverse := by
  refine List.ext_getElem (by rw [revK_length, List.length_reverse]) fun i h1 h2 => ?_
  rw [List.length_reverse] at h2
  simp only [revK, List.getElem_map, List.getElem_range, List.getElem_reverse]
  by_cases hc : i < k ∨ l.length ≤ i + k
  · rw [if_pos hc]
    simp [List.getD, show l.length - 1 - i < l.length by omega]
  · rw [if_neg hc]
    have : l.length - 1 - i = i := by omega
    simp [List.getD, h2, this]
theorem revK_at (l : List Int) (k i : Nat) (hi : i < l.length) : ((revK l k).map (Value.int .u8))[i]? = some (.int .u8 (if i < k ∨ l.length ≤ i + k then l.getD (l.length - 1 - i) 0 else l.getD i 0)) := by
  simp [revK, hi]
theorem revK_step (l : List Int) (k : Nat) (h : 2 * k + 1 < l.length) : (((revK l k).map (Value.int .u8)).set k (.int .u8 (l.getD (l.length - 1 - k) 0))).set (l.length - 1 - k) (.int .u8 (l.getD k 0)) = (revK l (k + 1)).map (Value.int .u8) := by
  refine List.ext_getElem (by simp [revK_length]) fun i h1 h2 => ?_
  have hi : i < l.length := by simpa [revK_length] using h2
  rw [List.getElem_set, List.getElem_set]
  simp only [revK, List.getElem_map, List.getElem_range]
  by_cases h3 : l.length - 1 - k = i
  · rw [if_pos h3, if_pos (by omega)]
    congr 2
    omega
  · rw [if_neg h3]
    by_cases h4 : k = i
    · subst h4
      rw [if_pos rfl, if_pos (by omega)]
    · rw [if_neg h4]
      by_cases h5 : i < k ∨ l.length ≤ i + k
      · rw [if_pos h5, if_pos (by omega)]
      · rw [if_neg h5, if_neg (by omega)]
end Go.Proofs.YtgjijmcedonlmaaGreatDoor
