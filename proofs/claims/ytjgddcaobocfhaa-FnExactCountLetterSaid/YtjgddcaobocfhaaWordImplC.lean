/-
  The program's contracts of chapter 4: SortLetters, IsRearranged.
-/
import Derived.Test.YtjgddcaobocfhaaWordImplB
namespace Go.Proofs.Ytjgddcaobocfhaa
open Go.RowKit

theorem infoU8W : (Try.prog.info? 5).map (fun i => (i.zero, i.size, i.bytes)) = some (some (.int .u8 0), 1, 1) := by kernel_rfl
/-- The letter number j. -/
def letJ (j : Nat) : UInt8 := UInt8.ofNat (97 + j)
theorem letJ_toNat (j : Nat) (h : j ≤ 25) : (letJ j).toNat = 97 + j := by unfold letJ; rw [UInt8.toNat_ofNat']; omega
theorem nth_rep (l : List UInt8) (j : Nat) : nth l j = List.replicate (nth l j).length (letJ j) := by
  refine List.eq_replicate_of_mem (fun b hb => ?_)
  have := (List.mem_filter.1 hb).2
  simp at this
  unfold letJ
  rw [← this]
  exact (UInt8.ofNat_toNat ..).symm
/-- The sorted bytes behind q letters of number j. -/
def sortAt (l : List UInt8) (j q : Nat) : List UInt8 := (List.range j).flatMap (nth l) ++ List.replicate q (letJ j)
theorem sortAt_next (l : List UInt8) (j : Nat) : sortAt l j (nth l j).length = sortAt l (j + 1) 0 := by
  unfold sortAt
  rw [← nth_rep, List.range_succ]
  simp
theorem sortAt_snoc (l : List UInt8) (j q : Nat) : sortAt l j q ++ [letJ j] = sortAt l j (q + 1) := by
  unfold sortAt
  rw [List.replicate_succ', List.append_assoc]
theorem sortAt_zero (l : List UInt8) : sortAt l 0 0 = [] := rfl
theorem sortAt_all (l : List UInt8) : sortAt l 26 0 = sortB l := by unfold sortAt sortB; simp
theorem sortAt_length (l : List UInt8) (j q : Nat) (hq : q ≤ (nth l j).length) (hj : j < 26) : (sortAt l j q).length ≤ 26 * l.length := by
  unfold sortAt
  rw [List.length_append, List.length_replicate, List.length_flatMap]
  have h : ∀ n, ((List.range n).map fun i => (nth l i).length).sum ≤ n * l.length := by
    intro n
    induction n with
    | zero => simp
    | succ n ih =>
      rw [List.range_succ, List.map_append, List.sum_append]
      simp only [List.map_cons, List.map_nil, List.sum_cons, List.sum_nil]
      have := nth_le l n
      rw [Nat.add_mul]
      omega
  have h1 := h j
  have h2 := nth_le l j
  have h3 : j * l.length + l.length ≤ 26 * l.length := by
    have : (j + 1) * l.length ≤ 26 * l.length := Nat.mul_le_mul_right _ (by omega)
    rw [Nat.add_mul] at this
    omega
  omega
set_option maxHeartbeats 3200000 in
theorem isort_yes (s : ByteArray) (hs : isW s = true) (w : World) :
    Calls Try.prog 14 #[.string s] w fun e w' => e = .returned (.string (sortL s)) ∧ Below w.heap.size w w' := by
  obtain ⟨i0, hi, hz0, hz1, hz2⟩ := info_parts infoU8W
  have HW := Lib.hid hs
  have HL := Lib.hid (icl_any s hs)
  have HF := Lib.hid (sort_list hs)
  obtain ⟨L, hL⟩ : ∃ L, L = s.data.toList := ⟨_, rfl⟩
  have hl8 : L.length ≤ 8 := by rw [hL, size_list]; exact (word_of hs).2.1
  rw [← hL] at HL HF
  clear hL hs
  go_enter Try.func14, Try.ntmps14
  go_wp2_with (first | (go_at_call 13; refine (iiw_any s _).mono ?_; rw [HW.out]; rintro e w1 ⟨rfl, b1⟩) | (go_at_call 31; refine (HL.out _).mono ?_; rintro e w2 ⟨rfl, b2⟩))
  have HO0 := Lib.hid (own_later (own_empty w1 5) b2)
  have B0 := Lib.hid (b1.trans (((Below.refl _ _).alloc (Nat.le_refl _) _ |>.trans (b2.mono (by simp))).mono b1.size))
  have hw1 := b1.size
  have hzw : w1.heap.size ≤ w2.heap.size := by have := b2.size; simp at this; omega
  clear b1 b2
  go_loopw [3, 4, 5, 12, 16, 17] (fun v _ _ i _ _ wr => ∃ (j : Nat), j ≤ 26 ∧ i = .int .i64 j ∧ Hid (wr.ownsRow w1.heap.size 5 1 v (numsL (sortAt L j 0)).length ((numsL (sortAt L j 0)).map (Value.int .u8))) ∧ Below w.heap.size w wr ∧ w1.heap.size ≤ wr.heap.size) (fun _ _ _ i _ _ _ => 26 - (intOf i).toNat)
  case atStart => exact ⟨0, by decide, rfl, HO0, B0.out, hzw⟩
  case round =>
    obtain ⟨j, hj, rfl, HO, hbl, hz⟩ := hrel
    by_cases hlt : j < 26
    · have hx := idx_cnt L j hlt .i64
      have hnl := nth_le L j
      obtain ⟨m, hm⟩ : ∃ m, m = (nth L j).length := ⟨_, rfl⟩
      have HM := Lib.hid hm
      rw [← hm] at hx hnl
      clear hm
      have hd13 : decide ((j : Int) < 26) = true := decide_eq_true (by omega)
      go_wp2
      clear hd13
      go_loopw [3, 17] (fun v q wi => ∃ (k : Nat), k ≤ m ∧ q = .int .i64 k ∧ Hid (wi.ownsRow w1.heap.size 5 1 v (numsL (sortAt L j k)).length ((numsL (sortAt L j k)).map (Value.int .u8))) ∧ Below w.heap.size w wi ∧ w1.heap.size ≤ wi.heap.size) (fun _ q _ => m - (intOf q).toNat)
      case atStart => exact ⟨0, Nat.zero_le _, rfl, HO, hbl, hz⟩
      case round =>
        obtain ⟨k, hk, rfl, HQ, hbk, hzk⟩ := hrel
        by_cases hkm : k < m
        · have hlen : (numsL (sortAt L j k)).length ≤ 208 := by
            rw [numsL_length]
            have := sortAt_length L j k (by rw [← HM.out]; omega) hlt
            omega
          have hwr : IntKind.u8.wrap (97 + (j : Int)) = 97 + (j : Int) := IntWalk.u8_in _ (by omega)
          obtain ⟨X, hX⟩ : ∃ X, X = numsL (sortAt L j k) := ⟨_, rfl⟩
          have HX : Hid (numsL (sortAt L j (k + 1)) = X ++ [97 + (j : Int)]) := Lib.hid (by rw [hX, ← sortAt_snoc, numsL_app]; simp [numsL, letJ_toNat j (by omega)])
          rw [← hX] at HQ hlen
          clear hX
          go_wp2_with (at_builtin; refine append_reads _ rfl _ _ 22 rfl w1.heap.size 5 i0 (.int .u8 0) 1 Try.underlying22 hi hz0 hz1 hz2 rfl _ X.length (X.map (Value.int .u8)) rfl (own_later HQ.out (Joins.below_alloc1 _ _)) (some ⟨wr.heap.size, 0, none⟩) 1 1 .u8 [97 + (j : Int)] rfl rfl (fun e => by cases e) (one_src _ _ _ _) (by omega) (by omega) (by simp; omega) ?_; intro v3 w3 hown hgrow)
          have HQ2 : Hid (w3.ownsRow w1.heap.size 5 1 v3 (numsL (sortAt L j (k + 1))).length ((numsL (sortAt L j (k + 1))).map (Value.int .u8))) := Lib.hid (by rw [HX.out, List.length_append, List.map_append]; exact hown)
          have hb3 : Below w.heap.size w w3 := below_own (hbk.alloc hbk.size _) hgrow (own_later HQ.out (Joins.below_alloc1 _ _)) hw1 (by have := hbk.size; simp; omega)
          have hz3 : w1.heap.size ≤ w3.heap.size := by have := hgrow.size; simp at this; omega
          clear hown hgrow
          go_roundw
          case rel => exact ⟨k + 1, by omega, by go_num, HQ2, hb3, hz3⟩
          case measure => simp [intOf]; omega
        · have HQ2 : Hid (wr.ownsRow w1.heap.size 5 1 _ (numsL (sortAt L (j + 1) 0)).length ((numsL (sortAt L (j + 1) 0)).map (Value.int .u8))) := Lib.hid (by
            rw [← sortAt_next, ← HM.out, show m = k by omega]; exact HQ.out)
          go_wp2
          go_roundw
          case rel => exact ⟨j + 1, by omega, by go_num, HQ2, hbk, hzk⟩
          case measure => simp [intOf]; omega
    · have hj' : j = 26 := by omega
      have hln := sortAt_length L 25 (nth L 25).length (Nat.le_refl _) (by decide)
      rw [sortAt_next] at hln
      have HV : Hid (strOfNums (numsL (sortAt L j 0)) = sortL s) := Lib.hid (by
        rw [str_nums, hj', sortAt_all]
        exact str_ext (by rw [HF.out]))
      rw [hj'] at HO
      rw [hj'] at HV
      have hconv := conv_own (reads_own HO.out rfl (by rw [numsL_length]; exact Nat.le_trans hln (by omega)))
      rw [HV.out] at hconv
      clear hj'
      go_wp2
      go_ret
      exact ⟨rfl, hbl⟩
set_option maxHeartbeats 800000 in
theorem isort_any (s : ByteArray) (w : World) :
    Calls Try.prog 14 #[.string s] w fun e w' => e = .returned (.string (sortL s)) ∧ Below w.heap.size w w' := by
  cases hs : isW s with
  | true => exact isort_yes s hs w
  | false =>
    have HW := Lib.hid hs
    have HF := Lib.hid (sort_none hs)
    clear hs
    go_enter Try.func14, Try.ntmps14
    go_wp2_with (go_at_call 13; refine (iiw_any s _).mono ?_; rw [HW.out]; rintro e w1 ⟨rfl, b1⟩)
    go_ret
    exact ⟨by rw [HF.out]; rfl, b1⟩

set_option maxHeartbeats 800000 in
theorem irear_any (a b : ByteArray) (w : World) :
    Calls Try.prog 16 #[.string a, .string b] w fun e w' => e = .returned (.bool (rearr a b)) ∧ Below w.heap.size w w' := by
  obtain ⟨p, hp⟩ : ∃ p, p = isW a := ⟨_, rfl⟩
  obtain ⟨q, hq⟩ : ∃ q, q = isW b := ⟨_, rfl⟩
  have HA := Lib.hid (iiw_any a)
  have HB := Lib.hid (iiw_any b)
  rw [← hp] at HA
  rw [← hq] at HB
  have HR : Hid (rearr a b = (p && q && decide (a ≠ b) && decide (sortL a = sortL b))) := Lib.hid (by unfold rearr; rw [hp, hq])
  clear hp hq
  have HSA := Lib.hid (isort_any a)
  have HSB := Lib.hid (isort_any b)
  obtain ⟨x, hx⟩ : ∃ x, x = sortL a := ⟨_, rfl⟩
  obtain ⟨y, hy⟩ : ∃ y, y = sortL b := ⟨_, rfl⟩
  rw [← hx] at HSA HR
  rw [← hy] at HSB HR
  clear hx hy
  obtain ⟨t, ht⟩ : ∃ t, t = decide (a = b) := ⟨_, rfl⟩
  have heq : (a.toList == b.toList) = t := by rw [str_beq, ht]
  have HR2 : Hid (rearr a b = (p && q && !t && decide (x = y))) := Lib.hid (by rw [HR.out, ht]; simp)
  have HSE := Lib.hid (str_beq x y)
  clear ht HR
  cases p with
  | false =>
    go_enter Try.func16, Try.ntmps16
    go_wp2_with (go_at_call_of 13 (Value.string a); refine (HA.out _).mono ?_; rintro e w1 ⟨rfl, b1⟩)
    go_ret
    exact ⟨by rw [HR2.out]; rfl, b1⟩
  | true =>
    cases q with
    | false =>
      go_enter Try.func16, Try.ntmps16
      go_wp2_with (first | (go_at_call_of 13 (Value.string a); refine (HA.out _).mono ?_; rintro e w1 ⟨rfl, b1⟩) | (go_at_call_of 13 (Value.string b); refine (HB.out _).mono ?_; rintro e w2 ⟨rfl, b2⟩))
      go_ret
      exact ⟨by rw [HR2.out]; rfl, btrans b1 b2⟩
    | true =>
      cases t with
      | true =>
        go_enter Try.func16, Try.ntmps16
        go_wp2_with (first | (go_at_call_of 13 (Value.string a); refine (HA.out _).mono ?_; rintro e w1 ⟨rfl, b1⟩) | (go_at_call_of 13 (Value.string b); refine (HB.out _).mono ?_; rintro e w2 ⟨rfl, b2⟩))
        go_ret
        exact ⟨by rw [HR2.out]; rfl, btrans b1 b2⟩
      | false =>
        go_enter Try.func16, Try.ntmps16
        go_wp2_with (first | (go_at_call_of 13 (Value.string a); refine (HA.out _).mono ?_; rintro e w1 ⟨rfl, b1⟩) | (go_at_call_of 13 (Value.string b); refine (HB.out _).mono ?_; rintro e w2 ⟨rfl, b2⟩) | (go_at_call_of 14 (Value.string a); refine (HSA.out _).mono ?_; rintro e w3 ⟨rfl, b3⟩) | (go_at_call_of 14 (Value.string b); refine (HSB.out _).mono ?_; rintro e w4 ⟨rfl, b4⟩))
        go_ret
        exact ⟨by rw [HR2.out, ← HSE.out]; rfl, btrans (btrans (btrans b1 b2) b3) b4⟩


/-- slices.Clone at a slice of bytes that is not nil. -/
theorem clone_w (l : List Int) (hl : l.length ≤ 8388608) (ad : Addr) (cap : Nat) (w : World)
    (hc : ∀ j, j < l.length → ∃ b off, some ad = some ⟨b, off, none⟩ ∧ b < w.heap.size ∧ w.cell? ⟨b, off + j, none⟩ = some (.int .u8 (l.getD j 0))) :
    Calls Try.prog 36 #[.slice (some ad) l.length cap] w fun e w' => ∃ v', e = .returned v' ∧ w'.ownsRow w.heap.size 5 1 v' l.length (l.map (Value.int .u8)) ∧ Below w.heap.size w w' := by
  obtain ⟨i0, hi, hz0, hz1, hz2⟩ := info_parts infoU8W
  have q22 : ∀ (w : World) (a : Option Addr) (n c n' c' : Nat), (binOp .eql 22 (.slice a n c) (.slice none n' c')).run Try.prog w = .ok (.bool a.isNone) w := fun w a n c n' c' => Lib.run_eql_slice_nil w _ _ a n c n' c' Try.underlying22
  have HC := Lib.hid hc
  clear hc
  go_enter Try.func36, Try.ntmps36
  go_wp2_with (at_builtin; refine append_reads _ rfl _ _ 22 rfl w.heap.size 5 i0 (.int .u8 0) 1 Try.underlying22 hi hz0 hz1 hz2 rfl _ 0 [] rfl (own_empty w _) (some ad) l.length cap .u8 l rfl rfl (fun e => by cases e) (alloc_src HC.out _) (by omega) (by omega) (by simp) ?_; intro v1 w1 hown hgrow; rw [Nat.zero_add, List.nil_append] at hown)
  go_ret
  exact ⟨_, rfl, hown, below_own ((Below.refl _ _).alloc (Nat.le_refl _) _) hgrow (own_empty w _) (Nat.le_refl _) (by simp)⟩

/-- What a list reads behind k rounds of turning it from both ends. -/
def revK (l : List Int) (k : Nat) : List Int := (List.range l.length).map fun i => if i < k ∨ l.length ≤ i + k then l.getD (l.length - 1 - i) 0 else l.getD i 0
theorem revK_length (l : List Int) (k : Nat) : (revK l k).length = l.length := by simp [revK]
theorem revK_zero (l : List Int) : revK l 0 = l := by
  refine List.ext_getElem (revK_length l 0) fun i h1 h2 => ?_
  simp only [revK, List.getElem_map, List.getElem_range]
  rw [if_neg (by omega)]
  simp [List.getD, h2]
theorem revK_all (l : List Int) (k : Nat) (h : l.length ≤ 2 * k + 1) : revK l k = l.reverse := by
  refine List.ext_getElem (by rw [revK_length, List.length_reverse]) fun i h1 h2 => ?_
  rw [List.length_reverse] at h2
  simp only [revK, List.getElem_map, List.getElem_range, List.getElem_reverse]
  by_cases hc : i < k ∨ l.length ≤ i + k
  · rw [if_pos hc]
    simp [List.getD, show l.length - 1 - i < l.length by omega]
  · rw [if_neg hc]
    have : l.length - 1 - i = i := by omega
    simp [List.getD, h2, this]
theorem revK_at (l : List Int) (k i : Nat) (hi : i < l.length) : ((revK l k).map (Value.int .u8))[i]? = some (.int .u8 (if i < k ∨ l.length ≤ i + k then l.getD (l.length - 1 - i) 0 else l.getD i 0)) := by
  simp [revK, hi]
theorem revK_step (l : List Int) (k : Nat) (h : 2 * k + 1 < l.length) : (((revK l k).map (Value.int .u8)).set k (.int .u8 (l.getD (l.length - 1 - k) 0))).set (l.length - 1 - k) (.int .u8 (l.getD k 0)) = (revK l (k + 1)).map (Value.int .u8) := by
  refine List.ext_getElem (by simp [revK_length]) fun i h1 h2 => ?_
  have hi : i < l.length := by simpa [revK_length] using h2
  rw [List.getElem_set, List.getElem_set]
  simp only [revK, List.getElem_map, List.getElem_range]
  by_cases h3 : l.length - 1 - k = i
  · rw [if_pos h3, if_pos (by omega)]
    congr 2
    omega
  · rw [if_neg h3]
    by_cases h4 : k = i
    · subst h4
      rw [if_pos rfl, if_pos (by omega)]
    · rw [if_neg h4]
      by_cases h5 : i < k ∨ l.length ≤ i + k
      · rw [if_pos h5, if_pos (by omega)]
      · rw [if_neg h5, if_neg (by omega)]
set_option maxHeartbeats 1600000 in
theorem rev_w (l : List Int) (hl : l.length ≤ 8388608) (base g cap : Nat) (w : World) (ho : w.ownsRow base 5 1 (.slice (some ⟨g, 0, none⟩) l.length cap) l.length (l.map (Value.int .u8))) :
    Calls Try.prog 37 #[.slice (some ⟨g, 0, none⟩) l.length cap] w fun e w' => e = .returned (.tuple #[]) ∧ w'.ownsRow base 5 1 (.slice (some ⟨g, 0, none⟩) l.length cap) l.length (l.reverse.map (Value.int .u8)) ∧ Below base w w' := by
  have hbg : base ≤ g := (ho.lt g rfl).1
  have HO0 := Lib.hid ho
  clear ho
  go_enter Try.func37, Try.ntmps37
  go_wp2
  go_loopw [2, 3] (fun i j wr => ∃ k : Nat, 2 * k ≤ l.length + 1 ∧ i = .int .i64 k ∧ j = .int .i64 ((l.length : Int) - 1 - k) ∧ Hid (wr.ownsRow base 5 1 (.slice (some ⟨g, 0, none⟩) l.length cap) l.length ((revK l k).map (Value.int .u8))) ∧ Below base w wr) (fun i _ _ => l.length - (intOf i).toNat)
  case atStart => exact ⟨0, by omega, by go_num, by simp, Lib.hid (by rw [revK_zero]; exact HO0.out), Below.refl _ _⟩
  case round =>
    obtain ⟨k, hk, rfl, rfl, HO, hbl⟩ := hrel
    by_cases hlt : 2 * k + 1 < l.length
    · obtain ⟨m, hm⟩ : ∃ m, l.length = m + 1 + k := ⟨l.length - 1 - k, by omega⟩
      have HM := Lib.hid hm
      obtain ⟨x, hx⟩ : ∃ x, x = l.getD k 0 := ⟨_, rfl⟩
      obtain ⟨y, hy⟩ : ∃ y, y = l.getD m 0 := ⟨_, rfl⟩
      have HS := Lib.hid (revK_step l k hlt)
      have hca := (HO.out.cellAt k (by omega)).trans (revK_at l k k (by omega))
      have hcb := (HO.out.cellAt m (by omega)).trans (revK_at l k m (by omega))
      rw [if_neg (by omega), ← hx] at hca
      rw [if_neg (by omega), ← hy] at hcb
      rw [show l.length - 1 - k = m by omega, ← hx, ← hy] at HS
      have hfa := HO.out.frozenAt k
      have hfb := HO.out.frozenAt m
      have hij : ((l.length : Int) - 1 - k) = m := by omega
      have hkm : k < m := by omega
      clear hm hx hy
      rw [hij]
      have hbm : Below base w wr.drew := hbl.drew
      have HX : Hid (((wr.drew.setCell ⟨g, k, none⟩ (.int .u8 y)).setCell ⟨g, m, none⟩ (.int .u8 x)).ownsRow base 5 1 (.slice (some ⟨g, 0, none⟩) l.length cap) l.length ((revK l (k + 1)).map (Value.int .u8))) := Lib.hid (by
        rw [← HS.out]
        exact ((HO.out.drew.stored k (.int .u8 y)).1.stored m (.int .u8 x)).1)
      go_wp2
      go_region
      all_goals go_wp2
      all_goals go_roundw
      case rel => exact ⟨k + 1, by omega, by go_num, by rw [show (l.length : Int) - 1 - ((k + 1 : Nat) : Int) = m - 1 by omega], HX, (hbm.setCell hbg _).setCell hbg _⟩
      case measure => simp [intOf]; omega
    · have HX : Hid (wr.ownsRow base 5 1 (.slice (some ⟨g, 0, none⟩) l.length cap) l.length (l.reverse.map (Value.int .u8))) := Lib.hid (by rw [← revK_all l k (by omega)]; exact HO.out)
      have hd : decide ((k : Int) < (l.length : Int) - 1 - (k : Int)) = false := decide_eq_false (by omega)
      go_wp2
      go_end0
      exact ⟨rfl, HX.out, hbl⟩
end Go.Proofs.Ytjgddcaobocfhaa
