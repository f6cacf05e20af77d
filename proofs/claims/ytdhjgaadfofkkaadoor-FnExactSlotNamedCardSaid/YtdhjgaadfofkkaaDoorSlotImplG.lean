/-
  The program's contracts of chapter 8, seventh part: SlotsOf, the cells of a slot.
-/
import Derived.Test.YtdhjgaadfofkkaaDoorSlotImplF
namespace Go.Proofs.YtdhjgaadfofkkaaDoor
open Go.RowKit

theorem rowB_bits (c : Nat) (s : ByteArray) (i N S : Nat) (h : ∀ k, k < N → whB N S (k : Int) = whF s k) (hi : ∀ j, j < c → i * c + j < N) : ((List.range c).map fun j => whB N S ((i * c + j : Nat) : Int)) = rowB c s i := by
  unfold rowB
  refine List.map_congr_left fun j hj => ?_
  exact h _ (hi j (List.mem_range.1 hj))
theorem colB_bits (r c : Nat) (s : ByteArray) (j N S : Nat) (h : ∀ k, k < N → whB N S (k : Int) = whF s k) (hi : ∀ i, i < r → i * c + j < N) : ((List.range r).map fun i => whB N S ((i * c + j : Nat) : Int)) = colB r c s j := by
  unfold colB
  refine List.map_congr_left fun i hj => ?_
  exact h _ (hi i (List.mem_range.1 hj))
theorem in_grid {r c i j : Nat} (hi : i < r) (hj : j < c) : i * c + j < r * c := by
  have : (i + 1) * c ≤ r * c := Nat.mul_le_mul_right c hi
  rw [Nat.succ_mul] at this
  omega
theorem seg_lines (r c : Nat) (s : ByteArray) (N S : Nat) (hN : N = r * c) (h : ∀ k, k < N → whB N S (k : Int) = whF s k) : segR (whB N S) c r ++ segC (whB N S) r c c = linesS r c s := by
  unfold segR segC linesS
  congr 1
  · refine flatMap_congr' fun i hi => ?_
    rw [rowB_bits c s i N S h (fun j hj => by rw [hN]; exact in_grid (List.mem_range.1 hi) hj)]
  · refine flatMap_congr' fun j hj => ?_
    rw [colB_bits r c s j N S h (fun i hi => by rw [hN]; exact in_grid hi (List.mem_range.1 hj))]
theorem wT_white (s : ByteArray) (k : Nat) (h : k < s.size) : whB s.size (wT s s.size) (k : Int) = whF s k := by
  unfold whB whF
  rw [decide_eq_true (by omega), Bool.true_and, Int.toNat_natCast, wT_bit _ _ _ h]
/-- SlotsOf's answer, of the board that boardOf answers. -/
theorem slots_brd (g : Int × Int × ByteArray) (w : World) :
    Calls Tryd.prog 25 #[brdV (brd g)] w fun e w' => ∃ v, e = .returned v ∧ w'.ownsRow w.heap.size 33 4 v (slG g).length (row_Slot (slG g)) ∧ Below w.heap.size w w' := by
  obtain ⟨r, c, s⟩ := g
  by_cases hg : isG (r, c, s) = true
  · obtain ⟨R, C, rfl, rfl, h1, h2, h3, h4, h5, h6⟩ := isG_nat hg
    have hb : brd ((R : Int), (C : Int), s) = ((R : Int), (C : Int), wT s s.size) := by unfold brd; rw [if_pos hg]
    rw [hb]
    have hl : slG ((R : Int), (C : Int), s) = numS (-1) 0 (rawS R C s) := by
      unfold slG
      rw [if_pos hg]
      exact slTo_raw R C s
    refine (islots_any R C s.size (wT s s.size) (by rw [h5]; simp) h6 (Nat.lt_trans (wT_lt s _ h6) (by decide)) h2 h4 (.inl ⟨by omega, by omega⟩) w).mono ?_
    rintro e w' ⟨v, he, ⟨M, hb9, hs9, ho⟩, hbl⟩
    rw [seg_lines R C s s.size (wT s s.size) h5 (fun k hk => wT_white s k hk)] at hb9
    rw [sorted_raw hb9 hs9, ← hl] at ho
    exact ⟨v, he, ho, hbl⟩
  · have hb : brd (r, c, s) = (0, 0, 0) := by unfold brd; rw [if_neg hg]
    have hl : slG (r, c, s) = [] := by unfold slG; rw [if_neg hg]
    rw [hb, hl]
    refine (islots_any 0 0 0 0 rfl (by decide) (by decide) (by decide) (by decide) (.inr ⟨rfl, rfl⟩) w).mono ?_
    rintro e w' ⟨v, he, ⟨M, hb9, hs9, ho⟩, hbl⟩
    have hM : M = [] := List.length_eq_zero_iff.1 (hb9.length.symm.trans rfl)
    rw [hM] at ho
    exact ⟨v, he, ho, hbl⟩
set_option maxHeartbeats 800000 in
theorem islo_any (r c : Int) (s : ByteArray) (hs : s.size ≤ 4194304) (w : World) :
    Calls Tryd.prog 8 #[.agg #[.int .i64 r, .int .i64 c, .string s]] w fun e w' => ∃ v, e = .returned v ∧ w'.ownsRow w.heap.size 33 4 v (slG (r, c, s)).length (row_Slot (slG (r, c, s))) ∧ Below w.heap.size w w' := by
  have HBO := Lib.hid (fun w => ibo_any r c s hs w)
  have HSB := Lib.hid (fun w => slots_brd (r, c, s) w)
  obtain ⟨⟨b0, b1, b2⟩, hb⟩ : ∃ b, b = brd (r, c, s) := ⟨_, rfl⟩
  rw [← hb] at HBO HSB
  clear hb
  simp only [brdV] at HBO HSB
  go_enter Tryd.func8, Tryd.ntmps8
  go_wp2_with (first | (go_at_call 24; refine (HBO.out _).mono ?_; rintro e w1 ⟨rfl, bb1⟩; have HB := Lib.hid (box1_of bb1); clear bb1) | (go_at_call 25; refine (HSB.out _).mono ?_; rintro e w2 ⟨v, rfl, ho, bb2⟩; have HO := Lib.hid ho; have HB2 := Lib.hid bb2; clear ho bb2))
  go_ret
  have hz := HB.out.alloc HB.out.size (.cells #[.int .i64 b0, .int .i64 b1, .int .u64 (b2 : Int)] 50)
  exact ⟨_, rfl, own_widen HO.out hz.size, hz.trans (HB2.out.mono hz.size)⟩
end Go.Proofs.YtdhjgaadfofkkaaDoor
