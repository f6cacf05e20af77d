/-
  Plain facts that the law FnCrossings asks: what each crossing is, and the checked cells counted by slots and by cells.
-/
import Derived.Test.YtmhgejljjjmejaaCrossSpecB
import Derived.Test.YtmhgejljjjmejaaCrossingS
namespace Go.Proofs.Ytmhgejljjjmejaa
open Go.RowKit

def chN (l : List SlotV) (c : Int) (Z : List Int) : Nat := (Z.filter fun q => chkL l c q).length
theorem ch_unch (l : List SlotV) (c : Int) : ∀ Z : List Int, chN l c Z + unchN l c Z = Z.length
  | [] => rfl
  | q :: Z => by
    have ih := ch_unch l c Z
    unfold chN unchN at ih ⊢
    cases h : chkL l c q
    · simp [h]; omega
    · simp [h]; omega
theorem ch_count (l : List SlotV) (c : Int) (Z : List Int) (hn : Z.Nodup) (n : Nat) (hr : ∀ q ∈ Z, 0 ≤ q ∧ q < (n : Int)) : chN l c Z = ((List.range n).filter fun (k : Nat) => hasI Z (k : Int) && chkL l c (k : Int)).length := by
  have h1 : (Z.filter fun q => chkL l c q).Nodup := by
    rw [List.nodup_iff_pairwise_ne] at hn ⊢
    exact List.Pairwise.filter _ hn
  have h2 : (((List.range n).filter fun (k : Nat) => hasI Z (k : Int) && chkL l c (k : Int)).map fun (k : Nat) => (k : Int)).Nodup := by
    rw [List.nodup_iff_pairwise_ne, List.pairwise_map]
    refine List.Pairwise.imp (fun {a b} hab he => ?_) (List.Pairwise.filter _ (List.pairwise_lt_range (n := n)))
    omega
  have h3 := (List.perm_ext_iff_of_nodup h1 h2).2 (fun q => by
    rw [List.mem_filter, List.mem_map]
    constructor
    · rintro ⟨hq, hc⟩
      obtain ⟨g1, g2⟩ := hr q hq
      obtain ⟨k, rfl⟩ : ∃ k : Nat, q = k := ⟨q.toNat, by omega⟩
      refine ⟨k, ?_, rfl⟩
      rw [List.mem_filter, List.mem_range, hasI_iff.2 hq, hc]
      exact ⟨by omega, rfl⟩
    · rintro ⟨k, hk, rfl⟩
      rw [List.mem_filter, Bool.and_eq_true] at hk
      exact ⟨hasI_iff.1 hk.2.1, hk.2.2⟩)
  have h4 := h3.length_eq
  rw [List.length_map] at h4
  exact h4
theorem filt_flat {α : Type} (p : α → Bool) : ∀ l : List α, (l.filter p).length = (l.flatMap fun x => if p x = true then [()] else []).length
  | [] => rfl
  | x :: l => by
    have ih := filt_flat p l
    rw [List.flatMap_cons, List.length_append, ← ih]
    cases h : p x
    · simp [h]
    · simp [h]; omega
/-- How many checked cells the first slots have, together. -/
def sumC (l : List SlotV) (c : Int) (m : Nat) : Nat := ((List.range m).map fun i => chN l c (cellsS c (l.getD i none_Slot))).sum
theorem sumC_next (l : List SlotV) (c : Int) (m : Nat) : sumC l c (m + 1) = sumC l c m + chN l c (cellsS c (l.getD m none_Slot)) := by
  unfold sumC
  rw [List.range_succ, List.map_append, List.sum_append]
  simp
theorem sum_two (l : List SlotV) (c : Int) : ∀ n, ((List.range n).map fun (k : Nat) => if chkL l c (k : Int) = true then 2 else 0).sum = 2 * chkTo l c n
  | 0 => rfl
  | n + 1 => by
    rw [List.range_succ, List.map_append, List.sum_append, sum_two l c n, chkTo_next]
    cases h : chkL l c (n : Int)
    · simp [h]
    · simp [h]; omega
theorem slot_range {g : Int × Int × ByteArray} {x : SlotV} (h : x ∈ slG g) {q : Int} (hq : q ∈ cellsS g.2.1 x) : 0 ≤ q ∧ q < (g.2.2.size : Int) := by
  obtain ⟨R, C, hg, e1, e2, h1, h2, h3, h4, h5, h6⟩ := slG_at h
  unfold cellsS at hq
  obtain ⟨k, hk, rfl⟩ := List.mem_map.1 hq
  rw [List.mem_range] at hk
  obtain ⟨m, hm, e3, ha, hd⟩ := slot_cell h3 h6 k hk
  rw [h5]
  rcases hx : x.2.1 with _ | _
  · obtain ⟨-, -, -, h8⟩ := ha hx
    rw [e3, show (m : Int) + (k : Int) * (if false = true then g.2.1 else 1) = ((m + k : Nat) : Int) by simp]
    omega
  · obtain ⟨-, -, -, h8⟩ := hd hx
    rw [e3, e2, show (m : Int) + (k : Int) * (if true = true then (C : Int) else 1) = ((m + k * C : Nat) : Int) by simp]
    omega
theorem map_congr_sum {α : Type} {f g : α → Nat} : ∀ l : List α, (∀ x ∈ l, f x = g x) → (l.map f).sum = (l.map g).sum
  | [], _ => rfl
  | x :: l, h => by
    simp only [List.map_cons, List.sum_cons]
    rw [h x (by simp), map_congr_sum l (fun y hy => h y (by simp [hy]))]
theorem flat_none {α : Type} : ∀ m : List α, (m.flatMap fun _ => if false = true then [()] else []).length = if false = true then 2 else 0
  | [] => rfl
  | _ :: m => by
    rw [List.flatMap_cons, List.length_append, flat_none m]
    rfl
theorem sumC_all (g : Int × Int × ByteArray) : sumC (slG g) g.2.1 (slG g).length = 2 * (crossS g).length := by
  have e1 : sumC (slG g) g.2.1 (slG g).length = ((List.range (slG g).length).flatMap fun i => (List.range g.2.2.size).flatMap fun (k : Nat) => if (hasI (cellsS g.2.1 ((slG g).getD i none_Slot)) (k : Int) && chkL (slG g) g.2.1 (k : Int)) = true then [()] else []).length := by
    rw [List.length_flatMap]
    unfold sumC
    refine map_congr_sum _ fun i hi => ?_
    rw [List.mem_range] at hi
    rw [ch_count _ _ _ (slG_cells_nodup _ (getD_in hi)) g.2.2.size (fun q hq => slot_range (getD_in hi) hq), filt_flat]
  rw [e1, (flatMap_swap (List.range (slG g).length) (List.range g.2.2.size) fun i (k : Nat) => if (hasI (cellsS g.2.1 ((slG g).getD i none_Slot)) (k : Int) && chkL (slG g) g.2.1 (k : Int)) = true then [()] else []).length_eq, List.length_flatMap]
  unfold crossS
  rw [chkTo_cross, ← sum_two]
  refine map_congr_sum _ fun k _ => ?_
  cases h : chkL (slG g) g.2.1 (k : Int)
  · simp only [Bool.and_false]
    rw [flat_none]
  · simp only [Bool.and_true, if_true]
    rw [← filt_flat]
    unfold chkL at h
    exact of_decide_eq_true h
theorem chk_white {g : Int × Int × ByteArray} {q : Int} (h : chkL (slG g) g.2.1 q = true) : isWh g q = true := by
  refine atS_white ?_
  unfold chkL at h
  rw [atS_inS, List.length_map, of_decide_eq_true h]
  decide
theorem chk_whF {g : Int × Int × ByteArray} {k : Nat} (h : chkL (slG g) g.2.1 (k : Int) = true) : whF g.2.2 k = true := by
  have h2 : 0 < (inS (slG g) g.2.1 (k : Int)).length := by
    unfold chkL at h
    rw [of_decide_eq_true h]
    decide
  obtain ⟨i, hi⟩ := List.exists_mem_of_length_pos h2
  obtain ⟨h3, h4⟩ := inS_mem hi
  obtain ⟨R, C, hg, e1, e2, g1, g2, g3, g4, g5, g6⟩ := slG_at (getD_in h3)
  unfold cellsS at h4
  obtain ⟨j, hj, e⟩ := List.mem_map.1 h4
  rw [List.mem_range] at hj
  obtain ⟨m, hm, e3, ha, hd⟩ := slot_cell g3 g6 j hj
  rcases hx : ((slG g).getD i none_Slot).2.1 with _ | _
  · obtain ⟨-, -, h8, -⟩ := ha hx
    rw [hx, e3] at e
    rw [show k = m + j by simp at e; omega]
    exact h8
  · obtain ⟨-, -, h8, -⟩ := hd hx
    rw [hx, e3, e2] at e
    rw [show k = m + j * C by
      have e9 : ((m + j * C : Nat) : Int) = (k : Int) := by rw [← e]; simp
      omega]
    exact h8
theorem chk_le (g : Int × Int × ByteArray) : ∀ n, chkTo (slG g) g.2.1 n ≤ whTo g.2.2 n
  | 0 => Nat.le_refl _
  | n + 1 => by
    rw [chkTo_next, whTo_next]
    have ih := chk_le g n
    cases h : chkL (slG g) g.2.1 (n : Int)
    · simp; omega
    · rw [chk_whF h]; simp; omega
theorem share_len (g : Int × Int × ByteArray) : (shareS g).1 = ((crossS g).length : Int) ∧ (shareS g).1 ≤ (shareS g).2 := by
  unfold shareS
  by_cases hg : isG g = true
  · rw [if_pos hg]
    unfold crossS
    rw [chkTo_cross]
    have := chk_le g g.2.2.size
    exact ⟨rfl, by show (chkTo _ _ _ : Int) ≤ (whTo _ _ : Int); omega⟩
  · rw [if_neg hg, crossS_no (by simpa using hg)]
    exact ⟨rfl, Int.le_refl _⟩
theorem unch_all (g : Int × Int × ByteArray) : unchS g ((slG g).length : Int) = -1 := by
  unfold unchS
  rw [if_neg (by omega)]
theorem unch_at (g : Int × Int × ByteArray) {i : Nat} (h : i < (slG g).length) : unchS g (i : Int) = (unchN (slG g) g.2.1 (cellsS g.2.1 ((slG g).getD i none_Slot)) : Nat) := by
  unfold unchS
  rw [if_pos (by omega), Int.toNat_natCast]
theorem len_at {g : Int × Int × ByteArray} {i : Nat} (h : i < (slG g).length) : ((slG g).getD i none_Slot).2.2.2 = ((cellsS g.2.1 ((slG g).getD i none_Slot)).length : Int) ∧ (cellsS g.2.1 ((slG g).getD i none_Slot)).length ≤ 6 := by
  have h1 := (slG_small (getD_in h)).2.2.2
  rw [cellsS_length]
  omega
/-- What a crossing is. -/
theorem cross_facts {g : Int × Int × ByteArray} {x : CrossV} (h : x ∈ crossS g) : ∃ i j p r q : Nat, x = ((i : Int), (j : Int), (p : Int), (r : Int), (q : Int)) ∧ i < j ∧ i < (slG g).length ∧ j < (slG g).length ∧
    p < (cellsS g.2.1 ((slG g).getD i none_Slot)).length ∧ (cellsS g.2.1 ((slG g).getD i none_Slot)).getD p 0 = (q : Int) ∧ r < (cellsS g.2.1 ((slG g).getD j none_Slot)).length ∧ (cellsS g.2.1 ((slG g).getD j none_Slot)).getD r 0 = (q : Int) ∧
    ((slG g).getD i none_Slot).2.1 ≠ ((slG g).getD j none_Slot).2.1 ∧ chkL (slG g) g.2.1 (q : Int) = true ∧ hasI (crossedS g (i : Int)) (j : Int) = true ∧ hasI (crossedS g (j : Int)) (i : Int) = true ∧ q < g.2.2.size := by
  have hx := h
  unfold crossS crossTo at h
  obtain ⟨q, hqr, hq⟩ := List.mem_flatMap.1 h
  obtain ⟨i, j, hin, rfl, hij, hi, hj, qi, qj⟩ := crossAt_mem hq
  refine ⟨i, j, _, _, q, rfl, hij, hi, hj, placeI_lt qi, placeI_at qi, placeI_lt qj, placeI_at qj, dirs_apart hij hi hj qi qj, ?_, ?_, ?_, List.mem_range.1 hqr⟩
  · unfold chkL
    rw [hin]
    rfl
  · rw [hasI_iff, (crossedS_perm g (i : Int)).mem_iff]
    exact List.mem_flatMap.2 ⟨_, hx, by unfold otherX; rw [if_pos rfl]; simp⟩
  · rw [hasI_iff, (crossedS_perm g (j : Int)).mem_iff]
    exact List.mem_flatMap.2 ⟨_, hx, by unfold otherX; rw [if_neg (by show ¬ (i : Int) = (j : Int); omega), if_pos rfl]; simp⟩
theorem crossS_no_more (g : Int × Int × ByteArray) : (crossS g).length ≤ 36 := by
  by_cases hg : isG g = true
  · unfold crossS
    rw [chkTo_cross]
    exact Nat.le_trans (chkTo_le _ _ _) (isG_size hg)
  · rw [crossS_no (by simpa using hg)]
    simp
theorem cross_in {L : List CrossV} {k : Nat} (h : k < L.length) : L.getD k none_Crossing ∈ L := by simp [List.getD, h]
end Go.Proofs.Ytmhgejljjjmejaa
