/-
  The program's contracts of chapter 8, first part: lines and sets of lines.
-/
import Derived.Test.YtdhjgaadfofkkaaDoorSlotSpecE
import Derived.Test.YtdhjgaadfofkkaaDoorGridImplE
namespace Go.Proofs.YtdhjgaadfofkkaaDoor
open Go.RowKit

/-- n numbers from f on, at distances of st. -/
def stepL (f st : Int) (n : Nat) : List Int := (List.range n).map fun (k : Nat) => f + (k : Int) * st
theorem stepL_length (f st : Int) (n : Nat) : (stepL f st n).length = n := by
  unfold stepL
  rw [List.length_map, List.length_range]
theorem stepL_set (f st : Int) (n k : Nat) (h : k < n) : (stepL f st k ++ List.replicate (n - k) 0).set k (f + (k : Int) * st) = stepL f st (k + 1) ++ List.replicate (n - (k + 1)) 0 := by
  have e : List.replicate (n - k) (0 : Int) = 0 :: List.replicate (n - (k + 1)) 0 := by
    rw [show n - k = (n - (k + 1)) + 1 by omega, List.replicate_succ]
  rw [e, List.set_append_right _ _ (by rw [stepL_length]; exact Nat.le_refl _), stepL_length, Nat.sub_self]
  show _ ++ ([f + (k : Int) * st] ++ _) = _
  rw [← List.append_assoc]
  congr 1
  unfold stepL
  rw [List.range_succ, List.map_append]
  rfl
theorem made_ints (n : Nat) : (madeCells #[.int .i64 0] (n * 1)).toList = (stepL 0 0 0 ++ List.replicate n 0).map (Value.int .i64) := by
  have h9 := row0_made (fun x : Int => [.int .i64 x]) 1 (by decide) (fun _ => rfl) 0 n
  rw [h9]
  simp only [stepL, List.range_zero, List.map_nil, List.nil_append]
  clear h9
  induction n with
  | zero => rfl
  | succ n ih => rw [List.replicate_succ, List.flatMap_cons, ih]; rfl
theorem box1s (w : World) (x y z : Int) (t : TypeId) : ∀ w', Below (w.alloc (.cells #[.int .i64 x, .int .i64 y, .int .i64 z] t)).heap.size (w.alloc (.cells #[.int .i64 x, .int .i64 y, .int .i64 z] t)) w' →
    w'.cell? ⟨w.heap.size, 0, none⟩ = some (.int .i64 x) ∧ w'.cell? ⟨w.heap.size, 1, none⟩ = some (.int .i64 y) ∧ w'.cell? ⟨w.heap.size, 2, none⟩ = some (.int .i64 z) ∧ Below w.heap.size w w' := fun w' h => by
  have hz : (w.alloc (.cells #[.int .i64 x, .int .i64 y, .int .i64 z] t)).heap.size = w.heap.size + 1 := by simp
  have h1 : w'.heap[w.heap.size]? = some (.cells #[.int .i64 x, .int .i64 y, .int .i64 z] t) := (h.block w.heap.size (by omega)).trans (new_block w _)
  exact ⟨Joins.cell_of_block h1 0, Joins.cell_of_block h1 1, Joins.cell_of_block h1 2, ((Below.refl _ _).alloc (Nat.le_refl _) _).trans (h.mono (by omega))⟩
set_option maxRecDepth 100000 in
set_option maxHeartbeats 1600000 in
theorem icells_any (f st : Int) (n : Nat) (hn : 1 ≤ n) (hn6 : n ≤ 6) (hf : 0 ≤ f) (hf2 : f ≤ 36) (hs : 0 ≤ st) (hs2 : st ≤ 6) (w : World) :
    Calls Tryd.prog 50 #[.agg #[.int .i64 f, .int .i64 st, .int .i64 (n : Int)]] w fun e w' => ∃ v, e = .returned v ∧ w'.ownsRow w.heap.size 3 1 v n ((stepL f st n).map (Value.int .i64)) ∧ Below w.heap.size w w' := by
  obtain ⟨i0, hi, hz0, hz1, hz2⟩ := info_parts info_int
  have HKP := Lib.hid (box1s w f st n 83)
  obtain ⟨d0, d1, d2, hbw⟩ := HKP.out _ (Below.refl _ _)
  have HW := Lib.hid hbw
  clear hbw
  have HMD := Lib.hid (made_ints n)
  have hws : (w.alloc (.cells #[.int .i64 f, .int .i64 st, .int .i64 (n : Int)] 83)).heap.size = w.heap.size + 1 := by simp
  go_enter Tryd.func50, Tryd.ntmps50
  go_wp2_with (at_make; refine wpList_make_full _ rfl _ _ 30 rfl w.heap.size 3 i0 (.int .i64 0) 1 Tryd.underlying30 hi hz0 hz1 .i64 .i64 _ _ n rfl rfl rfl rfl (by rw [hz2]; omega) (by unfold maxLen; omega) (by simp) ?_; intro w1 hown hgrow; obtain ⟨x0, x1, x2, hbw⟩ := HKP.out _ ((Below.refl _ _).grown hgrow (Nat.le_refl _) (fun k hk => by cases hk)))
  have HO1 : Hid (w1.ownsRow w.heap.size 3 1 (.slice (some ⟨w.heap.size + 1, 0, none⟩) n n) n ((stepL f st 0 ++ List.replicate (n - 0) 0).map (Value.int .i64))) := Lib.hid (by rw [hws, show (madeCells (Value.int .i64 0).cells (n * 1)).toList = _ from HMD.out] at hown; exact hown)
  have HB1 := Lib.hid hbw
  clear hown hgrow hbw HW d0 d1 d2 HKP
  have HC1 := Lib.hid (And.intro x0 (And.intro x1 x2))
  clear x0 x1 x2
  go_loopw [10] (fun i wr => ∃ k : Nat, k ≤ n ∧ i = .int .i64 k ∧ Hid (wr.ownsRow w.heap.size 3 1 (.slice (some ⟨w.heap.size + 1, 0, none⟩) n n) n ((stepL f st k ++ List.replicate (n - k) 0).map (Value.int .i64))) ∧ Hid (wr.cell? ⟨w.heap.size, 0, none⟩ = some (.int .i64 f) ∧ wr.cell? ⟨w.heap.size, 1, none⟩ = some (.int .i64 st)) ∧ Hid (Below w.heap.size w wr)) (fun i _ => n - (intOf i).toNat)
  case atStart => exact ⟨0, Nat.zero_le _, rfl, HO1, Lib.hid ⟨HC1.out.1, HC1.out.2.1⟩, HB1⟩
  case round =>
    obtain ⟨k, hk, rfl, HO, HC, HB⟩ := hrel
    obtain ⟨y0, y1⟩ := HC.out
    by_cases hlt : k < n
    · have hd : decide ((k : Int) < (n : Int)) = true := decide_eq_true (by omega)
      have hmul : 0 ≤ (k : Int) * st ∧ (k : Int) * st ≤ 36 := ⟨Int.mul_nonneg (by omega) (by omega), Int.le_trans (Int.mul_le_mul (show (k : Int) ≤ 6 by omega) hs2 (by omega) (by omega)) (by decide)⟩
      have hc0 := (HO.out.cellAt k (by omega)).trans (show _ = some (.int .i64 0) by
        rw [List.getElem?_map, List.getElem?_append_right (by rw [stepL_length]; exact Nat.le_refl _), stepL_length, Nat.sub_self, List.getElem?_replicate, if_pos (by omega)]; rfl)
      have hf0 := HO.out.frozenAt k
      go_wp2
      have HO2 : Hid _ := Lib.hid (HO.out.stored k (.int .i64 (f + (k : Int) * st))).1
      have HO3 : Hid ((wr.setCell ⟨w.heap.size + 1, k, none⟩ (.int .i64 (f + (k : Int) * st))).ownsRow w.heap.size 3 1 (.slice (some ⟨w.heap.size + 1, 0, none⟩) n n) n ((stepL f st (k + 1) ++ List.replicate (n - (k + 1)) 0).map (Value.int .i64))) := Lib.hid (by
        have h9 := HO2.out
        rw [← List.map_set, stepL_set f st n k hlt] at h9
        exact h9)
      go_roundw
      case rel => exact ⟨k + 1, by omega, by go_num, HO3, Lib.hid ⟨(cell_set_other _ _ _ _ (by simp)).trans y0, (cell_set_other _ _ _ _ (by simp)).trans y1⟩, Lib.hid (HB.out.setCell (p := ⟨w.heap.size + 1, k, none⟩) (by simp) _)⟩
      case measure => simp [intOf]; omega
    · have hd : decide ((k : Int) < (n : Int)) = false := decide_eq_false (by omega)
      have HF : Hid (wr.ownsRow w.heap.size 3 1 (.slice (some ⟨w.heap.size + 1, 0, none⟩) n n) n ((stepL f st n).map (Value.int .i64))) := Lib.hid (by
        have h9 := HO.out
        rw [show k = n by omega, Nat.sub_self, List.replicate_zero, List.append_nil] at h9
        exact h9)
      go_wp2
      go_ret
      exact ⟨_, rfl, HF.out, HB.out⟩
end Go.Proofs.YtdhjgaadfofkkaaDoor
