/-
  The program's contracts of chapter 8, first part: lines and sets of lines.   The program's contracts of chapter 8, second part: rows and columns of a board.
  The program's contracts of chapter 8, third part: the finder of slots.   The program's contracts of chapter 8, fourth part: readLine.
-/
import Derived.Test.YtmhgejljjjmejaaDoorSlotSpecE
import Derived.Test.YtmhgejljjjmejaaDoorGridImplE
import Derived.Test.YtmhgejljjjmejaaDoorVals
import Derived.Deep.RegionLaw
namespace Go.Proofs.YtmhgejljjjmejaaDoor
open Go.RowKit

/-- n numbers from f on, at distances of st. -/
def stepL (f st : Int) (n : Nat) : List Int := (List.range n).map fun (k : Nat) => f + (k : Int) * st
theorem stepL_length (f st : Int) (n : Nat) : (stepL f st n).length = n := by
  unfold stepL
  rw [List.length_map, List.length_range]
theorem stepL_set (f st : Int) (n k : Nat) (h : k < n) : (stepL f st k ++ List.replicate (n - k) 0).set k (f + (k : Int) * st) = stepL f st (k + 1) ++ List.replicate (n - (k + 1)) 0 := by
  have e : List.replicate (n - k) (0 : Int) = 0 :: List.replicate (n - (k + 1)) 0 := by
    rw [show n - k = (n - (k + 1)) + 1 by omega, List.replicate_succ]
  rw [e, List.set_append_right _ _ (by rw [stepL_length]; exact Nat.le_refl _), stepL_length, Nat.sub_self]
  show _ ++ ([f + (k : Int) * st] ++ _) = _
  rw [← List.append_assoc]
  congr 1
  unfold stepL
  rw [List.range_succ, List.map_append]
  rfl
theorem made_ints (n : Nat) : (madeCells #[.int .i64 0] (n * 1)).toList = (stepL 0 0 0 ++ List.replicate n 0).map (Value.int .i64) := by
  have h9 := row0_made (fun x : Int => [.int .i64 x]) 1 (by decide) (fun _ => rfl) 0 n
  rw [h9]
  simp only [stepL, List.range_zero, List.map_nil, List.nil_append]
  clear h9
  induction n with
  | zero => rfl
  | succ n ih => rw [List.replicate_succ, List.flatMap_cons, ih]; rfl
theorem box1s (w : World) (x y z : Int) (t : TypeId) : ∀ w', Below (w.alloc (.cells #[.int .i64 x, .int .i64 y, .int .i64 z] t)).heap.size (w.alloc (.cells #[.int .i64 x, .int .i64 y, .int .i64 z] t)) w' →
    w'.cell? ⟨w.heap.size, 0, none⟩ = some (.int .i64 x) ∧ w'.cell? ⟨w.heap.size, 1, none⟩ = some (.int .i64 y) ∧ w'.cell? ⟨w.heap.size, 2, none⟩ = some (.int .i64 z) ∧ Below w.heap.size w w' := fun w' h => by
  have hz : (w.alloc (.cells #[.int .i64 x, .int .i64 y, .int .i64 z] t)).heap.size = w.heap.size + 1 := by simp
  have h1 : w'.heap[w.heap.size]? = some (.cells #[.int .i64 x, .int .i64 y, .int .i64 z] t) := (h.block w.heap.size (by omega)).trans (new_block w _)
  exact ⟨Joins.cell_of_block h1 0, Joins.cell_of_block h1 1, Joins.cell_of_block h1 2, ((Below.refl _ _).alloc (Nat.le_refl _) _).trans (h.mono (by omega))⟩
set_option maxRecDepth 100000 in
set_option maxHeartbeats 1600000 in
theorem icells_any (f st : Int) (n : Nat) (hn : 1 ≤ n) (hn6 : n ≤ 6) (hf : 0 ≤ f) (hf2 : f ≤ 36) (hs : 0 ≤ st) (hs2 : st ≤ 6) (w : World) :
    Calls Tryd.prog 41 #[.agg #[.int .i64 f, .int .i64 st, .int .i64 (n : Int)]] w fun e w' => ∃ v, e = .returned v ∧ w'.ownsRow w.heap.size 3 1 v n ((stepL f st n).map (Value.int .i64)) ∧ Below w.heap.size w w' := by
  obtain ⟨i0, hi, hz0, hz1, hz2⟩ := info_parts info_int
  have HKP := Lib.hid (box1s w f st n 76)
  obtain ⟨d0, d1, d2, hbw⟩ := HKP.out _ (Below.refl _ _)
  have HW := Lib.hid hbw
  clear hbw
  have HMD := Lib.hid (made_ints n)
  have hws : (w.alloc (.cells #[.int .i64 f, .int .i64 st, .int .i64 (n : Int)] 76)).heap.size = w.heap.size + 1 := by simp
  go_enter Tryd.func41, Tryd.ntmps41
  go_wp2_with (at_make; refine wpList_make_full _ rfl _ _ 30 rfl w.heap.size 3 i0 (.int .i64 0) 1 Tryd.underlying30 hi hz0 hz1 .i64 .i64 _ _ n rfl rfl rfl rfl (by rw [hz2]; omega) (by unfold maxLen; omega) (by simp) ?_; intro w1 hown hgrow; obtain ⟨x0, x1, x2, hbw⟩ := HKP.out _ ((Below.refl _ _).grown hgrow (Nat.le_refl _) (fun k hk => by cases hk)))
  have HO1 : Hid (w1.ownsRow w.heap.size 3 1 (.slice (some ⟨w.heap.size + 1, 0, none⟩) n n) n ((stepL f st 0 ++ List.replicate (n - 0) 0).map (Value.int .i64))) := Lib.hid (by rw [hws, show (madeCells (Value.int .i64 0).cells (n * 1)).toList = _ from HMD.out] at hown; exact hown)
  have HB1 := Lib.hid hbw
  clear hown hgrow hbw HW d0 d1 d2 HKP
  have HC1 := Lib.hid (And.intro x0 (And.intro x1 x2))
  clear x0 x1 x2
  go_loopw [10] (fun i wr => ∃ k : Nat, k ≤ n ∧ i = .int .i64 k ∧ Hid (wr.ownsRow w.heap.size 3 1 (.slice (some ⟨w.heap.size + 1, 0, none⟩) n n) n ((stepL f st k ++ List.replicate (n - k) 0).map (Value.int .i64))) ∧ Hid (wr.cell? ⟨w.heap.size, 0, none⟩ = some (.int .i64 f) ∧ wr.cell? ⟨w.heap.size, 1, none⟩ = some (.int .i64 st)) ∧ Hid (Below w.heap.size w wr)) (fun i _ => n - (intOf i).toNat)
  case atStart => exact ⟨0, Nat.zero_le _, rfl, HO1, Lib.hid ⟨HC1.out.1, HC1.out.2.1⟩, HB1⟩
  case round =>
    obtain ⟨k, hk, rfl, HO, HC, HB⟩ := hrel
    obtain ⟨y0, y1⟩ := HC.out
    by_cases hlt : k < n
    · have hd : decide ((k : Int) < (n : Int)) = true := decide_eq_true (by omega)
      have hmul : 0 ≤ (k : Int) * st ∧ (k : Int) * st ≤ 36 := ⟨Int.mul_nonneg (by omega) (by omega), Int.le_trans (Int.mul_le_mul (show (k : Int) ≤ 6 by omega) hs2 (by omega) (by omega)) (by decide)⟩
      have hc0 := (HO.out.cellAt k (by omega)).trans (show _ = some (.int .i64 0) by
        rw [List.getElem?_map, List.getElem?_append_right (by rw [stepL_length]; exact Nat.le_refl _), stepL_length, Nat.sub_self, List.getElem?_replicate, if_pos (by omega)]; rfl)
      have hf0 := HO.out.frozenAt k
      go_wp2
      have HO2 : Hid _ := Lib.hid (HO.out.stored k (.int .i64 (f + (k : Int) * st))).1
      have HO3 : Hid ((wr.setCell ⟨w.heap.size + 1, k, none⟩ (.int .i64 (f + (k : Int) * st))).ownsRow w.heap.size 3 1 (.slice (some ⟨w.heap.size + 1, 0, none⟩) n n) n ((stepL f st (k + 1) ++ List.replicate (n - (k + 1)) 0).map (Value.int .i64))) := Lib.hid (by
        have h9 := HO2.out
        rw [← List.map_set, stepL_set f st n k hlt] at h9
        exact h9)
      go_roundw
      case rel => exact ⟨k + 1, by omega, by go_num, HO3, Lib.hid ⟨(cell_set_other _ _ _ _ (by simp)).trans y0, (cell_set_other _ _ _ _ (by simp)).trans y1⟩, Lib.hid (HB.out.setCell (p := ⟨w.heap.size + 1, k, none⟩) (by simp) _)⟩
      case measure => simp [intOf]; omega
    · have hd : decide ((k : Int) < (n : Int)) = false := decide_eq_false (by omega)
      have HF : Hid (wr.ownsRow w.heap.size 3 1 (.slice (some ⟨w.heap.size + 1, 0, none⟩) n n) n ((stepL f st n).map (Value.int .i64))) := Lib.hid (by
        have h9 := HO.out
        rw [show k = n by omega, Nat.sub_self, List.replicate_zero, List.append_nil] at h9
        exact h9)
      go_wp2
      go_ret
      exact ⟨_, rfl, HF.out, HB.out⟩
end Go.Proofs.YtmhgejljjjmejaaDoor
namespace Go.Proofs.YtmhgejljjjmejaaDoor
open Go.RowKit

theorem boxb (w : World) (r c S : Int) (t : TypeId) : ∀ w', Below (w.alloc (.cells #[.int .i64 r, .int .i64 c, .int .u64 S] t)).heap.size (w.alloc (.cells #[.int .i64 r, .int .i64 c, .int .u64 S] t)) w' →
    w'.cell? ⟨w.heap.size, 0, none⟩ = some (.int .i64 r) ∧ w'.cell? ⟨w.heap.size, 1, none⟩ = some (.int .i64 c) ∧ w'.cell? ⟨w.heap.size, 2, none⟩ = some (.int .u64 S) ∧ Below w.heap.size w w' := fun w' h => by
  have hz : (w.alloc (.cells #[.int .i64 r, .int .i64 c, .int .u64 S] t)).heap.size = w.heap.size + 1 := by simp
  have h1 : w'.heap[w.heap.size]? = some (.cells #[.int .i64 r, .int .i64 c, .int .u64 S] t) := (h.block w.heap.size (by omega)).trans (new_block w _)
  exact ⟨Joins.cell_of_block h1 0, Joins.cell_of_block h1 1, Joins.cell_of_block h1 2, ((Below.refl _ _).alloc (Nat.le_refl _) _).trans (h.mono (by omega))⟩
theorem below2 (w : World) (A B : Obj) : Below w.heap.size w ((w.alloc A).alloc B) := ((Below.refl _ _).alloc (Nat.le_refl _) _).alloc (by simp) _
set_option maxHeartbeats 800000 in
theorem rpart_any (r c S f n : Int) (w : World) :
    Calls Tryd.prog 104 #[.agg #[.int .i64 r, .int .i64 c, .int .u64 S], .int .i64 f, .int .i64 n] w fun e w' => e = .returned (.agg #[.int .i64 f, .int .i64 1, .int .i64 n]) ∧ Below w.heap.size w w' := by
  go_enter Tryd.func104, Tryd.ntmps104
  go_wp2
  exact bodyPost_ret (v := .agg #[.int .i64 f, .int .i64 1, .int .i64 n]) (by simp [results, Tryd.results104, go_sem]) rfl ⟨rfl, below2 w _ _⟩
set_option maxHeartbeats 800000 in
theorem cpart_any (r c S f n : Int) (w : World) :
    Calls Tryd.prog 102 #[.agg #[.int .i64 r, .int .i64 c, .int .u64 S], .int .i64 f, .int .i64 n] w fun e w' => e = .returned (.agg #[.int .i64 f, .int .i64 c, .int .i64 n]) ∧ Below w.heap.size w w' := by
  go_enter Tryd.func102, Tryd.ntmps102
  go_wp2
  exact bodyPost_ret (v := .agg #[.int .i64 f, .int .i64 c, .int .i64 n]) (by simp [results, Tryd.results102, go_sem]) rfl ⟨rfl, below2 w _ _⟩
/-- The rows, or the columns, of a board. -/
def setV (d : Bool) (r c S : Int) : Value := if d = true then .iface 98 (.agg #[.int .i64 r, .int .i64 c, .int .u64 S]) else .iface 99 (.agg #[.int .i64 r, .int .i64 c, .int .u64 S])
theorem lines_any (r c S : Int) (d : Bool) (w : World) :
    Calls Tryd.prog 34 #[.agg #[.int .i64 r, .int .i64 c, .int .u64 S], .bool d] w fun e w' => e = .returned (setV d r c S) ∧ Below w.heap.size w w' := by
  cases d with
  | true =>
    go_enter Tryd.func34, Tryd.ntmps34
    go_wp2
    go_ret
    exact ⟨rfl, (Below.refl _ _).alloc (Nat.le_refl _) _⟩
  | false =>
    go_enter Tryd.func34, Tryd.ntmps34
    go_wp2
    go_ret
    exact ⟨rfl, (Below.refl _ _).alloc (Nat.le_refl _) _⟩
/-- A line's cells. -/
def cells_line (x : Int × Int × Int) : List Value := [.int .i64 x.1, .int .i64 x.2.1, .int .i64 x.2.2]
theorem cells_line_length (x : Int × Int × Int) : (cells_line x).length = 3 := rfl
def row_line (l : List (Int × Int × Int)) : List Value := l.flatMap cells_line
theorem row_line_length (l : List (Int × Int × Int)) : (row_line l).length = l.length * 3 := row0_length cells_line 3 cells_line_length l
theorem row_line_at (l : List (Int × Int × Int)) (k : Nat) (h : k < l.length) (r : Nat) (hr : r < 3) : (row_line l)[k * 3 + r]? = (cells_line l[k])[r]? := row0_at cells_line 3 cells_line_length l k h r hr
theorem row_line_snoc (l : List (Int × Int × Int)) (x : Int × Int × Int) : row_line l ++ cells_line x = row_line (l ++ [x]) := by
  unfold row_line
  rw [List.flatMap_append]
  simp
theorem cells_line_one (x : Int × Int × Int) : ∀ u ∈ cells_line x, u.oneCell' = true := by
  intro u hu
  simp only [cells_line, List.mem_cons, List.not_mem_nil, or_false] at hu
  rcases hu with rfl | rfl | rfl <;> rfl
theorem one_line (w : World) (x : Int × Int × Int) (t : TypeId) : ∀ j, j < 1 * 3 → ∃ b off, some (⟨w.heap.size, 0, none⟩ : Addr) = some ⟨b, off, none⟩ ∧ (w.alloc (.cells #[.int .i64 x.1, .int .i64 x.2.1, .int .i64 x.2.2] t)).cell? ⟨b, off + j, none⟩ = (cells_line x)[j]? := fun j hj => by
  refine ⟨_, _, rfl, ?_⟩
  rw [Nat.zero_add, cell_of_row _ w.heap.size j _ t (0, 0) (heap_alloc_new w _)]
  simp [cells_line]
theorem info_line : (Tryd.prog.info? 76).map (fun i => (i.zero, i.size, i.bytes)) = some (some (.agg #[.int .i64 0, .int .i64 0, .int .i64 0]), 3, 24) := by kernel_rfl
/-- All rows, or all columns, as lines. -/
def rowsL (c : Nat) (n : Nat) : List (Int × Int × Int) := (List.range n).map fun (i : Nat) => ((i : Int) * (c : Int), (1 : Int), (c : Int))
def colsL (r c : Nat) (n : Nat) : List (Int × Int × Int) := (List.range n).map fun (i : Nat) => ((i : Int), (c : Int), (r : Int))
theorem rowsL_length (c n : Nat) : (rowsL c n).length = n := by unfold rowsL; simp
theorem colsL_length (r c n : Nat) : (colsL r c n).length = n := by unfold colsL; simp
theorem rowsL_next (c n : Nat) : rowsL c (n + 1) = rowsL c n ++ [((n : Int) * (c : Int), (1 : Int), (c : Int))] := by unfold rowsL; rw [List.range_succ, List.map_append]; rfl
theorem colsL_next (r c n : Nat) : colsL r c (n + 1) = colsL r c n ++ [((n : Int), (c : Int), (r : Int))] := by unfold colsL; rw [List.range_succ, List.map_append]; rfl
set_option maxRecDepth 100000 in
set_option maxHeartbeats 1600000 in
theorem rwhole_any (r c : Nat) (S : Int) (hr : r ≤ 6) (hc : c ≤ 6) (w : World) :
    Calls Tryd.prog 105 #[.agg #[.int .i64 (r : Int), .int .i64 (c : Int), .int .u64 S]] w fun e w' => ∃ v, e = .returned v ∧ w'.ownsRow w.heap.size 76 3 v (rowsL c r).length (row_line (rowsL c r)) ∧ Below w.heap.size w w' := by
  obtain ⟨i0, hi, hz0, hz1, hz2⟩ := info_parts info_line
  have HKP := Lib.hid (boxb w r c S 99)
  obtain ⟨d0, d1, d2, hbw⟩ := HKP.out _ (Below.refl _ _)
  have HW := Lib.hid hbw
  clear hbw
  go_enter Tryd.func105, Tryd.ntmps105
  go_wp2_with fail
  obtain ⟨W0, hW0⟩ : ∃ W0, W0 = w.alloc (.cells #[.int .i64 (r : Int), .int .i64 (c : Int), .int .u64 S] 99) := ⟨_, rfl⟩
  have hws : W0.heap.size = w.heap.size + 1 := by rw [hW0]; simp
  rw [← hW0] at HKP HW d0 d1 d2 ⊢
  clear hW0
  go_loopw [3, 9] (fun o i wr => ∃ k : Nat, k ≤ r ∧ i = .int .i64 k ∧ Hid (wr.ownsRow W0.heap.size 76 3 o k (row_line (rowsL c k))) ∧ Hid (Below W0.heap.size W0 wr)) (fun _ i _ => r - (intOf i).toNat)
  case atStart => exact ⟨0, Nat.zero_le _, rfl, Lib.hid (by rw [← hws]; exact own_zero W0 76 3), Lib.hid ((Below.refl _ _).alloc (Nat.le_refl _) _)⟩
  case round =>
    obtain ⟨k, hk, rfl, HO, HB⟩ := hrel
    obtain ⟨y0, y1, y2, hbw⟩ := HKP.out _ HB.out
    clear hbw
    by_cases hlt : k < r
    · have hd : decide ((k : Int) < (r : Int)) = true := decide_eq_true (by omega)
      have hmul : 0 ≤ (k : Int) * (c : Int) ∧ (k : Int) * (c : Int) ≤ 36 := ⟨Int.mul_nonneg (by omega) (by omega), Int.le_trans (Int.mul_le_mul (show (k : Int) ≤ 6 by omega) (show (c : Int) ≤ 6 by omega) (by omega) (by omega)) (by decide)⟩
      have HPT := Lib.hid (fun w => rpart_any r c S ((k : Int) * (c : Int)) c w)
      go_wp2_with (first | (go_at_call 104; refine (HPT.out _).mono ?_; rintro e w2 ⟨rfl, b2⟩; have HB2 := Lib.hid (HB.out.trans (b2.mono HB.out.size)); have HO2 := Lib.hid (ownV_later HO.out b2); clear b2) | (at_builtin; refine appendV_reads _ rfl _ _ 70 rfl W0.heap.size 76 i0 (.agg #[.int .i64 0, .int .i64 0, .int .i64 0]) 3 24 Tryd.underlying70 hi hz0 hz1 hz2 rfl (by decide) _ k _ rfl (HO2.out.alloc _) (some ⟨w2.heap.size, 0, none⟩) 1 1 (cells_line ((k : Int) * (c : Int), 1, (c : Int))) rfl rfl (cells_line_one _) (fun e => by cases e) (one_line w2 ((k : Int) * (c : Int), 1, (c : Int)) _) (by omega) (by omega) (le_alloc HB2.out.size _) ?_; intro v4 w4 hown hgrow))
      have HB4 := Lib.hid (below_app (HB2.out.alloc HB2.out.size _) hgrow (HO2.out.alloc _) (Nat.le_refl _) (le_alloc HB2.out.size _))
      have HO4 : Hid (w4.ownsRow W0.heap.size 76 3 v4 (k + 1) (row_line (rowsL c (k + 1)))) := Lib.hid (by rw [rowsL_next, ← row_line_snoc]; exact hown)
      clear hown hgrow
      go_roundw
      case rel => exact ⟨k + 1, by omega, by go_num, HO4, HB4⟩
      case measure => simp [intOf]; omega
    · have hd : decide ((k : Int) < (r : Int)) = false := decide_eq_false (by omega)
      have HF : Hid (wr.ownsRow w.heap.size 76 3 u3 (rowsL c r).length (row_line (rowsL c r))) := Lib.hid (by
        have h9 := own_widen HO.out (show w.heap.size ≤ W0.heap.size by omega)
        rw [show k = r by omega] at h9
        rw [rowsL_length]
        exact h9)
      go_wp2
      go_ret
      exact ⟨_, rfl, HF.out, HW.out.trans (HB.out.mono HW.out.size)⟩
set_option maxRecDepth 100000 in
set_option maxHeartbeats 1600000 in
theorem cwhole_any (r c : Nat) (S : Int) (_hr : r ≤ 6) (hc : c ≤ 6) (w : World) :
    Calls Tryd.prog 103 #[.agg #[.int .i64 (r : Int), .int .i64 (c : Int), .int .u64 S]] w fun e w' => ∃ v, e = .returned v ∧ w'.ownsRow w.heap.size 76 3 v (colsL r c c).length (row_line (colsL r c c)) ∧ Below w.heap.size w w' := by
  obtain ⟨i0, hi, hz0, hz1, hz2⟩ := info_parts info_line
  have HKP := Lib.hid (boxb w r c S 98)
  obtain ⟨d0, d1, d2, hbw⟩ := HKP.out _ (Below.refl _ _)
  have HW := Lib.hid hbw
  clear hbw
  go_enter Tryd.func103, Tryd.ntmps103
  go_wp2_with fail
  obtain ⟨W0, hW0⟩ : ∃ W0, W0 = w.alloc (.cells #[.int .i64 (r : Int), .int .i64 (c : Int), .int .u64 S] 98) := ⟨_, rfl⟩
  have hws : W0.heap.size = w.heap.size + 1 := by rw [hW0]; simp
  rw [← hW0] at HKP HW d0 d1 d2 ⊢
  clear hW0
  go_loopw [3, 9] (fun o i wr => ∃ k : Nat, k ≤ c ∧ i = .int .i64 k ∧ Hid (wr.ownsRow W0.heap.size 76 3 o k (row_line (colsL r c k))) ∧ Hid (Below W0.heap.size W0 wr)) (fun _ i _ => c - (intOf i).toNat)
  case atStart => exact ⟨0, Nat.zero_le _, rfl, Lib.hid (by rw [← hws]; exact own_zero W0 76 3), Lib.hid ((Below.refl _ _).alloc (Nat.le_refl _) _)⟩
  case round =>
    obtain ⟨k, hk, rfl, HO, HB⟩ := hrel
    obtain ⟨y0, y1, y2, hbw⟩ := HKP.out _ HB.out
    clear hbw
    by_cases hlt : k < c
    · have hd : decide ((k : Int) < (c : Int)) = true := decide_eq_true (by omega)
      have HPT := Lib.hid (fun w => cpart_any r c S (k : Int) r w)
      go_wp2_with (first | (go_at_call 102; refine (HPT.out _).mono ?_; rintro e w2 ⟨rfl, b2⟩; have HB2 := Lib.hid (HB.out.trans (b2.mono HB.out.size)); have HO2 := Lib.hid (ownV_later HO.out b2); clear b2) | (at_builtin; refine appendV_reads _ rfl _ _ 70 rfl W0.heap.size 76 i0 (.agg #[.int .i64 0, .int .i64 0, .int .i64 0]) 3 24 Tryd.underlying70 hi hz0 hz1 hz2 rfl (by decide) _ k _ rfl (HO2.out.alloc _) (some ⟨w2.heap.size, 0, none⟩) 1 1 (cells_line ((k : Int), (c : Int), (r : Int))) rfl rfl (cells_line_one _) (fun e => by cases e) (one_line w2 ((k : Int), (c : Int), (r : Int)) _) (by omega) (by omega) (le_alloc HB2.out.size _) ?_; intro v4 w4 hown hgrow))
      have HB4 := Lib.hid (below_app (HB2.out.alloc HB2.out.size _) hgrow (HO2.out.alloc _) (Nat.le_refl _) (le_alloc HB2.out.size _))
      have HO4 : Hid (w4.ownsRow W0.heap.size 76 3 v4 (k + 1) (row_line (colsL r c (k + 1)))) := Lib.hid (by rw [colsL_next, ← row_line_snoc]; exact hown)
      clear hown hgrow
      go_roundw
      case rel => exact ⟨k + 1, by omega, by go_num, HO4, HB4⟩
      case measure => simp [intOf]; omega
    · have hd : decide ((k : Int) < (c : Int)) = false := decide_eq_false (by omega)
      have HF : Hid (wr.ownsRow w.heap.size 76 3 u3 (colsL r c c).length (row_line (colsL r c c))) := Lib.hid (by
        have h9 := own_widen HO.out (show w.heap.size ≤ W0.heap.size by omega)
        rw [show k = c by omega] at h9
        rw [colsL_length]
        exact h9)
      go_wp2
      go_ret
      exact ⟨_, rfl, HF.out, HW.out.trans (HB.out.mono HW.out.size)⟩
end Go.Proofs.YtmhgejljjjmejaaDoor
namespace Go.Proofs.YtmhgejljjjmejaaDoor
open Go.RowKit

/-- The finder in block B. -/
def FindB (W : World) (B : Nat) (st : Int) (dn : Bool) (cl ln : Int) (v : Value) : Prop := W.heap[B]? = some (.cells #[.int .i64 st, .int .i64 0, .bool dn, .int .i64 cl, .int .i64 ln, v] 68)
theorem findB_cells {W : World} {B : Nat} {st : Int} {dn : Bool} {cl ln : Int} {v : Value} (h : FindB W B st dn cl ln v) :
    W.cell? ⟨B, 0, none⟩ = some (.int .i64 st) ∧ W.cell? ⟨B, 1, none⟩ = some (.int .i64 0) ∧ W.cell? ⟨B, 2, none⟩ = some (.bool dn) ∧ W.cell? ⟨B, 3, none⟩ = some (.int .i64 cl) ∧ W.cell? ⟨B, 4, none⟩ = some (.int .i64 ln) ∧ W.cell? ⟨B, 5, none⟩ = some v ∧
    W.frozen? ⟨B, 0, none⟩ = false ∧ W.frozen? ⟨B, 3, none⟩ = false ∧ W.frozen? ⟨B, 4, none⟩ = false ∧ W.frozen? ⟨B, 5, none⟩ = false ∧ W.frozen? ⟨B, 2, none⟩ = false :=
  ⟨Joins.cell_of_block h 0, Joins.cell_of_block h 1, Joins.cell_of_block h 2, Joins.cell_of_block h 3, Joins.cell_of_block h 4, Joins.cell_of_block h 5, Joins.unfrozen_of_block h 0, Joins.unfrozen_of_block h 3, Joins.unfrozen_of_block h 4, Joins.unfrozen_of_block h 5, Joins.unfrozen_of_block h 2⟩
theorem findB_set0 {W : World} {B : Nat} {st st' : Int} {dn : Bool} {cl ln : Int} {v : Value} (h : FindB W B st dn cl ln v) : FindB (W.setCell ⟨B, 0, none⟩ (.int .i64 st')) B st' dn cl ln v := Joins.block_setCell (i := 0) h (.int .i64 st')
theorem findB_set2 {W : World} {B : Nat} {st : Int} {dn dn' : Bool} {cl ln : Int} {v : Value} (h : FindB W B st dn cl ln v) : FindB (W.setCell ⟨B, 2, none⟩ (.bool dn')) B st dn' cl ln v := Joins.block_setCell (i := 2) h (.bool dn')
theorem findB_set3 {W : World} {B : Nat} {st : Int} {dn : Bool} {cl cl' ln : Int} {v : Value} (h : FindB W B st dn cl ln v) : FindB (W.setCell ⟨B, 3, none⟩ (.int .i64 cl')) B st dn cl' ln v := Joins.block_setCell (i := 3) h (.int .i64 cl')
theorem findB_set4 {W : World} {B : Nat} {st : Int} {dn : Bool} {cl ln ln' : Int} {v : Value} (h : FindB W B st dn cl ln v) : FindB (W.setCell ⟨B, 4, none⟩ (.int .i64 ln')) B st dn cl ln' v := Joins.block_setCell (i := 4) h (.int .i64 ln')
theorem findB_set5 {W : World} {B : Nat} {st : Int} {dn : Bool} {cl ln : Int} {v v' : Value} (h : FindB W B st dn cl ln v) : FindB (W.setCell ⟨B, 5, none⟩ v') B st dn cl ln v' := Joins.block_setCell (i := 5) h v'
set_option maxHeartbeats 800000 in
theorem iext0_any (B : Nat) (dn : Bool) (cl ln cell : Int) (v : Value) (w : World) (h : FindB w B 0 dn cl ln v) :
    Calls Tryd.prog 52 #[.pointer (some ⟨B, 0, none⟩), .int .i64 cell] w fun e w' => (∃ r, e = .returned r) ∧ FindB w' B 1 dn cell 1 v ∧ w.grownBy w' (some B) := by
  obtain ⟨c0, c1, c2, c3, c4, c5, f0, f3, f4, f5, f2⟩ := findB_cells h
  have HF := Lib.hid (findB_set4 (ln' := 1) (findB_set3 (cl' := cell) (findB_set0 (st' := 1) h)))
  clear h
  go_enter Tryd.func52, Tryd.ntmps52
  go_wp2
  go_end0
  exact ⟨⟨_, rfl⟩, HF.out, grown_cell0 (grown_cell0 (grown_cell0 (grown_refl w _) _ _) _ _) _ _⟩
set_option maxHeartbeats 800000 in
theorem iext1_any (B : Nat) (st : Int) (dn : Bool) (cl ln cell : Int) (v : Value) (hst : (st == 0) = false) (h0 : 0 ≤ ln) (h1 : ln ≤ 100) (w : World) (h : FindB w B st dn cl ln v) :
    Calls Tryd.prog 52 #[.pointer (some ⟨B, 0, none⟩), .int .i64 cell] w fun e w' => (∃ r, e = .returned r) ∧ FindB w' B 2 dn cl (ln + 1) v ∧ w.grownBy w' (some B) := by
  obtain ⟨c0, c1, c2, c3, c4, c5, f0, f3, f4, f5, f2⟩ := findB_cells h
  have HF := Lib.hid (findB_set4 (ln' := ln + 1) (findB_set0 (st' := 2) h))
  clear h
  go_enter Tryd.func52, Tryd.ntmps52
  go_wp2
  go_end0
  exact ⟨⟨_, rfl⟩, HF.out, grown_cell0 (grown_cell0 (grown_refl w _) _ _) _ _⟩
set_option maxHeartbeats 800000 in
theorem iend0_any (B : Nat) (st : Int) (dn : Bool) (cl ln : Int) (v : Value) (hst : (st == 2) = false) (w : World) (h : FindB w B st dn cl ln v) :
    Calls Tryd.prog 53 #[.pointer (some ⟨B, 0, none⟩)] w fun e w' => (∃ r, e = .returned r) ∧ FindB w' B 0 dn cl ln v ∧ w.grownBy w' (some B) := by
  obtain ⟨c0, c1, c2, c3, c4, c5, f0, f3, f4, f5, f2⟩ := findB_cells h
  have HF := Lib.hid (findB_set0 (st' := 0) h)
  clear h
  go_enter Tryd.func53, Tryd.ntmps53
  go_wp2
  go_end0
  exact ⟨⟨_, rfl⟩, HF.out, grown_cell0 (grown_refl w _) _ _⟩
theorem own_not_find {W : World} {base B n : Nat} {v u : Value} {xs : List Value} {st : Int} {dn : Bool} {cl ln : Int} (h : W.ownsRow base 33 4 v n xs) (hf : FindB W B st dn cl ln u) : v.ownBlock = none ∨ v.ownBlock ≠ some B := by
  rcases h.2 with ⟨rfl, -⟩ | ⟨g, cap, cur, rfl, -, hg, -⟩
  · exact .inl rfl
  · right
    intro e
    have e8 : g = B := by simpa [Value.ownBlock] using e
    subst e8
    unfold FindB at hf
    rw [hg] at hf
    cases hf
theorem own_not_find' {W : World} {base B n : Nat} {v u : Value} {xs : List Value} {st : Int} {dn : Bool} {cl ln : Int} (h : W.ownsRow base 33 4 v n xs) (hf : FindB W B st dn cl ln u) : v.ownBlock ≠ some B := by
  rcases own_not_find h hf with e | e
  · rw [e]; intro e; cases e
  · exact e
/-- Blocks that hold no slots, but for block B, stand as they stood. -/
def KeepT (B : Nat) (w w' : World) : Prop := ∀ (C : Nat) (x : Array Value) (T : TypeId) (mk : Nat × Nat), C ≠ B → T ≠ 33 → w.heap[C]? = some (.cells x T mk) → w'.heap[C]? = some (.cells x T mk)
theorem keepT_refl (B : Nat) (w : World) : KeepT B w w := fun _ _ _ _ _ _ h => h
theorem KeepT.trans {B : Nat} {a b c : World} (h : KeepT B a b) (h2 : KeepT B b c) : KeepT B a c := fun C x T mk h3 h4 h5 => h2 C x T mk h3 h4 (h C x T mk h3 h4 h5)
theorem keepT_grown {B : Nat} {w w' : World} (h : w.grownBy w' (some B)) : KeepT B w w' := fun C _ _ _ h3 _ h5 => (h.block C (Array.getElem?_eq_some_iff.1 h5).1 (fun e => h3 (by simpa using e))).trans h5
theorem keepT_below {B : Nat} {w w' : World} (h : Below w.heap.size w w') : KeepT B w w' := fun C _ _ _ _ _ h5 => (h.block C (Array.getElem?_eq_some_iff.1 h5).1).trans h5
theorem below_grownB {base B : Nat} {w w' : World} (h : w.grownBy w' (some B)) (hb : base ≤ B) (hw : base ≤ w.heap.size) : Below base w w' := (Below.refl _ _).grown h hw (fun k hk => by cases hk; exact hb)
theorem own_not_type {W : World} {base C n : Nat} {v : Value} {xs : List Value} {x : Array Value} {T : TypeId} {mk : Nat × Nat} (h : W.ownsRow base 33 4 v n xs) (hc : W.heap[C]? = some (.cells x T mk)) (hT : T ≠ 33) : v.ownBlock ≠ some C := by
  rcases h.2 with ⟨rfl, -⟩ | ⟨g, cap, cur, rfl, -, hg, -⟩
  · intro e; cases e
  · intro e
    have e8 : g = C := by simpa [Value.ownBlock] using e
    subst e8
    rw [hg] at hc
    cases hc
    exact hT rfl
set_option maxRecDepth 100000 in
set_option maxHeartbeats 1600000 in
theorem iend2_any (B base : Nat) (dn : Bool) (cl ln : Int) (v : Value) (L : List SlotV) (hL : L.length ≤ 1000) (w : World) (h : FindB w B 2 dn cl ln v) (ho : w.ownsRow base 33 4 v L.length (row_Slot L)) (hbase : base ≤ w.heap.size) (hbB : base ≤ B) :
    Calls Tryd.prog 53 #[.pointer (some ⟨B, 0, none⟩)] w fun e w' => (∃ r, e = .returned r) ∧ ∃ v', FindB w' B 0 dn cl ln v' ∧ w'.ownsRow base 33 4 v' (L ++ [(0, dn, cl, ln)]).length (row_Slot (L ++ [(0, dn, cl, ln)])) ∧ Below base w w' ∧ KeepT B w w' := by
  obtain ⟨i0, hi, hz0, hz1, hz2⟩ := info_parts info_Slot
  obtain ⟨c0, c1, c2, c3, c4, c5, f0, f3, f4, f5, f2⟩ := findB_cells h
  have hBw : B < w.heap.size := World.block_lt_of_cell? _ _ c0
  have HF := Lib.hid h
  have HO := Lib.hid ho
  have HBN := Lib.hid (own_not_find' ho h)
  obtain ⟨a0, cap, rfl⟩ := ownV_slice ho
  clear h ho
  have HAL : Hid (∀ o, FindB (w.alloc o) B 2 dn cl ln (.slice a0 L.length cap)) := Lib.hid (fun o => (Below.heap_alloc w o B hBw).trans HF.out)
  have e1 := fun o => Joins.cell_of_block (HAL.out o) 1
  have e2 := fun o => Joins.cell_of_block (HAL.out o) 2
  have e3 := fun o => Joins.cell_of_block (HAL.out o) 3
  have e4 := fun o => Joins.cell_of_block (HAL.out o) 4
  have e5 := fun o => Joins.cell_of_block (HAL.out o) 5
  simp only [List.getElem?_toArray, List.getElem?_cons_zero, List.getElem?_cons_succ] at e1 e2 e3 e4 e5
  go_enter Tryd.func53, Tryd.ntmps53
  go_wp2
  go_region_law (refine step_appendV rfl (.tmp 11) (.tmp 16) 27 rfl base 33 i0 (.agg #[.int .i64 0, .bool false, .int .i64 0, .int .i64 0]) 4 32 Tryd.underlying27 hi hz0 hz1 hz2 rfl (by decide) _ _ _ rfl (HO.out.alloc _).drew (some ⟨w.heap.size, 0, none⟩) 1 1 (cells_Slot (0, dn, cl, ln)) rfl rfl (cells_Slot_one _) (fun e => by cases e) (oneSl w (0, dn, cl, ln) _) (by omega) (by omega) (by simp; omega) ?_; intro v2 w3 hown hgrow; obtain ⟨a2, cap2, rfl⟩ := ownV_slice hown; have HO3 := Lib.hid hown; have HF3 : Hid (FindB w3 B 2 dn cl ln (.slice a0 L.length cap)) := Lib.hid ((hgrow.block B (by simp; omega) (fun e => HBN.out e.symm)).trans (HAL.out _)); have HG3 := Lib.hid hgrow; have k5 := Joins.cell_of_block HF3.out 5; have l5 := Joins.unfrozen_of_block HF3.out 5; simp only [List.getElem?_toArray, List.getElem?_cons_zero, List.getElem?_cons_succ] at k5; clear hown hgrow)
  all_goals have HF4 := Lib.hid (findB_set5 (v' := .slice a2 (L.length + 1) cap2) HF3.out)
  all_goals have HF5 := Lib.hid (findB_set0 (st' := 0) HF4.out)
  all_goals have HO5 := Lib.hid (((HO3.out.kept (grown_cell0 (grown_refl w3 _) 5 (.slice a2 (L.length + 1) cap2)) (own_not_find HO3.out HF3.out)).kept (grown_cell0 (grown_refl _ _) 0 (.int .i64 0)) (own_not_find HO3.out HF3.out)))
  all_goals obtain ⟨m0, m1, m2, m3, m4, m5, p0, p3, p4, p5, p2⟩ := findB_cells HF4.out
  all_goals clear k5 l5
  all_goals go_wp2
  all_goals go_end0
  all_goals refine ⟨⟨_, rfl⟩, _, HF5.out, by rw [← row_Slot_snoc, List.length_append]; exact HO5.out, ?_, fun C x T mk hCB hT hC => ?_⟩
  all_goals first | exact ((below_app (((Below.refl base w).alloc hbase _).drew) HG3.out (HO.out.alloc _).drew (Nat.le_refl _) (by simp; omega)).setCell (p := ⟨B, 5, none⟩) hbB _).setCell (p := ⟨B, 0, none⟩) hbB _ | skip
  all_goals have hlt := (Array.getElem?_eq_some_iff.1 hC).1
  all_goals have h9 := HG3.out.block C (by simp; omega) (fun e => own_not_type HO.out hC hT e.symm)
  all_goals exact (Below.heap_setCell _ ⟨B, 0, none⟩ _ C hCB).trans ((Below.heap_setCell _ ⟨B, 5, none⟩ _ C hCB).trans (h9.trans ((Below.heap_alloc w _ C hlt).trans hC)))
end Go.Proofs.YtmhgejljjjmejaaDoor
namespace Go.Proofs.YtmhgejljjjmejaaDoor
open Go.RowKit

/-- The finder's state: how many white cells, the first one, the length, the slots found. -/
abbrev FM := Int × Int × Int × List SlotV
def fend (dn : Bool) (m : FM) : FM := (0, m.2.1, m.2.2.1, if m.1 = 2 then m.2.2.2 ++ [(0, dn, m.2.1, m.2.2.1)] else m.2.2.2)
def fext (cell : Int) (m : FM) : FM := if m.1 = 0 then (1, cell, 1, m.2.2.2) else (2, m.2.1, m.2.2.1 + 1, m.2.2.2)
def fstep (dn : Bool) (cell : Int) (wh : Bool) (m : FM) : FM := if wh = true then fext cell m else fend dn m
def frun (dn : Bool) (wb : Int → Bool) (cells : List Int) (m : FM) : FM := cells.foldl (fun m cell => fstep dn cell (wb cell) m) m
def Fok (k l0 : Nat) (m : FM) : Prop := (m.1 = 0 ∨ ((m.1 = 1 ∨ m.1 = 2) ∧ 0 ≤ m.2.2.1 ∧ m.2.2.1 ≤ (k : Int))) ∧ m.2.2.2.length ≤ l0 + k
theorem fext_ok {k l0 : Nat} {m : FM} (h : Fok k l0 m) (cell : Int) : Fok (k + 1) l0 (fext cell m) := by
  obtain ⟨h1, h2⟩ := h
  unfold fext
  split
  · exact ⟨.inr ⟨.inl rfl, by simp, by simp; omega⟩, by show m.2.2.2.length ≤ _; omega⟩
  · rename_i h0
    rcases h1 with h1 | ⟨-, h3, h4⟩
    · exact absurd h1 h0
    · exact ⟨.inr ⟨.inr rfl, by simp; omega, by simp; omega⟩, by show m.2.2.2.length ≤ _; omega⟩
theorem fend_ok {k l0 : Nat} {m : FM} (h : Fok k l0 m) (dn : Bool) : Fok (k + 1) l0 (fend dn m) := by
  obtain ⟨h1, h2⟩ := h
  unfold fend
  refine ⟨.inl rfl, ?_⟩
  show (if m.1 = 2 then _ else _ : List SlotV).length ≤ _
  split
  · rw [List.length_append, List.length_singleton]; omega
  · omega
/-- The finder lies in block B in the state m, its row is the call's own. -/
def StM (W : World) (B base : Nat) (dn : Bool) (m : FM) : Prop := ∃ v, FindB W B m.1 dn m.2.1 m.2.2.1 v ∧ W.ownsRow base 33 4 v m.2.2.2.length (row_Slot m.2.2.2) ∧ v ≠ .slice none 0 0
theorem StM.later {W W' : World} {B base : Nat} {dn : Bool} {m : FM} (h : StM W B base dn m) (hb : Below W.heap.size W W') : StM W' B base dn m := by
  obtain ⟨v, h1, h2, h3⟩ := h
  exact ⟨v, (hb.block B (Array.getElem?_eq_some_iff.1 h1).1).trans h1, ownV_later h2 hb, h3⟩
theorem iext_any (B base : Nat) (dn : Bool) (m : FM) (cell : Int) (k l0 : Nat) (hk : k ≤ 50) (hm : Fok k l0 m) (w : World) (hbB : base ≤ B) (h : StM w B base dn m) (hbase : base ≤ w.heap.size) :
    Calls Tryd.prog 52 #[.pointer (some ⟨B, 0, none⟩), .int .i64 cell] w fun e w' => (∃ r, e = .returned r) ∧ StM w' B base dn (fext cell m) ∧ Below base w w' ∧ KeepT B w w' := by
  obtain ⟨v, h1, h2, h3⟩ := h
  obtain ⟨st, cl, ln, L⟩ := m
  by_cases h0 : st = 0
  · subst h0
    refine (iext0_any B dn cl ln cell v w h1).mono ?_
    rintro e w' ⟨he, hf, hg⟩
    exact ⟨he, ⟨v, hf, h2.kept hg (own_not_find h2 h1), h3⟩, below_grownB hg hbB hbase, keepT_grown hg⟩
  · have hst : (st == 0) = false := by simpa using h0
    have hln : 0 ≤ ln ∧ ln ≤ (k : Int) := by
      rcases hm.1 with e | ⟨-, e⟩
      · exact absurd e h0
      · exact e
    refine (iext1_any B st dn cl ln cell v hst hln.1 (by omega) w h1).mono ?_
    rintro e w' ⟨he, hf, hg⟩
    refine ⟨he, ?_, below_grownB hg hbB hbase, keepT_grown hg⟩
    have e9 : fext cell (st, cl, ln, L) = (2, cl, ln + 1, L) := if_neg h0
    rw [e9]
    exact ⟨v, hf, h2.kept hg (own_not_find h2 h1), h3⟩
theorem ifend_any (B base : Nat) (dn : Bool) (m : FM) (hl : m.2.2.2.length ≤ 1000) (w : World) (hbB : base ≤ B) (h : StM w B base dn m) (hbase : base ≤ w.heap.size) :
    Calls Tryd.prog 53 #[.pointer (some ⟨B, 0, none⟩)] w fun e w' => (∃ r, e = .returned r) ∧ StM w' B base dn (fend dn m) ∧ Below base w w' ∧ KeepT B w w' := by
  obtain ⟨v, h1, h2, h3⟩ := h
  obtain ⟨st, cl, ln, L⟩ := m
  by_cases h0 : st = 2
  · subst h0
    refine (iend2_any B base dn cl ln v L hl w h1 h2 hbase hbB).mono ?_
    rintro e w' ⟨he, v', hf, ho, hb, hk⟩
    refine ⟨he, ⟨v', hf, ho, fun e9 => ?_⟩, hb, hk⟩
    subst e9
    have h9 : (L ++ [((0 : Int), dn, cl, ln)]).length = 0 := by
      rcases ho.2 with ⟨-, e⟩ | ⟨g, cap, cur, e, -⟩
      · exact e
      · cases e
    simp at h9
  · have hst : (st == 2) = false := by simpa using h0
    refine (iend0_any B st dn cl ln v hst w h1).mono ?_
    rintro e w' ⟨he, hf, hg⟩
    refine ⟨he, ?_, below_grownB hg hbB hbase, keepT_grown hg⟩
    have e9 : fend dn (st, cl, ln, L) = (0, cl, ln, L) := by unfold fend; rw [if_neg h0]
    rw [e9]
    exact ⟨v, hf, h2.kept hg (own_not_find h2 h1), h3⟩
theorem frun_next (dn : Bool) (wb : Int → Bool) (l : List Int) (m : FM) (k : Nat) (h : k < l.length) : frun dn wb (l.take (k + 1)) m = fstep dn (l.getD k 0) (wb (l.getD k 0)) (frun dn wb (l.take k) m) := by
  unfold frun
  rw [List.take_succ_eq_append_getElem h, List.foldl_append, List.getD_eq_getElem?_getD, List.getElem?_eq_getElem h]
  rfl
theorem fstep_ok {k l0 : Nat} {m : FM} (h : Fok k l0 m) (dn : Bool) (cell : Int) (wh : Bool) : Fok (k + 1) l0 (fstep dn cell wh m) := by
  unfold fstep
  split
  · exact fext_ok h cell
  · exact fend_ok h dn
theorem frun_ok (dn : Bool) (wb : Int → Bool) (l : List Int) (m : FM) (l0 : Nat) (h : Fok 0 l0 m) : ∀ k, k ≤ l.length → Fok k l0 (frun dn wb (l.take k) m)
  | 0, _ => by unfold frun; simpa using h
  | k + 1, hk => by
    rw [frun_next dn wb l m k (by omega)]
    exact fstep_ok (frun_ok dn wb l m l0 h k (by omega)) dn _ _
theorem stepL_getD (f st : Int) (n k : Nat) (h : k < n) : (stepL f st n).getD k 0 = f + (k : Int) * st := by
  unfold stepL
  rw [List.getD_eq_getElem?_getD, List.getElem?_map, List.getElem?_range h]
  rfl
theorem own_keepT {W W' : World} {B base base' n s : Nat} {e : TypeId} {v : Value} {xs : List Value} {dn : Bool} {m : FM} (h : W.ownsRow base e s v n xs) (he : e ≠ 33) (he2 : e ≠ 68) (hf : StM W B base' dn m) (hk : KeepT B W W') : W'.ownsRow base e s v n xs := by
  refine ⟨h.1, ?_⟩
  rcases h.2 with hn | ⟨g, cap, cur, rfl, hb, hg, rest⟩
  · exact .inl hn
  · refine .inr ⟨g, cap, cur, rfl, hb, hk g _ _ _ (fun e9 => ?_) he hg, rest⟩
    subst e9
    obtain ⟨u, h1, -⟩ := hf
    unfold FindB at h1
    rw [hg] at h1
    cases h1
    exact he2 rfl
theorem block_keepT {W W' : World} {B base C : Nat} {x : Array Value} {T : TypeId} {mk : Nat × Nat} {dn : Bool} {m : FM} (h : W.heap[C]? = some (.cells x T mk)) (he : T ≠ 33) (he2 : T ≠ 68) (hf : StM W B base dn m) (hk : KeepT B W W') : W'.heap[C]? = some (.cells x T mk) := by
  refine hk C _ _ _ (fun e9 => ?_) he h
  subst e9
  obtain ⟨u, h1, -⟩ := hf
  unfold FindB at h1
  rw [h] at h1
  cases h1
  exact he2 rfl
set_option maxRecDepth 100000 in
set_option maxHeartbeats 1600000 in
theorem iread_any (B base : Nat) (dn : Bool) (m : FM) (hm0 : m.1 = 0) (hml : m.2.2.2.length ≤ 100) (r c : Int) (N S : Nat) (hN : r * c = (N : Int)) (h36 : N ≤ 36) (hS : S < 18446744073709551616) (f st : Int) (n : Nat) (hn : 1 ≤ n) (hn6 : n ≤ 6) (hf : 0 ≤ f) (hf2 : f ≤ 36) (hs : 0 ≤ st) (hs2 : st ≤ 6) (w : World) (hbB : base ≤ B) (h : StM w B base dn m) (hbase : base ≤ w.heap.size) :
    Calls Tryd.prog 35 #[.pointer (some ⟨B, 0, none⟩), .agg #[.int .i64 r, .int .i64 c, .int .u64 (S : Int)], .agg #[.int .i64 f, .int .i64 st, .int .i64 (n : Int)]] w fun e w' => (∃ r, e = .returned r) ∧ StM w' B base dn (fend dn (frun dn (whB N S) (stepL f st n) m)) ∧ Below base w w' ∧ KeepT B w w' := by
  have HIW := Lib.hid (fun k w => ibw_any r c N S hN h36 hS k w)
  have HCE := Lib.hid (fun w => icells_any f st n hn hn6 hf hf2 hs hs2 w)
  have hb2 := below2 w (.cells #[.int .i64 r, .int .i64 c, .int .u64 (S : Int)] 43) (.cells #[.int .i64 f, .int .i64 st, .int .i64 (n : Int)] 76)
  have HOK := Lib.hid (frun_ok dn (whB N S) (stepL f st n) m m.2.2.2.length ⟨.inl hm0, by omega⟩)
  have HBX := Lib.hid (box33 (Below.refl _ ((w.alloc (.cells #[.int .i64 r, .int .i64 c, .int .u64 (S : Int)] 43)).alloc (.cells #[.int .i64 f, .int .i64 st, .int .i64 (n : Int)] 76))))
  obtain ⟨W0, hW0⟩ : ∃ W0, W0 = (w.alloc (.cells #[.int .i64 r, .int .i64 c, .int .u64 (S : Int)] 43)).alloc (.cells #[.int .i64 f, .int .i64 st, .int .i64 (n : Int)] 76) := ⟨_, rfl⟩
  have hws : W0.heap.size = w.heap.size + 2 := by rw [hW0]; simp
  have HS0 : Hid (StM W0 B base dn m) := Lib.hid (by rw [hW0]; exact h.later hb2)
  have HW : Hid (Below w.heap.size w W0) := Lib.hid (by rw [hW0]; exact hb2)
  have hBw : B < w.heap.size := by
    obtain ⟨v, h1, -⟩ := h
    exact (Array.getElem?_eq_some_iff.1 h1).1
  clear hb2 h hN
  go_enter Tryd.func35, Tryd.ntmps35
  obtain ⟨x0, x1, x2, -, -, -⟩ := cells3 HBX.out.1
  obtain ⟨y0, y1, y2, -, -, -⟩ := cells3 HBX.out.2.1
  go_wp2_with fail
  rw [← hW0] at HBX x0 x1 x2 y0 y1 y2 ⊢
  clear hW0
  have HKP : Hid (∀ W : World, W.heap[w.heap.size]? = some (.cells #[.int .i64 r, .int .i64 c, .int .u64 (S : Int)] 43) → W.cell? ⟨w.heap.size, 0, none⟩ = some (.int .i64 r) ∧ W.cell? ⟨w.heap.size, 1, none⟩ = some (.int .i64 c) ∧ W.cell? ⟨w.heap.size, 2, none⟩ = some (.int .u64 (S : Int))) := Lib.hid (fun W h => ⟨Joins.cell_of_block h 0, Joins.cell_of_block h 1, Joins.cell_of_block h 2⟩)
  go_wp2_with (go_at_call 41; refine (HCE.out _).mono ?_; rintro e w2 ⟨v2, rfl, o2, b2⟩; obtain ⟨a0, cap, rfl⟩ := ownV_slice o2; have HO2 := Lib.hid (own_widen o2 (show w.heap.size ≤ W0.heap.size by omega)); have HB2 := Lib.hid (HW.out.trans (b2.mono HW.out.size)); have HS2 := Lib.hid (HS0.out.later b2); have HX2 := Lib.hid ((b2.block w.heap.size (by omega)).trans HBX.out.1); clear o2 b2)
  have HB2' : Hid (Below base w w2) := Lib.hid (HB2.out.mono hbase)
  have HK2 : Hid (KeepT B w w2) := Lib.hid (keepT_below HB2.out)
  clear HB2
  go_loopw [11] (fun i wr => ∃ k : Nat, k ≤ n ∧ i = .int .i64 k ∧ Hid (StM wr B base dn (frun dn (whB N S) ((stepL f st n).take k) m)) ∧ Hid (wr.ownsRow w.heap.size 3 1 (.slice a0 n cap) n ((stepL f st n).map (Value.int .i64))) ∧ Hid (wr.heap[w.heap.size]? = some (.cells #[.int .i64 r, .int .i64 c, .int .u64 (S : Int)] 43)) ∧ Hid (Below base w wr) ∧ Hid (KeepT B w wr)) (fun i _ => n - (intOf i).toNat)
  case atStart => exact ⟨0, Nat.zero_le _, rfl, Lib.hid (by simpa [frun] using HS2.out), HO2, HX2, HB2', HK2⟩
  case round =>
    obtain ⟨k, hk, rfl, HS, HO, HX, HB, HK⟩ := hrel
    by_cases hlt : k < n
    · have hd : decide ((k : Int) < (n : Int)) = true := decide_eq_true (by omega)
      have hd9 : decide (k < n) = true := decide_eq_true hlt
      have HNX := Lib.hid (frun_next dn (whB N S) (stepL f st n) m k (by rw [stepL_length]; exact hlt))
      have HOKk := Lib.hid (HOK.out k (by rw [stepL_length]; omega))
      obtain ⟨b, off, rfl, c0⟩ : ∃ b off, a0 = some ⟨b, off, none⟩ ∧ wr.cell? ⟨b, off + k, none⟩ = some (.int .i64 ((stepL f st n).getD k 0)) := by
        obtain ⟨-, a9, c9, e9, -, h9⟩ := reads_own (l := stepL f st n) HO.out (by rw [stepL_length]) (by rw [stepL_length]; omega)
        obtain ⟨rfl, -, -⟩ := Value.slice.inj e9
        obtain ⟨b, off, e8, -, h8⟩ := h9 k (by rw [stepL_length]; exact hlt)
        exact ⟨b, off, e8, h8⟩
      obtain ⟨x, hx⟩ : ∃ x, x = (stepL f st n).getD k 0 := ⟨_, rfl⟩
      rw [← hx] at c0 HNX
      obtain ⟨q, hq⟩ : ∃ q, q = whB N S x := ⟨_, rfl⟩
      have HQ := Lib.hid (HIW.out x)
      rw [← hq] at HQ HNX
      obtain ⟨M, hM⟩ : ∃ M, M = frun dn (whB N S) ((stepL f st n).take k) m := ⟨_, rfl⟩
      rw [← hM] at HS HNX HOKk
      obtain ⟨z0, z1, z2⟩ := HKP.out _ HX.out
      clear hx hq hM x0 x1 x2 y0 y1 y2 HS2 HO2 HX2 HB2' HK2
      cases q with
      | true =>
        have HN2 : Hid (frun dn (whB N S) ((stepL f st n).take (k + 1)) m = fext x M) := Lib.hid (by rw [HNX.out]; rfl)
        go_wp2_with (first | (go_at_call 25; refine (HQ.out _).mono ?_; rintro e w3 ⟨rfl, b3⟩; have HS3 := Lib.hid (HS.out.later b3); have HO3 := Lib.hid (ownV_later HO.out b3); have HX3 := Lib.hid ((b3.block w.heap.size (Array.getElem?_eq_some_iff.1 HX.out).1).trans HX.out); have HB3 := Lib.hid (HB.out.trans (b3.mono (Nat.le_trans hbase HB.out.size))); have HK3 := Lib.hid (HK.out.trans (keepT_below b3)); have HZ3 := Lib.hid (Nat.le_trans hbase HB3.out.size); clear b3) | (go_at_call 52; refine (iext_any B base dn M x k m.2.2.2.length (by omega) HOKk.out _ hbB HS3.out HZ3.out).mono ?_; rintro e w4 ⟨⟨r, rfl⟩, hs4, hb4, hk4⟩; have HS4 := Lib.hid hs4; have HO4 := Lib.hid (own_keepT HO3.out (by decide) (by decide) HS3.out hk4); have HX4 := Lib.hid (block_keepT HX3.out (by decide) (by decide) HS3.out hk4); have HB4 := Lib.hid (HB3.out.trans hb4); have HK4 := Lib.hid (HK3.out.trans hk4); clear hs4 hb4 hk4))
        go_roundw
        case rel => exact ⟨k + 1, by omega, by go_num, by rw [HN2.out]; exact HS4, HO4, HX4, HB4, HK4⟩
        case measure => simp [intOf]; omega
      | false =>
        have HN2 : Hid (frun dn (whB N S) ((stepL f st n).take (k + 1)) m = fend dn M) := Lib.hid (by rw [HNX.out]; rfl)
        go_wp2_with (first | (go_at_call 25; refine (HQ.out _).mono ?_; rintro e w3 ⟨rfl, b3⟩; have HS3 := Lib.hid (HS.out.later b3); have HO3 := Lib.hid (ownV_later HO.out b3); have HX3 := Lib.hid ((b3.block w.heap.size (Array.getElem?_eq_some_iff.1 HX.out).1).trans HX.out); have HB3 := Lib.hid (HB.out.trans (b3.mono (Nat.le_trans hbase HB.out.size))); have HK3 := Lib.hid (HK.out.trans (keepT_below b3)); have HZ3 := Lib.hid (Nat.le_trans hbase HB3.out.size); clear b3) | (go_at_call 53; refine (ifend_any B base dn M (by have := HOKk.out.2; omega) _ hbB HS3.out HZ3.out).mono ?_; rintro e w4 ⟨⟨r, rfl⟩, hs4, hb4, hk4⟩; have HS4 := Lib.hid hs4; have HO4 := Lib.hid (own_keepT HO3.out (by decide) (by decide) HS3.out hk4); have HX4 := Lib.hid (block_keepT HX3.out (by decide) (by decide) HS3.out hk4); have HB4 := Lib.hid (HB3.out.trans hb4); have HK4 := Lib.hid (HK3.out.trans hk4); clear hs4 hb4 hk4))
        go_roundw
        case rel => exact ⟨k + 1, by omega, by go_num, by rw [HN2.out]; exact HS4, HO4, HX4, HB4, HK4⟩
        case measure => simp [intOf]; omega
    · have hd : decide ((k : Int) < (n : Int)) = false := decide_eq_false (by omega)
      have hd9 : decide (k < n) = false := decide_eq_false hlt
      have HOKk := Lib.hid (HOK.out k (by rw [stepL_length]; omega))
      have HTK : Hid ((stepL f st n).take k = stepL f st n) := Lib.hid (List.take_of_length_le (by rw [stepL_length]; omega))
      rw [HTK.out] at HS HOKk
      have HZ := Lib.hid (Nat.le_trans hbase HB.out.size)
      clear HTK
      go_wp2_with (go_at_call 53; refine (ifend_any B base dn _ (by have := HOKk.out.2; omega) _ hbB HS.out HZ.out).mono ?_; rintro e w4 ⟨⟨r, rfl⟩, hs4, hb4, hk4⟩; have HS4 := Lib.hid hs4; have HB4 := Lib.hid (HB.out.trans hb4); have HK4 := Lib.hid (HK.out.trans hk4); clear hs4 hb4 hk4)
      go_end0
      exact ⟨⟨_, rfl⟩, HS4.out, HB4.out, HK4.out⟩
end Go.Proofs.YtmhgejljjjmejaaDoor
