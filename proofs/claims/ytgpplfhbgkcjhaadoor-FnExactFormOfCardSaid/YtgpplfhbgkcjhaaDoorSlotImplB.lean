/-
  The program's contracts of chapter 8, first part: lines and sets of lines.
  The program's contracts of chapter 8, second part: rows and columns of a board.
-/
import Derived.Test.YtgpplfhbgkcjhaaDoorSlotSpecE
import Derived.Test.YtgpplfhbgkcjhaaDoorGridImplE
namespace Go.Proofs.YtgpplfhbgkcjhaaDoor
open Go.RowKit

/-- n numbers from f on, at distances of st. -/
def stepL (f st : Int) (n : Nat) : List Int := (List.range n).map fun (k : Nat) => f + (k : Int) * st
theorem stepL_length (f st : Int) (n : Nat) : (stepL f st n).length = n := by
  unfold stepL
  rw [List.length_map, List.length_range]
theorem stepL_set (f st : Int) (n k : Nat) (h : k < n) : (stepL f st k ++ List.replicate (n - k) 0).set k (f + (k : Int) * st) = stepL f st (k + 1) ++ List.replicate (n - (k + 1)) 0 := by
  have e : List.replicate (n - k) (0 : Int) = 0 :: List.replicate (n - (k + 1)) 0 := by
    rw [show n - k = (n - (k + 1)) + 1 by omega, List.replicate_succ]
  rw [e, List.set_append_right _ _ (by rw [stepL_length]; exact Nat.le_refl _), stepL_length, Nat.sub_self]
  show _ ++ ([f + (k : Int) * st] ++ _) = _
  rw [← List.append_assoc]
  congr 1
  unfold stepL
  rw [List.range_succ, List.map_append]
  rfl
theorem made_ints (n : Nat) : (madeCells #[.int .i64 0] (n * 1)).toList = (stepL 0 0 0 ++ List.replicate n 0).map (Value.int .i64) := by
  have h9 := row0_made (fun x : Int => [.int .i64 x]) 1 (by decide) (fun _ => rfl) 0 n
  rw [h9]
  simp only [stepL, List.range_zero, List.map_nil, List.nil_append]
  clear h9
  induction n with
  | zero => rfl
  | succ n ih => rw [List.replicate_succ, List.flatMap_cons, ih]; rfl
theorem box1s (w : World) (x y z : Int) (t : TypeId) : ∀ w', Below (w.alloc (.cells #[.int .i64 x, .int .i64 y, .int .i64 z] t)).heap.size (w.alloc (.cells #[.int .i64 x, .int .i64 y, .int .i64 z] t)) w' →
    w'.cell? ⟨w.heap.size, 0, none⟩ = some (.int .i64 x) ∧ w'.cell? ⟨w.heap.size, 1, none⟩ = some (.int .i64 y) ∧ w'.cell? ⟨w.heap.size, 2, none⟩ = some (.int .i64 z) ∧ Below w.heap.size w w' := fun w' h => by
  have hz : (w.alloc (.cells #[.int .i64 x, .int .i64 y, .int .i64 z] t)).heap.size = w.heap.size + 1 := by simp
  have h1 : w'.heap[w.heap.size]? = some (.cells #[.int .i64 x, .int .i64 y, .int .i64 z] t) := (h.block w.heap.size (by omega)).trans (new_block w _)
  exact ⟨Joins.cell_of_block h1 0, Joins.cell_of_block h1 1, Joins.cell_of_block h1 2, ((Below.refl _ _).alloc (Nat.le_refl _) _).trans (h.mono (by omega))⟩
set_option maxRecDepth 100000 in
set_option maxHeartbeats 1600000 in
theorem icells_any (f st : Int) (n : Nat) (hn : 1 ≤ n) (hn6 : n ≤ 6) (hf : 0 ≤ f) (hf2 : f ≤ 36) (hs : 0 ≤ st) (hs2 : st ≤ 6) (w : World) :
    Calls Tryd.prog 61 #[.agg #[.int .i64 f, .int .i64 st, .int .i64 (n : Int)]] w fun e w' => ∃ v, e = .returned v ∧ w'.ownsRow w.heap.size 3 1 v n ((stepL f st n).map (Value.int .i64)) ∧ Below w.heap.size w w' := by
  obtain ⟨i0, hi, hz0, hz1, hz2⟩ := info_parts info_int
  have HKP := Lib.hid (box1s w f st n 91)
  obtain ⟨d0, d1, d2, hbw⟩ := HKP.out _ (Below.refl _ _)
  have HW := Lib.hid hbw
  clear hbw
  have HMD := Lib.hid (made_ints n)
  have hws : (w.alloc (.cells #[.int .i64 f, .int .i64 st, .int .i64 (n : Int)] 91)).heap.size = w.heap.size + 1 := by simp
  go_enter Tryd.func61, Tryd.ntmps61
  go_wp2_with (at_make; refine wpList_make_full _ rfl _ _ 30 rfl w.heap.size 3 i0 (.int .i64 0) 1 Tryd.underlying30 hi hz0 hz1 .i64 .i64 _ _ n rfl rfl rfl rfl (by rw [hz2]; omega) (by unfold maxLen; omega) (by simp) ?_; intro w1 hown hgrow; obtain ⟨x0, x1, x2, hbw⟩ := HKP.out _ ((Below.refl _ _).grown hgrow (Nat.le_refl _) (fun k hk => by cases hk)))
  have HO1 : Hid (w1.ownsRow w.heap.size 3 1 (.slice (some ⟨w.heap.size + 1, 0, none⟩) n n) n ((stepL f st 0 ++ List.replicate (n - 0) 0).map (Value.int .i64))) := Lib.hid (by rw [hws, show (madeCells (Value.int .i64 0).cells (n * 1)).toList = _ from HMD.out] at hown; exact hown)
  have HB1 := Lib.hid hbw
  clear hown hgrow hbw HW d0 d1 d2 HKP
  have HC1 := Lib.hid (And.intro x0 (And.intro x1 x2))
  clear x0 x1 x2
  go_loopw [10] (fun i wr => ∃ k : Nat, k ≤ n ∧ i = .int .i64 k ∧ Hid (wr.ownsRow w.heap.size 3 1 (.slice (some ⟨w.heap.size + 1, 0, none⟩) n n) n ((stepL f st k ++ List.replicate (n - k) 0).map (Value.int .i64))) ∧ Hid (wr.cell? ⟨w.heap.size, 0, none⟩ = some (.int .i64 f) ∧ wr.cell? ⟨w.heap.size, 1, none⟩ = some (.int .i64 st)) ∧ Hid (Below w.heap.size w wr)) (fun i _ => n - (intOf i).toNat)
  case atStart => exact ⟨0, Nat.zero_le _, rfl, HO1, Lib.hid ⟨HC1.out.1, HC1.out.2.1⟩, HB1⟩
  case round =>
    obtain ⟨k, hk, rfl, HO, HC, HB⟩ := hrel
    obtain ⟨y0, y1⟩ := HC.out
    by_cases hlt : k < n
    · have hd : decide ((k : Int) < (n : Int)) = true := decide_eq_true (by omega)
      have hmul : 0 ≤ (k : Int) * st ∧ (k : Int) * st ≤ 36 := ⟨Int.mul_nonneg (by omega) (by omega), Int.le_trans (Int.mul_le_mul (show (k : Int) ≤ 6 by omega) hs2 (by omega) (by omega)) (by decide)⟩
      have hc0 := (HO.out.cellAt k (by omega)).trans (show _ = some (.int .i64 0) by
        rw [List.getElem?_map, List.getElem?_append_right (by rw [stepL_length]; exact Nat.le_refl _), stepL_length, Nat.sub_self, List.getElem?_replicate, if_pos (by omega)]; rfl)
      have hf0 := HO.out.frozenAt k
      go_wp2
      have HO2 : Hid _ := Lib.hid (HO.out.stored k (.int .i64 (f + (k : Int) * st))).1
      have HO3 : Hid ((wr.setCell ⟨w.heap.size + 1, k, none⟩ (.int .i64 (f + (k : Int) * st))).ownsRow w.heap.size 3 1 (.slice (some ⟨w.heap.size + 1, 0, none⟩) n n) n ((stepL f st (k + 1) ++ List.replicate (n - (k + 1)) 0).map (Value.int .i64))) := Lib.hid (by
        have h9 := HO2.out
        rw [← List.map_set, stepL_set f st n k hlt] at h9
        exact h9)
      go_roundw
      case rel => exact ⟨k + 1, by omega, by go_num, HO3, Lib.hid ⟨(cell_set_other _ _ _ _ (by simp)).trans y0, (cell_set_other _ _ _ _ (by simp)).trans y1⟩, Lib.hid (HB.out.setCell (p := ⟨w.heap.size + 1, k, none⟩) (by simp) _)⟩
      case measure => simp [intOf]; omega
    · have hd : decide ((k : Int) < (n : Int)) = false := decide_eq_false (by omega)
      have HF : Hid (wr.ownsRow w.heap.size 3 1 (.slice (some ⟨w.heap.size + 1, 0, none⟩) n n) n ((stepL f st n).map (Value.int .i64))) := Lib.hid (by
        have h9 := HO.out
        rw [show k = n by omega, Nat.sub_self, List.replicate_zero, List.append_nil] at h9
        exact h9)
      go_wp2
      go_ret
      exact ⟨_, rfl, HF.out, HB.out⟩
end Go.Proofs.YtgpplfhbgkcjhaaDoor
namespace Go.Proofs.YtgpplfhbgkcjhaaDoor
open Go.RowKit

theorem boxb (w : World) (r c S : Int) (t : TypeId) : ∀ w', Below (w.alloc (.cells #[.int .i64 r, .int .i64 c, .int .u64 S] t)).heap.size (w.alloc (.cells #[.int .i64 r, .int .i64 c, .int .u64 S] t)) w' →
    w'.cell? ⟨w.heap.size, 0, none⟩ = some (.int .i64 r) ∧ w'.cell? ⟨w.heap.size, 1, none⟩ = some (.int .i64 c) ∧ w'.cell? ⟨w.heap.size, 2, none⟩ = some (.int .u64 S) ∧ Below w.heap.size w w' := fun w' h => by
  have hz : (w.alloc (.cells #[.int .i64 r, .int .i64 c, .int .u64 S] t)).heap.size = w.heap.size + 1 := by simp
  have h1 : w'.heap[w.heap.size]? = some (.cells #[.int .i64 r, .int .i64 c, .int .u64 S] t) := (h.block w.heap.size (by omega)).trans (new_block w _)
  exact ⟨Joins.cell_of_block h1 0, Joins.cell_of_block h1 1, Joins.cell_of_block h1 2, ((Below.refl _ _).alloc (Nat.le_refl _) _).trans (h.mono (by omega))⟩
theorem below2 (w : World) (A B : Obj) : Below w.heap.size w ((w.alloc A).alloc B) := ((Below.refl _ _).alloc (Nat.le_refl _) _).alloc (by simp) _
set_option maxHeartbeats 800000 in
theorem rpart_any (r c S f n : Int) (w : World) :
    Calls Tryd.prog 144 #[.agg #[.int .i64 r, .int .i64 c, .int .u64 S], .int .i64 f, .int .i64 n] w fun e w' => e = .returned (.agg #[.int .i64 f, .int .i64 1, .int .i64 n]) ∧ Below w.heap.size w w' := by
  go_enter Tryd.func144, Tryd.ntmps144
  go_wp2
  exact bodyPost_ret (v := .agg #[.int .i64 f, .int .i64 1, .int .i64 n]) (by simp [results, Tryd.results144, go_sem]) rfl ⟨rfl, below2 w _ _⟩
set_option maxHeartbeats 800000 in
theorem cpart_any (r c S f n : Int) (w : World) :
    Calls Tryd.prog 142 #[.agg #[.int .i64 r, .int .i64 c, .int .u64 S], .int .i64 f, .int .i64 n] w fun e w' => e = .returned (.agg #[.int .i64 f, .int .i64 c, .int .i64 n]) ∧ Below w.heap.size w w' := by
  go_enter Tryd.func142, Tryd.ntmps142
  go_wp2
  exact bodyPost_ret (v := .agg #[.int .i64 f, .int .i64 c, .int .i64 n]) (by simp [results, Tryd.results142, go_sem]) rfl ⟨rfl, below2 w _ _⟩
/-- The rows, or the columns, of a board. -/
def setV (d : Bool) (r c S : Int) : Value := if d = true then .iface 118 (.agg #[.int .i64 r, .int .i64 c, .int .u64 S]) else .iface 119 (.agg #[.int .i64 r, .int .i64 c, .int .u64 S])
theorem lines_any (r c S : Int) (d : Bool) (w : World) :
    Calls Tryd.prog 54 #[.agg #[.int .i64 r, .int .i64 c, .int .u64 S], .bool d] w fun e w' => e = .returned (setV d r c S) ∧ Below w.heap.size w w' := by
  cases d with
  | true =>
    go_enter Tryd.func54, Tryd.ntmps54
    go_wp2
    go_ret
    exact ⟨rfl, (Below.refl _ _).alloc (Nat.le_refl _) _⟩
  | false =>
    go_enter Tryd.func54, Tryd.ntmps54
    go_wp2
    go_ret
    exact ⟨rfl, (Below.refl _ _).alloc (Nat.le_refl _) _⟩
/-- A line's cells. -/
def cells_line (x : Int × Int × Int) : List Value := [.int .i64 x.1, .int .i64 x.2.1, .int .i64 x.2.2]
theorem cells_line_length (x : Int × Int × Int) : (cells_line x).length = 3 := rfl
def row_line (l : List (Int × Int × Int)) : List Value := l.flatMap cells_line
theorem row_line_length (l : List (Int × Int × Int)) : (row_line l).length = l.length * 3 := row0_length cells_line 3 cells_line_length l
theorem row_line_at (l : List (Int × Int × Int)) (k : Nat) (h : k < l.length) (r : Nat) (hr : r < 3) : (row_line l)[k * 3 + r]? = (cells_line l[k])[r]? := row0_at cells_line 3 cells_line_length l k h r hr
theorem row_line_snoc (l : List (Int × Int × Int)) (x : Int × Int × Int) : row_line l ++ cells_line x = row_line (l ++ [x]) := by
  unfold row_line
  rw [List.flatMap_append]
  simp
theorem cells_line_one (x : Int × Int × Int) : ∀ u ∈ cells_line x, u.oneCell' = true := by
  intro u hu
  simp only [cells_line, List.mem_cons, List.not_mem_nil, or_false] at hu
  rcases hu with rfl | rfl | rfl <;> rfl
theorem one_line (w : World) (x : Int × Int × Int) (t : TypeId) : ∀ j, j < 1 * 3 → ∃ b off, some (⟨w.heap.size, 0, none⟩ : Addr) = some ⟨b, off, none⟩ ∧ (w.alloc (.cells #[.int .i64 x.1, .int .i64 x.2.1, .int .i64 x.2.2] t)).cell? ⟨b, off + j, none⟩ = (cells_line x)[j]? := fun j hj => by
  refine ⟨_, _, rfl, ?_⟩
  rw [Nat.zero_add, cell_of_row _ w.heap.size j _ t (0, 0) (heap_alloc_new w _)]
  simp [cells_line]
theorem info_line : (Tryd.prog.info? 91).map (fun i => (i.zero, i.size, i.bytes)) = some (some (.agg #[.int .i64 0, .int .i64 0, .int .i64 0]), 3, 24) := by kernel_rfl
/-- All rows, or all columns, as lines. -/
def rowsL (c : Nat) (n : Nat) : List (Int × Int × Int) := (List.range n).map fun (i : Nat) => ((i : Int) * (c : Int), (1 : Int), (c : Int))
def colsL (r c : Nat) (n : Nat) : List (Int × Int × Int) := (List.range n).map fun (i : Nat) => ((i : Int), (c : Int), (r : Int))
theorem rowsL_length (c n : Nat) : (rowsL c n).length = n := by unfold rowsL; simp
theorem colsL_length (r c n : Nat) : (colsL r c n).length = n := by unfold colsL; simp
theorem rowsL_next (c n : Nat) : rowsL c (n + 1) = rowsL c n ++ [((n : Int) * (c : Int), (1 : Int), (c : Int))] := by unfold rowsL; rw [List.range_succ, List.map_append]; rfl
theorem colsL_next (r c n : Nat) : colsL r c (n + 1) = colsL r c n ++ [((n : Int), (c : Int), (r : Int))] := by unfold colsL; rw [List.range_succ, List.map_append]; rfl
set_option maxRecDepth 100000 in
set_option maxHeartbeats 1600000 in
theorem rwhole_any (r c : Nat) (S : Int) (hr : r ≤ 6) (hc : c ≤ 6) (w : World) :
    Calls Tryd.prog 145 #[.agg #[.int .i64 (r : Int), .int .i64 (c : Int), .int .u64 S]] w fun e w' => ∃ v, e = .returned v ∧ w'.ownsRow w.heap.size 91 3 v (rowsL c r).length (row_line (rowsL c r)) ∧ Below w.heap.size w w' := by
  obtain ⟨i0, hi, hz0, hz1, hz2⟩ := info_parts info_line
  have HKP := Lib.hid (boxb w r c S 119)
  obtain ⟨d0, d1, d2, hbw⟩ := HKP.out _ (Below.refl _ _)
  have HW := Lib.hid hbw
  clear hbw
  go_enter Tryd.func145, Tryd.ntmps145
  go_wp2_with fail
  obtain ⟨W0, hW0⟩ : ∃ W0, W0 = w.alloc (.cells #[.int .i64 (r : Int), .int .i64 (c : Int), .int .u64 S] 119) := ⟨_, rfl⟩
  have hws : W0.heap.size = w.heap.size + 1 := by rw [hW0]; simp
  rw [← hW0] at HKP HW d0 d1 d2 ⊢
  clear hW0
  go_loopw [3, 9] (fun o i wr => ∃ k : Nat, k ≤ r ∧ i = .int .i64 k ∧ Hid (wr.ownsRow W0.heap.size 91 3 o k (row_line (rowsL c k))) ∧ Hid (Below W0.heap.size W0 wr)) (fun _ i _ => r - (intOf i).toNat)
  case atStart => exact ⟨0, Nat.zero_le _, rfl, Lib.hid (by rw [← hws]; exact own_zero W0 91 3), Lib.hid ((Below.refl _ _).alloc (Nat.le_refl _) _)⟩
  case round =>
    obtain ⟨k, hk, rfl, HO, HB⟩ := hrel
    obtain ⟨y0, y1, y2, hbw⟩ := HKP.out _ HB.out
    clear hbw
    by_cases hlt : k < r
    · have hd : decide ((k : Int) < (r : Int)) = true := decide_eq_true (by omega)
      have hmul : 0 ≤ (k : Int) * (c : Int) ∧ (k : Int) * (c : Int) ≤ 36 := ⟨Int.mul_nonneg (by omega) (by omega), Int.le_trans (Int.mul_le_mul (show (k : Int) ≤ 6 by omega) (show (c : Int) ≤ 6 by omega) (by omega) (by omega)) (by decide)⟩
      have HPT := Lib.hid (fun w => rpart_any r c S ((k : Int) * (c : Int)) c w)
      go_wp2_with (first | (go_at_call 144; refine (HPT.out _).mono ?_; rintro e w2 ⟨rfl, b2⟩; have HB2 := Lib.hid (HB.out.trans (b2.mono HB.out.size)); have HO2 := Lib.hid (ownV_later HO.out b2); clear b2) | (at_builtin; refine appendV_reads _ rfl _ _ 85 rfl W0.heap.size 91 i0 (.agg #[.int .i64 0, .int .i64 0, .int .i64 0]) 3 24 Tryd.underlying85 hi hz0 hz1 hz2 rfl (by decide) _ k _ rfl (HO2.out.alloc _) (some ⟨w2.heap.size, 0, none⟩) 1 1 (cells_line ((k : Int) * (c : Int), 1, (c : Int))) rfl rfl (cells_line_one _) (fun e => by cases e) (one_line w2 ((k : Int) * (c : Int), 1, (c : Int)) _) (by omega) (by omega) (le_alloc HB2.out.size _) ?_; intro v4 w4 hown hgrow))
      have HB4 := Lib.hid (below_app (HB2.out.alloc HB2.out.size _) hgrow (HO2.out.alloc _) (Nat.le_refl _) (le_alloc HB2.out.size _))
      have HO4 : Hid (w4.ownsRow W0.heap.size 91 3 v4 (k + 1) (row_line (rowsL c (k + 1)))) := Lib.hid (by rw [rowsL_next, ← row_line_snoc]; exact hown)
      clear hown hgrow
      go_roundw
      case rel => exact ⟨k + 1, by omega, by go_num, HO4, HB4⟩
      case measure => simp [intOf]; omega
    · have hd : decide ((k : Int) < (r : Int)) = false := decide_eq_false (by omega)
      have HF : Hid (wr.ownsRow w.heap.size 91 3 u3 (rowsL c r).length (row_line (rowsL c r))) := Lib.hid (by
        have h9 := own_widen HO.out (show w.heap.size ≤ W0.heap.size by omega)
        rw [show k = r by omega] at h9
        rw [rowsL_length]
        exact h9)
      go_wp2
      go_ret
      exact ⟨_, rfl, HF.out, HW.out.trans (HB.out.mono HW.out.size)⟩
set_option maxRecDepth 100000 in
set_option maxHeartbeats 1600000 in
theorem cwhole_any (r c : Nat) (S : Int) (_hr : r ≤ 6) (hc : c ≤ 6) (w : World) :
    Calls Tryd.prog 143 #[.agg #[.int .i64 (r : Int), .int .i64 (c : Int), .int .u64 S]] w fun e w' => ∃ v, e = .returned v ∧ w'.ownsRow w.heap.size 91 3 v (colsL r c c).length (row_line (colsL r c c)) ∧ Below w.heap.size w w' := by
  obtain ⟨i0, hi, hz0, hz1, hz2⟩ := info_parts info_line
  have HKP := Lib.hid (boxb w r c S 118)
  obtain ⟨d0, d1, d2, hbw⟩ := HKP.out _ (Below.refl _ _)
  have HW := Lib.hid hbw
  clear hbw
  go_enter Tryd.func143, Tryd.ntmps143
  go_wp2_with fail
  obtain ⟨W0, hW0⟩ : ∃ W0, W0 = w.alloc (.cells #[.int .i64 (r : Int), .int .i64 (c : Int), .int .u64 S] 118) := ⟨_, rfl⟩
  have hws : W0.heap.size = w.heap.size + 1 := by rw [hW0]; simp
  rw [← hW0] at HKP HW d0 d1 d2 ⊢
  clear hW0
  go_loopw [3, 9] (fun o i wr => ∃ k : Nat, k ≤ c ∧ i = .int .i64 k ∧ Hid (wr.ownsRow W0.heap.size 91 3 o k (row_line (colsL r c k))) ∧ Hid (Below W0.heap.size W0 wr)) (fun _ i _ => c - (intOf i).toNat)
  case atStart => exact ⟨0, Nat.zero_le _, rfl, Lib.hid (by rw [← hws]; exact own_zero W0 91 3), Lib.hid ((Below.refl _ _).alloc (Nat.le_refl _) _)⟩
  case round =>
    obtain ⟨k, hk, rfl, HO, HB⟩ := hrel
    obtain ⟨y0, y1, y2, hbw⟩ := HKP.out _ HB.out
    clear hbw
    by_cases hlt : k < c
    · have hd : decide ((k : Int) < (c : Int)) = true := decide_eq_true (by omega)
      have HPT := Lib.hid (fun w => cpart_any r c S (k : Int) r w)
      go_wp2_with (first | (go_at_call 142; refine (HPT.out _).mono ?_; rintro e w2 ⟨rfl, b2⟩; have HB2 := Lib.hid (HB.out.trans (b2.mono HB.out.size)); have HO2 := Lib.hid (ownV_later HO.out b2); clear b2) | (at_builtin; refine appendV_reads _ rfl _ _ 85 rfl W0.heap.size 91 i0 (.agg #[.int .i64 0, .int .i64 0, .int .i64 0]) 3 24 Tryd.underlying85 hi hz0 hz1 hz2 rfl (by decide) _ k _ rfl (HO2.out.alloc _) (some ⟨w2.heap.size, 0, none⟩) 1 1 (cells_line ((k : Int), (c : Int), (r : Int))) rfl rfl (cells_line_one _) (fun e => by cases e) (one_line w2 ((k : Int), (c : Int), (r : Int)) _) (by omega) (by omega) (le_alloc HB2.out.size _) ?_; intro v4 w4 hown hgrow))
      have HB4 := Lib.hid (below_app (HB2.out.alloc HB2.out.size _) hgrow (HO2.out.alloc _) (Nat.le_refl _) (le_alloc HB2.out.size _))
      have HO4 : Hid (w4.ownsRow W0.heap.size 91 3 v4 (k + 1) (row_line (colsL r c (k + 1)))) := Lib.hid (by rw [colsL_next, ← row_line_snoc]; exact hown)
      clear hown hgrow
      go_roundw
      case rel => exact ⟨k + 1, by omega, by go_num, HO4, HB4⟩
      case measure => simp [intOf]; omega
    · have hd : decide ((k : Int) < (c : Int)) = false := decide_eq_false (by omega)
      have HF : Hid (wr.ownsRow w.heap.size 91 3 u3 (colsL r c c).length (row_line (colsL r c c))) := Lib.hid (by
        have h9 := own_widen HO.out (show w.heap.size ≤ W0.heap.size by omega)
        rw [show k = c by omega] at h9
        rw [colsL_length]
        exact h9)
      go_wp2
      go_ret
      exact ⟨_, rfl, HF.out, HW.out.trans (HB.out.mono HW.out.size)⟩
end Go.Proofs.YtgpplfhbgkcjhaaDoor
