/-
  Contracts of the exact laws' helpers on Grid (written by structgen.py).
-/
import Derived.Test.YtmhgejljjjmejaaDoorVals
namespace Go.Proofs.YtmhgejljjjmejaaDoor
open Go.RowKit

theorem info_Grid : (Tryd.prog.info? 25).map (fun i => (i.zero, i.size, i.bytes)) = some (some (.agg #[.int .i64 0, .int .i64 0, .string ⟨#[]⟩]), 3, 32) := by kernel_rfl
/-- The cells of a Grid. -/
def cells_Grid (x : Int × Int × ByteArray) : List Value := [.int .i64 x.1, .int .i64 x.2.1, .string x.2.2]
def row_Grid (l : List (Int × Int × ByteArray)) : List Value := l.flatMap cells_Grid
def none_Grid : Int × Int × ByteArray := (0, 0, ⟨#[]⟩)
/-- What a Grid that comes in keeps to. -/
def ok_Grid (x : Int × Int × ByteArray) : Prop := (-9223372036854775808 ≤ x.1 ∧ x.1 ≤ 9223372036854775807) ∧ (-9223372036854775808 ≤ x.2.1 ∧ x.2.1 ≤ 9223372036854775807) ∧ x.2.2.size ≤ maxLen
theorem cells_Grid_length (x : Int × Int × ByteArray) : (cells_Grid x).length = 3 := rfl
theorem row_Grid_length (l : List (Int × Int × ByteArray)) : (row_Grid l).length = l.length * 3 := row0_length cells_Grid 3 cells_Grid_length l
theorem row_Grid_at (l : List (Int × Int × ByteArray)) (k : Nat) (h : k < l.length) (r : Nat) (hr : r < 3) : (row_Grid l)[k * 3 + r]? = (cells_Grid l[k])[r]? := row0_at cells_Grid 3 cells_Grid_length l k h r hr
theorem row_Grid_append (l m : List (Int × Int × ByteArray)) : row_Grid (l ++ m) = row_Grid l ++ row_Grid m := List.flatMap_append ..
theorem row_Grid_one (l : List (Int × Int × ByteArray)) : ∀ u ∈ row_Grid l, u.oneCell' = true := by
  intro u hu
  obtain ⟨z, -, hz⟩ := List.mem_flatMap.1 hu
  simp only [cells_Grid, List.mem_cons, List.not_mem_nil, or_false] at hz
  rcases hz with rfl | rfl | rfl <;> rfl
/-- The slice v reads as the list l. -/
def ReadsGrid (B : Nat) (W : World) (v : Value) (l : List (Int × Int × ByteArray)) : Prop := ReadsV B W v 3 l.length (row_Grid l)
theorem ReadsGrid.cells {B : Nat} {W : World} {v : Value} {l : List (Int × Int × ByteArray)} (h : ReadsGrid B W v l) :
    l.length ≤ 9223372036854775807 ∧ ∃ a0 cap, v = .slice a0 l.length cap ∧ CapOk a0 l.length cap ∧ ∀ j, j < l.length → ∃ b off, a0 = some ⟨b, off, none⟩ ∧ b < B ∧ W.cell? ⟨b, off + j * 3, none⟩ = some (.int .i64 (l.getD j none_Grid).1) ∧ W.cell? ⟨b, off + j * 3 + 1, none⟩ = some (.int .i64 (l.getD j none_Grid).2.1) ∧ W.cell? ⟨b, off + j * 3 + 2, none⟩ = some (.string (l.getD j none_Grid).2.2) := by
  obtain ⟨h0, -, a0, cap, rfl, hc, h⟩ := h
  refine ⟨h0, a0, cap, rfl, hc, fun j hj => ?_⟩
  obtain ⟨b, off, rfl, e2, e3⟩ := h (j * 3) (by omega)
  have hr : ∀ r, r < 3 → W.cell? ⟨b, off + j * 3 + r, none⟩ = (cells_Grid (l.getD j none_Grid))[r]? := fun r hr => by
    obtain ⟨b', off', e1, -, e4⟩ := h (j * 3 + r) (by omega)
    cases e1
    rw [Nat.add_assoc, e4, row_Grid_at l j hj r hr]
    simp [List.getD, hj]
  exact ⟨b, off, rfl, e2, hr 0 (by decide), hr 1 (by decide), hr 2 (by decide)⟩
theorem ReadsGrid.now {W W' : World} {v : Value} {l : List (Int × Int × ByteArray)} (h : ReadsGrid W.heap.size W v l) (hb : Below W.heap.size W W') : ReadsGrid W'.heap.size W' v l := ReadsV.now h hb
theorem reads_Grid_own {W : World} {base m : Nat} {e : TypeId} {v : Value} {l : List (Int × Int × ByteArray)} (h : W.ownsRow base e 3 v m (row_Grid l)) (hn : m = l.length) (hl : l.length ≤ 140737488355328) : ReadsGrid W.heap.size W v l := by
  subst hn
  exact readsV_own h hl
theorem row_Grid_set (m : List (Int × Int × ByteArray)) (k : Nat) (h : k < m.length) (x : Int × Int × ByteArray) : (((row_Grid m).set (k * 3) (.int .i64 x.1)).set (k * 3 + 1) (.int .i64 x.2.1)).set (k * 3 + 2) (.string x.2.2) = row_Grid (m.set k x) := row0_set3 cells_Grid cells_Grid_length m k h x (.int .i64 x.1) (.int .i64 x.2.1) (.string x.2.2) rfl
theorem stored_Grid {w : World} {base g m cap : Nat} {e : TypeId} {l : List (Int × Int × ByteArray)} (h : w.ownsRow base e 3 (.slice (some ⟨g, 0, none⟩) m cap) m (row_Grid l)) (k : Nat) (hk : k < l.length) (x0 : Int) (x1 : Int) (x2 : ByteArray) :
    (((w.setCell ⟨g, k * 3, none⟩ (.int .i64 x0)).setCell ⟨g, k * 3 + 1, none⟩ (.int .i64 x1)).setCell ⟨g, k * 3 + 2, none⟩ (.string x2)).ownsRow base e 3 (.slice (some ⟨g, 0, none⟩) m cap) m (row_Grid (l.set k (x0, x1, x2))) := by
  have h9 := ((h.stored (k * 3) (.int .i64 x0)).1.stored (k * 3 + 1) (.int .i64 x1)).1.stored (k * 3 + 2) (.string x2)
  rw [← row_Grid_set l k hk]
  exact h9.1
/-- What has been copied after k rounds. -/
def copied_Grid (l : List (Int × Int × ByteArray)) (k : Nat) : List Value := row_Grid (l.take k ++ List.replicate (l.length - k) none_Grid)
theorem copied_Grid_full (l : List (Int × Int × ByteArray)) : copied_Grid l l.length = row_Grid l := by
  unfold copied_Grid; simp
theorem copied_Grid_at (l : List (Int × Int × ByteArray)) (k : Nat) (h : k < l.length) (r : Nat) (hr : r < 3) : (copied_Grid l k)[k * 3 + r]? = (cells_Grid none_Grid)[r]? := by
  unfold copied_Grid
  rw [row_Grid_at _ k (by simp; omega) r hr]
  congr 2
  rw [List.getElem_append_right (by rw [List.length_take]; omega)]
  simp
theorem copied_Grid_zero (l : List (Int × Int × ByteArray)) : (madeCells #[.int .i64 0, .int .i64 0, .string ⟨#[]⟩] (l.length * 3)).toList = copied_Grid l 0 := by
  have h9 := row0_made cells_Grid 3 (by decide) cells_Grid_length none_Grid l.length
  unfold copied_Grid
  simp only [List.take_zero, List.nil_append, Nat.sub_zero]
  exact h9
/-- What szGridS tells. -/
def SzGrid (l : List (Int × Int × ByteArray)) (left r : Int) : Prop := -1 ≤ r ∧ (0 ≤ r → r ≤ left ∧ (l.length : Int) ≤ left ∧ ∀ z ∈ l, (z.2.2.size : Int) ≤ left)
/-- What markGridS writes. -/
def mk_Grid (k : Nat) : Int × Int × ByteArray := (((k : Nat) : Int), ((k + 1 : Nat) : Int), mtext (k + 2))
def mks_Grid (k0 m : Nat) : List (Int × Int × ByteArray) := (List.range m).map fun i => mk_Grid (k0 + 3 * i)
theorem mks_Grid_length (k0 m : Nat) : (mks_Grid k0 m).length = m := by simp [mks_Grid]
theorem mks_Grid_getD (k0 m j : Nat) (h : j < m) : (mks_Grid k0 m).getD j none_Grid = mk_Grid (k0 + 3 * j) := by simp [mks_Grid, List.getD, h]
theorem mkd_Grid_set (k0 : Nat) (m : List (Int × Int × ByteArray)) (j : Nat) (h : j < m.length) : (mks_Grid k0 j ++ m.drop j).set j (mk_Grid (k0 + 3 * j)) = mks_Grid k0 (j + 1) ++ m.drop (j + 1) := by
  rw [List.set_append_right _ _ (by simp [mks_Grid_length])]
  have e2 : j - (mks_Grid k0 j).length = 0 := by simp [mks_Grid_length]
  rw [e2, List.drop_eq_getElem_cons h, List.set_cons_zero]
  simp [mks_Grid, List.range_succ]
theorem mkd_Grid_at (k0 : Nat) (m : List (Int × Int × ByteArray)) (j : Nat) (h : j < m.length) (r : Nat) (hr : r < 3) : (row_Grid (mks_Grid k0 j ++ m.drop j))[j * 3 + r]? = (cells_Grid (m.getD j none_Grid))[r]? := by
  rw [row_Grid_at _ j (by rw [List.length_append, mks_Grid_length, List.length_drop]; omega) r hr]
  congr 2
  rw [List.getElem_append_right (by rw [mks_Grid_length]; exact Nat.le_refl _)]
  simp [mks_Grid_length, List.getD, h]
theorem mk_Grid_eq (k0 j : Nat) : mk_Grid (k0 + 3 * j) = ((k0 : Int) + 3 * j, (k0 : Int) + 3 * j + 1, mtext (k0 + 3 * j + 2)) := by
  unfold mk_Grid
  rw [show ((k0 + 3 * j : Nat) : Int) = (k0 : Int) + 3 * j by omega, show ((k0 + 3 * j + 1 : Nat) : Int) = (k0 : Int) + 3 * j + 1 by omega]
end Go.Proofs.YtmhgejljjjmejaaDoor
