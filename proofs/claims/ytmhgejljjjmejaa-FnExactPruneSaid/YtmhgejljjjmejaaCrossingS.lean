/-
  Contracts of the exact laws' helpers on Crossing (written by structgen.py).
-/
import Derived.Test.YtmhgejljjjmejaaVals
namespace Go.Proofs.Ytmhgejljjjmejaa
open Go.RowKit

theorem info_Crossing : (Try.prog.info? 59).map (fun i => (i.zero, i.size, i.bytes)) = some (some (.agg #[.int .i64 0, .int .i64 0, .int .i64 0, .int .i64 0, .int .i64 0]), 5, 40) := by kernel_rfl
/-- The cells of a Crossing. -/
def cells_Crossing (x : Int × Int × Int × Int × Int) : List Value := [.int .i64 x.1, .int .i64 x.2.1, .int .i64 x.2.2.1, .int .i64 x.2.2.2.1, .int .i64 x.2.2.2.2]
def row_Crossing (l : List (Int × Int × Int × Int × Int)) : List Value := l.flatMap cells_Crossing
def none_Crossing : Int × Int × Int × Int × Int := (0, 0, 0, 0, 0)
/-- What a Crossing that comes in keeps to. -/
def ok_Crossing (x : Int × Int × Int × Int × Int) : Prop := (-9223372036854775808 ≤ x.1 ∧ x.1 ≤ 9223372036854775807) ∧ (-9223372036854775808 ≤ x.2.1 ∧ x.2.1 ≤ 9223372036854775807) ∧ (-9223372036854775808 ≤ x.2.2.1 ∧ x.2.2.1 ≤ 9223372036854775807) ∧ (-9223372036854775808 ≤ x.2.2.2.1 ∧ x.2.2.2.1 ≤ 9223372036854775807) ∧ (-9223372036854775808 ≤ x.2.2.2.2 ∧ x.2.2.2.2 ≤ 9223372036854775807)
theorem cells_Crossing_length (x : Int × Int × Int × Int × Int) : (cells_Crossing x).length = 5 := rfl
theorem row_Crossing_length (l : List (Int × Int × Int × Int × Int)) : (row_Crossing l).length = l.length * 5 := row0_length cells_Crossing 5 cells_Crossing_length l
theorem row_Crossing_at (l : List (Int × Int × Int × Int × Int)) (k : Nat) (h : k < l.length) (r : Nat) (hr : r < 5) : (row_Crossing l)[k * 5 + r]? = (cells_Crossing l[k])[r]? := row0_at cells_Crossing 5 cells_Crossing_length l k h r hr
theorem row_Crossing_append (l m : List (Int × Int × Int × Int × Int)) : row_Crossing (l ++ m) = row_Crossing l ++ row_Crossing m := List.flatMap_append ..
theorem row_Crossing_one (l : List (Int × Int × Int × Int × Int)) : ∀ u ∈ row_Crossing l, u.oneCell' = true := by
  intro u hu
  obtain ⟨z, -, hz⟩ := List.mem_flatMap.1 hu
  simp only [cells_Crossing, List.mem_cons, List.not_mem_nil, or_false] at hz
  rcases hz with rfl | rfl | rfl | rfl | rfl <;> rfl
/-- The slice v reads as the list l. -/
def ReadsCrossing (B : Nat) (W : World) (v : Value) (l : List (Int × Int × Int × Int × Int)) : Prop := ReadsV B W v 5 l.length (row_Crossing l)
theorem ReadsCrossing.cells {B : Nat} {W : World} {v : Value} {l : List (Int × Int × Int × Int × Int)} (h : ReadsCrossing B W v l) :
    l.length ≤ 9223372036854775807 ∧ ∃ a0 cap, v = .slice a0 l.length cap ∧ CapOk a0 l.length cap ∧ ∀ j, j < l.length → ∃ b off, a0 = some ⟨b, off, none⟩ ∧ b < B ∧ W.cell? ⟨b, off + j * 5, none⟩ = some (.int .i64 (l.getD j none_Crossing).1) ∧ W.cell? ⟨b, off + j * 5 + 1, none⟩ = some (.int .i64 (l.getD j none_Crossing).2.1) ∧ W.cell? ⟨b, off + j * 5 + 2, none⟩ = some (.int .i64 (l.getD j none_Crossing).2.2.1) ∧ W.cell? ⟨b, off + j * 5 + 3, none⟩ = some (.int .i64 (l.getD j none_Crossing).2.2.2.1) ∧ W.cell? ⟨b, off + j * 5 + 4, none⟩ = some (.int .i64 (l.getD j none_Crossing).2.2.2.2) := by
  obtain ⟨h0, -, a0, cap, rfl, hc, h⟩ := h
  refine ⟨h0, a0, cap, rfl, hc, fun j hj => ?_⟩
  obtain ⟨b, off, rfl, e2, e3⟩ := h (j * 5) (by omega)
  have hr : ∀ r, r < 5 → W.cell? ⟨b, off + j * 5 + r, none⟩ = (cells_Crossing (l.getD j none_Crossing))[r]? := fun r hr => by
    obtain ⟨b', off', e1, -, e4⟩ := h (j * 5 + r) (by omega)
    cases e1
    rw [Nat.add_assoc, e4, row_Crossing_at l j hj r hr]
    simp [List.getD, hj]
  exact ⟨b, off, rfl, e2, hr 0 (by decide), hr 1 (by decide), hr 2 (by decide), hr 3 (by decide), hr 4 (by decide)⟩
theorem ReadsCrossing.now {W W' : World} {v : Value} {l : List (Int × Int × Int × Int × Int)} (h : ReadsCrossing W.heap.size W v l) (hb : Below W.heap.size W W') : ReadsCrossing W'.heap.size W' v l := ReadsV.now h hb
theorem reads_Crossing_own {W : World} {base m : Nat} {e : TypeId} {v : Value} {l : List (Int × Int × Int × Int × Int)} (h : W.ownsRow base e 5 v m (row_Crossing l)) (hn : m = l.length) (hl : l.length ≤ 140737488355328) : ReadsCrossing W.heap.size W v l := by
  subst hn
  exact readsV_own h hl
theorem row_Crossing_set (m : List (Int × Int × Int × Int × Int)) (k : Nat) (h : k < m.length) (x : Int × Int × Int × Int × Int) : (((((row_Crossing m).set (k * 5) (.int .i64 x.1)).set (k * 5 + 1) (.int .i64 x.2.1)).set (k * 5 + 2) (.int .i64 x.2.2.1)).set (k * 5 + 3) (.int .i64 x.2.2.2.1)).set (k * 5 + 4) (.int .i64 x.2.2.2.2) = row_Crossing (m.set k x) := row0_set5 cells_Crossing cells_Crossing_length m k h x (.int .i64 x.1) (.int .i64 x.2.1) (.int .i64 x.2.2.1) (.int .i64 x.2.2.2.1) (.int .i64 x.2.2.2.2) rfl
theorem stored_Crossing {w : World} {base g m cap : Nat} {e : TypeId} {l : List (Int × Int × Int × Int × Int)} (h : w.ownsRow base e 5 (.slice (some ⟨g, 0, none⟩) m cap) m (row_Crossing l)) (k : Nat) (hk : k < l.length) (x0 : Int) (x1 : Int) (x2 : Int) (x3 : Int) (x4 : Int) :
    (((((w.setCell ⟨g, k * 5, none⟩ (.int .i64 x0)).setCell ⟨g, k * 5 + 1, none⟩ (.int .i64 x1)).setCell ⟨g, k * 5 + 2, none⟩ (.int .i64 x2)).setCell ⟨g, k * 5 + 3, none⟩ (.int .i64 x3)).setCell ⟨g, k * 5 + 4, none⟩ (.int .i64 x4)).ownsRow base e 5 (.slice (some ⟨g, 0, none⟩) m cap) m (row_Crossing (l.set k (x0, x1, x2, x3, x4))) := by
  have h9 := ((((h.stored (k * 5) (.int .i64 x0)).1.stored (k * 5 + 1) (.int .i64 x1)).1.stored (k * 5 + 2) (.int .i64 x2)).1.stored (k * 5 + 3) (.int .i64 x3)).1.stored (k * 5 + 4) (.int .i64 x4)
  rw [← row_Crossing_set l k hk]
  exact h9.1
/-- What has been copied after k rounds. -/
def copied_Crossing (l : List (Int × Int × Int × Int × Int)) (k : Nat) : List Value := row_Crossing (l.take k ++ List.replicate (l.length - k) none_Crossing)
theorem copied_Crossing_full (l : List (Int × Int × Int × Int × Int)) : copied_Crossing l l.length = row_Crossing l := by
  unfold copied_Crossing; simp
theorem copied_Crossing_at (l : List (Int × Int × Int × Int × Int)) (k : Nat) (h : k < l.length) (r : Nat) (hr : r < 5) : (copied_Crossing l k)[k * 5 + r]? = (cells_Crossing none_Crossing)[r]? := by
  unfold copied_Crossing
  rw [row_Crossing_at _ k (by simp; omega) r hr]
  congr 2
  rw [List.getElem_append_right (by rw [List.length_take]; omega)]
  simp
theorem copied_Crossing_zero (l : List (Int × Int × Int × Int × Int)) : (madeCells #[.int .i64 0, .int .i64 0, .int .i64 0, .int .i64 0, .int .i64 0] (l.length * 5)).toList = copied_Crossing l 0 := by
  have h9 := row0_made cells_Crossing 5 (by decide) cells_Crossing_length none_Crossing l.length
  unfold copied_Crossing
  simp only [List.take_zero, List.nil_append, Nat.sub_zero]
  exact h9
/-- What markCrossingS writes. -/
def mk_Crossing (k : Nat) : Int × Int × Int × Int × Int := (((k : Nat) : Int), ((k + 1 : Nat) : Int), ((k + 2 : Nat) : Int), ((k + 3 : Nat) : Int), ((k + 4 : Nat) : Int))
def mks_Crossing (k0 m : Nat) : List (Int × Int × Int × Int × Int) := (List.range m).map fun i => mk_Crossing (k0 + 5 * i)
theorem mks_Crossing_length (k0 m : Nat) : (mks_Crossing k0 m).length = m := by simp [mks_Crossing]
theorem mks_Crossing_getD (k0 m j : Nat) (h : j < m) : (mks_Crossing k0 m).getD j none_Crossing = mk_Crossing (k0 + 5 * j) := by simp [mks_Crossing, List.getD, h]
theorem mkd_Crossing_set (k0 : Nat) (m : List (Int × Int × Int × Int × Int)) (j : Nat) (h : j < m.length) : (mks_Crossing k0 j ++ m.drop j).set j (mk_Crossing (k0 + 5 * j)) = mks_Crossing k0 (j + 1) ++ m.drop (j + 1) := by
  rw [List.set_append_right _ _ (by simp [mks_Crossing_length])]
  have e2 : j - (mks_Crossing k0 j).length = 0 := by simp [mks_Crossing_length]
  rw [e2, List.drop_eq_getElem_cons h, List.set_cons_zero]
  simp [mks_Crossing, List.range_succ]
theorem mkd_Crossing_at (k0 : Nat) (m : List (Int × Int × Int × Int × Int)) (j : Nat) (h : j < m.length) (r : Nat) (hr : r < 5) : (row_Crossing (mks_Crossing k0 j ++ m.drop j))[j * 5 + r]? = (cells_Crossing (m.getD j none_Crossing))[r]? := by
  rw [row_Crossing_at _ j (by rw [List.length_append, mks_Crossing_length, List.length_drop]; omega) r hr]
  congr 2
  rw [List.getElem_append_right (by rw [mks_Crossing_length]; exact Nat.le_refl _)]
  simp [mks_Crossing_length, List.getD, h]
theorem mk_Crossing_eq (k0 j : Nat) : mk_Crossing (k0 + 5 * j) = ((k0 : Int) + 5 * j, (k0 : Int) + 5 * j + 1, (k0 : Int) + 5 * j + 1 + 1, (k0 : Int) + 5 * j + 1 + 1 + 1, (k0 : Int) + 5 * j + 1 + 1 + 1 + 1) := by
  unfold mk_Crossing
  rw [show ((k0 + 5 * j : Nat) : Int) = (k0 : Int) + 5 * j by omega, show ((k0 + 5 * j + 1 : Nat) : Int) = (k0 : Int) + 5 * j + 1 by omega, show ((k0 + 5 * j + 2 : Nat) : Int) = (k0 : Int) + 5 * j + 1 + 1 by omega, show ((k0 + 5 * j + 3 : Nat) : Int) = (k0 : Int) + 5 * j + 1 + 1 + 1 by omega, show ((k0 + 5 * j + 4 : Nat) : Int) = (k0 : Int) + 5 * j + 1 + 1 + 1 + 1 by omega]
end Go.Proofs.Ytmhgejljjjmejaa
