/-
  Contracts of the exact laws' helpers on Slot (written by structgen.py).
-/
import Derived.Test.YtmhgejljjjmejaaDoorVals
namespace Go.Proofs.YtmhgejljjjmejaaDoor
open Go.RowKit

theorem info_Slot : (Tryd.prog.info? 33).map (fun i => (i.zero, i.size, i.bytes)) = some (some (.agg #[.int .i64 0, .bool false, .int .i64 0, .int .i64 0]), 4, 32) := by kernel_rfl
/-- The cells of a Slot. -/
def cells_Slot (x : Int × Bool × Int × Int) : List Value := [.int .i64 x.1, .bool x.2.1, .int .i64 x.2.2.1, .int .i64 x.2.2.2]
def row_Slot (l : List (Int × Bool × Int × Int)) : List Value := l.flatMap cells_Slot
def none_Slot : Int × Bool × Int × Int := (0, false, 0, 0)
/-- What a Slot that comes in keeps to. -/
def ok_Slot (x : Int × Bool × Int × Int) : Prop := (-9223372036854775808 ≤ x.1 ∧ x.1 ≤ 9223372036854775807) ∧ True ∧ (-9223372036854775808 ≤ x.2.2.1 ∧ x.2.2.1 ≤ 9223372036854775807) ∧ (-9223372036854775808 ≤ x.2.2.2 ∧ x.2.2.2 ≤ 9223372036854775807)
theorem cells_Slot_length (x : Int × Bool × Int × Int) : (cells_Slot x).length = 4 := rfl
theorem row_Slot_length (l : List (Int × Bool × Int × Int)) : (row_Slot l).length = l.length * 4 := row0_length cells_Slot 4 cells_Slot_length l
theorem row_Slot_at (l : List (Int × Bool × Int × Int)) (k : Nat) (h : k < l.length) (r : Nat) (hr : r < 4) : (row_Slot l)[k * 4 + r]? = (cells_Slot l[k])[r]? := row0_at cells_Slot 4 cells_Slot_length l k h r hr
theorem row_Slot_append (l m : List (Int × Bool × Int × Int)) : row_Slot (l ++ m) = row_Slot l ++ row_Slot m := List.flatMap_append ..
theorem row_Slot_one (l : List (Int × Bool × Int × Int)) : ∀ u ∈ row_Slot l, u.oneCell' = true := by
  intro u hu
  obtain ⟨z, -, hz⟩ := List.mem_flatMap.1 hu
  simp only [cells_Slot, List.mem_cons, List.not_mem_nil, or_false] at hz
  rcases hz with rfl | rfl | rfl | rfl <;> rfl
/-- The slice v reads as the list l. -/
def ReadsSlot (B : Nat) (W : World) (v : Value) (l : List (Int × Bool × Int × Int)) : Prop := ReadsV B W v 4 l.length (row_Slot l)
theorem ReadsSlot.cells {B : Nat} {W : World} {v : Value} {l : List (Int × Bool × Int × Int)} (h : ReadsSlot B W v l) :
    l.length ≤ 9223372036854775807 ∧ ∃ a0 cap, v = .slice a0 l.length cap ∧ CapOk a0 l.length cap ∧ ∀ j, j < l.length → ∃ b off, a0 = some ⟨b, off, none⟩ ∧ b < B ∧ W.cell? ⟨b, off + j * 4, none⟩ = some (.int .i64 (l.getD j none_Slot).1) ∧ W.cell? ⟨b, off + j * 4 + 1, none⟩ = some (.bool (l.getD j none_Slot).2.1) ∧ W.cell? ⟨b, off + j * 4 + 2, none⟩ = some (.int .i64 (l.getD j none_Slot).2.2.1) ∧ W.cell? ⟨b, off + j * 4 + 3, none⟩ = some (.int .i64 (l.getD j none_Slot).2.2.2) := by
  obtain ⟨h0, -, a0, cap, rfl, hc, h⟩ := h
  refine ⟨h0, a0, cap, rfl, hc, fun j hj => ?_⟩
  obtain ⟨b, off, rfl, e2, e3⟩ := h (j * 4) (by omega)
  have hr : ∀ r, r < 4 → W.cell? ⟨b, off + j * 4 + r, none⟩ = (cells_Slot (l.getD j none_Slot))[r]? := fun r hr => by
    obtain ⟨b', off', e1, -, e4⟩ := h (j * 4 + r) (by omega)
    cases e1
    rw [Nat.add_assoc, e4, row_Slot_at l j hj r hr]
    simp [List.getD, hj]
  exact ⟨b, off, rfl, e2, hr 0 (by decide), hr 1 (by decide), hr 2 (by decide), hr 3 (by decide)⟩
theorem ReadsSlot.now {W W' : World} {v : Value} {l : List (Int × Bool × Int × Int)} (h : ReadsSlot W.heap.size W v l) (hb : Below W.heap.size W W') : ReadsSlot W'.heap.size W' v l := ReadsV.now h hb
theorem reads_Slot_own {W : World} {base m : Nat} {e : TypeId} {v : Value} {l : List (Int × Bool × Int × Int)} (h : W.ownsRow base e 4 v m (row_Slot l)) (hn : m = l.length) (hl : l.length ≤ 140737488355328) : ReadsSlot W.heap.size W v l := by
  subst hn
  exact readsV_own h hl
theorem row_Slot_set (m : List (Int × Bool × Int × Int)) (k : Nat) (h : k < m.length) (x : Int × Bool × Int × Int) : ((((row_Slot m).set (k * 4) (.int .i64 x.1)).set (k * 4 + 1) (.bool x.2.1)).set (k * 4 + 2) (.int .i64 x.2.2.1)).set (k * 4 + 3) (.int .i64 x.2.2.2) = row_Slot (m.set k x) := row0_set4 cells_Slot cells_Slot_length m k h x (.int .i64 x.1) (.bool x.2.1) (.int .i64 x.2.2.1) (.int .i64 x.2.2.2) rfl
theorem stored_Slot {w : World} {base g m cap : Nat} {e : TypeId} {l : List (Int × Bool × Int × Int)} (h : w.ownsRow base e 4 (.slice (some ⟨g, 0, none⟩) m cap) m (row_Slot l)) (k : Nat) (hk : k < l.length) (x0 : Int) (x1 : Bool) (x2 : Int) (x3 : Int) :
    ((((w.setCell ⟨g, k * 4, none⟩ (.int .i64 x0)).setCell ⟨g, k * 4 + 1, none⟩ (.bool x1)).setCell ⟨g, k * 4 + 2, none⟩ (.int .i64 x2)).setCell ⟨g, k * 4 + 3, none⟩ (.int .i64 x3)).ownsRow base e 4 (.slice (some ⟨g, 0, none⟩) m cap) m (row_Slot (l.set k (x0, x1, x2, x3))) := by
  have h9 := (((h.stored (k * 4) (.int .i64 x0)).1.stored (k * 4 + 1) (.bool x1)).1.stored (k * 4 + 2) (.int .i64 x2)).1.stored (k * 4 + 3) (.int .i64 x3)
  rw [← row_Slot_set l k hk]
  exact h9.1
/-- What has been copied after k rounds. -/
def copied_Slot (l : List (Int × Bool × Int × Int)) (k : Nat) : List Value := row_Slot (l.take k ++ List.replicate (l.length - k) none_Slot)
theorem copied_Slot_full (l : List (Int × Bool × Int × Int)) : copied_Slot l l.length = row_Slot l := by
  unfold copied_Slot; simp
theorem copied_Slot_at (l : List (Int × Bool × Int × Int)) (k : Nat) (h : k < l.length) (r : Nat) (hr : r < 4) : (copied_Slot l k)[k * 4 + r]? = (cells_Slot none_Slot)[r]? := by
  unfold copied_Slot
  rw [row_Slot_at _ k (by simp; omega) r hr]
  congr 2
  rw [List.getElem_append_right (by rw [List.length_take]; omega)]
  simp
theorem copied_Slot_zero (l : List (Int × Bool × Int × Int)) : (madeCells #[.int .i64 0, .bool false, .int .i64 0, .int .i64 0] (l.length * 4)).toList = copied_Slot l 0 := by
  have h9 := row0_made cells_Slot 4 (by decide) cells_Slot_length none_Slot l.length
  unfold copied_Slot
  simp only [List.take_zero, List.nil_append, Nat.sub_zero]
  exact h9
/-- What markSlotS writes. -/
def mk_Slot (k : Nat) : Int × Bool × Int × Int := (((k : Nat) : Int), decide ((((k + 1 : Nat)) : Int) % 3 = 0), ((k + 2 : Nat) : Int), ((k + 3 : Nat) : Int))
def mks_Slot (k0 m : Nat) : List (Int × Bool × Int × Int) := (List.range m).map fun i => mk_Slot (k0 + 4 * i)
theorem mks_Slot_length (k0 m : Nat) : (mks_Slot k0 m).length = m := by simp [mks_Slot]
theorem mks_Slot_getD (k0 m j : Nat) (h : j < m) : (mks_Slot k0 m).getD j none_Slot = mk_Slot (k0 + 4 * j) := by simp [mks_Slot, List.getD, h]
theorem mkd_Slot_set (k0 : Nat) (m : List (Int × Bool × Int × Int)) (j : Nat) (h : j < m.length) : (mks_Slot k0 j ++ m.drop j).set j (mk_Slot (k0 + 4 * j)) = mks_Slot k0 (j + 1) ++ m.drop (j + 1) := by
  rw [List.set_append_right _ _ (by simp [mks_Slot_length])]
  have e2 : j - (mks_Slot k0 j).length = 0 := by simp [mks_Slot_length]
  rw [e2, List.drop_eq_getElem_cons h, List.set_cons_zero]
  simp [mks_Slot, List.range_succ]
theorem mkd_Slot_at (k0 : Nat) (m : List (Int × Bool × Int × Int)) (j : Nat) (h : j < m.length) (r : Nat) (hr : r < 4) : (row_Slot (mks_Slot k0 j ++ m.drop j))[j * 4 + r]? = (cells_Slot (m.getD j none_Slot))[r]? := by
  rw [row_Slot_at _ j (by rw [List.length_append, mks_Slot_length, List.length_drop]; omega) r hr]
  congr 2
  rw [List.getElem_append_right (by rw [mks_Slot_length]; exact Nat.le_refl _)]
  simp [mks_Slot_length, List.getD, h]
theorem mk_Slot_eq (k0 j : Nat) : mk_Slot (k0 + 4 * j) = ((k0 : Int) + 4 * j, decide (((k0 : Int) + 4 * j + 1) % 3 = 0), (k0 : Int) + 4 * j + 1 + 1, (k0 : Int) + 4 * j + 1 + 1 + 1) := by
  unfold mk_Slot
  rw [show ((k0 + 4 * j : Nat) : Int) = (k0 : Int) + 4 * j by omega, show ((k0 + 4 * j + 1 : Nat) : Int) = (k0 : Int) + 4 * j + 1 by omega, show ((k0 + 4 * j + 2 : Nat) : Int) = (k0 : Int) + 4 * j + 1 + 1 by omega, show ((k0 + 4 * j + 3 : Nat) : Int) = (k0 : Int) + 4 * j + 1 + 1 + 1 by omega]
end Go.Proofs.YtmhgejljjjmejaaDoor
