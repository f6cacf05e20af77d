/-
  Contracts of the exact laws' helpers on Listed (written by structgen.py).
-/
import Derived.Test.YtmhgejljjjmejaaVals
namespace Go.Proofs.Ytmhgejljjjmejaa
open Go.RowKit

/-- The cells of a Listed. -/
def cells_Listed (x : ByteArray × Int × Int × Int) : List Value := [.string x.1, .int .i64 x.2.1, .int .i64 x.2.2.1, .int .i64 x.2.2.2]
def row_Listed (l : List (ByteArray × Int × Int × Int)) : List Value := l.flatMap cells_Listed
def none_Listed : ByteArray × Int × Int × Int := (⟨#[]⟩, 0, 0, 0)
/-- What a Listed that comes in keeps to. -/
def ok_Listed (x : ByteArray × Int × Int × Int) : Prop := x.1.size ≤ maxLen ∧ (-9223372036854775808 ≤ x.2.1 ∧ x.2.1 ≤ 9223372036854775807) ∧ (-9223372036854775808 ≤ x.2.2.1 ∧ x.2.2.1 ≤ 9223372036854775807) ∧ (-9223372036854775808 ≤ x.2.2.2 ∧ x.2.2.2 ≤ 9223372036854775807)
theorem cells_Listed_length (x : ByteArray × Int × Int × Int) : (cells_Listed x).length = 4 := rfl
theorem row_Listed_length (l : List (ByteArray × Int × Int × Int)) : (row_Listed l).length = l.length * 4 := row0_length cells_Listed 4 cells_Listed_length l
theorem row_Listed_at (l : List (ByteArray × Int × Int × Int)) (k : Nat) (h : k < l.length) (r : Nat) (hr : r < 4) : (row_Listed l)[k * 4 + r]? = (cells_Listed l[k])[r]? := row0_at cells_Listed 4 cells_Listed_length l k h r hr
theorem row_Listed_append (l m : List (ByteArray × Int × Int × Int)) : row_Listed (l ++ m) = row_Listed l ++ row_Listed m := List.flatMap_append ..
theorem row_Listed_one (l : List (ByteArray × Int × Int × Int)) : ∀ u ∈ row_Listed l, u.oneCell' = true := by
  intro u hu
  obtain ⟨z, -, hz⟩ := List.mem_flatMap.1 hu
  simp only [cells_Listed, List.mem_cons, List.not_mem_nil, or_false] at hz
  rcases hz with rfl | rfl | rfl | rfl <;> rfl
/-- The slice v reads as the list l. -/
def ReadsListed (B : Nat) (W : World) (v : Value) (l : List (ByteArray × Int × Int × Int)) : Prop := ReadsV B W v 4 l.length (row_Listed l)
theorem ReadsListed.cells {B : Nat} {W : World} {v : Value} {l : List (ByteArray × Int × Int × Int)} (h : ReadsListed B W v l) :
    l.length ≤ 9223372036854775807 ∧ ∃ a0 cap, v = .slice a0 l.length cap ∧ CapOk a0 l.length cap ∧ ∀ j, j < l.length → ∃ b off, a0 = some ⟨b, off, none⟩ ∧ b < B ∧ W.cell? ⟨b, off + j * 4, none⟩ = some (.string (l.getD j none_Listed).1) ∧ W.cell? ⟨b, off + j * 4 + 1, none⟩ = some (.int .i64 (l.getD j none_Listed).2.1) ∧ W.cell? ⟨b, off + j * 4 + 2, none⟩ = some (.int .i64 (l.getD j none_Listed).2.2.1) ∧ W.cell? ⟨b, off + j * 4 + 3, none⟩ = some (.int .i64 (l.getD j none_Listed).2.2.2) := by
  obtain ⟨h0, -, a0, cap, rfl, hc, h⟩ := h
  refine ⟨h0, a0, cap, rfl, hc, fun j hj => ?_⟩
  obtain ⟨b, off, rfl, e2, e3⟩ := h (j * 4) (by omega)
  have hr : ∀ r, r < 4 → W.cell? ⟨b, off + j * 4 + r, none⟩ = (cells_Listed (l.getD j none_Listed))[r]? := fun r hr => by
    obtain ⟨b', off', e1, -, e4⟩ := h (j * 4 + r) (by omega)
    cases e1
    rw [Nat.add_assoc, e4, row_Listed_at l j hj r hr]
    simp [List.getD, hj]
  exact ⟨b, off, rfl, e2, hr 0 (by decide), hr 1 (by decide), hr 2 (by decide), hr 3 (by decide)⟩
theorem ReadsListed.now {W W' : World} {v : Value} {l : List (ByteArray × Int × Int × Int)} (h : ReadsListed W.heap.size W v l) (hb : Below W.heap.size W W') : ReadsListed W'.heap.size W' v l := ReadsV.now h hb
theorem reads_Listed_own {W : World} {base m : Nat} {e : TypeId} {v : Value} {l : List (ByteArray × Int × Int × Int)} (h : W.ownsRow base e 4 v m (row_Listed l)) (hn : m = l.length) (hl : l.length ≤ 140737488355328) : ReadsListed W.heap.size W v l := by
  subst hn
  exact readsV_own h hl
theorem row_Listed_set (m : List (ByteArray × Int × Int × Int)) (k : Nat) (h : k < m.length) (x : ByteArray × Int × Int × Int) : ((((row_Listed m).set (k * 4) (.string x.1)).set (k * 4 + 1) (.int .i64 x.2.1)).set (k * 4 + 2) (.int .i64 x.2.2.1)).set (k * 4 + 3) (.int .i64 x.2.2.2) = row_Listed (m.set k x) := row0_set4 cells_Listed cells_Listed_length m k h x (.string x.1) (.int .i64 x.2.1) (.int .i64 x.2.2.1) (.int .i64 x.2.2.2) rfl
theorem stored_Listed {w : World} {base g m cap : Nat} {e : TypeId} {l : List (ByteArray × Int × Int × Int)} (h : w.ownsRow base e 4 (.slice (some ⟨g, 0, none⟩) m cap) m (row_Listed l)) (k : Nat) (hk : k < l.length) (x0 : ByteArray) (x1 : Int) (x2 : Int) (x3 : Int) :
    ((((w.setCell ⟨g, k * 4, none⟩ (.string x0)).setCell ⟨g, k * 4 + 1, none⟩ (.int .i64 x1)).setCell ⟨g, k * 4 + 2, none⟩ (.int .i64 x2)).setCell ⟨g, k * 4 + 3, none⟩ (.int .i64 x3)).ownsRow base e 4 (.slice (some ⟨g, 0, none⟩) m cap) m (row_Listed (l.set k (x0, x1, x2, x3))) := by
  have h9 := (((h.stored (k * 4) (.string x0)).1.stored (k * 4 + 1) (.int .i64 x1)).1.stored (k * 4 + 2) (.int .i64 x2)).1.stored (k * 4 + 3) (.int .i64 x3)
  rw [← row_Listed_set l k hk]
  exact h9.1
/-- What has been copied after k rounds. -/
def copied_Listed (l : List (ByteArray × Int × Int × Int)) (k : Nat) : List Value := row_Listed (l.take k ++ List.replicate (l.length - k) none_Listed)
theorem copied_Listed_full (l : List (ByteArray × Int × Int × Int)) : copied_Listed l l.length = row_Listed l := by
  unfold copied_Listed; simp
theorem copied_Listed_at (l : List (ByteArray × Int × Int × Int)) (k : Nat) (h : k < l.length) (r : Nat) (hr : r < 4) : (copied_Listed l k)[k * 4 + r]? = (cells_Listed none_Listed)[r]? := by
  unfold copied_Listed
  rw [row_Listed_at _ k (by simp; omega) r hr]
  congr 2
  rw [List.getElem_append_right (by rw [List.length_take]; omega)]
  simp
theorem copied_Listed_zero (l : List (ByteArray × Int × Int × Int)) : (madeCells #[.string ⟨#[]⟩, .int .i64 0, .int .i64 0, .int .i64 0] (l.length * 4)).toList = copied_Listed l 0 := by
  have h9 := row0_made cells_Listed 4 (by decide) cells_Listed_length none_Listed l.length
  unfold copied_Listed
  simp only [List.take_zero, List.nil_append, Nat.sub_zero]
  exact h9
/-- What szListedS tells. -/
def SzListed (l : List (ByteArray × Int × Int × Int)) (left r : Int) : Prop := -1 ≤ r ∧ (0 ≤ r → r ≤ left ∧ (l.length : Int) ≤ left ∧ ∀ z ∈ l, (z.1.size : Int) ≤ left)
/-- What markListedS writes. -/
def mk_Listed (k : Nat) : ByteArray × Int × Int × Int := (mtext (k), ((k + 1 : Nat) : Int), ((k + 2 : Nat) : Int), ((k + 3 : Nat) : Int))
def mks_Listed (k0 m : Nat) : List (ByteArray × Int × Int × Int) := (List.range m).map fun i => mk_Listed (k0 + 4 * i)
theorem mks_Listed_length (k0 m : Nat) : (mks_Listed k0 m).length = m := by simp [mks_Listed]
theorem mks_Listed_getD (k0 m j : Nat) (h : j < m) : (mks_Listed k0 m).getD j none_Listed = mk_Listed (k0 + 4 * j) := by simp [mks_Listed, List.getD, h]
theorem mkd_Listed_set (k0 : Nat) (m : List (ByteArray × Int × Int × Int)) (j : Nat) (h : j < m.length) : (mks_Listed k0 j ++ m.drop j).set j (mk_Listed (k0 + 4 * j)) = mks_Listed k0 (j + 1) ++ m.drop (j + 1) := by
  rw [List.set_append_right _ _ (by simp [mks_Listed_length])]
  have e2 : j - (mks_Listed k0 j).length = 0 := by simp [mks_Listed_length]
  rw [e2, List.drop_eq_getElem_cons h, List.set_cons_zero]
  simp [mks_Listed, List.range_succ]
theorem mkd_Listed_at (k0 : Nat) (m : List (ByteArray × Int × Int × Int)) (j : Nat) (h : j < m.length) (r : Nat) (hr : r < 4) : (row_Listed (mks_Listed k0 j ++ m.drop j))[j * 4 + r]? = (cells_Listed (m.getD j none_Listed))[r]? := by
  rw [row_Listed_at _ j (by rw [List.length_append, mks_Listed_length, List.length_drop]; omega) r hr]
  congr 2
  rw [List.getElem_append_right (by rw [mks_Listed_length]; exact Nat.le_refl _)]
  simp [mks_Listed_length, List.getD, h]
theorem mk_Listed_eq (k0 j : Nat) : mk_Listed (k0 + 4 * j) = (mtext (k0 + 4 * j), (k0 : Int) + 4 * j + 1, (k0 : Int) + 4 * j + 1 + 1, (k0 : Int) + 4 * j + 1 + 1 + 1) := by
  unfold mk_Listed
  rw [show ((k0 + 4 * j + 1 : Nat) : Int) = (k0 : Int) + 4 * j + 1 by omega, show ((k0 + 4 * j + 2 : Nat) : Int) = (k0 : Int) + 4 * j + 1 + 1 by omega, show ((k0 + 4 * j + 3 : Nat) : Int) = (k0 : Int) + 4 * j + 1 + 1 + 1 by omega]
end Go.Proofs.Ytmhgejljjjmejaa
