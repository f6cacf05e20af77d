/-
  Contracts of the exact laws' helpers on Listed (written by structgen.py).
  The model's contracts of chapter 5.
  The program's contracts of slices.Index, slices.Contains at strings and of HasWord.
-/
import Derived.Test.YtgjijmcedonlmaaGreatDoorVals
import Derived.Test.YtgjijmcedonlmaaGreatDoorWordP
namespace Go.Proofs.YtgjijmcedonlmaaGreatDoor
open Go.RowKit

/-- The cells of a Listed. -/
def cells_Listed (x : ByteArray × Int × Int × Int) : List Value := [.string x.1, .int .i64 x.2.1, .int .i64 x.2.2.1, .int .i64 x.2.2.2]
def row_Listed (l : List (ByteArray × Int × Int × Int)) : List Value := l.flatMap cells_Listed
def none_Listed : ByteArray × Int × Int × Int := (⟨#[]⟩, 0, 0, 0)
/-- What a Listed that comes in keeps to. -/
def ok_Listed (x : ByteArray × Int × Int × Int) : Prop := x.1.size ≤ maxLen ∧ (-9223372036854775808 ≤ x.2.1 ∧ x.2.1 ≤ 9223372036854775807) ∧ (-9223372036854775808 ≤ x.2.2.1 ∧ x.2.2.1 ≤ 9223372036854775807) ∧ (-9223372036854775808 ≤ x.2.2.2 ∧ x.2.2.2 ≤ 9223372036854775807)
theorem cells_Listed_length (x : ByteArray × Int × Int × Int) : (cells_Listed x).length = 4 := rfl
theorem row_Listed_length (l : List (ByteArray × Int × Int × Int)) : (row_Listed l).length = l.length * 4 := row0_length cells_Listed 4 cells_Listed_length l
theorem row_Listed_at (l : List (ByteArray × Int × Int × Int)) (k : Nat) (h : k < l.length) (r : Nat) (hr : r < 4) : (row_Listed l)[k * 4 + r]? = (cells_Listed l[k])[r]? := row0_at cells_Listed 4 cells_Listed_length l k h r hr
theorem row_Listed_append (l m : List (ByteArray × Int × Int × Int)) : row_Listed (l ++ m) = row_Listed l ++ row_Listed m := List.flatMap_append ..
theorem row_Listed_one (l : List (ByteArray × Int × Int × Int)) : ∀ u ∈ row_Listed l, u.oneCell' = true := by
  intro u hu
  obtain ⟨z, -, hz⟩ := List.mem_flatMap.1 hu
  simp only [cells_Listed, List.mem_cons, List.not_mem_nil, or_false] at hz
  rcases hz with rfl | rfl | rfl | rfl <;> rfl
/-- The slice v reads as the list l. -/
def ReadsListed (B : Nat) (W : World) (v : Value) (l : List (ByteArray × Int × Int × Int)) : Prop := ReadsV B W v 4 l.length (row_Listed l)
theorem ReadsListed.cells {B : Nat} {W : World} {v : Value} {l : List (ByteArray × Int × Int × Int)} (h : ReadsListed B W v l) :
    l.length ≤ 9223372036854775807 ∧ ∃ a0 cap, v = .slice a0 l.length cap ∧ CapOk a0 l.length cap ∧ ∀ j, j < l.length → ∃ b off, a0 = some ⟨b, off, none⟩ ∧ b < B ∧ W.cell? ⟨b, off + j * 4, none⟩ = some (.string (l.getD j none_Listed).1) ∧ W.cell? ⟨b, off + j * 4 + 1, none⟩ = some (.int .i64 (l.getD j none_Listed).2.1) ∧ W.cell? ⟨b, off + j * 4 + 2, none⟩ = some (.int .i64 (l.getD j none_Listed).2.2.1) ∧ W.cell? ⟨b, off + j * 4 + 3, none⟩ = some (.int .i64 (l.getD j none_Listed).2.2.2) := by
  obtain ⟨h0, -, a0, cap, rfl, hc, h⟩ := h
  refine ⟨h0, a0, cap, rfl, hc, fun j hj => ?_⟩
  obtain ⟨b, off, rfl, e2, e3⟩ := h (j * 4) (by omega)
  have hr : ∀ r, r < 4 → W.cell? ⟨b, off + j * 4 + r, none⟩ = (cells_Listed (l.getD j none_Listed))[r]? := fun r hr => by
    obtain ⟨b', off', e1, -, e4⟩ := h (j * 4 + r) (by omega)
    cases e1
    rw [Nat.add_assoc, e4, row_Listed_at l j hj r hr]
    simp [List.getD, hj]
  exact ⟨b, off, rfl, e2, hr 0 (by decide), hr 1 (by decide), hr 2 (by decide), hr 3 (by decide)⟩
theorem ReadsListed.now {W W' : World} {v : Value} {l : List (ByteArray × Int × Int × Int)} (h : ReadsListed W.heap.size W v l) (hb : Below W.heap.size W W') : ReadsListed W'.heap.size W' v l := ReadsV.now h hb
theorem reads_Listed_own {W : World} {base m : Nat} {e : TypeId} {v : Value} {l : List (ByteArray × Int × Int × Int)} (h : W.ownsRow base e 4 v m (row_Listed l)) (hn : m = l.length) (hl : l.length ≤ 140737488355328) : ReadsListed W.heap.size W v l := by
  subst hn
  exact readsV_own h hl
theorem row_Listed_set (m : List (ByteArray × Int × Int × Int)) (k : Nat) (h : k < m.length) (x : ByteArray × Int × Int × Int) : ((((row_Listed m).set (k * 4) (.string x.1)).set (k * 4 + 1) (.int .i64 x.2.1)).set (k * 4 + 2) (.int .i64 x.2.2.1)).set (k * 4 + 3) (.int .i64 x.2.2.2) = row_Listed (m.set k x) := row0_set4 cells_Listed cells_Listed_length m k h x (.string x.1) (.int .i64 x.2.1) (.int .i64 x.2.2.1) (.int .i64 x.2.2.2) rfl
theorem stored_Listed {w : World} {base g m cap : Nat} {e : TypeId} {l : List (ByteArray × Int × Int × Int)} (h : w.ownsRow base e 4 (.slice (some ⟨g, 0, none⟩) m cap) m (row_Listed l)) (k : Nat) (hk : k < l.length) (x0 : ByteArray) (x1 : Int) (x2 : Int) (x3 : Int) :
    ((((w.setCell ⟨g, k * 4, none⟩ (.string x0)).setCell ⟨g, k * 4 + 1, none⟩ (.int .i64 x1)).setCell ⟨g, k * 4 + 2, none⟩ (.int .i64 x2)).setCell ⟨g, k * 4 + 3, none⟩ (.int .i64 x3)).ownsRow base e 4 (.slice (some ⟨g, 0, none⟩) m cap) m (row_Listed (l.set k (x0, x1, x2, x3))) := by
  have h9 := (((h.stored (k * 4) (.string x0)).1.stored (k * 4 + 1) (.int .i64 x1)).1.stored (k * 4 + 2) (.int .i64 x2)).1.stored (k * 4 + 3) (.int .i64 x3)
  rw [← row_Listed_set l k hk]
  exact h9.1
/-- What has been copied after k rounds. -/
def copied_Listed (l : List (ByteArray × Int × Int × Int)) (k : Nat) : List Value := row_Listed (l.take k ++ List.replicate (l.length - k) none_Listed)
theorem copied_Listed_full (l : List (ByteArray × Int × Int × Int)) : copied_Listed l l.length = row_Listed l := by
  unfold copied_Listed; simp
theorem copied_Listed_at (l : List (ByteArray × Int × Int × Int)) (k : Nat) (h : k < l.length) (r : Nat) (hr : r < 4) : (copied_Listed l k)[k * 4 + r]? = (cells_Listed none_Listed)[r]? := by
  unfold copied_Listed
  rw [row_Listed_at _ k (by simp; omega) r hr]
  congr 2
  rw [List.getElem_append_right (by rw [List.length_take]; omega)]
  simp
theorem copied_Listed_zero (l : List (ByteArray × Int × Int × Int)) : (madeCells #[.string ⟨#[]⟩, .int .i64 0, .int .i64 0, .int .i64 0] (l.length * 4)).toList = copied_Listed l 0 := by
  have h9 := row0_made cells_Listed 4 (by decide) cells_Listed_length none_Listed l.length
  unfold copied_Listed
  simp only [List.take_zero, List.nil_append, Nat.sub_zero]
  exact h9
/-- What szListedS tells. -/
def SzListed (l : List (ByteArray × Int × Int × Int)) (left r : Int) : Prop := -1 ≤ r ∧ (0 ≤ r → r ≤ left ∧ (l.length : Int) ≤ left ∧ ∀ z ∈ l, (z.1.size : Int) ≤ left)
/-- What markListedS writes. -/
def mk_Listed (k : Nat) : ByteArray × Int × Int × Int := (mtext (k), ((k + 1 : Nat) : Int), ((k + 2 : Nat) : Int), ((k + 3 : Nat) : Int))
def mks_Listed (k0 m : Nat) : List (ByteArray × Int × Int × Int) := (List.range m).map fun i => mk_Listed (k0 + 4 * i)
theorem mks_Listed_length (k0 m : Nat) : (mks_Listed k0 m).length = m := by simp [mks_Listed]
theorem mks_Listed_getD (k0 m j : Nat) (h : j < m) : (mks_Listed k0 m).getD j none_Listed = mk_Listed (k0 + 4 * j) := by simp [mks_Listed, List.getD, h]
theorem mkd_Listed_set (k0 : Nat) (m : List (ByteArray × Int × Int × Int)) (j : Nat) (h : j < m.length) : (mks_Listed k0 j ++ m.drop j).set j (mk_Listed (k0 + 4 * j)) = mks_Listed k0 (j + 1) ++ m.drop (j + 1) := by
  rw [List.set_append_right _ _ (by simp [mks_Listed_length])]
  have e2 : j - (mks_Listed k0 j).length = 0 := by simp [mks_Listed_length]
  rw [e2, List.drop_eq_getElem_cons h, List.set_cons_zero]
  simp [mks_Listed, List.range_succ]
theorem mkd_Listed_at (k0 : Nat) (m : List (ByteArray × Int × Int × Int)) (j : Nat) (h : j < m.length) (r : Nat) (hr : r < 4) : (row_Listed (mks_Listed k0 j ++ m.drop j))[j * 4 + r]? = (cells_Listed (m.getD j none_Listed))[r]? := by
  rw [row_Listed_at _ j (by rw [List.length_append, mks_Listed_length, List.length_drop]; omega) r hr]
  congr 2
  rw [List.getElem_append_right (by rw [mks_Listed_length]; exact Nat.le_refl _)]
  simp [mks_Listed_length, List.getD, h]
theorem mk_Listed_eq (k0 j : Nat) : mk_Listed (k0 + 4 * j) = (mtext (k0 + 4 * j), (k0 : Int) + 4 * j + 1, (k0 : Int) + 4 * j + 1 + 1, (k0 : Int) + 4 * j + 1 + 1 + 1) := by
  unfold mk_Listed
  rw [show ((k0 + 4 * j + 1 : Nat) : Int) = (k0 : Int) + 4 * j + 1 by omega, show ((k0 + 4 * j + 2 : Nat) : Int) = (k0 : Int) + 4 * j + 1 + 1 by omega, show ((k0 + 4 * j + 3 : Nat) : Int) = (k0 : Int) + 4 * j + 1 + 1 + 1 by omega]
end Go.Proofs.YtgjijmcedonlmaaGreatDoor
namespace Go.Proofs.YtgjijmcedonlmaaGreatDoor
open Go.RowKit

/-- What HasWord answers. -/
def hasW (l : List ByteArray) (x : ByteArray) : Bool := l.any fun y => decide (y = x)
theorem hasW_no {l : List ByteArray} {x : ByteArray} (h : ∀ y ∈ l, y ≠ x) : hasW l x = false := by
  unfold hasW
  rw [List.any_eq_false]
  intro y hy
  simpa using h y hy
theorem hasW_yes {l : List ByteArray} {x : ByteArray} (h : x ∈ l) : hasW l x = true := by
  unfold hasW
  rw [List.any_eq_true]
  exact ⟨x, h, by simp⟩
theorem str_ne {a b : ByteArray} (h : a ≠ b) : (a.toList == b.toList) = false := by rw [str_beq]; exact decide_eq_false h
theorem getD_mem {α : Type} (l : List α) (k : Nat) (d : α) (h : k < l.length) : l.getD k d ∈ l := by
  rw [List.getD_eq_getElem?_getD, List.getElem?_eq_getElem h]
  exact List.getElem_mem h
theorem take_next {α : Type} (l : List α) (k : Nat) (d : α) (h : k < l.length) : l.take (k + 1) = l.take k ++ [l.getD k d] := by
  rw [List.take_succ_eq_append_getElem h, List.getD_eq_getElem?_getD, List.getElem?_eq_getElem h]
  rfl

/-- What l5Find answers. -/
def findL (l : List (ByteArray × Int × Int × Int)) (x : ByteArray) : Int := if l.findIdx (fun y => decide (y.1 = x)) < l.length then l.findIdx (fun y => decide (y.1 = x)) else -1
theorem findL_no {l : List (ByteArray × Int × Int × Int)} {x : ByteArray} (h : ∀ y ∈ l, y.1 ≠ x) : findL l x = -1 := by
  unfold findL
  rw [if_neg]
  rw [List.findIdx_lt_length]
  rintro ⟨y, hy, h9⟩
  exact h y hy (of_decide_eq_true h9)
theorem findL_at {l : List (ByteArray × Int × Int × Int)} {x : ByteArray} {k : Nat} (hk : k < l.length) (h : ∀ y ∈ l.take k, y.1 ≠ x) (e : (l.getD k none_Listed).1 = x) : findL l x = k := by
  have h9 : l.findIdx (fun y => decide (y.1 = x)) = k := by
    rw [List.findIdx_eq hk]
    refine ⟨by rw [List.getD_eq_getElem?_getD, List.getElem?_eq_getElem hk] at e; simpa using e, fun j hj => ?_⟩
    refine decide_eq_false (h _ ?_)
    rw [List.mem_take_iff_getElem]
    exact ⟨j, by omega, rfl⟩
  unfold findL
  rw [h9, if_pos hk]
end Go.Proofs.YtgjijmcedonlmaaGreatDoor
namespace Go.Proofs.YtgjijmcedonlmaaGreatDoor
open Go.RowKit

/-- What slices.Index answers. -/
def idxS (l : List ByteArray) (x : ByteArray) : Int := if hasW l x = true then l.findIdx (fun y => decide (y = x)) else -1
theorem idxS_no {l : List ByteArray} {x : ByteArray} (h : ∀ y ∈ l, y ≠ x) : idxS l x = -1 := by unfold idxS; rw [hasW_no h, if_neg (by decide)]
theorem idxS_at {l : List ByteArray} {x : ByteArray} {k : Nat} (hk : k < l.length) (h : ∀ y ∈ l.take k, y ≠ x) (e : l.getD k ⟨#[]⟩ = x) : idxS l x = k := by
  have h9 : l.findIdx (fun y => decide (y = x)) = k := by
    rw [List.findIdx_eq hk]
    refine ⟨by rw [List.getD_eq_getElem?_getD, List.getElem?_eq_getElem hk] at e; simpa using e, fun j hj => ?_⟩
    refine decide_eq_false (h _ ?_)
    rw [List.mem_take_iff_getElem]
    exact ⟨j, by omega, rfl⟩
  unfold idxS
  rw [h9, hasW_yes (e ▸ getD_mem l k ⟨#[]⟩ hk), if_pos rfl]
set_option maxHeartbeats 800000 in
theorem idx_any (l : List ByteArray) (x : ByteArray) (hl : l.length ≤ 16777216) (v : Value) (w : World) (hv : ReadsS w.heap.size w v l) :
    Calls Tryz.prog 92 #[v, .string x] w fun e w' => e = .returned (.int .i64 (idxS l x)) ∧ w = w' := by
  obtain ⟨-, a0, cap, rfl, -, hc⟩ := hv.cells
  have HC := Lib.hid hc
  clear hc hv
  go_enter Tryz.func92, Tryz.ntmps92
  go_wp2
  go_loop [8] (fun i => ∃ k : Nat, k ≤ l.length ∧ i = .int .i64 k ∧ Hid (∀ y ∈ l.take k, y ≠ x)) (fun i => l.length - (intOf i).toNat)
  case atStart => exact ⟨0, Nat.zero_le _, rfl, Lib.hid (by simp)⟩
  case round =>
    obtain ⟨k, hk, rfl, HN⟩ := hrel
    by_cases hlt : k < l.length
    · obtain ⟨b, off, rfl, hb, q0⟩ := HC.out k hlt
      have HT := Lib.hid (take_next l k ⟨#[]⟩ hlt)
      have HF0 := Lib.hid (fun e => idxS_at (x := x) hlt HN.out e)
      obtain ⟨z, hz⟩ : ∃ z, z = l.getD k ⟨#[]⟩ := ⟨_, rfl⟩
      rw [← hz] at q0 HT HF0
      clear hz
      by_cases he : z = x
      · subst he
        have HF := Lib.hid (HF0.out rfl)
        go_wp2
        go_ret
        exact ⟨by rw [HF.out]; rfl, rfl⟩
      · have hne := str_ne (Ne.symm he)
        have HN2 : Hid (∀ y ∈ l.take (k + 1), y ≠ x) := Lib.hid (fun y hy => by
          rw [HT.out] at hy
          rcases List.mem_append.1 hy with h | h
          · exact HN.out y h
          · simp only [List.mem_singleton] at h; subst h; exact he)
        go_wp2
        go_round
        case rel => exact ⟨k + 1, by omega, by go_num, HN2⟩
        case measure => simp [intOf]; omega
    · have HF : Hid (idxS l x = -1) := Lib.hid (idxS_no (by have h9 := HN.out; rw [List.take_of_length_le (by omega)] at h9; exact h9))
      go_wp2
      go_ret
      exact ⟨by rw [HF.out]; rfl, rfl⟩
theorem idxS_has (l : List ByteArray) (x : ByteArray) : decide (idxS l x ≥ 0) = hasW l x := by
  unfold idxS
  cases h : hasW l x
  · rw [if_neg (by decide)]; rfl
  · rw [if_pos rfl]; exact decide_eq_true (by omega)
theorem cont_any (l : List ByteArray) (x : ByteArray) (hl : l.length ≤ 16777216) (v : Value) (w : World) (hv : ReadsS w.heap.size w v l) :
    Calls Tryz.prog 52 #[v, .string x] w fun e w' => e = .returned (.bool (hasW l x)) ∧ w = w' := by
  have HI := Lib.hid (idx_any l x hl v w hv)
  have HE := Lib.hid (idxS_has l x)
  obtain ⟨a, c, rfl⟩ : ∃ a c, v = .slice a l.length c := by obtain ⟨-, a0, cap, rfl, -⟩ := hv.cells; exact ⟨_, _, rfl⟩
  clear hv
  go_enter Tryz.func52, Tryz.ntmps52
  go_wp2_with (go_at_call 92; refine HI.out.mono ?_; rintro e w1 ⟨rfl, rfl⟩)
  go_ret
  exact ⟨by rw [← HE.out]; rfl, rfl⟩
theorem ihas_any (l : List ByteArray) (x : ByteArray) (hl : l.length ≤ 16777216) (v : Value) (w : World) (hv : ReadsS w.heap.size w v l) :
    Calls Tryz.prog 25 #[v, .string x] w fun e w' => e = .returned (.bool (hasW l x)) ∧ w = w' := by
  have HI := Lib.hid (cont_any l x hl v w hv)
  obtain ⟨a, c, rfl⟩ : ∃ a c, v = .slice a l.length c := by obtain ⟨-, a0, cap, rfl, -⟩ := hv.cells; exact ⟨_, _, rfl⟩
  clear hv
  go_enter Tryz.func25, Tryz.ntmps25
  go_wp2_with (go_at_call 52; refine HI.out.mono ?_; rintro e w1 ⟨rfl, rfl⟩)
  go_ret
  exact ⟨rfl, rfl⟩
end Go.Proofs.YtgjijmcedonlmaaGreatDoor
