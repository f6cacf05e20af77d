/-
  The model's contracts of chapter 9, first part: l9Place, IsChecked, l9Put.   The model's contracts of chapter 9, second part: UncheckedIn, CheckedShare.
  Contracts of the exact laws' helpers on Crossing (written by structgen.py).
  Plain facts that the law FnCrossings asks: what each crossing is, and the checked cells counted by slots and by cells.
  The model's contracts of chapter 9, third part: CrossingsOf.   The model's contracts of chapter 9, fourth part: l9Put, CrossedBy.   The model's contracts of chapter 9, fifth part: CrossedBy.
-/
import Derived.Test.YtgjijmcedonlmaaGreatDoorCrossPure
import Derived.Test.YtgjijmcedonlmaaGreatDoorSlotSpecE
import Derived.Test.YtgjijmcedonlmaaGreatDoorKit
import Derived.Test.YtgjijmcedonlmaaGreatDoorSlotImplI
import Derived.Test.YtgjijmcedonlmaaGreatDoorVals
import Derived.Deep.RegionHeld3
import Derived.Deep.RegionWith
import Derived.Deep.DeepCutAuto
namespace Go.Proofs.YtgjijmcedonlmaaGreatDoor
open Go.RowKit

theorem placeI_lt {l : List Int} {x : Int} (h : x ∈ l) : placeI l x < l.length := List.findIdx_lt_length_of_exists ⟨x, h, by simp⟩
theorem placeI_at {l : List Int} {x : Int} (h : x ∈ l) : l.getD (placeI l x) 0 = x := by
  have h1 := placeI_lt h
  have h2 := List.findIdx_getElem (xs := l) (p := fun y => decide (y = x)) (w := h1)
  have h3 : l[placeI l x] = x := of_decide_eq_true h2
  rw [List.getD_eq_getElem?_getD, List.getElem?_eq_getElem h1]
  exact h3
theorem placeI_hit {l : List Int} {x : Int} {k : Nat} (hk : k < l.length) (h : k ≤ placeI l x) (e : l.getD k 0 = x) : placeI l x = k := by
  rcases Nat.lt_or_eq_of_le h with h1 | h1
  · exfalso
    have h2 := List.not_of_lt_findIdx (xs := l) (p := fun y => decide (y = x)) h1
    rw [List.getD_eq_getElem?_getD, List.getElem?_eq_getElem hk] at e
    simp at h2
    exact h2 e
  · exact h1.symm
theorem placeI_miss {l : List Int} {x : Int} {k : Nat} (hx : x ∈ l) (h : k ≤ placeI l x) (e : l.getD k 0 ≠ x) : k + 1 ≤ placeI l x := by
  rcases Nat.lt_or_eq_of_le h with h1 | h1
  · exact h1
  · exact absurd (by rw [h1]; exact placeI_at hx) e
set_option maxHeartbeats 800000 in
theorem splace_any (l : List Int) (x : Int) (hx : x ∈ l) (hl : l.length ≤ 16777216) (v : Value) (w : World) (hv : Reads w.heap.size w v .i64 l) :
    Calls Tryz.prog 98 #[v, .int .i64 x] w fun e w' => e = .returned (.int .i64 (placeI l x : Nat)) ∧ Below w.heap.size w w' := by
  obtain ⟨-, a0, cap, rfl, -, hc⟩ := hv
  have HC := Lib.hid hc
  have HX := Lib.hid hx
  have hpl := placeI_lt hx
  clear hc hx
  go_enter Tryz.func98, Tryz.ntmps98
  go_wp2
  go_loopw [5] (fun i wr => ∃ k : Nat, k ≤ placeI l x ∧ i = .int .i64 k ∧ Below w.heap.size w wr) (fun i _ => l.length - (intOf i).toNat)
  case atStart => exact ⟨0, Nat.zero_le _, rfl, Below.refl _ _⟩
  case round =>
    obtain ⟨k, hk, rfl, hbl⟩ := hrel
    have hlt : k < l.length := by omega
    obtain ⟨b, off, rfl, hb, q0⟩ := HC.out k hlt
    have HHIT := Lib.hid (placeI_hit (x := x) hlt hk)
    have HMISS := Lib.hid (placeI_miss HX.out hk)
    obtain ⟨z, hz⟩ : ∃ z, z = l.getD k 0 := ⟨_, rfl⟩
    rw [← hz] at q0 HHIT HMISS
    have c0 := (hbl.cell (p := ⟨b, off + k, none⟩) hb).trans q0
    clear q0 hz
    by_cases he : z = x
    · have HF := Lib.hid (HHIT.out he)
      subst he
      go_wp2
      go_ret
      exact ⟨by rw [HF.out]; rfl, hbl⟩
    · have hne : (z == x) = false := by simpa using he
      have HM2 := Lib.hid (HMISS.out he)
      have hk2 : k + 1 ≤ placeI l x := HM2.out
      clear he
      go_wp2
      go_roundw
      case rel => exact ⟨k + 1, hk2, by go_num, hbl⟩
      case measure => simp [intOf]; omega
theorem chkL_atS (l : List SlotV) (c q : Int) : chkL l c q = decide ((atS l c q).length = 2) := by
  rw [atS_inS, List.length_map]
  rfl
end Go.Proofs.YtgjijmcedonlmaaGreatDoor
namespace Go.Proofs.YtgjijmcedonlmaaGreatDoor
open Go.RowKit

theorem sint_cell {W : World} {base m cap : Nat} {e : TypeId} {a0 : Option Addr} {l : List Int} (h : W.ownsRow base e 1 (.slice a0 m cap) m (l.map (Value.int .i64))) (hn : m = l.length) (j : Nat) (hj : j < l.length) :
    ∃ b, a0 = some ⟨b, 0, none⟩ ∧ W.cell? ⟨b, j, none⟩ = some (.int .i64 (l.getD j 0)) := by
  subst hn
  rcases h.2 with ⟨e9, hl⟩ | ⟨g, cap', cur, e9, -⟩
  · exfalso
    injection e9 with _ e8 _
    omega
  · cases e9
    refine ⟨g, rfl, ?_⟩
    rw [h.cellAt j (by omega)]
    simp [List.getD, hj]
theorem stake_getDI {l : List Int} {k : Nat} (h : k < l.length) : l.take (k + 1) = l.take k ++ [l.getD k 0] := by
  rw [List.take_succ_eq_append_getElem h, List.getD_eq_getElem?_getD, List.getElem?_eq_getElem h]
  rfl
end Go.Proofs.YtgjijmcedonlmaaGreatDoor
namespace Go.Proofs.YtgjijmcedonlmaaGreatDoor
open Go.RowKit

theorem info_Crossing : (Tryz.prog.info? 85).map (fun i => (i.zero, i.size, i.bytes)) = some (some (.agg #[.int .i64 0, .int .i64 0, .int .i64 0, .int .i64 0, .int .i64 0]), 5, 40) := by kernel_rfl
/-- The cells of a Crossing. -/
def cells_Crossing (x : Int × Int × Int × Int × Int) : List Value := [.int .i64 x.1, .int .i64 x.2.1, .int .i64 x.2.2.1, .int .i64 x.2.2.2.1, .int .i64 x.2.2.2.2]
def row_Crossing (l : List (Int × Int × Int × Int × Int)) : List Value := l.flatMap cells_Crossing
def none_Crossing : Int × Int × Int × Int × Int := (0, 0, 0, 0, 0)
/-- What a Crossing that comes in keeps to. -/
def ok_Crossing (x : Int × Int × Int × Int × Int) : Prop := (-9223372036854775808 ≤ x.1 ∧ x.1 ≤ 9223372036854775807) ∧ (-9223372036854775808 ≤ x.2.1 ∧ x.2.1 ≤ 9223372036854775807) ∧ (-9223372036854775808 ≤ x.2.2.1 ∧ x.2.2.1 ≤ 9223372036854775807) ∧ (-9223372036854775808 ≤ x.2.2.2.1 ∧ x.2.2.2.1 ≤ 9223372036854775807) ∧ (-9223372036854775808 ≤ x.2.2.2.2 ∧ x.2.2.2.2 ≤ 9223372036854775807)
theorem cells_Crossing_length (x : Int × Int × Int × Int × Int) : (cells_Crossing x).length = 5 := rfl
theorem row_Crossing_length (l : List (Int × Int × Int × Int × Int)) : (row_Crossing l).length = l.length * 5 := row0_length cells_Crossing 5 cells_Crossing_length l
theorem row_Crossing_at (l : List (Int × Int × Int × Int × Int)) (k : Nat) (h : k < l.length) (r : Nat) (hr : r < 5) : (row_Crossing l)[k * 5 + r]? = (cells_Crossing l[k])[r]? := row0_at cells_Crossing 5 cells_Crossing_length l k h r hr
theorem row_Crossing_append (l m : List (Int × Int × Int × Int × Int)) : row_Crossing (l ++ m) = row_Crossing l ++ row_Crossing m := List.flatMap_append ..
theorem row_Crossing_one (l : List (Int × Int × Int × Int × Int)) : ∀ u ∈ row_Crossing l, u.oneCell' = true := by
  intro u hu
  obtain ⟨z, -, hz⟩ := List.mem_flatMap.1 hu
  simp only [cells_Crossing, List.mem_cons, List.not_mem_nil, or_false] at hz
  rcases hz with rfl | rfl | rfl | rfl | rfl <;> rfl
/-- The slice v reads as the list l. -/
def ReadsCrossing (B : Nat) (W : World) (v : Value) (l : List (Int × Int × Int × Int × Int)) : Prop := ReadsV B W v 5 l.length (row_Crossing l)
theorem ReadsCrossing.cells {B : Nat} {W : World} {v : Value} {l : List (Int × Int × Int × Int × Int)} (h : ReadsCrossing B W v l) :
    l.length ≤ 9223372036854775807 ∧ ∃ a0 cap, v = .slice a0 l.length cap ∧ CapOk a0 l.length cap ∧ ∀ j, j < l.length → ∃ b off, a0 = some ⟨b, off, none⟩ ∧ b < B ∧ W.cell? ⟨b, off + j * 5, none⟩ = some (.int .i64 (l.getD j none_Crossing).1) ∧ W.cell? ⟨b, off + j * 5 + 1, none⟩ = some (.int .i64 (l.getD j none_Crossing).2.1) ∧ W.cell? ⟨b, off + j * 5 + 2, none⟩ = some (.int .i64 (l.getD j none_Crossing).2.2.1) ∧ W.cell? ⟨b, off + j * 5 + 3, none⟩ = some (.int .i64 (l.getD j none_Crossing).2.2.2.1) ∧ W.cell? ⟨b, off + j * 5 + 4, none⟩ = some (.int .i64 (l.getD j none_Crossing).2.2.2.2) := by
  obtain ⟨h0, -, a0, cap, rfl, hc, h⟩ := h
  refine ⟨h0, a0, cap, rfl, hc, fun j hj => ?_⟩
  obtain ⟨b, off, rfl, e2, e3⟩ := h (j * 5) (by omega)
  have hr : ∀ r, r < 5 → W.cell? ⟨b, off + j * 5 + r, none⟩ = (cells_Crossing (l.getD j none_Crossing))[r]? := fun r hr => by
    obtain ⟨b', off', e1, -, e4⟩ := h (j * 5 + r) (by omega)
    cases e1
    rw [Nat.add_assoc, e4, row_Crossing_at l j hj r hr]
    simp [List.getD, hj]
  exact ⟨b, off, rfl, e2, hr 0 (by decide), hr 1 (by decide), hr 2 (by decide), hr 3 (by decide), hr 4 (by decide)⟩
theorem ReadsCrossing.now {W W' : World} {v : Value} {l : List (Int × Int × Int × Int × Int)} (h : ReadsCrossing W.heap.size W v l) (hb : Below W.heap.size W W') : ReadsCrossing W'.heap.size W' v l := ReadsV.now h hb
theorem reads_Crossing_own {W : World} {base m : Nat} {e : TypeId} {v : Value} {l : List (Int × Int × Int × Int × Int)} (h : W.ownsRow base e 5 v m (row_Crossing l)) (hn : m = l.length) (hl : l.length ≤ 140737488355328) : ReadsCrossing W.heap.size W v l := by
  subst hn
  exact readsV_own h hl
theorem row_Crossing_set (m : List (Int × Int × Int × Int × Int)) (k : Nat) (h : k < m.length) (x : Int × Int × Int × Int × Int) : (((((row_Crossing m).set (k * 5) (.int .i64 x.1)).set (k * 5 + 1) (.int .i64 x.2.1)).set (k * 5 + 2) (.int .i64 x.2.2.1)).set (k * 5 + 3) (.int .i64 x.2.2.2.1)).set (k * 5 + 4) (.int .i64 x.2.2.2.2) = row_Crossing (m.set k x) := row0_set5 cells_Crossing cells_Crossing_length m k h x (.int .i64 x.1) (.int .i64 x.2.1) (.int .i64 x.2.2.1) (.int .i64 x.2.2.2.1) (.int .i64 x.2.2.2.2) rfl
theorem stored_Crossing {w : World} {base g m cap : Nat} {e : TypeId} {l : List (Int × Int × Int × Int × Int)} (h : w.ownsRow base e 5 (.slice (some ⟨g, 0, none⟩) m cap) m (row_Crossing l)) (k : Nat) (hk : k < l.length) (x0 : Int) (x1 : Int) (x2 : Int) (x3 : Int) (x4 : Int) :
    (((((w.setCell ⟨g, k * 5, none⟩ (.int .i64 x0)).setCell ⟨g, k * 5 + 1, none⟩ (.int .i64 x1)).setCell ⟨g, k * 5 + 2, none⟩ (.int .i64 x2)).setCell ⟨g, k * 5 + 3, none⟩ (.int .i64 x3)).setCell ⟨g, k * 5 + 4, none⟩ (.int .i64 x4)).ownsRow base e 5 (.slice (some ⟨g, 0, none⟩) m cap) m (row_Crossing (l.set k (x0, x1, x2, x3, x4))) := by
  have h9 := ((((h.stored (k * 5) (.int .i64 x0)).1.stored (k * 5 + 1) (.int .i64 x1)).1.stored (k * 5 + 2) (.int .i64 x2)).1.stored (k * 5 + 3) (.int .i64 x3)).1.stored (k * 5 + 4) (.int .i64 x4)
  rw [← row_Crossing_set l k hk]
  exact h9.1
/-- What has been copied after k rounds. -/
def copied_Crossing (l : List (Int × Int × Int × Int × Int)) (k : Nat) : List Value := row_Crossing (l.take k ++ List.replicate (l.length - k) none_Crossing)
theorem copied_Crossing_full (l : List (Int × Int × Int × Int × Int)) : copied_Crossing l l.length = row_Crossing l := by
  unfold copied_Crossing; simp
theorem copied_Crossing_at (l : List (Int × Int × Int × Int × Int)) (k : Nat) (h : k < l.length) (r : Nat) (hr : r < 5) : (copied_Crossing l k)[k * 5 + r]? = (cells_Crossing none_Crossing)[r]? := by
  unfold copied_Crossing
  rw [row_Crossing_at _ k (by simp; omega) r hr]
  congr 2
  rw [List.getElem_append_right (by rw [List.length_take]; omega)]
  simp
theorem copied_Crossing_zero (l : List (Int × Int × Int × Int × Int)) : (madeCells #[.int .i64 0, .int .i64 0, .int .i64 0, .int .i64 0, .int .i64 0] (l.length * 5)).toList = copied_Crossing l 0 := by
  have h9 := row0_made cells_Crossing 5 (by decide) cells_Crossing_length none_Crossing l.length
  unfold copied_Crossing
  simp only [List.take_zero, List.nil_append, Nat.sub_zero]
  exact h9
/-- What markCrossingS writes. -/
def mk_Crossing (k : Nat) : Int × Int × Int × Int × Int := (((k : Nat) : Int), ((k + 1 : Nat) : Int), ((k + 2 : Nat) : Int), ((k + 3 : Nat) : Int), ((k + 4 : Nat) : Int))
def mks_Crossing (k0 m : Nat) : List (Int × Int × Int × Int × Int) := (List.range m).map fun i => mk_Crossing (k0 + 5 * i)
theorem mks_Crossing_length (k0 m : Nat) : (mks_Crossing k0 m).length = m := by simp [mks_Crossing]
theorem mks_Crossing_getD (k0 m j : Nat) (h : j < m) : (mks_Crossing k0 m).getD j none_Crossing = mk_Crossing (k0 + 5 * j) := by simp [mks_Crossing, List.getD, h]
theorem mkd_Crossing_set (k0 : Nat) (m : List (Int × Int × Int × Int × Int)) (j : Nat) (h : j < m.length) : (mks_Crossing k0 j ++ m.drop j).set j (mk_Crossing (k0 + 5 * j)) = mks_Crossing k0 (j + 1) ++ m.drop (j + 1) := by
  rw [List.set_append_right _ _ (by simp [mks_Crossing_length])]
  have e2 : j - (mks_Crossing k0 j).length = 0 := by simp [mks_Crossing_length]
  rw [e2, List.drop_eq_getElem_cons h, List.set_cons_zero]
  simp [mks_Crossing, List.range_succ]
theorem mkd_Crossing_at (k0 : Nat) (m : List (Int × Int × Int × Int × Int)) (j : Nat) (h : j < m.length) (r : Nat) (hr : r < 5) : (row_Crossing (mks_Crossing k0 j ++ m.drop j))[j * 5 + r]? = (cells_Crossing (m.getD j none_Crossing))[r]? := by
  rw [row_Crossing_at _ j (by rw [List.length_append, mks_Crossing_length, List.length_drop]; omega) r hr]
  congr 2
  rw [List.getElem_append_right (by rw [mks_Crossing_length]; exact Nat.le_refl _)]
  simp [mks_Crossing_length, List.getD, h]
theorem mk_Crossing_eq (k0 j : Nat) : mk_Crossing (k0 + 5 * j) = ((k0 : Int) + 5 * j, (k0 : Int) + 5 * j + 1, (k0 : Int) + 5 * j + 1 + 1, (k0 : Int) + 5 * j + 1 + 1 + 1, (k0 : Int) + 5 * j + 1 + 1 + 1 + 1) := by
  unfold mk_Crossing
  rw [show ((k0 + 5 * j : Nat) : Int) = (k0 : Int) + 5 * j by omega, show ((k0 + 5 * j + 1 : Nat) : Int) = (k0 : Int) + 5 * j + 1 by omega, show ((k0 + 5 * j + 2 : Nat) : Int) = (k0 : Int) + 5 * j + 1 + 1 by omega, show ((k0 + 5 * j + 3 : Nat) : Int) = (k0 : Int) + 5 * j + 1 + 1 + 1 by omega, show ((k0 + 5 * j + 4 : Nat) : Int) = (k0 : Int) + 5 * j + 1 + 1 + 1 + 1 by omega]
end Go.Proofs.YtgjijmcedonlmaaGreatDoor
namespace Go.Proofs.YtgjijmcedonlmaaGreatDoor
open Go.RowKit

def chN (l : List SlotV) (c : Int) (Z : List Int) : Nat := (Z.filter fun q => chkL l c q).length
theorem ch_unch (l : List SlotV) (c : Int) : ∀ Z : List Int, chN l c Z + unchN l c Z = Z.length
  | [] => rfl
  | q :: Z => by
    have ih := ch_unch l c Z
    unfold chN unchN at ih ⊢
    cases h : chkL l c q
    · simp [h]; omega
    · simp [h]; omega
theorem ch_count (l : List SlotV) (c : Int) (Z : List Int) (hn : Z.Nodup) (n : Nat) (hr : ∀ q ∈ Z, 0 ≤ q ∧ q < (n : Int)) : chN l c Z = ((List.range n).filter fun (k : Nat) => hasI Z (k : Int) && chkL l c (k : Int)).length := by
  have h1 : (Z.filter fun q => chkL l c q).Nodup := by
    rw [List.nodup_iff_pairwise_ne] at hn ⊢
    exact List.Pairwise.filter _ hn
  have h2 : (((List.range n).filter fun (k : Nat) => hasI Z (k : Int) && chkL l c (k : Int)).map fun (k : Nat) => (k : Int)).Nodup := by
    rw [List.nodup_iff_pairwise_ne, List.pairwise_map]
    refine List.Pairwise.imp (fun {a b} hab he => ?_) (List.Pairwise.filter _ (List.pairwise_lt_range (n := n)))
    omega
  have h3 := (List.perm_ext_iff_of_nodup h1 h2).2 (fun q => by
    rw [List.mem_filter, List.mem_map]
    constructor
    · rintro ⟨hq, hc⟩
      obtain ⟨g1, g2⟩ := hr q hq
      obtain ⟨k, rfl⟩ : ∃ k : Nat, q = k := ⟨q.toNat, by omega⟩
      refine ⟨k, ?_, rfl⟩
      rw [List.mem_filter, List.mem_range, hasI_iff.2 hq, hc]
      exact ⟨by omega, rfl⟩
    · rintro ⟨k, hk, rfl⟩
      rw [List.mem_filter, Bool.and_eq_true] at hk
      exact ⟨hasI_iff.1 hk.2.1, hk.2.2⟩)
  have h4 := h3.length_eq
  rw [List.length_map] at h4
  exact h4
theorem filt_flat {α : Type} (p : α → Bool) : ∀ l : List α, (l.filter p).length = (l.flatMap fun x => if p x = true then [()] else []).length
  | [] => rfl
  | x :: l => by
    have ih := filt_flat p l
    rw [List.flatMap_cons, List.length_append, ← ih]
    cases h : p x
    · simp [h]
    · simp [h]; omega
/-- How many checked cells the first slots have, together. -/
def sumC (l : List SlotV) (c : Int) (m : Nat) : Nat := ((List.range m).map fun i => chN l c (cellsS c (l.getD i none_Slot))).sum
theorem sumC_next (l : List SlotV) (c : Int) (m : Nat) : sumC l c (m + 1) = sumC l c m + chN l c (cellsS c (l.getD m none_Slot)) := by
  unfold sumC
  rw [List.range_succ, List.map_append, List.sum_append]
  simp
theorem sum_two (l : List SlotV) (c : Int) : ∀ n, ((List.range n).map fun (k : Nat) => if chkL l c (k : Int) = true then 2 else 0).sum = 2 * chkTo l c n
  | 0 => rfl
  | n + 1 => by
    rw [List.range_succ, List.map_append, List.sum_append, sum_two l c n, chkTo_next]
    cases h : chkL l c (n : Int)
    · simp [h]
    · simp [h]; omega
theorem slot_range {g : Int × Int × ByteArray} {x : SlotV} (h : x ∈ slG g) {q : Int} (hq : q ∈ cellsS g.2.1 x) : 0 ≤ q ∧ q < (g.2.2.size : Int) := by
  obtain ⟨R, C, hg, e1, e2, h1, h2, h3, h4, h5, h6⟩ := slG_at h
  unfold cellsS at hq
  obtain ⟨k, hk, rfl⟩ := List.mem_map.1 hq
  rw [List.mem_range] at hk
  obtain ⟨m, hm, e3, ha, hd⟩ := slot_cell h3 h6 k hk
  rw [h5]
  rcases hx : x.2.1 with _ | _
  · obtain ⟨-, -, -, h8⟩ := ha hx
    rw [e3, show (m : Int) + (k : Int) * (if false = true then g.2.1 else 1) = ((m + k : Nat) : Int) by simp]
    omega
  · obtain ⟨-, -, -, h8⟩ := hd hx
    rw [e3, e2, show (m : Int) + (k : Int) * (if true = true then (C : Int) else 1) = ((m + k * C : Nat) : Int) by simp]
    omega
theorem map_congr_sum {α : Type} {f g : α → Nat} : ∀ l : List α, (∀ x ∈ l, f x = g x) → (l.map f).sum = (l.map g).sum
  | [], _ => rfl
  | x :: l, h => by
    simp only [List.map_cons, List.sum_cons]
    rw [h x (by simp), map_congr_sum l (fun y hy => h y (by simp [hy]))]
theorem flat_none {α : Type} : ∀ m : List α, (m.flatMap fun _ => if false = true then [()] else []).length = if false = true then 2 else 0
  | [] => rfl
  | _ :: m => by
    rw [List.flatMap_cons, List.length_append, flat_none m]
    rfl
theorem sumC_all (g : Int × Int × ByteArray) : sumC (slG g) g.2.1 (slG g).length = 2 * (crossS g).length := by
  have e1 : sumC (slG g) g.2.1 (slG g).length = ((List.range (slG g).length).flatMap fun i => (List.range g.2.2.size).flatMap fun (k : Nat) => if (hasI (cellsS g.2.1 ((slG g).getD i none_Slot)) (k : Int) && chkL (slG g) g.2.1 (k : Int)) = true then [()] else []).length := by
    rw [List.length_flatMap]
    unfold sumC
    refine map_congr_sum _ fun i hi => ?_
    rw [List.mem_range] at hi
    rw [ch_count _ _ _ (slG_cells_nodup _ (getD_in hi)) g.2.2.size (fun q hq => slot_range (getD_in hi) hq), filt_flat]
  rw [e1, (flatMap_swap (List.range (slG g).length) (List.range g.2.2.size) fun i (k : Nat) => if (hasI (cellsS g.2.1 ((slG g).getD i none_Slot)) (k : Int) && chkL (slG g) g.2.1 (k : Int)) = true then [()] else []).length_eq, List.length_flatMap]
  unfold crossS
  rw [chkTo_cross, ← sum_two]
  refine map_congr_sum _ fun k _ => ?_
  cases h : chkL (slG g) g.2.1 (k : Int)
  · simp only [Bool.and_false]
    rw [flat_none]
  · simp only [Bool.and_true, if_true]
    rw [← filt_flat]
    unfold chkL at h
    exact of_decide_eq_true h
theorem chk_white {g : Int × Int × ByteArray} {q : Int} (h : chkL (slG g) g.2.1 q = true) : isWh g q = true := by
  refine atS_white ?_
  unfold chkL at h
  rw [atS_inS, List.length_map, of_decide_eq_true h]
  decide
theorem chk_whF {g : Int × Int × ByteArray} {k : Nat} (h : chkL (slG g) g.2.1 (k : Int) = true) : whF g.2.2 k = true := by
  have h2 : 0 < (inS (slG g) g.2.1 (k : Int)).length := by
    unfold chkL at h
    rw [of_decide_eq_true h]
    decide
  obtain ⟨i, hi⟩ := List.exists_mem_of_length_pos h2
  obtain ⟨h3, h4⟩ := inS_mem hi
  obtain ⟨R, C, hg, e1, e2, g1, g2, g3, g4, g5, g6⟩ := slG_at (getD_in h3)
  unfold cellsS at h4
  obtain ⟨j, hj, e⟩ := List.mem_map.1 h4
  rw [List.mem_range] at hj
  obtain ⟨m, hm, e3, ha, hd⟩ := slot_cell g3 g6 j hj
  rcases hx : ((slG g).getD i none_Slot).2.1 with _ | _
  · obtain ⟨-, -, h8, -⟩ := ha hx
    rw [hx, e3] at e
    rw [show k = m + j by simp at e; omega]
    exact h8
  · obtain ⟨-, -, h8, -⟩ := hd hx
    rw [hx, e3, e2] at e
    rw [show k = m + j * C by
      have e9 : ((m + j * C : Nat) : Int) = (k : Int) := by rw [← e]; simp
      omega]
    exact h8
theorem chk_le (g : Int × Int × ByteArray) : ∀ n, chkTo (slG g) g.2.1 n ≤ whTo g.2.2 n
  | 0 => Nat.le_refl _
  | n + 1 => by
    rw [chkTo_next, whTo_next]
    have ih := chk_le g n
    cases h : chkL (slG g) g.2.1 (n : Int)
    · simp; omega
    · rw [chk_whF h]; simp; omega
theorem share_len (g : Int × Int × ByteArray) : (shareS g).1 = ((crossS g).length : Int) ∧ (shareS g).1 ≤ (shareS g).2 := by
  unfold shareS
  by_cases hg : isG g = true
  · rw [if_pos hg]
    unfold crossS
    rw [chkTo_cross]
    have := chk_le g g.2.2.size
    exact ⟨rfl, by show (chkTo _ _ _ : Int) ≤ (whTo _ _ : Int); omega⟩
  · rw [if_neg hg, crossS_no (by simpa using hg)]
    exact ⟨rfl, Int.le_refl _⟩
theorem unch_all (g : Int × Int × ByteArray) : unchS g ((slG g).length : Int) = -1 := by
  unfold unchS
  rw [if_neg (by omega)]
theorem unch_at (g : Int × Int × ByteArray) {i : Nat} (h : i < (slG g).length) : unchS g (i : Int) = (unchN (slG g) g.2.1 (cellsS g.2.1 ((slG g).getD i none_Slot)) : Nat) := by
  unfold unchS
  rw [if_pos (by omega), Int.toNat_natCast]
theorem len_at {g : Int × Int × ByteArray} {i : Nat} (h : i < (slG g).length) : ((slG g).getD i none_Slot).2.2.2 = ((cellsS g.2.1 ((slG g).getD i none_Slot)).length : Int) ∧ (cellsS g.2.1 ((slG g).getD i none_Slot)).length ≤ 6 := by
  have h1 := (slG_small (getD_in h)).2.2.2
  rw [cellsS_length]
  omega
/-- What a crossing is. -/
theorem cross_facts {g : Int × Int × ByteArray} {x : CrossV} (h : x ∈ crossS g) : ∃ i j p r q : Nat, x = ((i : Int), (j : Int), (p : Int), (r : Int), (q : Int)) ∧ i < j ∧ i < (slG g).length ∧ j < (slG g).length ∧
    p < (cellsS g.2.1 ((slG g).getD i none_Slot)).length ∧ (cellsS g.2.1 ((slG g).getD i none_Slot)).getD p 0 = (q : Int) ∧ r < (cellsS g.2.1 ((slG g).getD j none_Slot)).length ∧ (cellsS g.2.1 ((slG g).getD j none_Slot)).getD r 0 = (q : Int) ∧
    ((slG g).getD i none_Slot).2.1 ≠ ((slG g).getD j none_Slot).2.1 ∧ chkL (slG g) g.2.1 (q : Int) = true ∧ hasI (crossedS g (i : Int)) (j : Int) = true ∧ hasI (crossedS g (j : Int)) (i : Int) = true ∧ q < g.2.2.size := by
  have hx := h
  unfold crossS crossTo at h
  obtain ⟨q, hqr, hq⟩ := List.mem_flatMap.1 h
  obtain ⟨i, j, hin, rfl, hij, hi, hj, qi, qj⟩ := crossAt_mem hq
  refine ⟨i, j, _, _, q, rfl, hij, hi, hj, placeI_lt qi, placeI_at qi, placeI_lt qj, placeI_at qj, dirs_apart hij hi hj qi qj, ?_, ?_, ?_, List.mem_range.1 hqr⟩
  · unfold chkL
    rw [hin]
    rfl
  · rw [hasI_iff, (crossedS_perm g (i : Int)).mem_iff]
    exact List.mem_flatMap.2 ⟨_, hx, by unfold otherX; rw [if_pos rfl]; simp⟩
  · rw [hasI_iff, (crossedS_perm g (j : Int)).mem_iff]
    exact List.mem_flatMap.2 ⟨_, hx, by unfold otherX; rw [if_neg (by show ¬ (i : Int) = (j : Int); omega), if_pos rfl]; simp⟩
theorem crossS_no_more (g : Int × Int × ByteArray) : (crossS g).length ≤ 36 := by
  by_cases hg : isG g = true
  · unfold crossS
    rw [chkTo_cross]
    exact Nat.le_trans (chkTo_le _ _ _) (isG_size hg)
  · rw [crossS_no (by simpa using hg)]
    simp
theorem cross_in {L : List CrossV} {k : Nat} (h : k < L.length) : L.getD k none_Crossing ∈ L := by simp [List.getD, h]
end Go.Proofs.YtgjijmcedonlmaaGreatDoor
namespace Go.Proofs.YtgjijmcedonlmaaGreatDoor
open Go.RowKit

theorem scells_Crossing_one (x : CrossV) : ∀ u ∈ cells_Crossing x, u.oneCell' = true := by
  intro u hu
  simp only [cells_Crossing, List.mem_cons, List.not_mem_nil, or_false] at hu
  rcases hu with rfl | rfl | rfl | rfl | rfl <;> rfl
theorem srow_Crossing_snoc (L : List CrossV) (x : CrossV) : row_Crossing L ++ cells_Crossing x = row_Crossing (L ++ [x]) := by
  rw [row_Crossing_append]
  simp [row_Crossing]
theorem soneCr (w : World) (x : CrossV) (t : TypeId) : ∀ j, j < 1 * 5 → ∃ b off, some (⟨w.heap.size, 0, none⟩ : Addr) = some ⟨b, off, none⟩ ∧ (w.alloc (.cells #[.int .i64 x.1, .int .i64 x.2.1, .int .i64 x.2.2.1, .int .i64 x.2.2.2.1, .int .i64 x.2.2.2.2] t)).cell? ⟨b, off + j, none⟩ = (cells_Crossing x)[j]? := fun j hj => by
  refine ⟨_, _, rfl, ?_⟩
  rw [Nat.zero_add, cell_of_row _ w.heap.size j _ t (0, 0) (heap_alloc_new w _)]
  simp [cells_Crossing]
theorem scrossTo_len (l : List SlotV) (c : Int) (n : Nat) : (crossTo l c n).length ≤ n := by
  rw [chkTo_cross]
  exact chkTo_le l c n
theorem inS_cases {l : List SlotV} {c q : Int} (h : (inS l c q).length = 2) : ∃ i j : Nat, inS l c q = [i, j] ∧ i < l.length ∧ j < l.length ∧ q ∈ cellsS c (l.getD i none_Slot) ∧ q ∈ cellsS c (l.getD j none_Slot) ∧ atS l c q = [(i : Int), (j : Int)] ∧ crossAt l c q = [((i : Int), (j : Int), (placeI (cellsS c (l.getD i none_Slot)) q : Int), (placeI (cellsS c (l.getD j none_Slot)) q : Int), q)] := by
  match e : inS l c q with
  | [] => rw [e] at h; simp at h
  | [_] => rw [e] at h; simp at h
  | [i, j] =>
    have hi := inS_mem (l := l) (c := c) (q := q) (i := i) (by rw [e]; simp)
    have hj := inS_mem (l := l) (c := c) (q := q) (i := j) (by rw [e]; simp)
    exact ⟨i, j, rfl, hi.1, hj.1, hi.2, hj.2, by rw [atS_inS, e]; rfl, by unfold crossAt; rw [e]⟩
  | _ :: _ :: _ :: _ => rw [e] at h; simp at h
theorem crossAt_not {l : List SlotV} {c q : Int} (h : ¬ (inS l c q).length = 2) : crossAt l c q = [] := by
  have h1 := crossAt_len l c q
  unfold chkL at h1
  rw [decide_eq_false h] at h1
  exact List.length_eq_zero_iff.1 h1
set_option maxRecDepth 100000 in
set_option maxHeartbeats 1600000 in
theorem scr_any (r c : Int) (s : ByteArray) (hs : s.size ≤ 4194304) (w : World) :
    Calls Tryz.prog 60 #[.agg #[.int .i64 r, .int .i64 c, .string s]] w fun e w' => ∃ v, e = .returned v ∧ w'.ownsRow w.heap.size 85 5 v (crossS (r, c, s)).length (row_Crossing (crossS (r, c, s))) ∧ Below w.heap.size w w' := by
  obtain ⟨i0, hi, hz0, hz1, hz2⟩ := info_parts info_Crossing
  obtain ⟨p, hp⟩ : ∃ p, p = isG (r, c, s) := ⟨_, rfl⟩
  have HIG := Lib.hid (fun w => sisg_any r c s hs w)
  rw [← hp] at HIG
  have HSL := Lib.hid (fun w => ssl_any r c s hs w)
  have HKP := Lib.hid (box3_all w r c s 25)
  have HW : Hid (Below w.heap.size w (w.alloc (.cells #[.int .i64 r, .int .i64 c, .string s] 25))) := Lib.hid ((Below.refl _ _).alloc (Nat.le_refl _) _)
  obtain ⟨W0, hW0⟩ : ∃ W0, W0 = w.alloc (.cells #[.int .i64 r, .int .i64 c, .string s] 25) := ⟨_, rfl⟩
  have hws : W0.heap.size = w.heap.size + 1 := by rw [hW0]; simp
  have HO0 : Hid ((W0.alloc (.cells #[] 85)).ownsRow W0.heap.size 85 5 (.slice (some ⟨w.heap.size + 1, 0, none⟩) 0 0) 0 []) := Lib.hid (by rw [← hws]; exact own_zero W0 85 5)
  have HB0 := Lib.hid ((Below.refl W0.heap.size W0).alloc (Nat.le_refl _) (.cells #[] 85))
  rw [← hW0] at HKP HW
  obtain ⟨d0, d1, d2⟩ := HKP.out _ HB0.out
  cases p with
  | false =>
    have HF : Hid (crossS (r, c, s) = []) := Lib.hid (crossS_no hp.symm)
    have HNS : Hid ((slG (r, c, s)).length = (slG (r, c, s)).length) := Lib.hid rfl
    obtain ⟨l, hl⟩ : ∃ l, l = slG (r, c, s) := ⟨_, rfl⟩
    rw [← hl] at HSL
    clear hp HNS hl
    go_enter Tryz.func60, Tryz.ntmps60
    go_wp2_with fail
    rw [← hW0]
    clear hW0
    go_wp2_with (go_at_call 59; refine (HSL.out _).mono ?_; rintro e w2 ⟨v2, rfl, o2, b2⟩; obtain ⟨a0, cap, rfl⟩ := ownV_slice o2; have HO2 := Lib.hid (ownV_later HO0.out b2); have HB2 := Lib.hid (HB0.out.trans (b2.mono HB0.out.size)); clear o2 b2)
    go_loopw [3, 5] (fun o i wr => i = .int .i64 0 ∧ Hid (wr.ownsRow W0.heap.size 85 5 o 0 []) ∧ Hid (Below W0.heap.size W0 wr)) (fun _ _ _ => 0)
    case atStart => exact ⟨rfl, HO2, HB2⟩
    case round =>
      obtain ⟨rfl, HO, HB⟩ := hrel
      obtain ⟨x0, x1, x2⟩ := HKP.out _ HB.out
      by_cases h0 : 0 < s.size
      · have hd : decide ((0 : Int) < (s.size : Int)) = true := decide_eq_true (by omega)
        go_wp2_with (go_at_call 95; refine (HIG.out _).mono ?_; rintro e w3 ⟨rfl, b3⟩; have HB3 := Lib.hid (HB.out.trans (b3.mono HB.out.size)); have HO3 := Lib.hid (ownV_later HO.out b3); clear b3)
        go_ret
        exact ⟨_, rfl, by rw [HF.out]; exact own_widen HO3.out (by omega), HW.out.trans (HB3.out.mono HW.out.size)⟩
      · have hd : decide ((0 : Int) < (s.size : Int)) = false := decide_eq_false (by omega)
        go_wp2
        go_ret
        exact ⟨_, rfl, by rw [HF.out]; exact own_widen HO.out (by omega), HW.out.trans (HB.out.mono HW.out.size)⟩
  | true =>
    have HSA := Lib.hid (fun q w => ssat_any r c s q hs w)
    have HCL := Lib.hid (fun (x : SlotV) (hx : x ∈ slG (r, c, s)) w => by
      have h := scl_any r c s x.1 x.2.1 x.2.2.1 x.2.2.2 hs w
      rw [show ((x.1, x.2.1, x.2.2.1, x.2.2.2) : SlotV) = x from rfl, clG_in hx] at h
      exact h)
    have hs36 : s.size ≤ 36 := isG_size (g := (r, c, s)) hp.symm
    have HC6 : Hid (∀ x ∈ slG (r, c, s), (cellsS c x).length ≤ 6) := Lib.hid (fun x hx => by rw [cellsS_length]; have := (slG_small hx).2.2.2.1; omega)
    have HLEN := Lib.hid (slG_length (r, c, s))
    have HF : Hid (crossS (r, c, s) = crossTo (slG (r, c, s)) c s.size) := Lib.hid rfl
    rw [HF.out]
    clear HF hp
    obtain ⟨l, hl⟩ : ∃ l, l = slG (r, c, s) := ⟨_, rfl⟩
    rw [← hl] at HSL HSA HCL HC6 HLEN ⊢
    clear hl
    have hl72 := HLEN.out
    go_enter Tryz.func60, Tryz.ntmps60
    go_wp2_with fail
    rw [← hW0]
    clear hW0
    go_wp2_with (go_at_call 59; refine (HSL.out _).mono ?_; rintro e w2 ⟨v2, rfl, o2, b2⟩; obtain ⟨a0, cap, rfl⟩ := ownV_slice o2; have HL2 := Lib.hid (own_widen o2 HB0.out.size); have HO2 := Lib.hid (ownV_later HO0.out b2); have HB2 := Lib.hid (HB0.out.trans (b2.mono HB0.out.size)); clear o2 b2)
    go_loopw [3, 5] (fun o i wr => ∃ k : Nat, k ≤ s.size ∧ i = .int .i64 (k : Int) ∧ Hid (wr.ownsRow W0.heap.size 85 5 o (crossTo l c k).length (row_Crossing (crossTo l c k))) ∧ Hid (wr.ownsRow W0.heap.size 63 4 (.slice a0 l.length cap) l.length (row_Slot l)) ∧ Hid (Below W0.heap.size W0 wr)) (fun _ i _ => s.size - (intOf i).toNat)
    case atStart => exact ⟨0, Nat.zero_le _, rfl, HO2, HL2, HB2⟩
    case round =>
      clear HO2 HL2 HB2 HO0 d0 d1 d2
      obtain ⟨k, hk, rfl, HO, HL, HB⟩ := hrel
      obtain ⟨x0, x1, x2⟩ := HKP.out _ HB.out
      by_cases hlt : k < s.size
      · have hd : decide ((k : Int) < (s.size : Int)) = true := decide_eq_true (by omega)
        have HNX := Lib.hid (crossTo_next l c k)
        have HLK := Lib.hid (scrossTo_len l c k)
        have HSA1 := Lib.hid (fun w => HSA.out (k : Int) w)
        obtain ⟨CN, hCN⟩ : ∃ CN, CN = crossTo l c (k + 1) := ⟨_, rfl⟩
        rw [← hCN] at HNX
        have HCN := Lib.hid hCN
        clear hCN
        obtain ⟨C, hC⟩ : ∃ C, C = crossTo l c k := ⟨_, rfl⟩
        rw [← hC] at HO HNX HLK
        clear hC
        have hc36 : C.length ≤ 36 := by have := HLK.out; omega
        by_cases h2 : (inS l c (k : Int)).length = 2
        · obtain ⟨i, j, -, hi1, hj1, hqi, hqj, hat, hca⟩ := inS_cases h2
          clear h2
          rw [hat] at HSA1
          rw [hca] at HNX
          clear hat hca
          obtain ⟨b, rfl, s0, s1, s2, s3⟩ := slot_cells HL.out rfl i hi1
          obtain ⟨b', hb', u0, u1, u2, u3⟩ := slot_cells HL.out rfl j hj1
          have hbb : b' = b := by injection hb' with h9; injection h9 with h8; exact h8.symm
          rw [hbb] at u0 u1 u2 u3
          clear hb' hbb b'
          have HCI := Lib.hid (HCL.out _ (getD_in hi1))
          have HCJ := Lib.hid (HCL.out _ (getD_in hj1))
          have HC6I := Lib.hid (HC6.out _ (getD_in hi1))
          have HC6J := Lib.hid (HC6.out _ (getD_in hj1))
          obtain ⟨x, hx⟩ : ∃ x, x = l.getD i none_Slot := ⟨_, rfl⟩
          obtain ⟨y, hy⟩ : ∃ y, y = l.getD j none_Slot := ⟨_, rfl⟩
          rw [← hx] at s0 s1 s2 s3 HCI HC6I hqi HNX
          rw [← hy] at u0 u1 u2 u3 HCJ HC6J hqj HNX
          have HXE := Lib.hid hx
          have HYE := Lib.hid hy
          clear hx hy
          have HPI := Lib.hid (fun v w h => splace_any (cellsS c x) (k : Int) hqi (by have := HC6I.out; omega) v w h)
          have HPJ := Lib.hid (fun v w h => splace_any (cellsS c y) (k : Int) hqj (by have := HC6J.out; omega) v w h)
          clear hqi hqj
          obtain ⟨ci, hci⟩ : ∃ ci, ci = cellsS c x := ⟨_, rfl⟩
          obtain ⟨cj, hcj⟩ : ∃ cj, cj = cellsS c y := ⟨_, rfl⟩
          rw [← hci] at HCI HC6I HPI HNX
          rw [← hcj] at HCJ HC6J HPJ HNX
          clear hci hcj
          obtain ⟨x1', x2', x3', x4'⟩ := x
          obtain ⟨y1', y2', y3', y4'⟩ := y
          simp only at s0 s1 s2 s3 u0 u1 u2 u3 HCI HCJ
          clear s0 s1 s2 s3 u0 u1 u2 u3
          obtain ⟨pi, hpi⟩ : ∃ pi : Nat, pi = placeI ci (k : Int) := ⟨_, rfl⟩
          obtain ⟨pj, hpj⟩ : ∃ pj : Nat, pj = placeI cj (k : Int) := ⟨_, rfl⟩
          rw [← hpi] at HPI HNX
          rw [← hpj] at HPJ HNX
          clear hpi hpj
          have hi72 : i ≤ 72 := by omega
          have hj72 : j ≤ 72 := by omega
          go_wp2_with (first | (go_at_call 95; refine (HIG.out _).mono ?_; rintro e w3 ⟨rfl, b3⟩; have BT3 := Lib.hid b3; obtain ⟨y0, y1, y2⟩ := HKP.out _ (HB.out.trans (BT3.out.mono HB.out.size)); clear b3) | (go_at_call 97; refine (HSA1.out _).mono ?_; rintro e w4 ⟨v4, rfl, o4, b4⟩; obtain ⟨a4, cap4, rfl⟩ := ownV_slice o4; have BT4 := Lib.hid (BT3.out.trans (b4.mono BT3.out.size)); have HA4 := Lib.hid (own_widen o4 (Nat.le_trans HB.out.size BT3.out.size)); clear o4 b4))
          have HO4 := Lib.hid (ownV_later HO.out BT4.out)
          have HL4 := Lib.hid (ownV_later HL.out BT4.out)
          have HB4 := Lib.hid (HB.out.trans (BT4.out.mono HB.out.size))
          obtain ⟨ba, rfl, -⟩ := sint_cell HA4.out rfl 0 (by simp)
          have SOF : Hid (∀ W : World, Below W0.heap.size W0 W → W.ownsRow W0.heap.size 63 4 (.slice (some ⟨b, 0, none⟩) l.length cap) l.length (row_Slot l) → W.ownsRow W0.heap.size 3 1 (.slice (some ⟨ba, 0, none⟩) 2 cap4) 2 ([(i : Int), (j : Int)].map (Value.int .i64)) → (W.cell? ⟨w.heap.size, 0, none⟩ = some (.int .i64 r) ∧ W.cell? ⟨w.heap.size, 1, none⟩ = some (.int .i64 c) ∧ W.cell? ⟨w.heap.size, 2, none⟩ = some (.string s)) ∧ (W.cell? ⟨b, i * 4, none⟩ = some (.int .i64 x1') ∧ W.cell? ⟨b, i * 4 + 1, none⟩ = some (.bool x2') ∧ W.cell? ⟨b, i * 4 + 2, none⟩ = some (.int .i64 x3') ∧ W.cell? ⟨b, i * 4 + 3, none⟩ = some (.int .i64 x4')) ∧ (W.cell? ⟨b, j * 4, none⟩ = some (.int .i64 y1') ∧ W.cell? ⟨b, j * 4 + 1, none⟩ = some (.bool y2') ∧ W.cell? ⟨b, j * 4 + 2, none⟩ = some (.int .i64 y3') ∧ W.cell? ⟨b, j * 4 + 3, none⟩ = some (.int .i64 y4')) ∧ (W.cell? ⟨ba, 0, none⟩ = some (.int .i64 (i : Int)) ∧ W.cell? ⟨ba, 1, none⟩ = some (.int .i64 (j : Int)))) := Lib.hid (fun W h1 h2 h3 => by
            obtain ⟨b9, e9, s0, s1, s2, s3⟩ := slot_cells h2 rfl i hi1
            obtain ⟨b8, e8, u0, u1, u2, u3⟩ := slot_cells h2 rfl j hj1
            injection e9 with e9; injection e9 with e9; subst e9
            injection e8 with e8; injection e8 with e8; subst e8
            rw [← HXE.out] at s0 s1 s2 s3
            rw [← HYE.out] at u0 u1 u2 u3
            obtain ⟨b7, e7, t0⟩ := sint_cell h3 rfl 0 (by simp)
            injection e7 with e7; injection e7 with e7; subst e7
            obtain ⟨b6, e6, t1⟩ := sint_cell h3 rfl 1 (by simp)
            injection e6 with e6; injection e6 with e6; subst e6
            exact ⟨HKP.out _ h1, ⟨s0, s1, s2, s3⟩, ⟨u0, u1, u2, u3⟩, t0, t1⟩)
          have SOT : Hid (∀ W : World, Below w4.heap.size w4 W → (W.cell? ⟨w.heap.size, 0, none⟩ = some (.int .i64 r) ∧ W.cell? ⟨w.heap.size, 1, none⟩ = some (.int .i64 c) ∧ W.cell? ⟨w.heap.size, 2, none⟩ = some (.string s)) ∧ (W.cell? ⟨b, i * 4, none⟩ = some (.int .i64 x1') ∧ W.cell? ⟨b, i * 4 + 1, none⟩ = some (.bool x2') ∧ W.cell? ⟨b, i * 4 + 2, none⟩ = some (.int .i64 x3') ∧ W.cell? ⟨b, i * 4 + 3, none⟩ = some (.int .i64 x4')) ∧ (W.cell? ⟨b, j * 4, none⟩ = some (.int .i64 y1') ∧ W.cell? ⟨b, j * 4 + 1, none⟩ = some (.bool y2') ∧ W.cell? ⟨b, j * 4 + 2, none⟩ = some (.int .i64 y3') ∧ W.cell? ⟨b, j * 4 + 3, none⟩ = some (.int .i64 y4')) ∧ (W.cell? ⟨ba, 0, none⟩ = some (.int .i64 (i : Int)) ∧ W.cell? ⟨ba, 1, none⟩ = some (.int .i64 (j : Int)))) := Lib.hid (fun W h => SOF.out W (HB4.out.trans (h.mono HB4.out.size)) (ownV_later HL4.out h) (own_later HA4.out h))
          have hi0 : (0 : Int) ≤ (i : Int) := by omega
          have hj0 : (0 : Int) ≤ (j : Int) := by omega
          clear x0 x1 x2 y0 y1 y2 HO HL HB BT3 BT4
          have hbn : Below w4.heap.size w4 w4 := Below.refl _ _
          have F1 := Lib.hid trivial
          go_region_held3 (fun W => (W.cell? ⟨w.heap.size, 0, none⟩ = some (.int .i64 r) ∧ W.cell? ⟨w.heap.size, 1, none⟩ = some (.int .i64 c) ∧ W.cell? ⟨w.heap.size, 2, none⟩ = some (.string s)) ∧ (W.cell? ⟨b, i * 4, none⟩ = some (.int .i64 x1') ∧ W.cell? ⟨b, i * 4 + 1, none⟩ = some (.bool x2') ∧ W.cell? ⟨b, i * 4 + 2, none⟩ = some (.int .i64 x3') ∧ W.cell? ⟨b, i * 4 + 3, none⟩ = some (.int .i64 x4')) ∧ (W.cell? ⟨b, j * 4, none⟩ = some (.int .i64 y1') ∧ W.cell? ⟨b, j * 4 + 1, none⟩ = some (.bool y2') ∧ W.cell? ⟨b, j * 4 + 2, none⟩ = some (.int .i64 y3') ∧ W.cell? ⟨b, j * 4 + 3, none⟩ = some (.int .i64 y4')) ∧ (W.cell? ⟨ba, 0, none⟩ = some (.int .i64 (i : Int)) ∧ W.cell? ⟨ba, 1, none⟩ = some (.int .i64 (j : Int)))) (first | exact SOT.out _ hbn | exact SOT.out _ hbn.drew | exact SOT.out _ (hbn.alloc hbn.size _) | exact SOF.out _ HB9.out HL9.out HA9.out) (first | (have FG := F1; go_at_call 99; refine Calls.mono (HCI.out _) ?_; rintro e w5 ⟨v5, rfl, o5, b5⟩; have HR5 := Lib.hid (reads_ints o5 (by have := HC6I.out; omega)); have hbm : Below w4.heap.size w4 _ := (by first | exact hbn.trans (b5.mono hbn.size) | exact hbn.drew.trans b5); clear hbn; have hbn := hbm; clear hbm b5; clear o5 F1 FG; have F2 := Lib.hid trivial) | (have FG := F2; go_at_call 98; refine Calls.mono (HPI.out _ _ HR5.out) ?_; rintro e w6 ⟨rfl, b6⟩; have hbm : Below w4.heap.size w4 _ := (by first | exact hbn.trans (b6.mono hbn.size) | exact hbn.drew.trans b6); clear hbn; have hbn := hbm; clear hbm b6; clear F2 FG; have F3 := Lib.hid trivial) | (have FG := F3; go_at_call 99; refine Calls.mono (HCJ.out _) ?_; rintro e w7 ⟨v7, rfl, o7, b7⟩; have HR7 := Lib.hid (reads_ints o7 (by have := HC6J.out; omega)); have hbm : Below w4.heap.size w4 _ := (by first | exact hbn.trans (b7.mono hbn.size) | exact hbn.drew.trans b7); clear hbn; have hbn := hbm; clear hbm b7; clear o7 F3 FG; have F4 := Lib.hid trivial) | (have FG := F4; go_at_call 98; refine Calls.mono (HPJ.out _ _ HR7.out) ?_; rintro e w8 ⟨rfl, b8⟩; have hbm : Below w4.heap.size w4 _ := (by first | exact hbn.trans (b8.mono hbn.size) | exact hbn.drew.trans b8); clear hbn; have hbn := hbm; clear hbm b8; have HO8 := Lib.hid (ownV_later HO4.out hbn); have HL8 := Lib.hid (ownV_later HL4.out hbn); have HA8 := Lib.hid (own_later HA4.out hbn); have HB8 := Lib.hid (HB4.out.trans (hbn.mono HB4.out.size)); clear F4 FG; have F5 := Lib.hid trivial) | (have FG := F5; refine step_appendV rfl (.tmp 27) (.tmp 56) 82 rfl W0.heap.size 85 i0 (.agg #[.int .i64 0, .int .i64 0, .int .i64 0, .int .i64 0, .int .i64 0]) 5 40 Tryz.underlying82 hi hz0 hz1 hz2 rfl (by decide) _ _ _ rfl (HO8.out.alloc (.cells #[.int .i64 (i : Int), .int .i64 (j : Int), .int .i64 (pi : Int), .int .i64 (pj : Int), .int .i64 (k : Int)] 85)) _ 1 1 (cells_Crossing ((i : Int), (j : Int), (pi : Int), (pj : Int), (k : Int))) rfl rfl (scells_Crossing_one _) (fun e => by cases e) (soneCr w8 ((i : Int), (j : Int), (pi : Int), (pj : Int), (k : Int)) _) (by omega) (by omega) (le_alloc HB8.out.size _) ?_; intro v9 w9 hown hgrow; have HB9 := Lib.hid (below_app (HB8.out.alloc HB8.out.size (.cells #[.int .i64 (i : Int), .int .i64 (j : Int), .int .i64 (pi : Int), .int .i64 (pj : Int), .int .i64 (k : Int)] 85)) hgrow (HO8.out.alloc (.cells #[.int .i64 (i : Int), .int .i64 (j : Int), .int .i64 (pi : Int), .int .i64 (pj : Int), .int .i64 (k : Int)] 85)) (Nat.le_refl _) (le_alloc HB8.out.size _)); have HL9 := Lib.hid ((HL8.out.alloc (.cells #[.int .i64 (i : Int), .int .i64 (j : Int), .int .i64 (pi : Int), .int .i64 (pj : Int), .int .i64 (k : Int)] 85)).kept hgrow (own_types (HO8.out.alloc (.cells #[.int .i64 (i : Int), .int .i64 (j : Int), .int .i64 (pi : Int), .int .i64 (pj : Int), .int .i64 (k : Int)] 85)) (HL8.out.alloc (.cells #[.int .i64 (i : Int), .int .i64 (j : Int), .int .i64 (pi : Int), .int .i64 (pj : Int), .int .i64 (k : Int)] 85)) (by decide))); have HA9 := Lib.hid ((HA8.out.alloc (.cells #[.int .i64 (i : Int), .int .i64 (j : Int), .int .i64 (pi : Int), .int .i64 (pj : Int), .int .i64 (k : Int)] 85)).kept hgrow (own_types (HO8.out.alloc (.cells #[.int .i64 (i : Int), .int .i64 (j : Int), .int .i64 (pi : Int), .int .i64 (pj : Int), .int .i64 (k : Int)] 85)) (HA8.out.alloc (.cells #[.int .i64 (i : Int), .int .i64 (j : Int), .int .i64 (pi : Int), .int .i64 (pj : Int), .int .i64 (k : Int)] 85)) (by decide))); have HO9 : Hid (w9.ownsRow W0.heap.size 85 5 v9 CN.length (row_Crossing CN)) := Lib.hid (by rw [HNX.out, ← srow_Crossing_snoc, List.length_append]; exact hown); clear hown hgrow hbn FG F5))
          all_goals rw [HCN.out] at HO9
          all_goals go_wp2_with fail
          all_goals go_roundw
          all_goals first | exact ⟨k + 1, by omega, by go_num, HO9, HL9, HB9⟩ | (simp [intOf]; omega)
        · rw [crossAt_not h2, List.append_nil] at HNX
          have h2a : ¬ (atS l c (k : Int)).length = 2 := by rw [atS_inS, List.length_map]; exact h2
          obtain ⟨A, hA⟩ : ∃ A, A = atS l c (k : Int) := ⟨_, rfl⟩
          rw [← hA] at HSA1 h2a
          clear hA h2
          have e1 : ¬ ((A.length : Int) = 2) := by omega
          have e2 : ((A.length : Int) == 2) = false := by simpa using e1
          go_wp2_with (first | (go_at_call 95; refine (HIG.out _).mono ?_; rintro e w3 ⟨rfl, b3⟩; have BT3 := Lib.hid b3; obtain ⟨y0, y1, y2⟩ := HKP.out _ (HB.out.trans (BT3.out.mono HB.out.size)); clear b3) | (go_at_call 97; refine (HSA1.out _).mono ?_; rintro e w4 ⟨v4, rfl, o4, b4⟩; obtain ⟨a4, cap4, rfl⟩ := ownV_slice o4; have BT4 := Lib.hid (BT3.out.trans (b4.mono BT3.out.size)); clear o4 b4))
          have HO4 : Hid (w4.ownsRow W0.heap.size 85 5 u3 CN.length (row_Crossing CN)) := Lib.hid (by rw [HNX.out]; exact ownV_later HO.out BT4.out)
          have HL4 := Lib.hid (ownV_later HL.out BT4.out)
          have HB4 := Lib.hid (HB.out.trans (BT4.out.mono HB.out.size))
          rw [HCN.out] at HO4
          go_roundw
          case rel => exact ⟨k + 1, by omega, by go_num, HO4, HL4, HB4⟩
          case measure => simp [intOf]; omega
      · have hd : decide ((k : Int) < (s.size : Int)) = false := decide_eq_false (by omega)
        obtain rfl : k = s.size := by omega
        go_wp2
        go_ret
        exact ⟨_, rfl, own_widen HO.out (by omega), HW.out.trans (HB.out.mono HW.out.size)⟩
end Go.Proofs.YtgjijmcedonlmaaGreatDoor
namespace Go.Proofs.YtgjijmcedonlmaaGreatDoor
open Go.RowKit

theorem pown_then (W : World) (t : TypeId) (o : Obj) : ((W.alloc (.cells #[] t)).alloc o).ownsRow W.heap.size t 1 (.slice (some ⟨W.heap.size, 0, none⟩) 0 0) 0 [] ∧ ((W.alloc (.cells #[] t)).alloc o).heap[W.heap.size + 1]? = some o ∧ Below W.heap.size W ((W.alloc (.cells #[] t)).alloc o) := by
  refine ⟨(own_zero W t 1).alloc o, ?_, ((Below.refl _ _).alloc (Nat.le_refl _) _).alloc (by simp) _⟩
  have h := heap_alloc_new (W.alloc (.cells #[] t)) o
  rwa [show (W.alloc (.cells #[] t)).heap.size = W.heap.size + 1 by simp] at h
theorem pown_behind (W : World) (t : TypeId) (o : Obj) : ((W.alloc o).alloc (.cells #[] t)).ownsRow W.heap.size t 1 (.slice (some ⟨W.heap.size + 1, 0, none⟩) 0 0) 0 [] ∧ ((W.alloc o).alloc (.cells #[] t)).heap[W.heap.size]? = some o ∧ Below W.heap.size W ((W.alloc o).alloc (.cells #[] t)) := by
  have h1 := own_zero (W.alloc o) t 1
  rw [show (W.alloc o).heap.size = W.heap.size + 1 by simp] at h1
  refine ⟨own_widen h1 (by omega), ?_, ((Below.refl _ _).alloc (Nat.le_refl _) _).alloc (by simp) _⟩
  exact (Below.heap_alloc (W.alloc o) _ W.heap.size (by simp)).trans (heap_alloc_new W o)
theorem pblk1 {W : World} {g : Nat} {n : Int} {t : TypeId} (h : W.heap[g]? = some (.cells #[.int .i64 n] t (0, 0))) : ∀ j, j < 1 * 1 → ∃ b off, some (⟨g, 0, none⟩ : Addr) = some ⟨b, off, none⟩ ∧ W.cell? ⟨b, off + j, none⟩ = ([.int .i64 n] : List Value)[j]? := fun j hj => by
  refine ⟨_, _, rfl, ?_⟩
  rw [Nat.zero_add, cell_of_row _ g j _ t (0, 0) h]
  simp
theorem pints_one (l : List Int) : ∀ u ∈ l.map (Value.int .i64), u.oneCell' = true := by
  intro u hu
  obtain ⟨z, -, rfl⟩ := List.mem_map.1 hu
  rfl
def posI (l : List Int) (n : Int) : Nat := l.findIdx fun y => decide (n ≤ y)
theorem posI_le (l : List Int) (n : Int) : posI l n ≤ l.length := List.findIdx_le_length
theorem posI_lt {l : List Int} {n : Int} {k : Nat} (h : k < posI l n) : l.getD k 0 < n := by
  have h1 : k < l.length := Nat.lt_of_lt_of_le h (posI_le l n)
  have h2 := List.not_of_lt_findIdx (xs := l) (p := fun y => decide (n ≤ y)) h
  rw [List.getD_eq_getElem?_getD, List.getElem?_eq_getElem h1]
  have h3 := of_decide_eq_false h2
  show l[k] < n
  omega
theorem posI_ge {l : List Int} {n : Int} (h : posI l n < l.length) : n ≤ l.getD (posI l n) 0 := by
  have h2 := List.findIdx_getElem (xs := l) (p := fun y => decide (n ≤ y)) (w := h)
  rw [List.getD_eq_getElem?_getD, List.getElem?_eq_getElem h]
  exact of_decide_eq_true h2
theorem putI_eq {l : List Int} {n : Int} (hn : n ∉ l) : putI l n = l.take (posI l n) ++ [n] ++ l.drop (posI l n) := by
  unfold putI
  simp only
  rw [if_neg]
  · rfl
  · rintro ⟨h1, h2⟩
    apply hn
    rw [← h1, List.getD_eq_getElem?_getD, List.getElem?_eq_getElem h2]
    exact List.getElem_mem h2
theorem putI_len {l : List Int} {n : Int} (hn : n ∉ l) : (putI l n).length = l.length + 1 := by
  rw [putI_eq hn]
  have := posI_le l n
  simp
  omega
theorem ins_ints {W : World} {B base k m : Nat} {e : TypeId} {v : Value} {l : List Int} {n : Int} {xs ys : List Value} (h : W.ownsRow base e 1 v (k + 1 + m) (xs ++ [.int .i64 n] ++ ys)) (hx : xs = (l.take k).map (Value.int .i64)) (hy : ys = (l.drop k).map (Value.int .i64)) (hm : k + m = l.length) (hB : B ≤ base) :
    W.ownsRow B e 1 v (l.length + 1) ((l.take k ++ [n] ++ l.drop k).map (Value.int .i64)) := by
  subst hx hy
  rw [show k + 1 + m = l.length + 1 by omega] at h
  rw [List.map_append, List.map_append]
  exact own_widen h hB
end Go.Proofs.YtgjijmcedonlmaaGreatDoor
namespace Go.Proofs.YtgjijmcedonlmaaGreatDoor
open Go.RowKit

theorem scross_cells {W : World} {base m cap : Nat} {e : TypeId} {a0 : Option Addr} {l : List CrossV} (h : W.ownsRow base e 5 (.slice a0 m cap) m (row_Crossing l)) (hn : m = l.length) :
    ∀ j, j < l.length → ∃ b, a0 = some ⟨b, 0, none⟩ ∧ W.cell? ⟨b, j * 5, none⟩ = some (.int .i64 (l.getD j none_Crossing).1) ∧ W.cell? ⟨b, j * 5 + 1, none⟩ = some (.int .i64 (l.getD j none_Crossing).2.1) := by
  subst hn
  intro j hj
  have h2 := h.2
  rcases h2 with ⟨e1, e2⟩ | ⟨g, cap', cur, e1, -⟩
  · omega
  · cases e1
    have hat : ∀ r, r < 5 → W.cell? ⟨g, j * 5 + r, none⟩ = (cells_Crossing (l.getD j none_Crossing))[r]? := fun r hr => by
      rw [h.cellAt (j * 5 + r) (by omega), row_Crossing_at l j hj r hr]
      simp [List.getD, hj]
    exact ⟨g, rfl, hat 0 (by decide), hat 1 (by decide)⟩
theorem stake_getDC {l : List CrossV} {k : Nat} (h : k < l.length) : l.take (k + 1) = l.take k ++ [l.getD k none_Crossing] := by
  rw [List.take_succ_eq_append_getElem h, List.getD_eq_getElem?_getD, List.getElem?_eq_getElem h]
  rfl
theorem crossS_apart {g : Int × Int × ByteArray} {x : CrossV} (h : x ∈ crossS g) : x.1 < x.2.1 := by
  unfold crossS crossTo at h
  obtain ⟨k, -, hk⟩ := List.mem_flatMap.1 h
  obtain ⟨i, j, -, rfl, hij, -⟩ := crossAt_mem hk
  show (i : Int) < (j : Int)
  omega
theorem crossS_len36 (g : Int × Int × ByteArray) : (crossS g).length ≤ 36 := by
  by_cases hg : isG g = true
  · unfold crossS
    exact Nat.le_trans (scrossTo_len _ _ _) (isG_size hg)
  · rw [crossS_no (by simpa using hg)]
    simp
theorem getDC_in {l : List CrossV} {k : Nat} (h : k < l.length) : l.getD k none_Crossing ∈ l := by simp [List.getD, h]
/-- The numbers up to a crossing, put in their places: the next one is new. -/
theorem put_next {q : Int} {X : List CrossV} (hn : (othersL q X).Nodup) {k : Nat} (hk : k < X.length) {n : Int} (e : otherX q (X.getD k none_Crossing) = [n]) :
    n ∉ putAll (othersL q (X.take k)) ∧ putAll (othersL q (X.take (k + 1))) = putI (putAll (othersL q (X.take k))) n := by
  have e1 : othersL q (X.take (k + 1)) = othersL q (X.take k) ++ [n] := by rw [stake_getDC hk, othersL_next, e]
  have e2 : othersL q X = othersL q (X.take (k + 1)) ++ othersL q (X.drop (k + 1)) := by
    unfold othersL
    rw [← List.flatMap_append, List.take_append_drop]
  rw [e2, e1, List.nodup_append, List.nodup_append] at hn
  obtain ⟨⟨h1, -, h3⟩, -, -⟩ := hn
  refine ⟨fun h => ?_, by rw [e1, putAll_next]⟩
  have h4 := ((putAll_sorted h1).1.mem_iff).1 h
  exact h3 n h4 n (by simp) rfl
theorem put_same {q : Int} {X : List CrossV} {k : Nat} (hk : k < X.length) (e : otherX q (X.getD k none_Crossing) = []) : putAll (othersL q (X.take (k + 1))) = putAll (othersL q (X.take k)) := by
  rw [stake_getDC hk, othersL_next, e, List.append_nil]
theorem put_len {q : Int} {X : List CrossV} (hn : (othersL q X).Nodup) (k : Nat) : (putAll (othersL q (X.take k))).length ≤ X.length := by
  have e2 : othersL q X = othersL q (X.take k) ++ othersL q (X.drop k) := by
    unfold othersL
    rw [← List.flatMap_append, List.take_append_drop]
  rw [e2, List.nodup_append] at hn
  rw [(putAll_sorted hn.1).1.length_eq]
  refine Nat.le_trans (othersL_len q _) ?_
  rw [List.length_take]
  exact Nat.min_le_right _ _
end Go.Proofs.YtgjijmcedonlmaaGreatDoor
