/-
  Contracts of the exact laws' helpers on Slot (written by structgen.py).
-/
import Derived.Test.YtdhjgaadfofkkaaStrs
import Derived.Test.YtdhjgaadfofkkaaRows0
namespace Go.Proofs.Ytdhjgaadfofkkaa
open Go.RowKit

theorem info_Slot : (Try.prog.info? 36).map (fun i => (i.zero, i.size, i.bytes)) = some (some (.agg #[.int .i64 0, .bool false, .int .i64 0, .int .i64 0]), 4, 32) := by kernel_rfl
set_option maxHeartbeats 400000 in
theorem one_to_Slot (x0 : Int) (x1 : Bool) (x2 : Int) (x3 : Int) (w : World) :
    Calls Try.prog 14 #[.agg #[.int .i64 x0, .bool x1, .int .i64 x2, .int .i64 x3]] w fun e w' => e = .returned (.agg #[.int .i64 x0, .bool x1, .int .i64 x2, .int .i64 x3]) ∧ Below w.heap.size w w' := by
  go_enter Try.func14, Try.ntmps14
  go_wp2
  exact bodyPost_ret (v := .agg #[.int .i64 x0, .bool x1, .int .i64 x2, .int .i64 x3]) (by simp [results, Try.results14, go_sem]) rfl ⟨rfl, (((Below.refl _ _).alloc (Nat.le_refl _) _).alloc (by simp) _).alloc (by simp; omega) _⟩
set_option maxHeartbeats 400000 in
theorem one_eq_Slot (x0 : Int) (x1 : Bool) (x2 : Int) (x3 : Int) (w : World) :
    Calls Try.prog 25 #[.agg #[.int .i64 x0, .bool x1, .int .i64 x2, .int .i64 x3], .agg #[.int .i64 x0, .bool x1, .int .i64 x2, .int .i64 x3]] w fun e w' => e = .returned (.bool true) ∧ Below w.heap.size w w' := by
  go_enter Try.func25, Try.ntmps25
  go_wp2
  go_ret
  exact ⟨rfl, ((Below.refl _ _).alloc (Nat.le_refl _) _).alloc (by simp) _⟩

/-- The cells of a Slot. -/
def cells_Slot (x : Int × Bool × Int × Int) : List Value := [.int .i64 x.1, .bool x.2.1, .int .i64 x.2.2.1, .int .i64 x.2.2.2]
def row_Slot (l : List (Int × Bool × Int × Int)) : List Value := l.flatMap cells_Slot
def none_Slot : Int × Bool × Int × Int := (0, false, 0, 0)
/-- What a Slot that comes in keeps to. -/
def ok_Slot (x : Int × Bool × Int × Int) : Prop := (-9223372036854775808 ≤ x.1 ∧ x.1 ≤ 9223372036854775807) ∧ True ∧ (-9223372036854775808 ≤ x.2.2.1 ∧ x.2.2.1 ≤ 9223372036854775807) ∧ (-9223372036854775808 ≤ x.2.2.2 ∧ x.2.2.2 ≤ 9223372036854775807)
theorem cells_Slot_length (x : Int × Bool × Int × Int) : (cells_Slot x).length = 4 := rfl
theorem row_Slot_length (l : List (Int × Bool × Int × Int)) : (row_Slot l).length = l.length * 4 := row0_length cells_Slot 4 cells_Slot_length l
theorem row_Slot_at (l : List (Int × Bool × Int × Int)) (k : Nat) (h : k < l.length) (r : Nat) (hr : r < 4) : (row_Slot l)[k * 4 + r]? = (cells_Slot l[k])[r]? := row0_at cells_Slot 4 cells_Slot_length l k h r hr
theorem row_Slot_append (l m : List (Int × Bool × Int × Int)) : row_Slot (l ++ m) = row_Slot l ++ row_Slot m := List.flatMap_append ..
theorem row_Slot_one (l : List (Int × Bool × Int × Int)) : ∀ u ∈ row_Slot l, u.oneCell' = true := by
  intro u hu
  obtain ⟨z, -, hz⟩ := List.mem_flatMap.1 hu
  simp only [cells_Slot, List.mem_cons, List.not_mem_nil, or_false] at hz
  rcases hz with rfl | rfl | rfl | rfl <;> rfl
/-- The slice v reads as the list l. -/
def ReadsSlot (B : Nat) (W : World) (v : Value) (l : List (Int × Bool × Int × Int)) : Prop := ReadsV B W v 4 l.length (row_Slot l)
theorem ReadsSlot.cells {B : Nat} {W : World} {v : Value} {l : List (Int × Bool × Int × Int)} (h : ReadsSlot B W v l) :
    l.length ≤ 9223372036854775807 ∧ ∃ a0 cap, v = .slice a0 l.length cap ∧ CapOk a0 l.length cap ∧ ∀ j, j < l.length → ∃ b off, a0 = some ⟨b, off, none⟩ ∧ b < B ∧ W.cell? ⟨b, off + j * 4, none⟩ = some (.int .i64 (l.getD j none_Slot).1) ∧ W.cell? ⟨b, off + j * 4 + 1, none⟩ = some (.bool (l.getD j none_Slot).2.1) ∧ W.cell? ⟨b, off + j * 4 + 2, none⟩ = some (.int .i64 (l.getD j none_Slot).2.2.1) ∧ W.cell? ⟨b, off + j * 4 + 3, none⟩ = some (.int .i64 (l.getD j none_Slot).2.2.2) := by
  obtain ⟨h0, -, a0, cap, rfl, hc, h⟩ := h
  refine ⟨h0, a0, cap, rfl, hc, fun j hj => ?_⟩
  obtain ⟨b, off, rfl, e2, e3⟩ := h (j * 4) (by omega)
  have hr : ∀ r, r < 4 → W.cell? ⟨b, off + j * 4 + r, none⟩ = (cells_Slot (l.getD j none_Slot))[r]? := fun r hr => by
    obtain ⟨b', off', e1, -, e4⟩ := h (j * 4 + r) (by omega)
    cases e1
    rw [Nat.add_assoc, e4, row_Slot_at l j hj r hr]
    simp [List.getD, hj]
  exact ⟨b, off, rfl, e2, hr 0 (by decide), hr 1 (by decide), hr 2 (by decide), hr 3 (by decide)⟩
theorem ReadsSlot.now {W W' : World} {v : Value} {l : List (Int × Bool × Int × Int)} (h : ReadsSlot W.heap.size W v l) (hb : Below W.heap.size W W') : ReadsSlot W'.heap.size W' v l := ReadsV.now h hb
theorem reads_Slot_own {W : World} {base m : Nat} {e : TypeId} {v : Value} {l : List (Int × Bool × Int × Int)} (h : W.ownsRow base e 4 v m (row_Slot l)) (hn : m = l.length) (hl : l.length ≤ 140737488355328) : ReadsSlot W.heap.size W v l := by
  subst hn
  exact readsV_own h hl
theorem row_Slot_set (m : List (Int × Bool × Int × Int)) (k : Nat) (h : k < m.length) (x : Int × Bool × Int × Int) : ((((row_Slot m).set (k * 4) (.int .i64 x.1)).set (k * 4 + 1) (.bool x.2.1)).set (k * 4 + 2) (.int .i64 x.2.2.1)).set (k * 4 + 3) (.int .i64 x.2.2.2) = row_Slot (m.set k x) := row0_set4 cells_Slot cells_Slot_length m k h x (.int .i64 x.1) (.bool x.2.1) (.int .i64 x.2.2.1) (.int .i64 x.2.2.2) rfl
theorem stored_Slot {w : World} {base g m cap : Nat} {e : TypeId} {l : List (Int × Bool × Int × Int)} (h : w.ownsRow base e 4 (.slice (some ⟨g, 0, none⟩) m cap) m (row_Slot l)) (k : Nat) (hk : k < l.length) (x0 : Int) (x1 : Bool) (x2 : Int) (x3 : Int) :
    ((((w.setCell ⟨g, k * 4, none⟩ (.int .i64 x0)).setCell ⟨g, k * 4 + 1, none⟩ (.bool x1)).setCell ⟨g, k * 4 + 2, none⟩ (.int .i64 x2)).setCell ⟨g, k * 4 + 3, none⟩ (.int .i64 x3)).ownsRow base e 4 (.slice (some ⟨g, 0, none⟩) m cap) m (row_Slot (l.set k (x0, x1, x2, x3))) := by
  have h9 := (((h.stored (k * 4) (.int .i64 x0)).1.stored (k * 4 + 1) (.bool x1)).1.stored (k * 4 + 2) (.int .i64 x2)).1.stored (k * 4 + 3) (.int .i64 x3)
  rw [← row_Slot_set l k hk]
  exact h9.1
/-- What has been copied after k rounds. -/
def copied_Slot (l : List (Int × Bool × Int × Int)) (k : Nat) : List Value := row_Slot (l.take k ++ List.replicate (l.length - k) none_Slot)
theorem copied_Slot_full (l : List (Int × Bool × Int × Int)) : copied_Slot l l.length = row_Slot l := by
  unfold copied_Slot; simp
theorem copied_Slot_at (l : List (Int × Bool × Int × Int)) (k : Nat) (h : k < l.length) (r : Nat) (hr : r < 4) : (copied_Slot l k)[k * 4 + r]? = (cells_Slot none_Slot)[r]? := by
  unfold copied_Slot
  rw [row_Slot_at _ k (by simp; omega) r hr]
  congr 2
  rw [List.getElem_append_right (by rw [List.length_take]; omega)]
  simp
theorem copied_Slot_zero (l : List (Int × Bool × Int × Int)) : (madeCells #[.int .i64 0, .bool false, .int .i64 0, .int .i64 0] (l.length * 4)).toList = copied_Slot l 0 := by
  have h9 := row0_made cells_Slot 4 (by decide) cells_Slot_length none_Slot l.length
  unfold copied_Slot
  simp only [List.take_zero, List.nil_append, Nat.sub_zero]
  exact h9
set_option maxHeartbeats 400000 in
/-- eqSlotS at two slices that read the same: true. -/
theorem eq_SlotS (l : List (Int × Bool × Int × Int)) (v u : Value) (w : World) (hv : ReadsSlot w.heap.size w v l) (hu : ReadsSlot w.heap.size w u l) :
    Calls Try.prog 10 #[v, u] w fun e w' => e = .returned (.bool true) ∧ Below w.heap.size w w' := by
  obtain ⟨hl, a0, cap, rfl, -, hc⟩ := hv.cells
  obtain ⟨-, a1, cap1, rfl, -, hd⟩ := hu.cells
  have HC := Lib.hid hc
  have HD := Lib.hid hd
  clear hc hd hv hu
  go_enter Try.func10, Try.ntmps10
  go_wp2
  go_loopw [5] (fun i wr => ∃ k : Nat, k ≤ l.length ∧ i = .int .i64 k ∧ Below w.heap.size w wr) (fun i _ => l.length - (intOf i).toNat)
  case atStart => exact ⟨0, Nat.zero_le _, rfl, Below.refl _ _⟩
  case round =>
    obtain ⟨k, hk, rfl, hbl⟩ := hrel
    by_cases hlt : k < l.length
    · obtain ⟨b, off, rfl, hb, q0, q1, q2, q3⟩ := HC.out k hlt
      obtain ⟨b1, off1, rfl, hb1, r0, r1, r2, r3⟩ := HD.out k hlt
      obtain ⟨z, hz⟩ : ∃ z, z = l.getD k none_Slot := ⟨_, rfl⟩
      rw [← hz] at q0 q1 q2 q3 r0 r1 r2 r3
      obtain ⟨x0, x1, x2, x3⟩ := z
      have c0 := (hbl.cell (p := ⟨b, off + k * 4, none⟩) hb).trans q0
      have c1 := (hbl.cell (p := ⟨b, off + k * 4 + 1, none⟩) hb).trans q1
      have c2 := (hbl.cell (p := ⟨b, off + k * 4 + 2, none⟩) hb).trans q2
      have c3 := (hbl.cell (p := ⟨b, off + k * 4 + 3, none⟩) hb).trans q3
      have d0 := (hbl.cell (p := ⟨b1, off1 + k * 4, none⟩) hb1).trans r0
      have d1 := (hbl.cell (p := ⟨b1, off1 + k * 4 + 1, none⟩) hb1).trans r1
      have d2 := (hbl.cell (p := ⟨b1, off1 + k * 4 + 2, none⟩) hb1).trans r2
      have d3 := (hbl.cell (p := ⟨b1, off1 + k * 4 + 3, none⟩) hb1).trans r3
      clear q0 q1 q2 q3 r0 r1 r2 r3 hz
      have HK : Hid (∀ w', Below wr.heap.size wr w' → w'.cell? ⟨b, off + k * 4, none⟩ = some (.int .i64 x0) ∧ w'.cell? ⟨b, off + k * 4 + 1, none⟩ = some (.bool x1) ∧ w'.cell? ⟨b, off + k * 4 + 2, none⟩ = some (.int .i64 x2) ∧ w'.cell? ⟨b, off + k * 4 + 3, none⟩ = some (.int .i64 x3) ∧ w'.cell? ⟨b1, off1 + k * 4, none⟩ = some (.int .i64 x0) ∧ w'.cell? ⟨b1, off1 + k * 4 + 1, none⟩ = some (.bool x1) ∧ w'.cell? ⟨b1, off1 + k * 4 + 2, none⟩ = some (.int .i64 x2) ∧ w'.cell? ⟨b1, off1 + k * 4 + 3, none⟩ = some (.int .i64 x3)) := Lib.hid (fun w' h => ⟨(h.cell (p := ⟨b, off + k * 4, none⟩) (Nat.lt_of_lt_of_le hb hbl.size)).trans c0, (h.cell (p := ⟨b, off + k * 4 + 1, none⟩) (Nat.lt_of_lt_of_le hb hbl.size)).trans c1, (h.cell (p := ⟨b, off + k * 4 + 2, none⟩) (Nat.lt_of_lt_of_le hb hbl.size)).trans c2, (h.cell (p := ⟨b, off + k * 4 + 3, none⟩) (Nat.lt_of_lt_of_le hb hbl.size)).trans c3, (h.cell (p := ⟨b1, off1 + k * 4, none⟩) (Nat.lt_of_lt_of_le hb1 hbl.size)).trans d0, (h.cell (p := ⟨b1, off1 + k * 4 + 1, none⟩) (Nat.lt_of_lt_of_le hb1 hbl.size)).trans d1, (h.cell (p := ⟨b1, off1 + k * 4 + 2, none⟩) (Nat.lt_of_lt_of_le hb1 hbl.size)).trans d2, (h.cell (p := ⟨b1, off1 + k * 4 + 3, none⟩) (Nat.lt_of_lt_of_le hb1 hbl.size)).trans d3⟩)
      go_wp2
      go_region_held3 (fun w' => w'.cell? ⟨b, off + k * 4, none⟩ = some (.int .i64 x0) ∧ w'.cell? ⟨b, off + k * 4 + 1, none⟩ = some (.bool x1) ∧ w'.cell? ⟨b, off + k * 4 + 2, none⟩ = some (.int .i64 x2) ∧ w'.cell? ⟨b, off + k * 4 + 3, none⟩ = some (.int .i64 x3) ∧ w'.cell? ⟨b1, off1 + k * 4, none⟩ = some (.int .i64 x0) ∧ w'.cell? ⟨b1, off1 + k * 4 + 1, none⟩ = some (.bool x1) ∧ w'.cell? ⟨b1, off1 + k * 4 + 2, none⟩ = some (.int .i64 x2) ∧ w'.cell? ⟨b1, off1 + k * 4 + 3, none⟩ = some (.int .i64 x3)) (first | exact ⟨c0, c1, c2, c3, d0, d1, d2, d3⟩ | exact HK.out _ b3) (first | (go_at_call 25; refine Calls.mono (one_eq_Slot x0 x1 x2 x3 _) ?_; rintro e w2 ⟨rfl, b2⟩; have b3 : Below wr.heap.size wr w2 := (by first | exact b2 | exact ((Below.refl wr.heap.size wr).drew).trans b2); have HB2 := Lib.hid (hbl.trans (b3.mono hbl.size))))
      all_goals go_wp2
      all_goals go_roundw
      case rel => exact ⟨k + 1, by omega, by go_num, by repeat (first | exact HB2.out | apply Below.drew)⟩
      case measure => simp [intOf]; omega
    · go_wp2
      go_ret
      exact ⟨rfl, hbl⟩
/-- What markSlotS writes. -/
def mk_Slot (k : Nat) : Int × Bool × Int × Int := (((k : Nat) : Int), decide ((((k + 1 : Nat)) : Int) % 3 = 0), ((k + 2 : Nat) : Int), ((k + 3 : Nat) : Int))
def mks_Slot (k0 m : Nat) : List (Int × Bool × Int × Int) := (List.range m).map fun i => mk_Slot (k0 + 4 * i)
theorem mks_Slot_length (k0 m : Nat) : (mks_Slot k0 m).length = m := by simp [mks_Slot]
theorem mks_Slot_getD (k0 m j : Nat) (h : j < m) : (mks_Slot k0 m).getD j none_Slot = mk_Slot (k0 + 4 * j) := by simp [mks_Slot, List.getD, h]
theorem mkd_Slot_set (k0 : Nat) (m : List (Int × Bool × Int × Int)) (j : Nat) (h : j < m.length) : (mks_Slot k0 j ++ m.drop j).set j (mk_Slot (k0 + 4 * j)) = mks_Slot k0 (j + 1) ++ m.drop (j + 1) := by
  rw [List.set_append_right _ _ (by simp [mks_Slot_length])]
  have e2 : j - (mks_Slot k0 j).length = 0 := by simp [mks_Slot_length]
  rw [e2, List.drop_eq_getElem_cons h, List.set_cons_zero]
  simp [mks_Slot, List.range_succ]
theorem mkd_Slot_at (k0 : Nat) (m : List (Int × Bool × Int × Int)) (j : Nat) (h : j < m.length) (r : Nat) (hr : r < 4) : (row_Slot (mks_Slot k0 j ++ m.drop j))[j * 4 + r]? = (cells_Slot (m.getD j none_Slot))[r]? := by
  rw [row_Slot_at _ j (by rw [List.length_append, mks_Slot_length, List.length_drop]; omega) r hr]
  congr 2
  rw [List.getElem_append_right (by rw [mks_Slot_length]; exact Nat.le_refl _)]
  simp [mks_Slot_length, List.getD, h]
theorem mk_Slot_eq (k0 j : Nat) : mk_Slot (k0 + 4 * j) = ((k0 : Int) + 4 * j, decide (((k0 : Int) + 4 * j + 1) % 3 = 0), (k0 : Int) + 4 * j + 1 + 1, (k0 : Int) + 4 * j + 1 + 1 + 1) := by
  unfold mk_Slot
  rw [show ((k0 + 4 * j : Nat) : Int) = (k0 : Int) + 4 * j by omega, show ((k0 + 4 * j + 1 : Nat) : Int) = (k0 : Int) + 4 * j + 1 by omega, show ((k0 + 4 * j + 2 : Nat) : Int) = (k0 : Int) + 4 * j + 1 + 1 by omega, show ((k0 + 4 * j + 3 : Nat) : Int) = (k0 : Int) + 4 * j + 1 + 1 + 1 by omega]
set_option maxHeartbeats 1600000 in
theorem mark_SlotS0 (base g m' cap : Nat) (m : List (Int × Bool × Int × Int)) (hm : m.length = m') (hn : m' ≤ 17592186044416) (k0 : Nat) (h0 : 1 ≤ k0) (h1 : k0 ≤ 17592186044416) (w : World)
    (ho : w.ownsRow base 36 4 (.slice (some ⟨g, 0, none⟩) m' cap) m' (row_Slot m)) :
    Calls Try.prog 11 #[.slice (some ⟨g, 0, none⟩) m' cap, .int .i64 k0] w fun e w' => e = .returned (.int .i64 ((k0 + 4 * m' : Nat) : Int)) ∧ w'.ownsRow base 36 4 (.slice (some ⟨g, 0, none⟩) m' cap) m' (row_Slot (mks_Slot k0 m')) ∧ w.grownBy w' (some g) := by
  have HO0 := Lib.hid ho
  have HM := Lib.hid hm
  clear ho hm
  go_enter Try.func11, Try.ntmps11
  go_wp2
  go_loopw [1, 5] (fun kv i wr => ∃ j : Nat, j ≤ m' ∧ i = .int .i64 j ∧ kv = .int .i64 (k0 + 4 * j) ∧ Hid (wr.ownsRow base 36 4 (.slice (some ⟨g, 0, none⟩) m' cap) m' (row_Slot (mks_Slot k0 j ++ m.drop j))) ∧ w.grownBy wr (some g)) (fun _ i _ => m' - (intOf i).toNat)
  case atStart => exact ⟨0, Nat.zero_le _, rfl, by go_num, Lib.hid (by simpa [mks_Slot] using HO0.out), grown_refl w _⟩
  case round =>
    obtain ⟨j, hj, rfl, rfl, HO, hg⟩ := hrel
    by_cases hlt : j < m'
    · have HJ : Hid (j < m.length) := Lib.hid (by rw [HM.out]; exact hlt)
      obtain ⟨y, hy⟩ : ∃ y, y = m.getD j none_Slot := ⟨_, rfl⟩
      obtain ⟨x0, x1, x2, x3⟩ := y
      have HAT : Hid (∀ r, r < 4 → (row_Slot (mks_Slot k0 j ++ m.drop j))[j * 4 + r]? = (cells_Slot (x0, x1, x2, x3))[r]?) := Lib.hid (fun r hr => by rw [mkd_Slot_at k0 m j HJ.out r hr, ← hy])
      clear hy
      have d0 := (HO.out.cellAt (j * 4) (by omega)).trans (HAT.out 0 (by decide))
      have f0 := HO.out.frozenAt (j * 4)
      have d1 := (HO.out.cellAt (j * 4 + 1) (by omega)).trans (HAT.out 1 (by decide))
      have f1 := HO.out.frozenAt (j * 4 + 1)
      have d2 := (HO.out.cellAt (j * 4 + 2) (by omega)).trans (HAT.out 2 (by decide))
      have f2 := HO.out.frozenAt (j * 4 + 2)
      have d3 := (HO.out.cellAt (j * 4 + 3) (by omega)).trans (HAT.out 3 (by decide))
      have f3 := HO.out.frozenAt (j * 4 + 3)
      simp only [cells_Slot, List.getElem?_cons_zero, List.getElem?_cons_succ] at d0 d1 d2 d3
      go_wp2
      have HS := Lib.hid (stored_Slot HO.out j (by rw [List.length_append, mks_Slot_length, List.length_drop]; have := HJ.out; omega) ((k0 : Int) + 4 * j) (decide (((k0 : Int) + 4 * j + 1) % 3 = 0)) ((k0 : Int) + 4 * j + 1 + 1) ((k0 : Int) + 4 * j + 1 + 1 + 1))
      have HE : Hid ((mks_Slot k0 j ++ m.drop j).set j (((k0 : Int) + 4 * j), (decide (((k0 : Int) + 4 * j + 1) % 3 = 0)), ((k0 : Int) + 4 * j + 1 + 1), ((k0 : Int) + 4 * j + 1 + 1 + 1)) = mks_Slot k0 (j + 1) ++ m.drop (j + 1)) := Lib.hid (by rw [← mkd_Slot_set k0 m j HJ.out, mk_Slot_eq])
      have HS2 := HS.out
      rw [HE.out] at HS2
      have HS3 := Lib.hid HS2
      clear HS HS2 HE
      go_roundw
      case rel => exact ⟨j + 1, by omega, by go_num, by go_num, HS3, grown_cell0 (grown_cell0 (grown_cell0 (grown_cell0 (hg) _ _) _ _) _ _) _ _⟩
      case measure => simp [intOf]; omega
    · have hj' : j = m' := by omega
      have HF : Hid (wr.ownsRow base 36 4 (.slice (some ⟨g, 0, none⟩) m' cap) m' (row_Slot (mks_Slot k0 m'))) := Lib.hid (by
        have h9 := HO.out
        rw [hj', List.drop_eq_nil_of_le (by rw [HM.out]; exact Nat.le_refl _), List.append_nil] at h9
        exact h9)
      clear HO
      subst hj'
      go_wp2
      go_ret
      exact ⟨by first | rfl | (congr 2; omega), HF.out, hg⟩
theorem mark_SlotS_nil (k0 : Nat) (w : World) :
    Calls Try.prog 11 #[.slice none 0 0, .int .i64 k0] w fun e w' => e = .returned (.int .i64 k0) ∧ w = w' := by
  go_enter Try.func11, Try.ntmps11
  go_wp2
  go_loop [1, 5] (fun kv i => kv = .int .i64 k0 ∧ i = .int .i64 0) (fun _ _ => 0)
  case atStart => exact ⟨rfl, rfl⟩
  case round =>
    obtain ⟨rfl, rfl⟩ := hrel
    go_wp2
    go_ret
    exact ⟨rfl, rfl⟩
/-- markSlotS at an owned row. -/
theorem mark_SlotS (base m' : Nat) (v : Value) (m : List (Int × Bool × Int × Int)) (hm : m.length = m') (hn : m' ≤ 17592186044416) (k0 : Nat) (h0 : 1 ≤ k0) (h1 : k0 ≤ 17592186044416) (w : World) (ho : w.ownsRow base 36 4 v m' (row_Slot m)) :
    Calls Try.prog 11 #[v, .int .i64 k0] w fun e w' => e = .returned (.int .i64 ((k0 + 4 * m' : Nat) : Int)) ∧ w'.ownsRow base 36 4 v m' (row_Slot (mks_Slot k0 m')) ∧ w.grownBy w' v.ownBlock := by
  have ho' := ho
  rcases ho.2 with ⟨rfl, h⟩ | ⟨g, cap, cur, rfl, _⟩
  · subst h
    exact (mark_SlotS_nil k0 w).mono fun e w' ⟨he, hw⟩ => by
      subst hw
      exact ⟨by rw [he]; simp, by simpa [mks_Slot, row_Slot] using World.ownsRow_nil w base 36 4, grown_refl _ _⟩
  · exact mark_SlotS0 base g m' cap m hm hn k0 h0 h1 w ho'
set_option maxHeartbeats 1600000 in
/-- heldSlotS at a slice that reads as markSlotS left it: the next number. -/
theorem held_SlotS (m' : Nat) (hn : m' ≤ 17592186044416) (k0 : Nat) (h0 : 1 ≤ k0) (h1 : k0 ≤ 17592186044416) (v : Value) (w : World) (hv : ReadsSlot w.heap.size w v (mks_Slot k0 m')) :
    Calls Try.prog 12 #[v, .int .i64 k0] w fun e w' => e = .returned (.int .i64 ((k0 + 4 * m' : Nat) : Int)) ∧ Below w.heap.size w w' := by
  obtain ⟨-, a0, cap, rfl, -, hc⟩ := hv.cells
  rw [mks_Slot_length] at hc ⊢
  have HC := Lib.hid hc
  clear hc hv
  go_enter Try.func12, Try.ntmps12
  go_wp2
  go_loopw [1, 5] (fun kv i wr => ∃ j : Nat, j ≤ m' ∧ i = .int .i64 j ∧ kv = .int .i64 (k0 + 4 * j) ∧ Below w.heap.size w wr) (fun _ i _ => m' - (intOf i).toNat)
  case atStart => exact ⟨0, Nat.zero_le _, rfl, by go_num, Below.refl _ _⟩
  case round =>
    obtain ⟨j, hj, rfl, rfl, hbl⟩ := hrel
    by_cases hlt : j < m'
    · obtain ⟨b, off, rfl, hb, q0, q1, q2, q3⟩ := HC.out j hlt
      rw [mks_Slot_getD k0 m' j hlt, mk_Slot_eq] at q0 q1 q2 q3
      have c0 := (hbl.cell (p := ⟨b, off + j * 4, none⟩) hb).trans q0
      have c1 := (hbl.cell (p := ⟨b, off + j * 4 + 1, none⟩) hb).trans q1
      have c2 := (hbl.cell (p := ⟨b, off + j * 4 + 2, none⟩) hb).trans q2
      have c3 := (hbl.cell (p := ⟨b, off + j * 4 + 3, none⟩) hb).trans q3
      clear q0 q1 q2 q3
      by_cases hp : ((k0 : Int) + 4 * j + 1) % 3 = 0
      · rw [decide_eq_true hp] at c1
        go_wp2
        all_goals go_roundw
        case rel => exact ⟨j + 1, by omega, by go_num, by go_num, by repeat (first | exact hbl | apply Below.drew)⟩
        case measure => simp [intOf]; omega
      · rw [decide_eq_false hp] at c1
        go_wp2
        all_goals go_roundw
        case rel => exact ⟨j + 1, by omega, by go_num, by go_num, by repeat (first | exact hbl | apply Below.drew)⟩
        case measure => simp [intOf]; omega
    · have hj' : j = m' := by omega
      subst hj'
      go_wp2
      go_ret
      exact ⟨by first | rfl | (congr 2; omega), hbl⟩
end Go.Proofs.Ytdhjgaadfofkkaa
