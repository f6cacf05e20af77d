/-
  Contracts of the exact laws' helpers on Crossing (written by structgen.py).
-/
import Derived.Test.YtpcmobbenhppbaaStrs
import Derived.Test.YtpcmobbenhppbaaRows0
namespace Go.Proofs.Ytpcmobbenhppbaa
open Go.RowKit

theorem info_Crossing : (Try.prog.info? 36).map (fun i => (i.zero, i.size, i.bytes)) = some (some (.agg #[.int .i64 0, .int .i64 0, .int .i64 0, .int .i64 0, .int .i64 0]), 5, 40) := by kernel_rfl
set_option maxHeartbeats 400000 in
theorem one_eq_Crossing (x0 : Int) (x1 : Int) (x2 : Int) (x3 : Int) (x4 : Int) (w : World) :
    Calls Try.prog 48 #[.agg #[.int .i64 x0, .int .i64 x1, .int .i64 x2, .int .i64 x3, .int .i64 x4], .agg #[.int .i64 x0, .int .i64 x1, .int .i64 x2, .int .i64 x3, .int .i64 x4]] w fun e w' => e = .returned (.bool true) ∧ Below w.heap.size w w' := by
  go_enter Try.func48, Try.ntmps48
  go_wp2
  go_ret
  exact ⟨rfl, ((Below.refl _ _).alloc (Nat.le_refl _) _).alloc (by simp) _⟩

/-- The cells of a Crossing. -/
def cells_Crossing (x : Int × Int × Int × Int × Int) : List Value := [.int .i64 x.1, .int .i64 x.2.1, .int .i64 x.2.2.1, .int .i64 x.2.2.2.1, .int .i64 x.2.2.2.2]
def row_Crossing (l : List (Int × Int × Int × Int × Int)) : List Value := l.flatMap cells_Crossing
def none_Crossing : Int × Int × Int × Int × Int := (0, 0, 0, 0, 0)
/-- What a Crossing that comes in keeps to. -/
def ok_Crossing (x : Int × Int × Int × Int × Int) : Prop := (-9223372036854775808 ≤ x.1 ∧ x.1 ≤ 9223372036854775807) ∧ (-9223372036854775808 ≤ x.2.1 ∧ x.2.1 ≤ 9223372036854775807) ∧ (-9223372036854775808 ≤ x.2.2.1 ∧ x.2.2.1 ≤ 9223372036854775807) ∧ (-9223372036854775808 ≤ x.2.2.2.1 ∧ x.2.2.2.1 ≤ 9223372036854775807) ∧ (-9223372036854775808 ≤ x.2.2.2.2 ∧ x.2.2.2.2 ≤ 9223372036854775807)
theorem cells_Crossing_length (x : Int × Int × Int × Int × Int) : (cells_Crossing x).length = 5 := rfl
theorem row_Crossing_length (l : List (Int × Int × Int × Int × Int)) : (row_Crossing l).length = l.length * 5 := row0_length cells_Crossing 5 cells_Crossing_length l
theorem row_Crossing_at (l : List (Int × Int × Int × Int × Int)) (k : Nat) (h : k < l.length) (r : Nat) (hr : r < 5) : (row_Crossing l)[k * 5 + r]? = (cells_Crossing l[k])[r]? := row0_at cells_Crossing 5 cells_Crossing_length l k h r hr
theorem row_Crossing_append (l m : List (Int × Int × Int × Int × Int)) : row_Crossing (l ++ m) = row_Crossing l ++ row_Crossing m := List.flatMap_append ..
theorem row_Crossing_one (l : List (Int × Int × Int × Int × Int)) : ∀ u ∈ row_Crossing l, u.oneCell' = true := by
  intro u hu
  obtain ⟨z, -, hz⟩ := List.mem_flatMap.1 hu
  simp only [cells_Crossing, List.mem_cons, List.not_mem_nil, or_false] at hz
  rcases hz with rfl | rfl | rfl | rfl | rfl <;> rfl
/-- The slice v reads as the list l. -/
def ReadsCrossing (B : Nat) (W : World) (v : Value) (l : List (Int × Int × Int × Int × Int)) : Prop := ReadsV B W v 5 l.length (row_Crossing l)
theorem ReadsCrossing.cells {B : Nat} {W : World} {v : Value} {l : List (Int × Int × Int × Int × Int)} (h : ReadsCrossing B W v l) :
    l.length ≤ 9223372036854775807 ∧ ∃ a0 cap, v = .slice a0 l.length cap ∧ CapOk a0 l.length cap ∧ ∀ j, j < l.length → ∃ b off, a0 = some ⟨b, off, none⟩ ∧ b < B ∧ W.cell? ⟨b, off + j * 5, none⟩ = some (.int .i64 (l.getD j none_Crossing).1) ∧ W.cell? ⟨b, off + j * 5 + 1, none⟩ = some (.int .i64 (l.getD j none_Crossing).2.1) ∧ W.cell? ⟨b, off + j * 5 + 2, none⟩ = some (.int .i64 (l.getD j none_Crossing).2.2.1) ∧ W.cell? ⟨b, off + j * 5 + 3, none⟩ = some (.int .i64 (l.getD j none_Crossing).2.2.2.1) ∧ W.cell? ⟨b, off + j * 5 + 4, none⟩ = some (.int .i64 (l.getD j none_Crossing).2.2.2.2) := by
  obtain ⟨h0, -, a0, cap, rfl, hc, h⟩ := h
  refine ⟨h0, a0, cap, rfl, hc, fun j hj => ?_⟩
  obtain ⟨b, off, rfl, e2, e3⟩ := h (j * 5) (by omega)
  have hr : ∀ r, r < 5 → W.cell? ⟨b, off + j * 5 + r, none⟩ = (cells_Crossing (l.getD j none_Crossing))[r]? := fun r hr => by
    obtain ⟨b', off', e1, -, e4⟩ := h (j * 5 + r) (by omega)
    cases e1
    rw [Nat.add_assoc, e4, row_Crossing_at l j hj r hr]
    simp [List.getD, hj]
  exact ⟨b, off, rfl, e2, hr 0 (by decide), hr 1 (by decide), hr 2 (by decide), hr 3 (by decide), hr 4 (by decide)⟩
theorem ReadsCrossing.now {W W' : World} {v : Value} {l : List (Int × Int × Int × Int × Int)} (h : ReadsCrossing W.heap.size W v l) (hb : Below W.heap.size W W') : ReadsCrossing W'.heap.size W' v l := ReadsV.now h hb
theorem reads_Crossing_own {W : World} {base m : Nat} {e : TypeId} {v : Value} {l : List (Int × Int × Int × Int × Int)} (h : W.ownsRow base e 5 v m (row_Crossing l)) (hn : m = l.length) (hl : l.length ≤ 140737488355328) : ReadsCrossing W.heap.size W v l := by
  subst hn
  exact readsV_own h hl
theorem row_Crossing_set (m : List (Int × Int × Int × Int × Int)) (k : Nat) (h : k < m.length) (x : Int × Int × Int × Int × Int) : (((((row_Crossing m).set (k * 5) (.int .i64 x.1)).set (k * 5 + 1) (.int .i64 x.2.1)).set (k * 5 + 2) (.int .i64 x.2.2.1)).set (k * 5 + 3) (.int .i64 x.2.2.2.1)).set (k * 5 + 4) (.int .i64 x.2.2.2.2) = row_Crossing (m.set k x) := row0_set5 cells_Crossing cells_Crossing_length m k h x (.int .i64 x.1) (.int .i64 x.2.1) (.int .i64 x.2.2.1) (.int .i64 x.2.2.2.1) (.int .i64 x.2.2.2.2) rfl
theorem stored_Crossing {w : World} {base g m cap : Nat} {e : TypeId} {l : List (Int × Int × Int × Int × Int)} (h : w.ownsRow base e 5 (.slice (some ⟨g, 0, none⟩) m cap) m (row_Crossing l)) (k : Nat) (hk : k < l.length) (x0 : Int) (x1 : Int) (x2 : Int) (x3 : Int) (x4 : Int) :
    (((((w.setCell ⟨g, k * 5, none⟩ (.int .i64 x0)).setCell ⟨g, k * 5 + 1, none⟩ (.int .i64 x1)).setCell ⟨g, k * 5 + 2, none⟩ (.int .i64 x2)).setCell ⟨g, k * 5 + 3, none⟩ (.int .i64 x3)).setCell ⟨g, k * 5 + 4, none⟩ (.int .i64 x4)).ownsRow base e 5 (.slice (some ⟨g, 0, none⟩) m cap) m (row_Crossing (l.set k (x0, x1, x2, x3, x4))) := by
  have h9 := ((((h.stored (k * 5) (.int .i64 x0)).1.stored (k * 5 + 1) (.int .i64 x1)).1.stored (k * 5 + 2) (.int .i64 x2)).1.stored (k * 5 + 3) (.int .i64 x3)).1.stored (k * 5 + 4) (.int .i64 x4)
  rw [← row_Crossing_set l k hk]
  exact h9.1
/-- What has been copied after k rounds. -/
def copied_Crossing (l : List (Int × Int × Int × Int × Int)) (k : Nat) : List Value := row_Crossing (l.take k ++ List.replicate (l.length - k) none_Crossing)
theorem copied_Crossing_full (l : List (Int × Int × Int × Int × Int)) : copied_Crossing l l.length = row_Crossing l := by
  unfold copied_Crossing; simp
theorem copied_Crossing_at (l : List (Int × Int × Int × Int × Int)) (k : Nat) (h : k < l.length) (r : Nat) (hr : r < 5) : (copied_Crossing l k)[k * 5 + r]? = (cells_Crossing none_Crossing)[r]? := by
  unfold copied_Crossing
  rw [row_Crossing_at _ k (by simp; omega) r hr]
  congr 2
  rw [List.getElem_append_right (by rw [List.length_take]; omega)]
  simp
theorem copied_Crossing_zero (l : List (Int × Int × Int × Int × Int)) : (madeCells #[.int .i64 0, .int .i64 0, .int .i64 0, .int .i64 0, .int .i64 0] (l.length * 5)).toList = copied_Crossing l 0 := by
  have h9 := row0_made cells_Crossing 5 (by decide) cells_Crossing_length none_Crossing l.length
  unfold copied_Crossing
  simp only [List.take_zero, List.nil_append, Nat.sub_zero]
  exact h9
set_option maxHeartbeats 400000 in
/-- eqCrossingS at two slices that read the same: true. -/
theorem eq_CrossingS (l : List (Int × Int × Int × Int × Int)) (v u : Value) (w : World) (hv : ReadsCrossing w.heap.size w v l) (hu : ReadsCrossing w.heap.size w u l) :
    Calls Try.prog 22 #[v, u] w fun e w' => e = .returned (.bool true) ∧ Below w.heap.size w w' := by
  obtain ⟨hl, a0, cap, rfl, -, hc⟩ := hv.cells
  obtain ⟨-, a1, cap1, rfl, -, hd⟩ := hu.cells
  have HC := Lib.hid hc
  have HD := Lib.hid hd
  clear hc hd hv hu
  go_enter Try.func22, Try.ntmps22
  go_wp2
  go_loopw [5] (fun i wr => ∃ k : Nat, k ≤ l.length ∧ i = .int .i64 k ∧ Below w.heap.size w wr) (fun i _ => l.length - (intOf i).toNat)
  case atStart => exact ⟨0, Nat.zero_le _, rfl, Below.refl _ _⟩
  case round =>
    obtain ⟨k, hk, rfl, hbl⟩ := hrel
    by_cases hlt : k < l.length
    · obtain ⟨b, off, rfl, hb, q0, q1, q2, q3, q4⟩ := HC.out k hlt
      obtain ⟨b1, off1, rfl, hb1, r0, r1, r2, r3, r4⟩ := HD.out k hlt
      obtain ⟨z, hz⟩ : ∃ z, z = l.getD k none_Crossing := ⟨_, rfl⟩
      rw [← hz] at q0 q1 q2 q3 q4 r0 r1 r2 r3 r4
      obtain ⟨x0, x1, x2, x3, x4⟩ := z
      have c0 := (hbl.cell (p := ⟨b, off + k * 5, none⟩) hb).trans q0
      have c1 := (hbl.cell (p := ⟨b, off + k * 5 + 1, none⟩) hb).trans q1
      have c2 := (hbl.cell (p := ⟨b, off + k * 5 + 2, none⟩) hb).trans q2
      have c3 := (hbl.cell (p := ⟨b, off + k * 5 + 3, none⟩) hb).trans q3
      have c4 := (hbl.cell (p := ⟨b, off + k * 5 + 4, none⟩) hb).trans q4
      have d0 := (hbl.cell (p := ⟨b1, off1 + k * 5, none⟩) hb1).trans r0
      have d1 := (hbl.cell (p := ⟨b1, off1 + k * 5 + 1, none⟩) hb1).trans r1
      have d2 := (hbl.cell (p := ⟨b1, off1 + k * 5 + 2, none⟩) hb1).trans r2
      have d3 := (hbl.cell (p := ⟨b1, off1 + k * 5 + 3, none⟩) hb1).trans r3
      have d4 := (hbl.cell (p := ⟨b1, off1 + k * 5 + 4, none⟩) hb1).trans r4
      clear q0 q1 q2 q3 q4 r0 r1 r2 r3 r4 hz
      have HK : Hid (∀ w', Below wr.heap.size wr w' → w'.cell? ⟨b, off + k * 5, none⟩ = some (.int .i64 x0) ∧ w'.cell? ⟨b, off + k * 5 + 1, none⟩ = some (.int .i64 x1) ∧ w'.cell? ⟨b, off + k * 5 + 2, none⟩ = some (.int .i64 x2) ∧ w'.cell? ⟨b, off + k * 5 + 3, none⟩ = some (.int .i64 x3) ∧ w'.cell? ⟨b, off + k * 5 + 4, none⟩ = some (.int .i64 x4) ∧ w'.cell? ⟨b1, off1 + k * 5, none⟩ = some (.int .i64 x0) ∧ w'.cell? ⟨b1, off1 + k * 5 + 1, none⟩ = some (.int .i64 x1) ∧ w'.cell? ⟨b1, off1 + k * 5 + 2, none⟩ = some (.int .i64 x2) ∧ w'.cell? ⟨b1, off1 + k * 5 + 3, none⟩ = some (.int .i64 x3) ∧ w'.cell? ⟨b1, off1 + k * 5 + 4, none⟩ = some (.int .i64 x4)) := Lib.hid (fun w' h => ⟨(h.cell (p := ⟨b, off + k * 5, none⟩) (Nat.lt_of_lt_of_le hb hbl.size)).trans c0, (h.cell (p := ⟨b, off + k * 5 + 1, none⟩) (Nat.lt_of_lt_of_le hb hbl.size)).trans c1, (h.cell (p := ⟨b, off + k * 5 + 2, none⟩) (Nat.lt_of_lt_of_le hb hbl.size)).trans c2, (h.cell (p := ⟨b, off + k * 5 + 3, none⟩) (Nat.lt_of_lt_of_le hb hbl.size)).trans c3, (h.cell (p := ⟨b, off + k * 5 + 4, none⟩) (Nat.lt_of_lt_of_le hb hbl.size)).trans c4, (h.cell (p := ⟨b1, off1 + k * 5, none⟩) (Nat.lt_of_lt_of_le hb1 hbl.size)).trans d0, (h.cell (p := ⟨b1, off1 + k * 5 + 1, none⟩) (Nat.lt_of_lt_of_le hb1 hbl.size)).trans d1, (h.cell (p := ⟨b1, off1 + k * 5 + 2, none⟩) (Nat.lt_of_lt_of_le hb1 hbl.size)).trans d2, (h.cell (p := ⟨b1, off1 + k * 5 + 3, none⟩) (Nat.lt_of_lt_of_le hb1 hbl.size)).trans d3, (h.cell (p := ⟨b1, off1 + k * 5 + 4, none⟩) (Nat.lt_of_lt_of_le hb1 hbl.size)).trans d4⟩)
      go_wp2
      go_region_held3 (fun w' => w'.cell? ⟨b, off + k * 5, none⟩ = some (.int .i64 x0) ∧ w'.cell? ⟨b, off + k * 5 + 1, none⟩ = some (.int .i64 x1) ∧ w'.cell? ⟨b, off + k * 5 + 2, none⟩ = some (.int .i64 x2) ∧ w'.cell? ⟨b, off + k * 5 + 3, none⟩ = some (.int .i64 x3) ∧ w'.cell? ⟨b, off + k * 5 + 4, none⟩ = some (.int .i64 x4) ∧ w'.cell? ⟨b1, off1 + k * 5, none⟩ = some (.int .i64 x0) ∧ w'.cell? ⟨b1, off1 + k * 5 + 1, none⟩ = some (.int .i64 x1) ∧ w'.cell? ⟨b1, off1 + k * 5 + 2, none⟩ = some (.int .i64 x2) ∧ w'.cell? ⟨b1, off1 + k * 5 + 3, none⟩ = some (.int .i64 x3) ∧ w'.cell? ⟨b1, off1 + k * 5 + 4, none⟩ = some (.int .i64 x4)) (first | exact ⟨c0, c1, c2, c3, c4, d0, d1, d2, d3, d4⟩ | exact HK.out _ b3) (first | (go_at_call 48; refine Calls.mono (one_eq_Crossing x0 x1 x2 x3 x4 _) ?_; rintro e w2 ⟨rfl, b2⟩; have b3 : Below wr.heap.size wr w2 := (by first | exact b2 | exact ((Below.refl wr.heap.size wr).drew).trans b2); have HB2 := Lib.hid (hbl.trans (b3.mono hbl.size))))
      all_goals go_wp2
      all_goals go_roundw
      case rel => exact ⟨k + 1, by omega, by go_num, by repeat (first | exact HB2.out | apply Below.drew)⟩
      case measure => simp [intOf]; omega
    · go_wp2
      go_ret
      exact ⟨rfl, hbl⟩
/-- What markCrossingS writes. -/
def mk_Crossing (k : Nat) : Int × Int × Int × Int × Int := (((k : Nat) : Int), ((k + 1 : Nat) : Int), ((k + 2 : Nat) : Int), ((k + 3 : Nat) : Int), ((k + 4 : Nat) : Int))
def mks_Crossing (k0 m : Nat) : List (Int × Int × Int × Int × Int) := (List.range m).map fun i => mk_Crossing (k0 + 5 * i)
theorem mks_Crossing_length (k0 m : Nat) : (mks_Crossing k0 m).length = m := by simp [mks_Crossing]
theorem mks_Crossing_getD (k0 m j : Nat) (h : j < m) : (mks_Crossing k0 m).getD j none_Crossing = mk_Crossing (k0 + 5 * j) := by simp [mks_Crossing, List.getD, h]
theorem mkd_Crossing_set (k0 : Nat) (m : List (Int × Int × Int × Int × Int)) (j : Nat) (h : j < m.length) : (mks_Crossing k0 j ++ m.drop j).set j (mk_Crossing (k0 + 5 * j)) = mks_Crossing k0 (j + 1) ++ m.drop (j + 1) := by
  rw [List.set_append_right _ _ (by simp [mks_Crossing_length])]
  have e2 : j - (mks_Crossing k0 j).length = 0 := by simp [mks_Crossing_length]
  rw [e2, List.drop_eq_getElem_cons h, List.set_cons_zero]
  simp [mks_Crossing, List.range_succ]
theorem mkd_Crossing_at (k0 : Nat) (m : List (Int × Int × Int × Int × Int)) (j : Nat) (h : j < m.length) (r : Nat) (hr : r < 5) : (row_Crossing (mks_Crossing k0 j ++ m.drop j))[j * 5 + r]? = (cells_Crossing (m.getD j none_Crossing))[r]? := by
  rw [row_Crossing_at _ j (by rw [List.length_append, mks_Crossing_length, List.length_drop]; omega) r hr]
  congr 2
  rw [List.getElem_append_right (by rw [mks_Crossing_length]; exact Nat.le_refl _)]
  simp [mks_Crossing_length, List.getD, h]
theorem mk_Crossing_eq (k0 j : Nat) : mk_Crossing (k0 + 5 * j) = ((k0 : Int) + 5 * j, (k0 : Int) + 5 * j + 1, (k0 : Int) + 5 * j + 1 + 1, (k0 : Int) + 5 * j + 1 + 1 + 1, (k0 : Int) + 5 * j + 1 + 1 + 1 + 1) := by
  unfold mk_Crossing
  rw [show ((k0 + 5 * j : Nat) : Int) = (k0 : Int) + 5 * j by omega, show ((k0 + 5 * j + 1 : Nat) : Int) = (k0 : Int) + 5 * j + 1 by omega, show ((k0 + 5 * j + 2 : Nat) : Int) = (k0 : Int) + 5 * j + 1 + 1 by omega, show ((k0 + 5 * j + 3 : Nat) : Int) = (k0 : Int) + 5 * j + 1 + 1 + 1 by omega, show ((k0 + 5 * j + 4 : Nat) : Int) = (k0 : Int) + 5 * j + 1 + 1 + 1 + 1 by omega]
set_option maxHeartbeats 1600000 in
theorem mark_CrossingS0 (base g m' cap : Nat) (m : List (Int × Int × Int × Int × Int)) (hm : m.length = m') (hn : m' ≤ 17592186044416) (k0 : Nat) (h0 : 1 ≤ k0) (h1 : k0 ≤ 17592186044416) (w : World)
    (ho : w.ownsRow base 36 5 (.slice (some ⟨g, 0, none⟩) m' cap) m' (row_Crossing m)) :
    Calls Try.prog 23 #[.slice (some ⟨g, 0, none⟩) m' cap, .int .i64 k0] w fun e w' => e = .returned (.int .i64 ((k0 + 5 * m' : Nat) : Int)) ∧ w'.ownsRow base 36 5 (.slice (some ⟨g, 0, none⟩) m' cap) m' (row_Crossing (mks_Crossing k0 m')) ∧ w.grownBy w' (some g) := by
  have HO0 := Lib.hid ho
  have HM := Lib.hid hm
  clear ho hm
  go_enter Try.func23, Try.ntmps23
  go_wp2
  go_loopw [1, 5] (fun kv i wr => ∃ j : Nat, j ≤ m' ∧ i = .int .i64 j ∧ kv = .int .i64 (k0 + 5 * j) ∧ Hid (wr.ownsRow base 36 5 (.slice (some ⟨g, 0, none⟩) m' cap) m' (row_Crossing (mks_Crossing k0 j ++ m.drop j))) ∧ w.grownBy wr (some g)) (fun _ i _ => m' - (intOf i).toNat)
  case atStart => exact ⟨0, Nat.zero_le _, rfl, by go_num, Lib.hid (by simpa [mks_Crossing] using HO0.out), grown_refl w _⟩
  case round =>
    obtain ⟨j, hj, rfl, rfl, HO, hg⟩ := hrel
    by_cases hlt : j < m'
    · have HJ : Hid (j < m.length) := Lib.hid (by rw [HM.out]; exact hlt)
      obtain ⟨y, hy⟩ : ∃ y, y = m.getD j none_Crossing := ⟨_, rfl⟩
      obtain ⟨x0, x1, x2, x3, x4⟩ := y
      have HAT : Hid (∀ r, r < 5 → (row_Crossing (mks_Crossing k0 j ++ m.drop j))[j * 5 + r]? = (cells_Crossing (x0, x1, x2, x3, x4))[r]?) := Lib.hid (fun r hr => by rw [mkd_Crossing_at k0 m j HJ.out r hr, ← hy])
      clear hy
      have d0 := (HO.out.cellAt (j * 5) (by omega)).trans (HAT.out 0 (by decide))
      have f0 := HO.out.frozenAt (j * 5)
      have d1 := (HO.out.cellAt (j * 5 + 1) (by omega)).trans (HAT.out 1 (by decide))
      have f1 := HO.out.frozenAt (j * 5 + 1)
      have d2 := (HO.out.cellAt (j * 5 + 2) (by omega)).trans (HAT.out 2 (by decide))
      have f2 := HO.out.frozenAt (j * 5 + 2)
      have d3 := (HO.out.cellAt (j * 5 + 3) (by omega)).trans (HAT.out 3 (by decide))
      have f3 := HO.out.frozenAt (j * 5 + 3)
      have d4 := (HO.out.cellAt (j * 5 + 4) (by omega)).trans (HAT.out 4 (by decide))
      have f4 := HO.out.frozenAt (j * 5 + 4)
      simp only [cells_Crossing, List.getElem?_cons_zero, List.getElem?_cons_succ] at d0 d1 d2 d3 d4
      go_wp2
      have HS := Lib.hid (stored_Crossing HO.out j (by rw [List.length_append, mks_Crossing_length, List.length_drop]; have := HJ.out; omega) ((k0 : Int) + 5 * j) ((k0 : Int) + 5 * j + 1) ((k0 : Int) + 5 * j + 1 + 1) ((k0 : Int) + 5 * j + 1 + 1 + 1) ((k0 : Int) + 5 * j + 1 + 1 + 1 + 1))
      have HE : Hid ((mks_Crossing k0 j ++ m.drop j).set j (((k0 : Int) + 5 * j), ((k0 : Int) + 5 * j + 1), ((k0 : Int) + 5 * j + 1 + 1), ((k0 : Int) + 5 * j + 1 + 1 + 1), ((k0 : Int) + 5 * j + 1 + 1 + 1 + 1)) = mks_Crossing k0 (j + 1) ++ m.drop (j + 1)) := Lib.hid (by rw [← mkd_Crossing_set k0 m j HJ.out, mk_Crossing_eq])
      have HS2 := HS.out
      rw [HE.out] at HS2
      have HS3 := Lib.hid HS2
      clear HS HS2 HE
      go_roundw
      case rel => exact ⟨j + 1, by omega, by go_num, by go_num, HS3, grown_cell0 (grown_cell0 (grown_cell0 (grown_cell0 (grown_cell0 (hg) _ _) _ _) _ _) _ _) _ _⟩
      case measure => simp [intOf]; omega
    · have hj' : j = m' := by omega
      have HF : Hid (wr.ownsRow base 36 5 (.slice (some ⟨g, 0, none⟩) m' cap) m' (row_Crossing (mks_Crossing k0 m'))) := Lib.hid (by
        have h9 := HO.out
        rw [hj', List.drop_eq_nil_of_le (by rw [HM.out]; exact Nat.le_refl _), List.append_nil] at h9
        exact h9)
      clear HO
      subst hj'
      go_wp2
      go_ret
      exact ⟨by first | rfl | (congr 2; omega), HF.out, hg⟩
theorem mark_CrossingS_nil (k0 : Nat) (w : World) :
    Calls Try.prog 23 #[.slice none 0 0, .int .i64 k0] w fun e w' => e = .returned (.int .i64 k0) ∧ w = w' := by
  go_enter Try.func23, Try.ntmps23
  go_wp2
  go_loop [1, 5] (fun kv i => kv = .int .i64 k0 ∧ i = .int .i64 0) (fun _ _ => 0)
  case atStart => exact ⟨rfl, rfl⟩
  case round =>
    obtain ⟨rfl, rfl⟩ := hrel
    go_wp2
    go_ret
    exact ⟨rfl, rfl⟩
/-- markCrossingS at an owned row. -/
theorem mark_CrossingS (base m' : Nat) (v : Value) (m : List (Int × Int × Int × Int × Int)) (hm : m.length = m') (hn : m' ≤ 17592186044416) (k0 : Nat) (h0 : 1 ≤ k0) (h1 : k0 ≤ 17592186044416) (w : World) (ho : w.ownsRow base 36 5 v m' (row_Crossing m)) :
    Calls Try.prog 23 #[v, .int .i64 k0] w fun e w' => e = .returned (.int .i64 ((k0 + 5 * m' : Nat) : Int)) ∧ w'.ownsRow base 36 5 v m' (row_Crossing (mks_Crossing k0 m')) ∧ w.grownBy w' v.ownBlock := by
  have ho' := ho
  rcases ho.2 with ⟨rfl, h⟩ | ⟨g, cap, cur, rfl, _⟩
  · subst h
    exact (mark_CrossingS_nil k0 w).mono fun e w' ⟨he, hw⟩ => by
      subst hw
      exact ⟨by rw [he]; simp, by simpa [mks_Crossing, row_Crossing] using World.ownsRow_nil w base 36 5, grown_refl _ _⟩
  · exact mark_CrossingS0 base g m' cap m hm hn k0 h0 h1 w ho'
set_option maxHeartbeats 1600000 in
/-- heldCrossingS at a slice that reads as markCrossingS left it: the next number. -/
theorem held_CrossingS (m' : Nat) (hn : m' ≤ 17592186044416) (k0 : Nat) (h0 : 1 ≤ k0) (h1 : k0 ≤ 17592186044416) (v : Value) (w : World) (hv : ReadsCrossing w.heap.size w v (mks_Crossing k0 m')) :
    Calls Try.prog 24 #[v, .int .i64 k0] w fun e w' => e = .returned (.int .i64 ((k0 + 5 * m' : Nat) : Int)) ∧ Below w.heap.size w w' := by
  obtain ⟨-, a0, cap, rfl, -, hc⟩ := hv.cells
  rw [mks_Crossing_length] at hc ⊢
  have HC := Lib.hid hc
  clear hc hv
  go_enter Try.func24, Try.ntmps24
  go_wp2
  go_loopw [1, 5] (fun kv i wr => ∃ j : Nat, j ≤ m' ∧ i = .int .i64 j ∧ kv = .int .i64 (k0 + 5 * j) ∧ Below w.heap.size w wr) (fun _ i _ => m' - (intOf i).toNat)
  case atStart => exact ⟨0, Nat.zero_le _, rfl, by go_num, Below.refl _ _⟩
  case round =>
    obtain ⟨j, hj, rfl, rfl, hbl⟩ := hrel
    by_cases hlt : j < m'
    · obtain ⟨b, off, rfl, hb, q0, q1, q2, q3, q4⟩ := HC.out j hlt
      rw [mks_Crossing_getD k0 m' j hlt, mk_Crossing_eq] at q0 q1 q2 q3 q4
      have c0 := (hbl.cell (p := ⟨b, off + j * 5, none⟩) hb).trans q0
      have c1 := (hbl.cell (p := ⟨b, off + j * 5 + 1, none⟩) hb).trans q1
      have c2 := (hbl.cell (p := ⟨b, off + j * 5 + 2, none⟩) hb).trans q2
      have c3 := (hbl.cell (p := ⟨b, off + j * 5 + 3, none⟩) hb).trans q3
      have c4 := (hbl.cell (p := ⟨b, off + j * 5 + 4, none⟩) hb).trans q4
      clear q0 q1 q2 q3 q4
      go_wp2
      all_goals go_roundw
      case rel => exact ⟨j + 1, by omega, by go_num, by go_num, by repeat (first | exact hbl | apply Below.drew)⟩
      case measure => simp [intOf]; omega
    · have hj' : j = m' := by omega
      subst hj'
      go_wp2
      go_ret
      exact ⟨by first | rfl | (congr 2; omega), hbl⟩
end Go.Proofs.Ytpcmobbenhppbaa
