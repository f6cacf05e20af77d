/-
  Contracts of the exact laws' helpers on Listed (written by structgen.py).
-/
import Derived.Test.YtcpojeiciaghmaaStrs
import Derived.Test.YtcpojeiciaghmaaRows0
namespace Go.Proofs.Ytcpojeiciaghmaa
open Go.RowKit

theorem info_Listed : (Try.prog.info? 32).map (fun i => (i.zero, i.size, i.bytes)) = some (some (.agg #[.string ⟨#[]⟩, .int .i64 0, .int .i64 0, .int .i64 0]), 4, 40) := by kernel_rfl
set_option maxHeartbeats 400000 in
theorem one_to_Listed (x0 : ByteArray) (x1 : Int) (x2 : Int) (x3 : Int) (w : World) :
    Calls Try.prog 32 #[.agg #[.string x0, .int .i64 x1, .int .i64 x2, .int .i64 x3]] w fun e w' => e = .returned (.agg #[.string x0, .int .i64 x1, .int .i64 x2, .int .i64 x3]) ∧ Below w.heap.size w w' := by
  go_enter Try.func32, Try.ntmps32
  go_wp2
  exact bodyPost_ret (v := .agg #[.string x0, .int .i64 x1, .int .i64 x2, .int .i64 x3]) (by simp [results, Try.results32, go_sem]) rfl ⟨rfl, (((Below.refl _ _).alloc (Nat.le_refl _) _).alloc (by simp) _).alloc (by simp; omega) _⟩
set_option maxHeartbeats 400000 in
theorem one_eq_Listed (x0 : ByteArray) (x1 : Int) (x2 : Int) (x3 : Int) (w : World) :
    Calls Try.prog 57 #[.agg #[.string x0, .int .i64 x1, .int .i64 x2, .int .i64 x3], .agg #[.string x0, .int .i64 x1, .int .i64 x2, .int .i64 x3]] w fun e w' => e = .returned (.bool true) ∧ Below w.heap.size w w' := by
  go_enter Try.func57, Try.ntmps57
  go_wp2
  go_ret
  exact ⟨rfl, ((Below.refl _ _).alloc (Nat.le_refl _) _).alloc (by simp) _⟩
set_option maxHeartbeats 400000 in
theorem one_sz_Listed (x0 : ByteArray) (x1 : Int) (x2 : Int) (x3 : Int) (left : Int) (hx : x0.size ≤ maxLen) (h0 : 0 ≤ left) (h1 : left ≤ 1048576) (w : World) :
    Calls Try.prog 30 #[.agg #[.string x0, .int .i64 x1, .int .i64 x2, .int .i64 x3], .int .i64 left] w fun e w' => ∃ r : Int, -1 ≤ r ∧ r ≤ left ∧ (0 ≤ r → (x0.size : Int) ≤ left) ∧ e = .returned (.int .i64 r) ∧ Below w.heap.size w w' := by
  have hx' : x0.size ≤ 9223372036854775807 := hx
  go_enter Try.func30, Try.ntmps30
  go_wp2
  · go_ret
    exact ⟨_, by decide, by omega, fun h => by omega, rfl, (Below.refl _ _).alloc (Nat.le_refl _) _⟩
  · go_ret
    exact ⟨_, by omega, by omega, fun h => by omega, rfl, (Below.refl _ _).alloc (Nat.le_refl _) _⟩

/-- The cells of a Listed. -/
def cells_Listed (x : ByteArray × Int × Int × Int) : List Value := [.string x.1, .int .i64 x.2.1, .int .i64 x.2.2.1, .int .i64 x.2.2.2]
def row_Listed (l : List (ByteArray × Int × Int × Int)) : List Value := l.flatMap cells_Listed
def none_Listed : ByteArray × Int × Int × Int := (⟨#[]⟩, 0, 0, 0)
/-- What a Listed that comes in keeps to. -/
def ok_Listed (x : ByteArray × Int × Int × Int) : Prop := x.1.size ≤ maxLen ∧ (-9223372036854775808 ≤ x.2.1 ∧ x.2.1 ≤ 9223372036854775807) ∧ (-9223372036854775808 ≤ x.2.2.1 ∧ x.2.2.1 ≤ 9223372036854775807) ∧ (-9223372036854775808 ≤ x.2.2.2 ∧ x.2.2.2 ≤ 9223372036854775807)
theorem cells_Listed_length (x : ByteArray × Int × Int × Int) : (cells_Listed x).length = 4 := rfl
theorem row_Listed_length (l : List (ByteArray × Int × Int × Int)) : (row_Listed l).length = l.length * 4 := row0_length cells_Listed 4 cells_Listed_length l
theorem row_Listed_at (l : List (ByteArray × Int × Int × Int)) (k : Nat) (h : k < l.length) (r : Nat) (hr : r < 4) : (row_Listed l)[k * 4 + r]? = (cells_Listed l[k])[r]? := row0_at cells_Listed 4 cells_Listed_length l k h r hr
theorem row_Listed_append (l m : List (ByteArray × Int × Int × Int)) : row_Listed (l ++ m) = row_Listed l ++ row_Listed m := List.flatMap_append ..
theorem row_Listed_one (l : List (ByteArray × Int × Int × Int)) : ∀ u ∈ row_Listed l, u.oneCell' = true := by
  intro u hu
  obtain ⟨z, -, hz⟩ := List.mem_flatMap.1 hu
  simp only [cells_Listed, List.mem_cons, List.not_mem_nil, or_false] at hz
  rcases hz with rfl | rfl | rfl | rfl <;> rfl
/-- The slice v reads as the list l. -/
def ReadsListed (B : Nat) (W : World) (v : Value) (l : List (ByteArray × Int × Int × Int)) : Prop := ReadsV B W v 4 l.length (row_Listed l)
theorem ReadsListed.cells {B : Nat} {W : World} {v : Value} {l : List (ByteArray × Int × Int × Int)} (h : ReadsListed B W v l) :
    l.length ≤ 9223372036854775807 ∧ ∃ a0 cap, v = .slice a0 l.length cap ∧ CapOk a0 l.length cap ∧ ∀ j, j < l.length → ∃ b off, a0 = some ⟨b, off, none⟩ ∧ b < B ∧ W.cell? ⟨b, off + j * 4, none⟩ = some (.string (l.getD j none_Listed).1) ∧ W.cell? ⟨b, off + j * 4 + 1, none⟩ = some (.int .i64 (l.getD j none_Listed).2.1) ∧ W.cell? ⟨b, off + j * 4 + 2, none⟩ = some (.int .i64 (l.getD j none_Listed).2.2.1) ∧ W.cell? ⟨b, off + j * 4 + 3, none⟩ = some (.int .i64 (l.getD j none_Listed).2.2.2) := by
  obtain ⟨h0, -, a0, cap, rfl, hc, h⟩ := h
  refine ⟨h0, a0, cap, rfl, hc, fun j hj => ?_⟩
  obtain ⟨b, off, rfl, e2, e3⟩ := h (j * 4) (by omega)
  have hr : ∀ r, r < 4 → W.cell? ⟨b, off + j * 4 + r, none⟩ = (cells_Listed (l.getD j none_Listed))[r]? := fun r hr => by
    obtain ⟨b', off', e1, -, e4⟩ := h (j * 4 + r) (by omega)
    cases e1
    rw [Nat.add_assoc, e4, row_Listed_at l j hj r hr]
    simp [List.getD, hj]
  exact ⟨b, off, rfl, e2, hr 0 (by decide), hr 1 (by decide), hr 2 (by decide), hr 3 (by decide)⟩
theorem ReadsListed.now {W W' : World} {v : Value} {l : List (ByteArray × Int × Int × Int)} (h : ReadsListed W.heap.size W v l) (hb : Below W.heap.size W W') : ReadsListed W'.heap.size W' v l := ReadsV.now h hb
theorem reads_Listed_own {W : World} {base m : Nat} {e : TypeId} {v : Value} {l : List (ByteArray × Int × Int × Int)} (h : W.ownsRow base e 4 v m (row_Listed l)) (hn : m = l.length) (hl : l.length ≤ 140737488355328) : ReadsListed W.heap.size W v l := by
  subst hn
  exact readsV_own h hl
theorem row_Listed_set (m : List (ByteArray × Int × Int × Int)) (k : Nat) (h : k < m.length) (x : ByteArray × Int × Int × Int) : ((((row_Listed m).set (k * 4) (.string x.1)).set (k * 4 + 1) (.int .i64 x.2.1)).set (k * 4 + 2) (.int .i64 x.2.2.1)).set (k * 4 + 3) (.int .i64 x.2.2.2) = row_Listed (m.set k x) := row0_set4 cells_Listed cells_Listed_length m k h x (.string x.1) (.int .i64 x.2.1) (.int .i64 x.2.2.1) (.int .i64 x.2.2.2) rfl
theorem stored_Listed {w : World} {base g m cap : Nat} {e : TypeId} {l : List (ByteArray × Int × Int × Int)} (h : w.ownsRow base e 4 (.slice (some ⟨g, 0, none⟩) m cap) m (row_Listed l)) (k : Nat) (hk : k < l.length) (x0 : ByteArray) (x1 : Int) (x2 : Int) (x3 : Int) :
    ((((w.setCell ⟨g, k * 4, none⟩ (.string x0)).setCell ⟨g, k * 4 + 1, none⟩ (.int .i64 x1)).setCell ⟨g, k * 4 + 2, none⟩ (.int .i64 x2)).setCell ⟨g, k * 4 + 3, none⟩ (.int .i64 x3)).ownsRow base e 4 (.slice (some ⟨g, 0, none⟩) m cap) m (row_Listed (l.set k (x0, x1, x2, x3))) := by
  have h9 := (((h.stored (k * 4) (.string x0)).1.stored (k * 4 + 1) (.int .i64 x1)).1.stored (k * 4 + 2) (.int .i64 x2)).1.stored (k * 4 + 3) (.int .i64 x3)
  rw [← row_Listed_set l k hk]
  exact h9.1
/-- What has been copied after k rounds. -/
def copied_Listed (l : List (ByteArray × Int × Int × Int)) (k : Nat) : List Value := row_Listed (l.take k ++ List.replicate (l.length - k) none_Listed)
theorem copied_Listed_full (l : List (ByteArray × Int × Int × Int)) : copied_Listed l l.length = row_Listed l := by
  unfold copied_Listed; simp
theorem copied_Listed_at (l : List (ByteArray × Int × Int × Int)) (k : Nat) (h : k < l.length) (r : Nat) (hr : r < 4) : (copied_Listed l k)[k * 4 + r]? = (cells_Listed none_Listed)[r]? := by
  unfold copied_Listed
  rw [row_Listed_at _ k (by simp; omega) r hr]
  congr 2
  rw [List.getElem_append_right (by rw [List.length_take]; omega)]
  simp
theorem copied_Listed_zero (l : List (ByteArray × Int × Int × Int)) : (madeCells #[.string ⟨#[]⟩, .int .i64 0, .int .i64 0, .int .i64 0] (l.length * 4)).toList = copied_Listed l 0 := by
  have h9 := row0_made cells_Listed 4 (by decide) cells_Listed_length none_Listed l.length
  unfold copied_Listed
  simp only [List.take_zero, List.nil_append, Nat.sub_zero]
  exact h9
set_option maxHeartbeats 400000 in
theorem to_ListedS (l : List (ByteArray × Int × Int × Int)) (hl : l.length ≤ 1048576) (v : Value) (w : World) (hv : ReadsListed w.heap.size w v l) :
    Calls Try.prog 23 #[v] w fun e w' => ∃ v', e = .returned v' ∧ w'.ownsRow w.heap.size 32 4 v' l.length (row_Listed l) ∧ Below w.heap.size w w' := by
  obtain ⟨i0, hi, hz0, hz1, hz2⟩ := info_parts info_Listed
  obtain ⟨-, a0, cap, rfl, -, hc⟩ := hv.cells
  have HC := Lib.hid hc
  have HE := Lib.hid (copied_Listed_zero l)
  clear hc hv
  by_cases h0 : l.length = 0
  · obtain rfl := List.length_eq_zero_iff.1 h0
    clear h0 HC HE hl
    go_enter Try.func23, Try.ntmps23
    go_wp2_with (at_make; refine wpList_make_full _ rfl _ _ 24 rfl w.heap.size 32 i0 (.agg #[.string ⟨#[]⟩, .int .i64 0, .int .i64 0, .int .i64 0]) 4 Try.underlying24 hi hz0 hz1 .i64 .i64 _ _ 0 rfl rfl rfl rfl (by omega) (by unfold maxLen; omega) (Nat.le_refl _) ?_; intro w1 hown hgrow)
    have HO := Lib.hid hown
    clear hown
    go_loop [4] (fun i => i = .int .i64 0) (fun _ => 0)
    case atStart => rfl
    case round =>
      subst hrel
      go_wp2
      go_ret
      exact ⟨_, rfl, by simpa [madeCells, row_Listed] using HO.out, (Below.refl _ _).grown hgrow (Nat.le_refl _) (fun k hk => by cases hk)⟩
  · obtain ⟨b, off, rfl, hb, -⟩ := HC.out 0 (by omega)
    go_enter Try.func23, Try.ntmps23
    go_wp2_with (at_make; refine wpList_make_full _ rfl _ _ 24 rfl w.heap.size 32 i0 (.agg #[.string ⟨#[]⟩, .int .i64 0, .int .i64 0, .int .i64 0]) 4 Try.underlying24 hi hz0 hz1 .i64 .i64 _ _ l.length rfl rfl rfl rfl (by rw [hz2]; omega) (by unfold maxLen; omega) (Nat.le_refl _) ?_; intro w1 hown hgrow)
    go_loopw [4] (fun i wr => ∃ k : Nat, k ≤ l.length ∧ i = .int .i64 k ∧ wr.ownsRow w.heap.size 32 4 (.slice (some ⟨w.heap.size, 0, none⟩) l.length l.length) l.length (copied_Listed l k) ∧ Below w.heap.size w wr) (fun i _ => l.length - (intOf i).toNat)
    case atStart => exact ⟨0, Nat.zero_le _, rfl, by rw [← HE.out]; exact hown, (Below.refl _ _).grown hgrow (Nat.le_refl _) (fun k hk => by cases hk)⟩
    case round =>
      obtain ⟨k, hk, rfl, ho, hbl⟩ := hrel
      by_cases hlt : k < l.length
      · obtain ⟨b', off', e1, _, q0, q1, q2, q3⟩ := HC.out k hlt
        cases e1
        obtain ⟨z, hz⟩ : ∃ z, z = l.getD k none_Listed := ⟨_, rfl⟩
        rw [← hz] at q0 q1 q2 q3
        obtain ⟨x0, x1, x2, x3⟩ := z
        have HZ := Lib.hid hz
        have c0 := (hbl.cell (p := ⟨b, off + k * 4, none⟩) hb).trans q0
        have c1 := (hbl.cell (p := ⟨b, off + k * 4 + 1, none⟩) hb).trans q1
        have c2 := (hbl.cell (p := ⟨b, off + k * 4 + 2, none⟩) hb).trans q2
        have c3 := (hbl.cell (p := ⟨b, off + k * 4 + 3, none⟩) hb).trans q3
        have HO := Lib.hid ho
        clear q0 q1 q2 q3 ho hz
        go_wp2_with (go_at_call 32; refine (one_to_Listed x0 x1 x2 x3 _).mono ?_; rintro e w2 ⟨rfl, b2⟩; have HO2 := Lib.hid (ownV_later HO.out b2); have d0 := (HO2.out.cellAt (k * 4) (by omega)).trans (copied_Listed_at l k hlt 0 (by decide)); have f0 := HO2.out.frozenAt (k * 4); have d1 := (HO2.out.cellAt (k * 4 + 1) (by omega)).trans (copied_Listed_at l k hlt 1 (by decide)); have f1 := HO2.out.frozenAt (k * 4 + 1); have d2 := (HO2.out.cellAt (k * 4 + 2) (by omega)).trans (copied_Listed_at l k hlt 2 (by decide)); have f2 := HO2.out.frozenAt (k * 4 + 2); have d3 := (HO2.out.cellAt (k * 4 + 3) (by omega)).trans (copied_Listed_at l k hlt 3 (by decide)); have f3 := HO2.out.frozenAt (k * 4 + 3); simp only [cells_Listed, none_Listed, List.getElem?_cons_zero, List.getElem?_cons_succ] at d0 d1 d2 d3)
        have hS := stored_Listed HO2.out k (by rw [List.length_append, List.length_take, List.length_replicate]; omega) x0 x1 x2 x3
        rw [HZ.out, take_set0 l none_Listed k hlt] at hS
        have HS := Lib.hid hS
        have HB := Lib.hid (hbl.trans (b2.mono hbl.size))
        clear hS
        go_roundw
        case rel => exact ⟨k + 1, by omega, by go_num, HS.out, (((HB.out.setCell (Nat.le_refl _) _).setCell (Nat.le_refl _) _).setCell (Nat.le_refl _) _).setCell (Nat.le_refl _) _⟩
        case measure => simp [intOf]; omega
      · have hk' : k = l.length := by omega
        have HO := Lib.hid (show wr.ownsRow w.heap.size 32 4 (.slice (some ⟨w.heap.size, 0, none⟩) l.length l.length) l.length (row_Listed l) by rw [hk', copied_Listed_full] at ho; exact ho)
        clear ho hk'
        go_wp2
        go_ret
        exact ⟨_, rfl, HO.out, hbl⟩
set_option maxHeartbeats 400000 in
/-- eqListedS at two slices that read the same: true. -/
theorem eq_ListedS (l : List (ByteArray × Int × Int × Int)) (v u : Value) (w : World) (hv : ReadsListed w.heap.size w v l) (hu : ReadsListed w.heap.size w u l) :
    Calls Try.prog 24 #[v, u] w fun e w' => e = .returned (.bool true) ∧ Below w.heap.size w w' := by
  obtain ⟨hl, a0, cap, rfl, -, hc⟩ := hv.cells
  obtain ⟨-, a1, cap1, rfl, -, hd⟩ := hu.cells
  have HC := Lib.hid hc
  have HD := Lib.hid hd
  clear hc hd hv hu
  go_enter Try.func24, Try.ntmps24
  go_wp2
  go_loopw [5] (fun i wr => ∃ k : Nat, k ≤ l.length ∧ i = .int .i64 k ∧ Below w.heap.size w wr) (fun i _ => l.length - (intOf i).toNat)
  case atStart => exact ⟨0, Nat.zero_le _, rfl, Below.refl _ _⟩
  case round =>
    obtain ⟨k, hk, rfl, hbl⟩ := hrel
    by_cases hlt : k < l.length
    · obtain ⟨b, off, rfl, hb, q0, q1, q2, q3⟩ := HC.out k hlt
      obtain ⟨b1, off1, rfl, hb1, r0, r1, r2, r3⟩ := HD.out k hlt
      obtain ⟨z, hz⟩ : ∃ z, z = l.getD k none_Listed := ⟨_, rfl⟩
      rw [← hz] at q0 q1 q2 q3 r0 r1 r2 r3
      obtain ⟨x0, x1, x2, x3⟩ := z
      have c0 := (hbl.cell (p := ⟨b, off + k * 4, none⟩) hb).trans q0
      have c1 := (hbl.cell (p := ⟨b, off + k * 4 + 1, none⟩) hb).trans q1
      have c2 := (hbl.cell (p := ⟨b, off + k * 4 + 2, none⟩) hb).trans q2
      have c3 := (hbl.cell (p := ⟨b, off + k * 4 + 3, none⟩) hb).trans q3
      have d0 := (hbl.cell (p := ⟨b1, off1 + k * 4, none⟩) hb1).trans r0
      have d1 := (hbl.cell (p := ⟨b1, off1 + k * 4 + 1, none⟩) hb1).trans r1
      have d2 := (hbl.cell (p := ⟨b1, off1 + k * 4 + 2, none⟩) hb1).trans r2
      have d3 := (hbl.cell (p := ⟨b1, off1 + k * 4 + 3, none⟩) hb1).trans r3
      clear q0 q1 q2 q3 r0 r1 r2 r3 hz
      have HK : Hid (∀ w', Below wr.heap.size wr w' → w'.cell? ⟨b, off + k * 4, none⟩ = some (.string x0) ∧ w'.cell? ⟨b, off + k * 4 + 1, none⟩ = some (.int .i64 x1) ∧ w'.cell? ⟨b, off + k * 4 + 2, none⟩ = some (.int .i64 x2) ∧ w'.cell? ⟨b, off + k * 4 + 3, none⟩ = some (.int .i64 x3) ∧ w'.cell? ⟨b1, off1 + k * 4, none⟩ = some (.string x0) ∧ w'.cell? ⟨b1, off1 + k * 4 + 1, none⟩ = some (.int .i64 x1) ∧ w'.cell? ⟨b1, off1 + k * 4 + 2, none⟩ = some (.int .i64 x2) ∧ w'.cell? ⟨b1, off1 + k * 4 + 3, none⟩ = some (.int .i64 x3)) := Lib.hid (fun w' h => ⟨(h.cell (p := ⟨b, off + k * 4, none⟩) (Nat.lt_of_lt_of_le hb hbl.size)).trans c0, (h.cell (p := ⟨b, off + k * 4 + 1, none⟩) (Nat.lt_of_lt_of_le hb hbl.size)).trans c1, (h.cell (p := ⟨b, off + k * 4 + 2, none⟩) (Nat.lt_of_lt_of_le hb hbl.size)).trans c2, (h.cell (p := ⟨b, off + k * 4 + 3, none⟩) (Nat.lt_of_lt_of_le hb hbl.size)).trans c3, (h.cell (p := ⟨b1, off1 + k * 4, none⟩) (Nat.lt_of_lt_of_le hb1 hbl.size)).trans d0, (h.cell (p := ⟨b1, off1 + k * 4 + 1, none⟩) (Nat.lt_of_lt_of_le hb1 hbl.size)).trans d1, (h.cell (p := ⟨b1, off1 + k * 4 + 2, none⟩) (Nat.lt_of_lt_of_le hb1 hbl.size)).trans d2, (h.cell (p := ⟨b1, off1 + k * 4 + 3, none⟩) (Nat.lt_of_lt_of_le hb1 hbl.size)).trans d3⟩)
      go_wp2
      go_region_held3 (fun w' => w'.cell? ⟨b, off + k * 4, none⟩ = some (.string x0) ∧ w'.cell? ⟨b, off + k * 4 + 1, none⟩ = some (.int .i64 x1) ∧ w'.cell? ⟨b, off + k * 4 + 2, none⟩ = some (.int .i64 x2) ∧ w'.cell? ⟨b, off + k * 4 + 3, none⟩ = some (.int .i64 x3) ∧ w'.cell? ⟨b1, off1 + k * 4, none⟩ = some (.string x0) ∧ w'.cell? ⟨b1, off1 + k * 4 + 1, none⟩ = some (.int .i64 x1) ∧ w'.cell? ⟨b1, off1 + k * 4 + 2, none⟩ = some (.int .i64 x2) ∧ w'.cell? ⟨b1, off1 + k * 4 + 3, none⟩ = some (.int .i64 x3)) (first | exact ⟨c0, c1, c2, c3, d0, d1, d2, d3⟩ | exact HK.out _ b3) (first | (go_at_call 57; refine Calls.mono (one_eq_Listed x0 x1 x2 x3 _) ?_; rintro e w2 ⟨rfl, b2⟩; have b3 : Below wr.heap.size wr w2 := (by first | exact b2 | exact ((Below.refl wr.heap.size wr).drew).trans b2); have HB2 := Lib.hid (hbl.trans (b3.mono hbl.size))))
      all_goals go_wp2
      all_goals go_roundw
      case rel => exact ⟨k + 1, by omega, by go_num, by repeat (first | exact HB2.out | apply Below.drew)⟩
      case measure => simp [intOf]; omega
    · go_wp2
      go_ret
      exact ⟨rfl, hbl⟩

/-- What szListedS tells. -/
def SzListed (l : List (ByteArray × Int × Int × Int)) (left r : Int) : Prop := -1 ≤ r ∧ (0 ≤ r → r ≤ left ∧ (l.length : Int) ≤ left ∧ ∀ z ∈ l, (z.1.size : Int) ≤ left)
set_option maxHeartbeats 400000 in
theorem sz_ListedS (l : List (ByteArray × Int × Int × Int)) (left : Int) (h0 : 0 ≤ left) (h1 : left ≤ 1048576) (v : Value) (w : World) (hz : ∀ z ∈ l, z.1.size ≤ maxLen) (hv : ReadsListed w.heap.size w v l) :
    Calls Try.prog 21 #[v, .int .i64 left] w fun e w' => ∃ r, SzListed l left r ∧ e = .returned (.int .i64 r) ∧ Below w.heap.size w w' := by
  obtain ⟨hl, a0, cap, rfl, -, hc⟩ := hv.cells
  have HC := Lib.hid hc
  have HZ := Lib.hid hz
  clear hc hz hv
  by_cases hbig : left < l.length
  · go_enter Try.func21, Try.ntmps21
    go_wp2
    go_ret
    exact ⟨-1, ⟨by decide, fun h => by omega⟩, rfl, Below.refl _ _⟩
  · go_enter Try.func21, Try.ntmps21
    go_wp2
    go_loopw [1, 5] (fun lv i wr => ∃ (k : Nat) (r : Int), k ≤ l.length ∧ i = .int .i64 k ∧ lv = .int .i64 r ∧ 0 ≤ r ∧ r ≤ left ∧ Hid (∀ z ∈ l.take k, (z.1.size : Int) ≤ left) ∧ Below w.heap.size w wr) (fun _ i _ => l.length - (intOf i).toNat)
    case atStart => exact ⟨0, left - l.length, Nat.zero_le _, rfl, rfl, by omega, by omega, Lib.hid (by simp), Below.refl _ _⟩
    case round =>
      obtain ⟨k, r, hk, rfl, rfl, hr0, hr1, HL, hbl⟩ := hrel
      by_cases hlt : k < l.length
      · obtain ⟨b, off, rfl, hb, q0, q1, q2, q3⟩ := HC.out k hlt
        obtain ⟨z, hz⟩ : ∃ z, z = l.getD k none_Listed := ⟨_, rfl⟩
        rw [← hz] at q0 q1 q2 q3
        obtain ⟨x0, x1, x2, x3⟩ := z
        have hzm : Hid (x0.size ≤ maxLen) := Lib.hid (HZ.out (x0, x1, x2, x3) (by rw [hz]; simp [List.getD, hlt]))
        have HT : Hid (l.take (k + 1) = l.take k ++ [(x0, x1, x2, x3)]) := Lib.hid (by rw [List.take_succ_eq_append_getElem hlt, hz]; simp only [List.getD_eq_getElem?_getD, List.getElem?_eq_getElem hlt, Option.getD_some])
        have c0 := (hbl.cell (p := ⟨b, off + k * 4, none⟩) hb).trans q0
        have c1 := (hbl.cell (p := ⟨b, off + k * 4 + 1, none⟩) hb).trans q1
        have c2 := (hbl.cell (p := ⟨b, off + k * 4 + 2, none⟩) hb).trans q2
        have c3 := (hbl.cell (p := ⟨b, off + k * 4 + 3, none⟩) hb).trans q3
        clear q0 q1 q2 q3 hz
        go_wp2_with (go_at_call 30; refine (one_sz_Listed x0 x1 x2 x3 r hzm.out hr0 (by omega) _).mono ?_; rintro e w2 ⟨r2, g0, g1, g2, rfl, b2⟩)
        · go_ret
          exact ⟨-1, ⟨by decide, fun h => by omega⟩, rfl, hbl.trans (b2.mono hbl.size)⟩
        · have HB2 := Lib.hid (hbl.trans (b2.mono hbl.size))
          go_roundw
          case rel => exact ⟨k + 1, r2, by omega, by go_num, rfl, by omega, by omega, Lib.hid (by
            intro y hy
            rw [HT.out] at hy
            rcases List.mem_append.1 hy with h | h
            · exact HL.out y h
            · simp only [List.mem_singleton] at h; subst h; have := g2 (by omega); show (x0.size : Int) ≤ left; omega), HB2.out⟩
          case measure => simp [intOf]; omega
      · have HLF : Hid (∀ z ∈ l, (z.1.size : Int) ≤ left) := Lib.hid (by
          have h9 := HL.out
          rw [List.take_of_length_le (by omega)] at h9
          exact h9)
        go_wp2
        go_ret
        exact ⟨r, ⟨by omega, fun _ => ⟨hr1, by omega, HLF.out⟩⟩, rfl, hbl⟩
/-- What markListedS writes. -/
def mk_Listed (k : Nat) : ByteArray × Int × Int × Int := (mtext (k), ((k + 1 : Nat) : Int), ((k + 2 : Nat) : Int), ((k + 3 : Nat) : Int))
def mks_Listed (k0 m : Nat) : List (ByteArray × Int × Int × Int) := (List.range m).map fun i => mk_Listed (k0 + 4 * i)
theorem mks_Listed_length (k0 m : Nat) : (mks_Listed k0 m).length = m := by simp [mks_Listed]
theorem mks_Listed_getD (k0 m j : Nat) (h : j < m) : (mks_Listed k0 m).getD j none_Listed = mk_Listed (k0 + 4 * j) := by simp [mks_Listed, List.getD, h]
theorem mkd_Listed_set (k0 : Nat) (m : List (ByteArray × Int × Int × Int)) (j : Nat) (h : j < m.length) : (mks_Listed k0 j ++ m.drop j).set j (mk_Listed (k0 + 4 * j)) = mks_Listed k0 (j + 1) ++ m.drop (j + 1) := by
  rw [List.set_append_right _ _ (by simp [mks_Listed_length])]
  have e2 : j - (mks_Listed k0 j).length = 0 := by simp [mks_Listed_length]
  rw [e2, List.drop_eq_getElem_cons h, List.set_cons_zero]
  simp [mks_Listed, List.range_succ]
theorem mkd_Listed_at (k0 : Nat) (m : List (ByteArray × Int × Int × Int)) (j : Nat) (h : j < m.length) (r : Nat) (hr : r < 4) : (row_Listed (mks_Listed k0 j ++ m.drop j))[j * 4 + r]? = (cells_Listed (m.getD j none_Listed))[r]? := by
  rw [row_Listed_at _ j (by rw [List.length_append, mks_Listed_length, List.length_drop]; omega) r hr]
  congr 2
  rw [List.getElem_append_right (by rw [mks_Listed_length]; exact Nat.le_refl _)]
  simp [mks_Listed_length, List.getD, h]
theorem mk_Listed_eq (k0 j : Nat) : mk_Listed (k0 + 4 * j) = (mtext (k0 + 4 * j), (k0 : Int) + 4 * j + 1, (k0 : Int) + 4 * j + 1 + 1, (k0 : Int) + 4 * j + 1 + 1 + 1) := by
  unfold mk_Listed
  rw [show ((k0 + 4 * j + 1 : Nat) : Int) = (k0 : Int) + 4 * j + 1 by omega, show ((k0 + 4 * j + 2 : Nat) : Int) = (k0 : Int) + 4 * j + 1 + 1 by omega, show ((k0 + 4 * j + 3 : Nat) : Int) = (k0 : Int) + 4 * j + 1 + 1 + 1 by omega]
set_option maxHeartbeats 1600000 in
theorem mark_ListedS0 (base g m' cap : Nat) (m : List (ByteArray × Int × Int × Int)) (hm : m.length = m') (hn : m' ≤ 17592186044416) (k0 : Nat) (h0 : 1 ≤ k0) (h1 : k0 ≤ 17592186044416) (w : World)
    (ho : w.ownsRow base 32 4 (.slice (some ⟨g, 0, none⟩) m' cap) m' (row_Listed m)) :
    Calls Try.prog 27 #[.slice (some ⟨g, 0, none⟩) m' cap, .int .i64 k0] w fun e w' => e = .returned (.int .i64 ((k0 + 4 * m' : Nat) : Int)) ∧ w'.ownsRow base 32 4 (.slice (some ⟨g, 0, none⟩) m' cap) m' (row_Listed (mks_Listed k0 m')) ∧ w.grownBy w' (some g) := by
  have HO0 := Lib.hid ho
  have HM := Lib.hid hm
  clear ho hm
  go_enter Try.func27, Try.ntmps27
  go_wp2
  go_loopw [1, 5] (fun kv i wr => ∃ j : Nat, j ≤ m' ∧ i = .int .i64 j ∧ kv = .int .i64 (k0 + 4 * j) ∧ Hid (wr.ownsRow base 32 4 (.slice (some ⟨g, 0, none⟩) m' cap) m' (row_Listed (mks_Listed k0 j ++ m.drop j))) ∧ w.grownBy wr (some g)) (fun _ i _ => m' - (intOf i).toNat)
  case atStart => exact ⟨0, Nat.zero_le _, rfl, by go_num, Lib.hid (by simpa [mks_Listed] using HO0.out), grown_refl w _⟩
  case round =>
    obtain ⟨j, hj, rfl, rfl, HO, hg⟩ := hrel
    by_cases hlt : j < m'
    · have HJ : Hid (j < m.length) := Lib.hid (by rw [HM.out]; exact hlt)
      obtain ⟨y, hy⟩ : ∃ y, y = m.getD j none_Listed := ⟨_, rfl⟩
      obtain ⟨x0, x1, x2, x3⟩ := y
      have HAT : Hid (∀ r, r < 4 → (row_Listed (mks_Listed k0 j ++ m.drop j))[j * 4 + r]? = (cells_Listed (x0, x1, x2, x3))[r]?) := Lib.hid (fun r hr => by rw [mkd_Listed_at k0 m j HJ.out r hr, ← hy])
      clear hy
      go_wp2_with (go_at_call 58; refine (mtext_any _ (k0 + 4 * j) (by omega) (by omega) (by omega) _).mono ?_; rintro e w2 ⟨rfl, b2⟩; have HO2 := Lib.hid (ownV_later HO.out b2); have HG2 := Lib.hid (grown_trans hg (grown_of_below b2 (some g))); have d0 := (HO2.out.cellAt (j * 4) (by omega)).trans (HAT.out 0 (by decide)); have f0 := HO2.out.frozenAt (j * 4); have d1 := (HO2.out.cellAt (j * 4 + 1) (by omega)).trans (HAT.out 1 (by decide)); have f1 := HO2.out.frozenAt (j * 4 + 1); have d2 := (HO2.out.cellAt (j * 4 + 2) (by omega)).trans (HAT.out 2 (by decide)); have f2 := HO2.out.frozenAt (j * 4 + 2); have d3 := (HO2.out.cellAt (j * 4 + 3) (by omega)).trans (HAT.out 3 (by decide)); have f3 := HO2.out.frozenAt (j * 4 + 3); simp only [cells_Listed, List.getElem?_cons_zero, List.getElem?_cons_succ] at d0 d1 d2 d3; clear b2)
      have HS := Lib.hid (stored_Listed HO2.out j (by rw [List.length_append, mks_Listed_length, List.length_drop]; have := HJ.out; omega) (mtext (k0 + 4 * j)) ((k0 : Int) + 4 * j + 1) ((k0 : Int) + 4 * j + 1 + 1) ((k0 : Int) + 4 * j + 1 + 1 + 1))
      have HE : Hid ((mks_Listed k0 j ++ m.drop j).set j ((mtext (k0 + 4 * j)), ((k0 : Int) + 4 * j + 1), ((k0 : Int) + 4 * j + 1 + 1), ((k0 : Int) + 4 * j + 1 + 1 + 1)) = mks_Listed k0 (j + 1) ++ m.drop (j + 1)) := Lib.hid (by rw [← mkd_Listed_set k0 m j HJ.out, mk_Listed_eq])
      have HS2 := HS.out
      rw [HE.out] at HS2
      have HS3 := Lib.hid HS2
      clear HS HS2 HE
      go_roundw
      case rel => exact ⟨j + 1, by omega, by go_num, by go_num, HS3, grown_cell0 (grown_cell0 (grown_cell0 (grown_cell0 (HG2.out) _ _) _ _) _ _) _ _⟩
      case measure => simp [intOf]; omega
    · have hj' : j = m' := by omega
      have HF : Hid (wr.ownsRow base 32 4 (.slice (some ⟨g, 0, none⟩) m' cap) m' (row_Listed (mks_Listed k0 m'))) := Lib.hid (by
        have h9 := HO.out
        rw [hj', List.drop_eq_nil_of_le (by rw [HM.out]; exact Nat.le_refl _), List.append_nil] at h9
        exact h9)
      clear HO
      subst hj'
      go_wp2
      go_ret
      exact ⟨by first | rfl | (congr 2; omega), HF.out, hg⟩
theorem mark_ListedS_nil (k0 : Nat) (w : World) :
    Calls Try.prog 27 #[.slice none 0 0, .int .i64 k0] w fun e w' => e = .returned (.int .i64 k0) ∧ w = w' := by
  go_enter Try.func27, Try.ntmps27
  go_wp2
  go_loop [1, 5] (fun kv i => kv = .int .i64 k0 ∧ i = .int .i64 0) (fun _ _ => 0)
  case atStart => exact ⟨rfl, rfl⟩
  case round =>
    obtain ⟨rfl, rfl⟩ := hrel
    go_wp2
    go_ret
    exact ⟨rfl, rfl⟩
/-- markListedS at an owned row. -/
theorem mark_ListedS (base m' : Nat) (v : Value) (m : List (ByteArray × Int × Int × Int)) (hm : m.length = m') (hn : m' ≤ 17592186044416) (k0 : Nat) (h0 : 1 ≤ k0) (h1 : k0 ≤ 17592186044416) (w : World) (ho : w.ownsRow base 32 4 v m' (row_Listed m)) :
    Calls Try.prog 27 #[v, .int .i64 k0] w fun e w' => e = .returned (.int .i64 ((k0 + 4 * m' : Nat) : Int)) ∧ w'.ownsRow base 32 4 v m' (row_Listed (mks_Listed k0 m')) ∧ w.grownBy w' v.ownBlock := by
  have ho' := ho
  rcases ho.2 with ⟨rfl, h⟩ | ⟨g, cap, cur, rfl, _⟩
  · subst h
    exact (mark_ListedS_nil k0 w).mono fun e w' ⟨he, hw⟩ => by
      subst hw
      exact ⟨by rw [he]; simp, by simpa [mks_Listed, row_Listed] using World.ownsRow_nil w base 32 4, grown_refl _ _⟩
  · exact mark_ListedS0 base g m' cap m hm hn k0 h0 h1 w ho'
set_option maxHeartbeats 1600000 in
/-- heldListedS at a slice that reads as markListedS left it: the next number. -/
theorem held_ListedS (m' : Nat) (hn : m' ≤ 17592186044416) (k0 : Nat) (h0 : 1 ≤ k0) (h1 : k0 ≤ 17592186044416) (v : Value) (w : World) (hv : ReadsListed w.heap.size w v (mks_Listed k0 m')) :
    Calls Try.prog 33 #[v, .int .i64 k0] w fun e w' => e = .returned (.int .i64 ((k0 + 4 * m' : Nat) : Int)) ∧ Below w.heap.size w w' := by
  obtain ⟨-, a0, cap, rfl, -, hc⟩ := hv.cells
  rw [mks_Listed_length] at hc ⊢
  have HC := Lib.hid hc
  clear hc hv
  go_enter Try.func33, Try.ntmps33
  go_wp2
  go_loopw [1, 5] (fun kv i wr => ∃ j : Nat, j ≤ m' ∧ i = .int .i64 j ∧ kv = .int .i64 (k0 + 4 * j) ∧ Below w.heap.size w wr) (fun _ i _ => m' - (intOf i).toNat)
  case atStart => exact ⟨0, Nat.zero_le _, rfl, by go_num, Below.refl _ _⟩
  case round =>
    obtain ⟨j, hj, rfl, rfl, hbl⟩ := hrel
    by_cases hlt : j < m'
    · obtain ⟨b, off, rfl, hb, q0, q1, q2, q3⟩ := HC.out j hlt
      rw [mks_Listed_getD k0 m' j hlt, mk_Listed_eq] at q0 q1 q2 q3
      have hbr : b < wr.heap.size := Nat.lt_of_lt_of_le hb hbl.size
      have hc1 := (hbl.cell (p := ⟨b, off + j * 4, none⟩) hb).trans q0
      have HK : Hid (∀ w', Below wr.heap.size wr w' → w'.cell? ⟨b, off + j * 4 + 1, none⟩ = some (.int .i64 ((k0 : Int) + 4 * j + 1)) ∧ w'.cell? ⟨b, off + j * 4 + 2, none⟩ = some (.int .i64 ((k0 : Int) + 4 * j + 1 + 1)) ∧ w'.cell? ⟨b, off + j * 4 + 3, none⟩ = some (.int .i64 ((k0 : Int) + 4 * j + 1 + 1 + 1))) := Lib.hid (fun w' h => ⟨((hbl.trans (h.mono hbl.size)).cell (p := ⟨b, off + j * 4 + 1, none⟩) hb).trans q1, ((hbl.trans (h.mono hbl.size)).cell (p := ⟨b, off + j * 4 + 2, none⟩) hb).trans q2, ((hbl.trans (h.mono hbl.size)).cell (p := ⟨b, off + j * 4 + 3, none⟩) hb).trans q3⟩)
      clear q0 q1 q2 q3
      go_wp2
      go_region_held3 (fun w' => w'.cell? ⟨b, off + j * 4, none⟩ = some (.string (mtext (k0 + 4 * j)))) (first | exact hc1 | exact cS) (first | (go_at_call 58; refine Calls.mono (mtext_any _ (k0 + 4 * j) (by omega) (by omega) (by omega) _) ?_; rintro e w2 ⟨rfl, b2⟩; have cS := (b2.cell (p := ⟨b, off + j * 4, none⟩) hbr).trans hc1; have b3 : Below wr.heap.size wr w2 := (by first | exact b2 | exact ((Below.refl wr.heap.size wr).drew).trans b2); have HB2 := Lib.hid (hbl.trans (b3.mono hbl.size)); obtain ⟨p1, p2, p3⟩ := HK.out _ b3))
      all_goals go_wp2
      all_goals go_roundw
      case rel => exact ⟨j + 1, by omega, by go_num, by go_num, by repeat (first | exact HB2.out | apply Below.drew)⟩
      case measure => simp [intOf]; omega
    · have hj' : j = m' := by omega
      subst hj'
      go_wp2
      go_ret
      exact ⟨by first | rfl | (congr 2; omega), hbl⟩
end Go.Proofs.Ytcpojeiciaghmaa
