/-
  Contracts of the draws of chapter 7, third part: the three draws of the laws.
-/
import Derived.Test.YtbickkphiofmlaaDrawGrid2
import Derived.Test.YtbickkphiofmlaaSame
namespace Go.Proofs.Ytbickkphiofmlaa
open Go.RowKit

set_option maxHeartbeats 1600000 in
theorem dig_any (n cap : Nat) (a0 : Option Addr) (w : World) (hc : Code w.heap.size w a0 n) (hn : n ≤ 1048576) :
    Calls Try.prog 11 #[.slice a0 n cap] w fun e w' => ∃ (r c : Int) (s : ByteArray), (LO ≤ r ∧ r ≤ HI) ∧ (LO ≤ c ∧ c ≤ HI) ∧ s.size ≤ 40 ∧ e = .returned (.agg #[.int .i64 r, .int .i64 c, .string s]) ∧ Below w.heap.size w w' := by
  go_enter Try.func11, Try.ntmps11
  go_wp2_with fail
  obtain ⟨W0, hW0⟩ : ∃ W0, W0 = w.alloc (.cells #[.int .i64 0, .int .i64 0, .string ⟨#[]⟩] 25) := ⟨_, rfl⟩
  have HR0 : Hid (W0.heap[w.heap.size]? = some (.cells #[.int .i64 0, .int .i64 0, .string ⟨#[]⟩] 25)) := Lib.hid (by rw [hW0]; exact new_block w _)
  have HB0 : Hid (Below w.heap.size w W0) := Lib.hid (by rw [hW0]; exact (Below.refl _ _).alloc (Nat.le_refl _) _)
  have hw0 : W0.heap.size = w.heap.size + 1 := by rw [hW0]; simp
  have hc0 := code_later hc HB0.out
  have HS0 := Lib.hid hw0
  rw [← hW0]
  clear hW0 hc hw0
  go_wp2_with (first | (go_at_call 29; refine (new_any n cap a0 _ hc0 hn).mono ?_; rintro e w1 ⟨c, rfl, hk, hb⟩; have HR1 := Lib.hid ((hb.block w.heap.size (size_of_heap HR0.out)).trans HR0.out); have HB1 := Lib.hid (HB0.out.trans (hb.mono HB0.out.size)); have hcw : w.heap.size + 1 ≤ c := (by have := hk.1; have := HS0.out; omega); have HBS := Lib.hid hb; clear hb) | (go_at_call 30; refine (any7_any _ _ c n cap a0 hk).mono ?_; rintro e w2 ⟨v, ⟨gr, gc, gs, qr, qc, q1, q40, rfl⟩, rfl, hk2, hg2⟩; have HR2 := Lib.hid ((hg2.block w.heap.size (size_of_heap HR1.out) (by simp; omega)).trans HR1.out); have HB2 := Lib.hid (HB1.out.trans (below_grown2 hg2 (show w.heap.size ≤ c by omega) HB1.out.size)); have HK2 := Lib.hid hk2; clear hk hk2 hg2; obtain ⟨z0, z1, z2, y0, y1, y2⟩ := cells3 HR2.out))
  exact bodyPost_ret (v := .agg #[.int .i64 gr, .int .i64 gc, .string gs]) (by simp [results, Try.results11, go_sem, z0, z1, z2]) rfl ⟨gr, gc, gs, qr, qc, q40, rfl, (((HB2.out.setCell (p := ⟨w.heap.size, 0, none⟩) (by simp) _).setCell (p := ⟨w.heap.size, 1, none⟩) (by simp) _).setCell (p := ⟨w.heap.size, 2, none⟩) (by simp) _)⟩
set_option maxHeartbeats 1600000 in
theorem diwh_any (n cap : Nat) (a0 : Option Addr) (w : World) (hc : Code w.heap.size w a0 n) (hn : n ≤ 1048576) :
    Calls Try.prog 19 #[.slice a0 n cap] w fun e w' => ∃ (r c : Int) (s : ByteArray) (k : Int), (LO ≤ r ∧ r ≤ HI) ∧ (LO ≤ c ∧ c ≤ HI) ∧ s.size ≤ 40 ∧ (-1 ≤ k ∧ k ≤ 36) ∧ e = .returned (.tuple #[.agg #[.int .i64 r, .int .i64 c, .string s], .int .i64 k]) ∧ Below w.heap.size w w' := by
  go_enter Try.func19, Try.ntmps19
  go_wp2_with fail
  obtain ⟨W0, hW0⟩ : ∃ W0, W0 = w.alloc (.cells #[.int .i64 0, .int .i64 0, .string ⟨#[]⟩] 25) := ⟨_, rfl⟩
  have HR0 : Hid (W0.heap[w.heap.size]? = some (.cells #[.int .i64 0, .int .i64 0, .string ⟨#[]⟩] 25)) := Lib.hid (by rw [hW0]; exact new_block w _)
  have HB0 : Hid (Below w.heap.size w W0) := Lib.hid (by rw [hW0]; exact (Below.refl _ _).alloc (Nat.le_refl _) _)
  have hw0 : W0.heap.size = w.heap.size + 1 := by rw [hW0]; simp
  have hc0 := code_later hc HB0.out
  have HS0 := Lib.hid hw0
  rw [← hW0]
  clear hW0 hc hw0
  go_wp2_with (first | (go_at_call 29; refine (new_any n cap a0 _ hc0 hn).mono ?_; rintro e w1 ⟨c, rfl, hk, hb⟩; have HR1 := Lib.hid ((hb.block w.heap.size (size_of_heap HR0.out)).trans HR0.out); have HB1 := Lib.hid (HB0.out.trans (hb.mono HB0.out.size)); have hcw : w.heap.size + 1 ≤ c := (by have := hk.1; have := HS0.out; omega); have HBS := Lib.hid hb; clear hb) | (go_at_call 30; refine (any7_any _ _ c n cap a0 hk).mono ?_; rintro e w2 ⟨v, ⟨gr, gc, gs, qr, qc, q1, q40, rfl⟩, rfl, hk2, hg2⟩; have HR2 := Lib.hid ((hg2.block w.heap.size (size_of_heap HR1.out) (by simp; omega)).trans HR1.out); have HB2 := Lib.hid (HB1.out.trans (below_grown2 hg2 (show w.heap.size ≤ c by omega) HB1.out.size)); have HK2 := Lib.hid hk2; clear hk hk2 hg2; obtain ⟨z0, z1, z2, y0, y1, y2⟩ := cells3 HR2.out))
  obtain ⟨W3, hW3⟩ : ∃ W3, W3 = w2.alloc (.cells #[.int .i64 gr, .int .i64 gc, .string gs] 25) := ⟨_, rfl⟩
  have HR3 : Hid (W3.heap[w.heap.size]? = some (.cells #[.int .i64 0, .int .i64 0, .string ⟨#[]⟩] 25)) := Lib.hid (by rw [hW3]; exact (Below.heap_alloc _ _ _ (size_of_heap HR2.out)).trans HR2.out)
  have HG3 : Hid (W3.heap[w2.heap.size]? = some (.cells #[.int .i64 gr, .int .i64 gc, .string gs] 25)) := Lib.hid (by rw [hW3]; exact new_block w2 _)
  have HB3 : Hid (Below w.heap.size w W3) := Lib.hid (by rw [hW3]; exact HB2.out.alloc HB2.out.size _)
  have hk3 : Cur W0.heap.size W3 c n cap a0 := by rw [hW3]; exact HK2.out.alloc _
  have h2c : w2.heap.size ≠ c := HK2.out.ne
  rw [← hW3]
  clear hW3 z0 z1 z2 y0 y1 y2
  obtain ⟨x0, x1, x2, fx0, fx1, fx2⟩ := cells3 HG3.out
  have hkd : Cur W0.heap.size (W3.alloc (.cells #[.int .i64 0, .int .i64 1, .int .i64 4, .int .i64 8, .int .i64 11, .int .i64 35, .int .i64 36, .int .i64 (-1)] 3)).drew c n cap a0 := hk3.alloc (.cells #[.int .i64 0, .int .i64 1, .int .i64 4, .int .i64 8, .int .i64 11, .int .i64 35, .int .i64 36, .int .i64 (-1)] 3)
  have hne3 : W3.heap.size ≠ c := hk3.ne
  have hrow : ∀ j, j < 8 → ∃ z : Int, -1 ≤ z ∧ z ≤ 36 ∧ (W3.alloc (.cells #[.int .i64 0, .int .i64 1, .int .i64 4, .int .i64 8, .int .i64 11, .int .i64 35, .int .i64 36, .int .i64 (-1)] 3)).drew.cell? ⟨W3.heap.size, j, none⟩ = some (.int .i64 z) := fun j hj => row_ints W3 cells7 3 (-1) 36 cells7_in j hj
  have hGd : (W3.alloc (.cells #[.int .i64 0, .int .i64 1, .int .i64 4, .int .i64 8, .int .i64 11, .int .i64 35, .int .i64 36, .int .i64 (-1)] 3)).drew.heap[w2.heap.size]? = some (.cells #[.int .i64 gr, .int .i64 gc, .string gs] 25) := (Below.heap_alloc W3 (.cells #[.int .i64 0, .int .i64 1, .int .i64 4, .int .i64 8, .int .i64 11, .int .i64 35, .int .i64 36, .int .i64 (-1)] 3) w2.heap.size (size_of_heap HG3.out)).trans HG3.out
  obtain ⟨p0, p1, p2, fp0, fp1, fp2⟩ := cells3 hGd
  have HGD := Lib.hid hGd
  have hRd : (W3.alloc (.cells #[.int .i64 0, .int .i64 1, .int .i64 4, .int .i64 8, .int .i64 11, .int .i64 35, .int .i64 36, .int .i64 (-1)] 3)).drew.heap[w.heap.size]? = some (.cells #[.int .i64 0, .int .i64 0, .string ⟨#[]⟩] 25) := (Below.heap_alloc W3 (.cells #[.int .i64 0, .int .i64 1, .int .i64 4, .int .i64 8, .int .i64 11, .int .i64 35, .int .i64 36, .int .i64 (-1)] 3) w.heap.size (size_of_heap HR3.out)).trans HR3.out
  have HRD := Lib.hid hRd
  have HBD : Hid (Below w.heap.size w (W3.alloc (.cells #[.int .i64 0, .int .i64 1, .int .i64 4, .int .i64 8, .int .i64 11, .int .i64 35, .int .i64 36, .int .i64 (-1)] 3)).drew) := Lib.hid ((HB3.out.alloc HB3.out.size (.cells #[.int .i64 0, .int .i64 1, .int .i64 4, .int .i64 8, .int .i64 11, .int .i64 35, .int .i64 36, .int .i64 (-1)] 3)).drew)
  clear hGd hRd
  go_region_with (first | (go_at_call 42; refine (int_any (-1) 36 W3.heap.size 8 (by decide) (by decide) _ _ c n cap a0 hkd hne3 hrow).mono ?_; rintro e w4 ⟨v, ⟨k, hk0, hk1, rfl⟩, rfl, hk4, hg4⟩; have HR4 := Lib.hid ((hg4.block w.heap.size (size_of_heap HRD.out) (by simp; omega)).trans HRD.out); have HG4 := Lib.hid ((hg4.block w2.heap.size (size_of_heap HGD.out) (by simpa using h2c)).trans HGD.out); have HB4 := Lib.hid (HBD.out.trans (below_grown2 hg4 (show w.heap.size ≤ c by omega) HBD.out.size)); clear hk4 hg4; obtain ⟨u0, u1, u2, fu0, fu1, fu2⟩ := cells3 HG4.out; obtain ⟨z0, z1, z2, y0, y1, y2⟩ := cells3 HR4.out))
  all_goals go_wp2
  all_goals exact bodyPost_ret (v := .tuple #[.agg #[.int .i64 gr, .int .i64 gc, .string gs], .int .i64 k]) (by simp [results, Try.results19, go_sem, z0, z1, z2]) rfl ⟨gr, gc, gs, k, qr, qc, q40, ⟨hk0, hk1⟩, rfl, (((HB4.out.setCell (p := ⟨w.heap.size, 0, none⟩) (by simp) _).setCell (p := ⟨w.heap.size, 1, none⟩) (by simp) _).setCell (p := ⟨w.heap.size, 2, none⟩) (by simp) _)⟩

def any7 (t : ByteArray) : List ByteArray := [t, t, t, t ++ ⟨#[47]⟩, t ++ ⟨#[46]⟩, ⟨#[]⟩, ⟨#[46, 47, 46]⟩, ⟨#[46, 46, 47, 46]⟩, ⟨#[46, 46, 120, 47, 46, 46, 46]⟩, ⟨#[46, 46, 46, 46, 46, 46, 46, 47, 46, 46, 46, 46, 46, 46, 46]⟩]
theorem any7_in {t : ByteArray} (ht : t.size ≤ 42) : ∀ y ∈ any7 t, y.size ≤ 50 := by
  intro y hy
  simp only [any7, List.mem_cons, List.not_mem_nil, or_false] at hy
  have h1 : (t ++ ⟨#[47]⟩).size = t.size + 1 := by simp [ByteArray.size_append]; rfl
  have h2 : (t ++ ⟨#[46]⟩).size = t.size + 1 := by simp [ByteArray.size_append]; rfl
  rcases hy with rfl | rfl | rfl | rfl | rfl | rfl | rfl | rfl | rfl | rfl <;> first | omega | decide
theorem textG_size (g : Int × Int × ByteArray) : (textG g).size ≤ 42 := by
  by_cases h : isG g = true
  · obtain ⟨⟨hr1, hr2⟩, ⟨hc1, hc2⟩, -⟩ := of_decide_eq_true h
    have hT : textG g = ⟨(linesG g.2.1.toNat g.2.2 g.1.toNat).toArray⟩ := by unfold textG; rw [if_pos h]
    have h9 := linesG_length g.2.1.toNat g.2.2 g.1.toNat
    rw [hT, ← size_list]
    exact Nat.le_trans h9 (Nat.le_trans (Nat.mul_le_mul (show g.1.toNat ≤ 6 by omega) (show g.2.1.toNat + 1 ≤ 7 by omega)) (by decide))
  · have hT : textG g = ⟨#[]⟩ := by unfold textG; rw [if_neg h]
    rw [hT]
    decide
set_option maxHeartbeats 1600000 in
theorem dpg_any (n cap : Nat) (a0 : Option Addr) (w : World) (hc : Code w.heap.size w a0 n) (hn : n ≤ 1048576) :
    Calls Try.prog 18 #[.slice a0 n cap] w fun e w' => ∃ z : ByteArray, z.size ≤ 50 ∧ e = .returned (.string z) ∧ Below w.heap.size w w' := by
  go_enter Try.func18, Try.ntmps18
  go_wp2_with (first | (go_at_call 29; refine (new_any n cap a0 _ hc hn).mono ?_; rintro e w1 ⟨c, rfl, hk, hb⟩; have HB1 := Lib.hid hb; have hcw := hk.1; clear hb) | (go_at_call 40; refine (draw7_any _ _ c n cap a0 hk).mono ?_; rintro e w2 ⟨v, ⟨gr, gc, gs, qr, qc, q1, q36, rfl⟩, rfl, hk2, hg2⟩; have HB2 := Lib.hid (HB1.out.trans (below_grown2 hg2 hcw HB1.out.size)); have HK2 := Lib.hid hk2; clear hk hk2 hg2) | (go_at_call 27; refine (stext_any gr gc gs (by omega) _).mono ?_; obtain ⟨t, ht⟩ : ∃ t, t = textG (gr, gc, gs) := ⟨_, rfl⟩; have ht42 := textG_size (gr, gc, gs); rw [← ht] at ht42 ⊢; clear ht; rintro e w3 ⟨rfl, b3⟩; have HB3 := Lib.hid (HB2.out.trans (b3.mono HB2.out.size)); have hk3 := cur_below HK2.out b3; clear b3) | (go_at_call 41; refine (str_any (fun z => z.size ≤ 50) w3.heap.size 10 (by decide) (by decide) _ _ c n cap a0 (hk3.alloc _) hk3.ne (fun j hj => row_strs w3 (any7 t) 9 _ (any7_in ht42) j hj)).mono ?_; rintro e w4 ⟨v, ⟨y, hy, rfl⟩, rfl, hk4, hg4⟩))
  go_ret
  exact ⟨y, hy, rfl, (HB3.out.alloc HB3.out.size _).trans (below_grown2 hg4 hcw (HB3.out.alloc HB3.out.size _).size)⟩
end Go.Proofs.Ytbickkphiofmlaa
