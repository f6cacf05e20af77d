/-
  Contracts of the draws of chapter 7, second part: l7Any and the three draws of the laws.
  Contracts of the draws of chapter 7, third part: the three draws of the laws.
-/
import Derived.Test.YtmhgejljjjmejaaDoorDrawGrid
import Derived.Test.YtmhgejljjjmejaaDoorDrawPat
import Derived.Test.YtmhgejljjjmejaaDoorSame
namespace Go.Proofs.YtmhgejljjjmejaaDoor
open Go.RowKit

def ints7 : List Int := [1, 7, 3]
theorem ints7_in : ∀ z ∈ ints7, LO ≤ z ∧ z ≤ HI := by decide
def cells7 : List Int := [0, 1, 4, 8, 11, 35, 36, -1]
theorem cells7_in : ∀ z ∈ cells7, (-1 : Int) ≤ z ∧ z ≤ 36 := by decide

set_option maxHeartbeats 3200000 in
theorem any7_any (B : Nat) (w : World) (c n cap : Nat) (a0 : Option Addr) (hk : Cur B w c n cap a0) :
    Calls Tryd.prog 30 #[.pointer (some ⟨c, 0, none⟩)] w (Gives (GridV 1 40) B w c n cap a0) := by
  go_enter Tryd.func30, Tryd.ntmps30
  go_wp2_with fail
  obtain ⟨W0, hW0⟩ : ∃ W0, W0 = w.alloc (.cells #[.int .i64 0, .int .i64 0, .string ⟨#[]⟩] 25) := ⟨_, rfl⟩
  have HR0 : Hid (W0.heap[w.heap.size]? = some (.cells #[.int .i64 0, .int .i64 0, .string ⟨#[]⟩] 25)) := Lib.hid (by rw [hW0]; exact new_block w _)
  have hk0 : Cur B W0 c n cap a0 := by rw [hW0]; exact hk.alloc _
  have HG0 : Hid (w.grownBy W0 (some c)) := Lib.hid (by rw [hW0]; exact World.grownBy_alloc w _ _)
  have hwc : w.heap.size ≠ c := hk.ne
  have hBc : B ≤ c := hk.1
  have hcw : c < w.heap.size := cur_lt hk
  rw [← hW0]
  clear hW0 hk
  go_wp2_with (first | (go_at_call 48; refine (draw7_any B _ c n cap a0 hk0).mono ?_; rintro e w1 ⟨v, ⟨gr, gc, gs, qr, qc, q4, q36, rfl⟩, rfl, hk1, hg1⟩; have HR1 := Lib.hid ((hg1.block w.heap.size (size_of_heap HR0.out) (by simpa using hwc)).trans HR0.out); have HG1 := Lib.hid (gtrans HG0.out hg1); have HK1 := Lib.hid hk1; clear hk0 hk1 hg1))
  refine (below_any 9 (by decide) (by decide) B _ c n cap a0 (HK1.out.alloc _)).mono ?_
  rintro e w2 ⟨v, ⟨xi, hx0, hx1, rfl⟩, rfl, hk2, hg2⟩
  have HR2 := Lib.hid ((hg2.block w.heap.size (by have := size_of_heap HR1.out; simp; omega) (by simpa using hwc)).trans ((Below.heap_alloc _ _ w.heap.size (size_of_heap HR1.out)).trans HR1.out))
  have HB2 := Lib.hid ((hg2.block w1.heap.size (by simp) (by have := cur_lt HK1.out; simp; omega)).trans (new_block w1 _))
  have HG2 := Lib.hid (gtrans HG1.out (gtrans (World.grownBy_alloc w1 _ _) hg2))
  have HK2 := Lib.hid hk2
  have hww : w.heap.size < w1.heap.size := size_of_heap HR1.out
  have hw1 := HG1.out.size
  have h1c : w1.heap.size ≠ c := by omega
  have hBw : B ≤ w1.heap.size := by omega
  have q1 : (1 : Int) ≤ (gs.size : Int) := by omega
  clear hk2 hg2 HR0 HG0 HR1 HG1 HK1
  obtain ⟨x0, x1, x2, fx0, fx1, fx2⟩ := cells3 HB2.out
  obtain ⟨z0, z1, z2, y0, y1, y2⟩ := cells3 HR2.out
  obtain ⟨i, rfl⟩ : ∃ i : Nat, xi = (i : Int) := ⟨xi.toNat, by omega⟩
  rcases i with _ | _ | _ | _ | i
  · go_wp2_with (go_at_call 50; refine (raw5_any B _ c n cap a0 HK2.out).mono ?_; rintro e w3 ⟨v, ⟨y, hy0, hy1, rfl⟩, rfl, hk3, hg3⟩; have HR3 := Lib.hid ((hg3.block w.heap.size (size_of_heap HR2.out) (by simpa using hwc)).trans HR2.out); have HB3 := Lib.hid ((hg3.block w1.heap.size (size_of_heap HB2.out) (by simpa using h1c)).trans HB2.out); have HG3 := Lib.hid (gtrans HG2.out hg3); have HK3 := Lib.hid hk3; clear hk3 hg3; obtain ⟨x0, x1, x2, fx0, fx1, fx2⟩ := cells3 HB3.out; obtain ⟨z0, z1, z2, y0, y1, y2⟩ := cells3 HR3.out)
    exact bodyPost_ret (v := .agg #[.int .i64 y, .int .i64 gc, .string gs]) (by simp [results, Tryd.results30, go_sem, z0, z1, z2]) rfl ⟨_, ⟨y, gc, gs, ⟨hy0, hy1⟩, qc, by omega, by omega, rfl⟩, rfl, cur_set (cur_set (cur_set (cur_set HK3.out h1c hBw _ _) hwc (by omega) _ _) hwc (by omega) _ _) hwc (by omega) _ _, grown_new (grown_new (grown_new (grown_new HG3.out hw1 _ _) (Nat.le_refl _) _ _) (Nat.le_refl _) _ _) (Nat.le_refl _) _ _⟩
  · go_wp2_with (go_at_call 51; refine (int_any LO HI w2.heap.size 3 (by decide) (by decide) B _ c n cap a0 (HK2.out.alloc _) HK2.out.ne (fun j hj => row_ints w2 ints7 3 LO HI ints7_in j hj)).mono ?_; rintro e w3 ⟨v, ⟨y, hy0, hy1, rfl⟩, rfl, hk3, hg3⟩; have HR3 := Lib.hid ((hg3.block w.heap.size (by have := size_of_heap HR2.out; simp; omega) (by simpa using hwc)).trans ((Below.heap_alloc _ _ w.heap.size (size_of_heap HR2.out)).trans HR2.out)); have HB3 := Lib.hid ((hg3.block w1.heap.size (by have := size_of_heap HB2.out; simp; omega) (by simpa using h1c)).trans ((Below.heap_alloc _ _ w1.heap.size (size_of_heap HB2.out)).trans HB2.out)); have HG3 := Lib.hid (gtrans HG2.out (gtrans (World.grownBy_alloc w2 _ _) hg3)); have HK3 := Lib.hid hk3; clear hk3 hg3; obtain ⟨x0, x1, x2, fx0, fx1, fx2⟩ := cells3 HB3.out; obtain ⟨z0, z1, z2, y0, y1, y2⟩ := cells3 HR3.out)
    exact bodyPost_ret (v := .agg #[.int .i64 gr, .int .i64 y, .string gs]) (by simp [results, Tryd.results30, go_sem, z0, z1, z2]) rfl ⟨_, ⟨gr, y, gs, qr, ⟨hy0, hy1⟩, by omega, by omega, rfl⟩, rfl, cur_set (cur_set (cur_set (cur_set HK3.out h1c hBw _ _) hwc (by omega) _ _) hwc (by omega) _ _) hwc (by omega) _ _, grown_new (grown_new (grown_new (grown_new HG3.out hw1 _ _) (Nat.le_refl _) _ _) (Nat.le_refl _) _ _) (Nat.le_refl _) _ _⟩
  · go_wp2
    exact bodyPost_ret (v := .agg #[.int .i64 gr, .int .i64 gc, .string (gs ++ ⟨#[46]⟩)]) (by simp [results, Tryd.results30, go_sem, z0, z1, z2]) rfl ⟨_, ⟨gr, gc, (gs ++ ⟨#[46]⟩), qr, qc, by rw [ByteArray.size_append]; omega, by rw [ByteArray.size_append]; show gs.size + 1 ≤ 40; omega, rfl⟩, rfl, cur_set (cur_set (cur_set (cur_set HK2.out h1c hBw _ _) hwc (by omega) _ _) hwc (by omega) _ _) hwc (by omega) _ _, grown_new (grown_new (grown_new (grown_new HG2.out hw1 _ _) (Nat.le_refl _) _ _) (Nat.le_refl _) _ _) (Nat.le_refl _) _ _⟩
  · go_wp2
    exact bodyPost_ret (v := .agg #[.int .i64 gr, .int .i64 gc, .string (⟨#[120]⟩ ++ gs.extract 1 gs.size)]) (by simp [results, Tryd.results30, go_sem, z0, z1, z2]) rfl ⟨_, ⟨gr, gc, (⟨#[120]⟩ ++ gs.extract 1 gs.size), qr, qc, by rw [ByteArray.size_append]; show 1 ≤ 1 + _; omega, by rw [ByteArray.size_append, ByteArray.size_extract]; show 1 + _ ≤ 40; omega, rfl⟩, rfl, cur_set (cur_set (cur_set (cur_set HK2.out h1c hBw _ _) hwc (by omega) _ _) hwc (by omega) _ _) hwc (by omega) _ _, grown_new (grown_new (grown_new (grown_new HG2.out hw1 _ _) (Nat.le_refl _) _ _) (Nat.le_refl _) _ _) (Nat.le_refl _) _ _⟩
  · have e0 : (((i + 4 : Nat) : Int) == 0) = false := by simp; omega
    have e1 : (((i + 4 : Nat) : Int) == 1) = false := by simp; omega
    have e2 : (((i + 4 : Nat) : Int) == 2) = false := by simp; omega
    have e3 : (((i + 4 : Nat) : Int) == 3) = false := by simp; omega
    obtain ⟨k, hk⟩ : ∃ k, k = i + 4 := ⟨_, rfl⟩
    rw [show i + 1 + 1 + 1 + 1 = k from hk.symm]
    rw [← hk] at e0 e1 e2 e3
    clear hk
    go_wp2
    exact bodyPost_ret (v := .agg #[.int .i64 gr, .int .i64 gc, .string gs]) (by simp [results, Tryd.results30, go_sem, z0, z1, z2]) rfl ⟨_, ⟨gr, gc, gs, qr, qc, by omega, by omega, rfl⟩, rfl, cur_set (cur_set (cur_set (HK2.out) hwc (by omega) _ _) hwc (by omega) _ _) hwc (by omega) _ _, grown_new (grown_new (grown_new (HG2.out) (Nat.le_refl _) _ _) (Nat.le_refl _) _ _) (Nat.le_refl _) _ _⟩
end Go.Proofs.YtmhgejljjjmejaaDoor
namespace Go.Proofs.YtmhgejljjjmejaaDoor
open Go.RowKit

set_option maxHeartbeats 1600000 in
theorem dig_any (n cap : Nat) (a0 : Option Addr) (w : World) (hc : Code w.heap.size w a0 n) (hn : n ≤ 1048576) :
    Calls Tryd.prog 16 #[.slice a0 n cap] w fun e w' => ∃ (r c : Int) (s : ByteArray), (LO ≤ r ∧ r ≤ HI) ∧ (LO ≤ c ∧ c ≤ HI) ∧ s.size ≤ 40 ∧ e = .returned (.agg #[.int .i64 r, .int .i64 c, .string s]) ∧ Below w.heap.size w w' := by
  go_enter Tryd.func16, Tryd.ntmps16
  go_wp2_with fail
  obtain ⟨W0, hW0⟩ : ∃ W0, W0 = w.alloc (.cells #[.int .i64 0, .int .i64 0, .string ⟨#[]⟩] 25) := ⟨_, rfl⟩
  have HR0 : Hid (W0.heap[w.heap.size]? = some (.cells #[.int .i64 0, .int .i64 0, .string ⟨#[]⟩] 25)) := Lib.hid (by rw [hW0]; exact new_block w _)
  have HB0 : Hid (Below w.heap.size w W0) := Lib.hid (by rw [hW0]; exact (Below.refl _ _).alloc (Nat.le_refl _) _)
  have hw0 : W0.heap.size = w.heap.size + 1 := by rw [hW0]; simp
  have hc0 := code_later hc HB0.out
  have HS0 := Lib.hid hw0
  rw [← hW0]
  clear hW0 hc hw0
  go_wp2_with (first | (go_at_call 29; refine (new_any n cap a0 _ hc0 hn).mono ?_; rintro e w1 ⟨c, rfl, hk, hb⟩; have HR1 := Lib.hid ((hb.block w.heap.size (size_of_heap HR0.out)).trans HR0.out); have HB1 := Lib.hid (HB0.out.trans (hb.mono HB0.out.size)); have hcw : w.heap.size + 1 ≤ c := (by have := hk.1; have := HS0.out; omega); have HBS := Lib.hid hb; clear hb) | (go_at_call 30; refine (any7_any _ _ c n cap a0 hk).mono ?_; rintro e w2 ⟨v, ⟨gr, gc, gs, qr, qc, q1, q40, rfl⟩, rfl, hk2, hg2⟩; have HR2 := Lib.hid ((hg2.block w.heap.size (size_of_heap HR1.out) (by simp; omega)).trans HR1.out); have HB2 := Lib.hid (HB1.out.trans (below_grown2 hg2 (show w.heap.size ≤ c by omega) HB1.out.size)); have HK2 := Lib.hid hk2; clear hk hk2 hg2; obtain ⟨z0, z1, z2, y0, y1, y2⟩ := cells3 HR2.out))
  exact bodyPost_ret (v := .agg #[.int .i64 gr, .int .i64 gc, .string gs]) (by simp [results, Tryd.results16, go_sem, z0, z1, z2]) rfl ⟨gr, gc, gs, qr, qc, q40, rfl, (((HB2.out.setCell (p := ⟨w.heap.size, 0, none⟩) (by simp) _).setCell (p := ⟨w.heap.size, 1, none⟩) (by simp) _).setCell (p := ⟨w.heap.size, 2, none⟩) (by simp) _)⟩
def any7 (t : ByteArray) : List ByteArray := [t, t, t, t ++ ⟨#[47]⟩, t ++ ⟨#[46]⟩, ⟨#[]⟩, ⟨#[46, 47, 46]⟩, ⟨#[46, 46, 47, 46]⟩, ⟨#[46, 46, 120, 47, 46, 46, 46]⟩, ⟨#[46, 46, 46, 46, 46, 46, 46, 47, 46, 46, 46, 46, 46, 46, 46]⟩]
theorem any7_in {t : ByteArray} (ht : t.size ≤ 42) : ∀ y ∈ any7 t, y.size ≤ 50 := by
  intro y hy
  simp only [any7, List.mem_cons, List.not_mem_nil, or_false] at hy
  have h1 : (t ++ ⟨#[47]⟩).size = t.size + 1 := by simp [ByteArray.size_append]; rfl
  have h2 : (t ++ ⟨#[46]⟩).size = t.size + 1 := by simp [ByteArray.size_append]; rfl
  rcases hy with rfl | rfl | rfl | rfl | rfl | rfl | rfl | rfl | rfl | rfl <;> first | omega | decide
theorem textG_size (g : Int × Int × ByteArray) : (textG g).size ≤ 42 := by
  by_cases h : isG g = true
  · obtain ⟨⟨hr1, hr2⟩, ⟨hc1, hc2⟩, -⟩ := of_decide_eq_true h
    have hT : textG g = ⟨(linesG g.2.1.toNat g.2.2 g.1.toNat).toArray⟩ := by unfold textG; rw [if_pos h]
    have h9 := linesG_length g.2.1.toNat g.2.2 g.1.toNat
    rw [hT, ← size_list]
    exact Nat.le_trans h9 (Nat.le_trans (Nat.mul_le_mul (show g.1.toNat ≤ 6 by omega) (show g.2.1.toNat + 1 ≤ 7 by omega)) (by decide))
  · have hT : textG g = ⟨#[]⟩ := by unfold textG; rw [if_neg h]
    rw [hT]
    decide
end Go.Proofs.YtmhgejljjjmejaaDoor
