/-
  Contracts of the draws of chapter 7.
-/
import Derived.Test.YtmhgejljjjmejaaDoorDrawWord
import Derived.Test.YtmhgejljjjmejaaDoorDraw
import Derived.Test.YtmhgejljjjmejaaDoorGridB
import Derived.Deep.RegionWith
import Derived.Deep.DeepCutAuto
namespace Go.Proofs.YtmhgejljjjmejaaDoor
open Go.RowKit

theorem grows_of_below {c : Nat} {w w' : World} (h : Below w.heap.size w w') : w.grownBy w' (some c) := ⟨h.os, h.tape, h.output, h.size, fun k hk _ => h.block k hk⟩
theorem cur_below {B c n cap : Nat} {w w' : World} {a0 : Option Addr} (hk : Cur B w c n cap a0) (h : Below w.heap.size w w') : Cur B w' c n cap a0 := by
  obtain ⟨h1, h2, i, x, h3⟩ := hk
  have hlt := size_of_heap h3
  exact ⟨h1, Code.kept h2 (grows_of_below (c := c) h) h1, i, x, (h.block c hlt).trans h3⟩
theorem cur_lt {B c n cap : Nat} {w : World} {a0 : Option Addr} (hk : Cur B w c n cap a0) : c < w.heap.size := by
  obtain ⟨-, -, i, x, h3⟩ := hk
  exact size_of_heap h3
theorem grown_new {a w : World} {r : Option Nat} (h : a.grownBy w r) {g : Nat} (hg : a.heap.size ≤ g) (j : Nat) (u : Value) : a.grownBy (w.setCell ⟨g, j, none⟩ u) r :=
  ⟨h.os, h.tape, h.output, by have := h.size; simpa using this, fun k hk hr => (Below.heap_setCell w ⟨g, j, none⟩ u k (fun e => by simp at e; omega)).trans (h.block k hk hr)⟩
theorem cur_set {B c n cap : Nat} {w : World} {a0 : Option Addr} (hk : Cur B w c n cap a0) {g : Nat} (hg : g ≠ c) (hB : B ≤ g) (j : Nat) (u : Value) : Cur B (w.setCell ⟨g, j, none⟩ u) c n cap a0 := by
  obtain ⟨h1, h2, i, x, h3⟩ := hk
  exact ⟨h1, Code.kept h2 (grown_setCell w ⟨g, j, none⟩ u) hB, i, x, (Below.heap_setCell w ⟨g, j, none⟩ u c (fun e => hg e.symm)).trans h3⟩
/-- A grid whose text has lo to hi bytes. -/
def GridV (lo hi : Nat) (v : Value) : Prop := ∃ (r c : Int) (s : ByteArray), (LO ≤ r ∧ r ≤ HI) ∧ (LO ≤ c ∧ c ≤ HI) ∧ lo ≤ s.size ∧ s.size ≤ hi ∧ v = .agg #[.int .i64 r, .int .i64 c, .string s]
def texts7 : List ByteArray := [⟨#[46, 46, 46, 47, 46, 46, 46, 47, 46, 46, 46]⟩, ⟨#[46, 46, 35, 47, 46, 46, 46, 47, 35, 46, 46]⟩, ⟨#[46, 46, 46, 47, 46, 35, 46, 47, 46, 46, 46]⟩, ⟨#[46, 46, 46, 46, 47, 46, 46, 46, 46, 47, 46, 46, 46, 46]⟩, ⟨#[46, 46, 46, 46, 35, 47, 46, 35, 46, 46, 46, 47, 46, 46, 46, 46, 46]⟩, ⟨#[46, 46, 46, 46, 47, 46, 35, 35, 46, 47, 46, 46, 46, 46]⟩, ⟨#[46, 46, 46, 46, 46, 35, 47, 46, 35, 46, 35, 46, 46, 47, 46, 46, 46, 46, 46, 46]⟩, ⟨#[46, 46, 47, 46, 46]⟩, ⟨#[35, 46, 46, 46, 47, 46, 46, 46, 46, 47, 46, 46, 46, 35]⟩, ⟨#[46, 46, 46, 47, 35, 35, 35, 47, 46, 46, 46]⟩]
theorem texts7_ok : ∀ z ∈ texts7, (parseG z).2 = true ∧ z.size ≤ 1048576 := by decide +kernel
theorem isG_four {g : Int × Int × ByteArray} (h : isG g = true) : 4 ≤ g.2.2.size ∧ g.2.2.size ≤ 36 ∧ (LO ≤ g.1 ∧ g.1 ≤ HI) ∧ (LO ≤ g.2.1 ∧ g.2.1 ≤ HI) := by
  obtain ⟨⟨h1, h2⟩, ⟨h3, h4⟩, h5, -⟩ := of_decide_eq_true h
  have := prod_in h1 h2 h3 h4
  unfold LO HI
  exact ⟨by omega, by omega, ⟨by omega, by omega⟩, by omega, by omega⟩
set_option maxHeartbeats 800000 in
theorem ts7_any (w : World) :
    Calls Tryd.prog 60 #[] w fun e w' => ∃ o, e = .returned (.slice (some ⟨w.heap.size, 0, none⟩) 10 10) ∧ w' = w.alloc o ∧ ∀ j, j < 10 → ∃ z : ByteArray, z ∈ texts7 ∧ (w.alloc o).cell? ⟨w.heap.size, j, none⟩ = some (.string z) := by
  go_enter Tryd.func60, Tryd.ntmps60
  go_wp2
  go_ret
  exact ⟨_, rfl, rfl, fun j hj => row_strs w texts7 9 _ (fun z hz => hz) j hj⟩
theorem parse7_any (z : ByteArray) (hz : z ∈ texts7) (w : World) :
    Calls Tryd.prog 58 #[.string z] w fun e w' => ∃ (r c : Int) (s : ByteArray), isG (r, c, s) = true ∧ e = .returned (.tuple #[.agg #[.int .i64 r, .int .i64 c, .string s], .bool true]) ∧ Below w.heap.size w w' := by
  obtain ⟨h1, h2⟩ := texts7_ok z hz
  refine (sparseg_any z h2 w).mono ?_
  rintro e w' ⟨rfl, b⟩
  exact ⟨_, _, _, (parse_yes h1).1, by rw [h1]; rfl, b⟩
theorem two7_in : ∀ z ∈ [(⟨#[35]⟩ : ByteArray), ⟨#[46]⟩], z.size = 1 ∧ ∀ b ∈ z.data.toList, b = 35 ∨ b = 46 := by decide
/-- A valid grid. -/
def GridG (v : Value) : Prop := ∃ (r c : Int) (s : ByteArray), isG (r, c, s) = true ∧ v = .agg #[.int .i64 r, .int .i64 c, .string s]
theorem isG_put {r c : Int} {s y : ByteArray} (h : isG (r, c, s) = true) {i : Nat} (hi : i < s.size) (hy : y.size = 1) (hb : ∀ b ∈ y.data.toList, b = 35 ∨ b = 46) : isG (r, c, s.extract 0 i ++ y ++ s.extract (i + 1) s.size) = true := by
  obtain ⟨h1, h2, h3, h4⟩ := of_decide_eq_true h
  refine decide_eq_true ⟨h1, h2, ?_, fun b hb2 => ?_⟩
  · have : (s.extract 0 i ++ y ++ s.extract (i + 1) s.size).size = s.size := by rw [ByteArray.size_append, ByteArray.size_append, ByteArray.size_extract, ByteArray.size_extract, hy]; omega
    show ((s.extract 0 i ++ y ++ s.extract (i + 1) s.size).size : Int) = _
    rw [this]
    exact h3
  · have hb3 : b ∈ (s.extract 0 i ++ y ++ s.extract (i + 1) s.size).data.toList := hb2
    rw [ByteArray.data_append, ByteArray.data_append, Array.toList_append, Array.toList_append, ByteArray.data_extract, ByteArray.data_extract, Array.toList_extract, Array.toList_extract] at hb3
    rcases List.mem_append.1 hb3 with h5 | h5
    · rcases List.mem_append.1 h5 with h6 | h6
      · exact h4 b (List.mem_of_mem_drop (List.mem_of_mem_take h6))
      · exact hb b h6
    · exact h4 b (List.mem_of_mem_drop (List.mem_of_mem_take h5))

set_option maxHeartbeats 3200000 in
theorem draw7G_any (B : Nat) (w : World) (c n cap : Nat) (a0 : Option Addr) (hk : Cur B w c n cap a0) :
    Calls Tryd.prog 48 #[.pointer (some ⟨c, 0, none⟩)] w (Gives GridG B w c n cap a0) := by
  go_enter Tryd.func48, Tryd.ntmps48
  go_wp2_with fail
  obtain ⟨W0, hW0⟩ : ∃ W0, W0 = w.alloc (.cells #[.int .i64 0, .int .i64 0, .string ⟨#[]⟩] 25) := ⟨_, rfl⟩
  have HR0 : Hid (W0.heap[w.heap.size]? = some (.cells #[.int .i64 0, .int .i64 0, .string ⟨#[]⟩] 25)) := Lib.hid (by rw [hW0]; exact new_block w _)
  have hk0 : Cur B W0 c n cap a0 := by rw [hW0]; exact hk.alloc _
  have HG0 : Hid (w.grownBy W0 (some c)) := Lib.hid (by rw [hW0]; exact World.grownBy_alloc w _ _)
  have hwc : w.heap.size ≠ c := hk.ne
  rw [← hW0]
  have hBc : B ≤ c := hk.1
  have hcw : c < w.heap.size := cur_lt hk
  clear hW0 hk
  go_wp2_with (first | (go_at_call 60; refine (ts7_any _).mono ?_; rintro e w1 ⟨o, rfl, rfl, hl⟩) | (go_at_call 59; refine (str_any (fun z => z ∈ texts7) W0.heap.size 10 (by decide) (by decide) B _ c n cap a0 (hk0.alloc _) hk0.ne hl).mono ?_; rintro e w2 ⟨v, ⟨z, hz, rfl⟩, rfl, hk2, hg2⟩; have HR2 := Lib.hid ((hg2.block w.heap.size (by have := size_of_heap HR0.out; simp; omega) (by simpa using hwc)).trans ((Below.heap_alloc _ _ w.heap.size (size_of_heap HR0.out)).trans HR0.out)); have HG2 := Lib.hid (gtrans HG0.out (gtrans (World.grownBy_alloc W0 o _) hg2)); have HK2 := Lib.hid hk2; clear hk0 hl hk2 hg2) | (go_at_call 58; refine (parse7_any z hz _).mono ?_; rintro e w3 ⟨gr, gc, gs, hisg, rfl, b3⟩; obtain ⟨q4, q36, qr, qc⟩ := isG_four hisg; dsimp only at q4 q36 qr qc; have HR3 := Lib.hid ((b3.block w.heap.size (size_of_heap HR2.out)).trans HR2.out); have HG3 := Lib.hid (gtrans HG2.out (grows_of_below b3)); have HK3 := Lib.hid (cur_below HK2.out b3); have HISG := Lib.hid hisg; clear b3 hisg) | (go_at_call 61; refine (once_any 3 (by decide) (by decide) B _ c n cap a0 (HK3.out.alloc _)).mono ?_; rintro e w4 ⟨v, ⟨b, rfl⟩, rfl, hk4, hg4⟩; have HR4 := Lib.hid ((hg4.block w.heap.size (by have := size_of_heap HR3.out; simp; omega) (by simpa using hwc)).trans ((Below.heap_alloc _ _ w.heap.size (size_of_heap HR3.out)).trans HR3.out)); have HB4 := Lib.hid ((hg4.block w3.heap.size (by simp) (by have := cur_lt HK3.out; simp; omega)).trans (new_block w3 _)); have HG4 := Lib.hid (gtrans HG3.out (gtrans (World.grownBy_alloc w3 _ _) hg4)); have HK4 := Lib.hid hk4; clear hk4 hg4; obtain ⟨x0, x1, x2, fx0, fx1, fx2⟩ := cells3 HB4.out; obtain ⟨z0, z1, z2, y0, y1, y2⟩ := cells3 HR4.out) | (go_at_call 49; refine (below_any _ (by omega) (by omega) B _ c n cap a0 HK4.out).mono ?_; rintro e w5 ⟨v, ⟨xi, hx0, hx1, rfl⟩, rfl, hk5, hg5⟩; obtain ⟨i, rfl⟩ : ∃ i : Nat, xi = (i : Int) := ⟨xi.toNat, by omega⟩; have HR5 := Lib.hid ((hg5.block w.heap.size (size_of_heap HR4.out) (by simpa using hwc)).trans HR4.out); have HB5 := Lib.hid ((hg5.block w3.heap.size (size_of_heap HB4.out) (by have := cur_lt HK3.out; simp; omega)).trans HB4.out); have HG5 := Lib.hid (gtrans HG4.out hg5); have HK5 := Lib.hid hk5; clear hk5 hg5; obtain ⟨x0, x1, x2, fx0, fx1, fx2⟩ := cells3 HB5.out; obtain ⟨z0, z1, z2, y0, y1, y2⟩ := cells3 HR5.out))
  · have hi : i < gs.size := by omega
    have b1 : (i : Int) ≤ (gs.size : Int) := by omega
    have b2 : (i : Int) + 1 ≤ (gs.size : Int) := by omega
    have hw1 : IntKind.i64.wrap ((i : Int) + 1) = (i : Int) + 1 := IntWalk.i64_in _ (by omega)
    have hkd : Cur B (w5.alloc (.cells #[.string ⟨#[35]⟩, .string ⟨#[46]⟩] 9)).drew c n cap a0 := HK5.out.alloc (.cells #[.string ⟨#[35]⟩, .string ⟨#[46]⟩] 9)
    have hrow : ∀ j, j < 2 → ∃ z : ByteArray, (z.size = 1 ∧ ∀ b ∈ z.data.toList, b = 35 ∨ b = 46) ∧ (w5.alloc (.cells #[.string ⟨#[35]⟩, .string ⟨#[46]⟩] 9)).drew.cell? ⟨w5.heap.size, j, none⟩ = some (.string z) := fun j hj => row_strs w5 [⟨#[35]⟩, ⟨#[46]⟩] 9 (fun z => z.size = 1 ∧ ∀ b ∈ z.data.toList, b = 35 ∨ b = 46) two7_in j hj
    have hne5 : w5.heap.size ≠ c := HK5.out.ne
    have hBd : (w5.alloc (.cells #[.string ⟨#[35]⟩, .string ⟨#[46]⟩] 9)).drew.heap[w3.heap.size]? = some (.cells #[.int .i64 gr, .int .i64 gc, .string gs] 25) := (Below.heap_alloc w5 (.cells #[.string ⟨#[35]⟩, .string ⟨#[46]⟩] 9) w3.heap.size (size_of_heap HB5.out)).trans HB5.out
    obtain ⟨p0, p1, p2, fp0, fp1, fp2⟩ := cells3 hBd
    clear hBd
    have h3c : w3.heap.size ≠ c := by have := cur_lt HK3.out; omega
    have hww : w.heap.size < w3.heap.size := size_of_heap HR3.out
    have hw3 := (HG3.out).size
    have hBw : B ≤ w3.heap.size := by omega
    clear z0 z1 z2 y0 y1 y2 HR0 HG0 HR2 HG2 HK2 HR3 HG3 HK3 HR4 HB4 HG4 HK4 hz
    go_cut [] (fun wx => ∃ t : ByteArray, Hid (isG (gr, gc, t) = true) ∧ Hid (wx.heap[w.heap.size]? = some (.cells #[.int .i64 0, .int .i64 0, .string ⟨#[]⟩] 25)) ∧ Hid (wx.heap[w3.heap.size]? = some (.cells #[.int .i64 gr, .int .i64 gc, .string t] 25)) ∧ Hid (Cur B wx c n cap a0) ∧ Hid (w.grownBy wx (some c)))
    case first =>
      go_region_with (first | (go_at_call 59; refine (str_any (fun z => z.size = 1 ∧ ∀ b ∈ z.data.toList, b = 35 ∨ b = 46) w5.heap.size 2 (by decide) (by decide) B _ c n cap a0 hkd hne5 hrow).mono ?_; rintro e w6 ⟨v, ⟨y, ⟨hy, hyb⟩, rfl⟩, rfl, hk6, hg6⟩; have HYB := Lib.hid hyb; clear hyb; have HR6 := Lib.hid ((hg6.block w.heap.size (by have := size_of_heap HR5.out; show _ < (w5.alloc (.cells #[.string ⟨#[35]⟩, .string ⟨#[46]⟩] 9)).heap.size; simp; omega) (by simpa using hwc)).trans ((Below.heap_alloc w5 (.cells #[.string ⟨#[35]⟩, .string ⟨#[46]⟩] 9) w.heap.size (size_of_heap HR5.out)).trans HR5.out)); have HB6 := Lib.hid ((hg6.block w3.heap.size (by have := size_of_heap HB5.out; show _ < (w5.alloc (.cells #[.string ⟨#[35]⟩, .string ⟨#[46]⟩] 9)).heap.size; simp; omega) (by simpa using h3c)).trans ((Below.heap_alloc w5 (.cells #[.string ⟨#[35]⟩, .string ⟨#[46]⟩] 9) w3.heap.size (size_of_heap HB5.out)).trans HB5.out)); have HG6 := Lib.hid (gtrans HG5.out (gtrans (grown_drew (World.grownBy_alloc w5 (.cells #[.string ⟨#[35]⟩, .string ⟨#[46]⟩] 9) (some c))) hg6)); have HK6 := Lib.hid hk6; clear hk6 hg6; obtain ⟨x0, x1, x2, fx0, fx1, fx2⟩ := cells3 HB6.out; obtain ⟨z0, z1, z2, y0, y1, y2⟩ := cells3 HR6.out))
      all_goals (
        go_wp2_with fail
        go_meet
        exact ⟨gs.extract 0 i ++ y ++ gs.extract (i + 1) gs.size, Lib.hid (isG_put HISG.out hi hy HYB.out), Lib.hid ((Below.heap_setCell w6 ⟨w3.heap.size, 2, none⟩ _ w.heap.size (by simp; omega)).trans HR6.out), Lib.hid (Joins.block_setCell (i := 2) HB6.out _), Lib.hid (cur_set HK6.out h3c hBw _ _), Lib.hid (grown_new HG6.out hw3 _ _)⟩)
    case rest =>
      obtain ⟨t, HTG, HRV, HBV, HKV, HGV⟩ := hcut
      clear x0 x1 x2 fx0 fx1 fx2 p0 p1 p2 fp0 fp1 fp2
      obtain ⟨x0, x1, x2, fx0, fx1, fx2⟩ := cells3 HBV.out
      obtain ⟨z0, z1, z2, y0, y1, y2⟩ := cells3 HRV.out
      go_wp2
      exact bodyPost_ret (v := .agg #[.int .i64 gr, .int .i64 gc, .string t]) (by simp [results, Tryd.results48, go_sem, z0, z1, z2]) rfl ⟨_, ⟨gr, gc, t, HTG.out, rfl⟩, rfl, cur_set (cur_set (cur_set HKV.out hwc (by omega) _ _) hwc (by omega) _ _) hwc (by omega) _ _, grown_new (grown_new (grown_new HGV.out (Nat.le_refl _) _ _) (Nat.le_refl _) _ _) (Nat.le_refl _) _ _⟩
  · go_wp2
    exact bodyPost_ret (v := .agg #[.int .i64 gr, .int .i64 gc, .string gs]) (by simp [results, Tryd.results48, go_sem, z0, z1, z2]) rfl ⟨_, ⟨gr, gc, gs, HISG.out, rfl⟩, rfl, cur_set (cur_set (cur_set HK4.out hwc (by omega) _ _) hwc (by omega) _ _) hwc (by omega) _ _, grown_new (grown_new (grown_new HG4.out (Nat.le_refl _) _ _) (Nat.le_refl _) _ _) (Nat.le_refl _) _ _⟩
theorem draw7_any (B : Nat) (w : World) (c n cap : Nat) (a0 : Option Addr) (hk : Cur B w c n cap a0) :
    Calls Tryd.prog 48 #[.pointer (some ⟨c, 0, none⟩)] w (Gives (GridV 4 36) B w c n cap a0) :=
  (draw7G_any B w c n cap a0 hk).mono fun _ _ h => h.any fun _ ⟨r, c, s, hg, e⟩ => by
    obtain ⟨q4, q36, qr, qc⟩ := isG_four hg
    exact ⟨r, c, s, qr, qc, q4, q36, e⟩
end Go.Proofs.YtmhgejljjjmejaaDoor
