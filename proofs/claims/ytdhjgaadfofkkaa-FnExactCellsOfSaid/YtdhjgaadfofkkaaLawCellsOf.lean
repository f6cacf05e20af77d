/-
  The walk of the law FnExactCellsOf: true at every argument, by the contracts of spec.CellsOf and impl.CellsOf.
-/
import Derived.Deep.RegionHeld3
import Derived.Test.YtdhjgaadfofkkaaSlotStd
import Derived.Test.YtdhjgaadfofkkaaInts
import Derived.Test.YtdhjgaadfofkkaaSlotS
import Derived.Test.YtdhjgaadfofkkaaGridS
namespace Go.Proofs.Ytdhjgaadfofkkaa.fnExactCellsOf
open Go.RowKit

theorem below_mark {B base n s : Nat} {a w w' : World} {e : TypeId} {v : Value} {xs : List Value} (h : Below B a w) (hg : w.grownBy w' v.ownBlock) (ho : w.ownsRow base e s v n xs) (hB : B ≤ base) (hw : B ≤ w.heap.size) : Below B a w' :=
  h.grown hg hw (fun k hk => Nat.le_trans hB (ho.lt k hk).1)

set_option maxRecDepth 100000 in
set_option maxHeartbeats 3200000 in
theorem walk (y0_0 : Int) (y0_1 : Int) (y0_2 : ByteArray) (y1_0 : Int) (y1_1 : Bool) (y1_2 : Int) (y1_3 : Int) (w : World) (hK0 : ok_Grid (y0_0, y0_1, y0_2)) (hK1 : ok_Slot (y1_0, y1_1, y1_2, y1_3)) :
    Calls Try.prog 4 #[.agg #[.int .i64 y0_0, .int .i64 y0_1, .string y0_2], .agg #[.int .i64 y1_0, .bool y1_1, .int .i64 y1_2, .int .i64 y1_3]] w fun e w' => e = .returned (.bool true) ∧ Below w.heap.size w w' := by
  have HK0 := Lib.hid hK0
  clear hK0
  have HK1 := Lib.hid hK1
  clear hK1
  go_enter Try.func4, Try.ntmps4
  go_wp2_with fail
  obtain ⟨W0, hW0⟩ : ∃ W0, W0 = ((w.alloc (.cells #[.int .i64 y0_0, .int .i64 y0_1, .string y0_2] 23)).alloc (.cells #[.int .i64 y1_0, .bool y1_1, .int .i64 y1_2, .int .i64 y1_3] 33)) := ⟨_, rfl⟩
  have HBX := Lib.hid (show Below w.heap.size w W0 by rw [hW0]; exact (((Below.refl w.heap.size w).alloc (Nat.le_refl _) (.cells #[.int .i64 y0_0, .int .i64 y0_1, .string y0_2] 23)).alloc (by simp) (.cells #[.int .i64 y1_0, .bool y1_1, .int .i64 y1_2, .int .i64 y1_3] 33)))
  have hws : W0.heap.size = w.heap.size + 2 := by rw [hW0]; simp
  have HBOX0 : Hid (W0.cell? ⟨w.heap.size, 0, none⟩ = some (.int .i64 y0_0) ∧ W0.cell? ⟨w.heap.size, 1, none⟩ = some (.int .i64 y0_1) ∧ W0.cell? ⟨w.heap.size, 2, none⟩ = some (.string y0_2)) := Lib.hid (by rw [hW0]; simp)
  have HBOX1 : Hid (W0.cell? ⟨w.heap.size + 1, 0, none⟩ = some (.int .i64 y1_0) ∧ W0.cell? ⟨w.heap.size + 1, 1, none⟩ = some (.bool y1_1) ∧ W0.cell? ⟨w.heap.size + 1, 2, none⟩ = some (.int .i64 y1_2) ∧ W0.cell? ⟨w.heap.size + 1, 3, none⟩ = some (.int .i64 y1_3)) := Lib.hid (by rw [hW0]; simp)
  rw [← hW0]
  clear hW0
  have C0 := Lib.hid (Below.refl W0.heap.size W0)
  (go_at_call 6; refine (one_sz_Grid y0_0 y0_1 y0_2 1048576 (HK0.out).2.2 (by omega) (by omega) _).mono ?_; rintro e w1 ⟨rl1, HG0, HJ0, HL0, rfl, b⟩; have HLL0 := Lib.hid (And.intro HG0 (And.intro HJ0 HL0)); clear HG0 HJ0 HL0; have CX := btrans C0.out b; have bx0_0 := (CX.cell (p := ⟨w.heap.size, 0, none⟩) (by show w.heap.size < _; omega)).trans HBOX0.out.1; have bx0_1 := (CX.cell (p := ⟨w.heap.size, 1, none⟩) (by show w.heap.size < _; omega)).trans HBOX0.out.2.1; have bx0_2 := (CX.cell (p := ⟨w.heap.size, 2, none⟩) (by show w.heap.size < _; omega)).trans HBOX0.out.2.2; have bx1_0 := (CX.cell (p := ⟨w.heap.size + 1, 0, none⟩) (by show w.heap.size + 1 < _; omega)).trans HBOX1.out.1; have bx1_1 := (CX.cell (p := ⟨w.heap.size + 1, 1, none⟩) (by show w.heap.size + 1 < _; omega)).trans HBOX1.out.2.1; have bx1_2 := (CX.cell (p := ⟨w.heap.size + 1, 2, none⟩) (by show w.heap.size + 1 < _; omega)).trans HBOX1.out.2.2.1; have bx1_3 := (CX.cell (p := ⟨w.heap.size + 1, 3, none⟩) (by show w.heap.size + 1 < _; omega)).trans HBOX1.out.2.2.2; clear CX)
  go_wp2_with fail
  · go_ret
    exact ⟨rfl, HBX.out.trans ((btrans C0.out b).mono (by omega))⟩
  · have hr1 : 0 ≤ rl1 := by omega
    have hle1 := HLL0.out.2.1
    have hsl0 := HLL0.out.2.2 hr1
    have C1 := Lib.hid (btrans C0.out b)
    clear b C0
    have HKX2 : Hid (∀ w', Below W0.heap.size W0 w' → w'.cell? ⟨w.heap.size, 0, none⟩ = some (.int .i64 y0_0) ∧ w'.cell? ⟨w.heap.size, 1, none⟩ = some (.int .i64 y0_1) ∧ w'.cell? ⟨w.heap.size, 2, none⟩ = some (.string y0_2) ∧ w'.cell? ⟨w.heap.size + 1, 0, none⟩ = some (.int .i64 y1_0) ∧ w'.cell? ⟨w.heap.size + 1, 1, none⟩ = some (.bool y1_1) ∧ w'.cell? ⟨w.heap.size + 1, 2, none⟩ = some (.int .i64 y1_2) ∧ w'.cell? ⟨w.heap.size + 1, 3, none⟩ = some (.int .i64 y1_3)) := Lib.hid (fun w' h => ⟨(h.cell (p := ⟨w.heap.size, 0, none⟩) (by show w.heap.size < _; omega)).trans HBOX0.out.1, (h.cell (p := ⟨w.heap.size, 1, none⟩) (by show w.heap.size < _; omega)).trans HBOX0.out.2.1, (h.cell (p := ⟨w.heap.size, 2, none⟩) (by show w.heap.size < _; omega)).trans HBOX0.out.2.2, (h.cell (p := ⟨w.heap.size + 1, 0, none⟩) (by show w.heap.size + 1 < _; omega)).trans HBOX1.out.1, (h.cell (p := ⟨w.heap.size + 1, 1, none⟩) (by show w.heap.size + 1 < _; omega)).trans HBOX1.out.2.1, (h.cell (p := ⟨w.heap.size + 1, 2, none⟩) (by show w.heap.size + 1 < _; omega)).trans HBOX1.out.2.2.1, (h.cell (p := ⟨w.heap.size + 1, 3, none⟩) (by show w.heap.size + 1 < _; omega)).trans HBOX1.out.2.2.2⟩)
    obtain ⟨kk0, kk1, kk2, kk3, kk4, kk5, kk6⟩ := HKX2.out _ C1.out
    go_wp2_with fail
    go_region_held3 (fun w' => w'.cell? ⟨w.heap.size, 0, none⟩ = some (.int .i64 y0_0) ∧ w'.cell? ⟨w.heap.size, 1, none⟩ = some (.int .i64 y0_1) ∧ w'.cell? ⟨w.heap.size, 2, none⟩ = some (.string y0_2) ∧ w'.cell? ⟨w.heap.size + 1, 0, none⟩ = some (.int .i64 y1_0) ∧ w'.cell? ⟨w.heap.size + 1, 1, none⟩ = some (.bool y1_1) ∧ w'.cell? ⟨w.heap.size + 1, 2, none⟩ = some (.int .i64 y1_2) ∧ w'.cell? ⟨w.heap.size + 1, 3, none⟩ = some (.int .i64 y1_3)) (first | exact ⟨kk0, kk1, kk2, kk3, kk4, kk5, kk6⟩ | exact HKX2.out _ CY2.out | exact HKX2.out _ CY1.out | exact HKX2.out _ CY0.out) (first | (go_at_call 8; refine Calls.mono (one_to_Grid y0_0 y0_1 y0_2 _) ?_; rintro e w2 ⟨rfl, b⟩; have CY0 := Lib.hid (by first | exact btrans C1.out b | exact btrans C1.out.drew b); have BT0 := Lib.hid (by first | exact b | exact btrans ((Below.refl _ _).drew) b); clear b) | (go_at_call 14; refine Calls.mono (one_to_Slot y1_0 y1_1 y1_2 y1_3 _) ?_; rintro e w3 ⟨rfl, b⟩; have CY1 := Lib.hid (by first | exact btrans CY0.out b | exact btrans CY0.out.drew b); have BT1 := Lib.hid (by first | exact btrans BT0.out b | exact btrans BT0.out.drew b); clear b) | (go_at_call 13; refine Calls.mono (s_CellsOf y0_0 y0_1 y0_2 y1_0 y1_1 y1_2 y1_3 _ HK0.out (by omega) HK1.out) ?_; rintro e w4 ⟨rw0, x_w0, HAw, hnw0, rfl, o0, b⟩; have HHw := Lib.hid HAw; clear HAw; have CY2 := Lib.hid (by first | exact btrans CY1.out b | exact btrans CY1.out.drew b); have BT2 := Lib.hid (by first | exact btrans BT1.out b | exact btrans BT1.out.drew b); have OY_w0_2 := Lib.hid o0; clear b o0))
    go_wp2_with fail
    have O_w0_4 := OY_w0_2
    have C4 := CY2
    have HKX5 : Hid (∀ w', Below W0.heap.size W0 w' → w'.cell? ⟨w.heap.size, 0, none⟩ = some (.int .i64 y0_0) ∧ w'.cell? ⟨w.heap.size, 1, none⟩ = some (.int .i64 y0_1) ∧ w'.cell? ⟨w.heap.size, 2, none⟩ = some (.string y0_2) ∧ w'.cell? ⟨w.heap.size + 1, 0, none⟩ = some (.int .i64 y1_0) ∧ w'.cell? ⟨w.heap.size + 1, 1, none⟩ = some (.bool y1_1) ∧ w'.cell? ⟨w.heap.size + 1, 2, none⟩ = some (.int .i64 y1_2) ∧ w'.cell? ⟨w.heap.size + 1, 3, none⟩ = some (.int .i64 y1_3)) := Lib.hid (fun w' h => ⟨(h.cell (p := ⟨w.heap.size, 0, none⟩) (by show w.heap.size < _; omega)).trans HBOX0.out.1, (h.cell (p := ⟨w.heap.size, 1, none⟩) (by show w.heap.size < _; omega)).trans HBOX0.out.2.1, (h.cell (p := ⟨w.heap.size, 2, none⟩) (by show w.heap.size < _; omega)).trans HBOX0.out.2.2, (h.cell (p := ⟨w.heap.size + 1, 0, none⟩) (by show w.heap.size + 1 < _; omega)).trans HBOX1.out.1, (h.cell (p := ⟨w.heap.size + 1, 1, none⟩) (by show w.heap.size + 1 < _; omega)).trans HBOX1.out.2.1, (h.cell (p := ⟨w.heap.size + 1, 2, none⟩) (by show w.heap.size + 1 < _; omega)).trans HBOX1.out.2.2.1, (h.cell (p := ⟨w.heap.size + 1, 3, none⟩) (by show w.heap.size + 1 < _; omega)).trans HBOX1.out.2.2.2⟩)
    obtain ⟨kk0, kk1, kk2, kk3, kk4, kk5, kk6⟩ := HKX5.out _ C4.out
    go_wp2_with fail
    go_region_held3 (fun w' => w'.cell? ⟨w.heap.size, 0, none⟩ = some (.int .i64 y0_0) ∧ w'.cell? ⟨w.heap.size, 1, none⟩ = some (.int .i64 y0_1) ∧ w'.cell? ⟨w.heap.size, 2, none⟩ = some (.string y0_2) ∧ w'.cell? ⟨w.heap.size + 1, 0, none⟩ = some (.int .i64 y1_0) ∧ w'.cell? ⟨w.heap.size + 1, 1, none⟩ = some (.bool y1_1) ∧ w'.cell? ⟨w.heap.size + 1, 2, none⟩ = some (.int .i64 y1_2) ∧ w'.cell? ⟨w.heap.size + 1, 3, none⟩ = some (.int .i64 y1_3)) (first | exact ⟨kk0, kk1, kk2, kk3, kk4, kk5, kk6⟩ | exact HKX5.out _ CY2.out | exact HKX5.out _ CY1.out | exact HKX5.out _ CY0.out) (first | (go_at_call 8; refine Calls.mono (one_to_Grid y0_0 y0_1 y0_2 _) ?_; rintro e w5 ⟨rfl, b⟩; have CY0 := Lib.hid (by first | exact btrans C4.out b | exact btrans C4.out.drew b); have BT0 := Lib.hid (by first | exact b | exact btrans ((Below.refl _ _).drew) b); clear b) | (go_at_call 14; refine Calls.mono (one_to_Slot y1_0 y1_1 y1_2 y1_3 _) ?_; rintro e w6 ⟨rfl, b⟩; have CY1 := Lib.hid (by first | exact btrans CY0.out b | exact btrans CY0.out.drew b); have BT1 := Lib.hid (by first | exact btrans BT0.out b | exact btrans BT0.out.drew b); clear b) | (go_at_call 15; refine Calls.mono (i_CellsOf y0_0 y0_1 y0_2 y1_0 y1_1 y1_2 y1_3 _ HK0.out (by omega) HK1.out) ?_; rintro e w7 ⟨rg0, x_g0, HAg, hng0, rfl, o0, b⟩; obtain rfl := u_CellsOf HHw.out HAg; clear HAg; have CY2 := Lib.hid (by first | exact btrans CY1.out b | exact btrans CY1.out.drew b); have BT2 := Lib.hid (by first | exact btrans BT1.out b | exact btrans BT1.out.drew b); have SZ_g0 := Lib.hid CY1.out.size; have AP_w0_g0 := Lib.hid (apart_of (by first | exact own_later O_w0_4.out BT1.out | exact own_later O_w0_4.out.drew BT1.out) o0 (Nat.le_refl _)); have OY_g0_2 := Lib.hid o0; clear b o0))
    go_wp2_with fail
    have O_w0_7 := Lib.hid (by first | exact own_later O_w0_4.out BT2.out | exact own_later O_w0_4.out.drew BT2.out)
    have O_g0_7 := OY_g0_2
    have C7 := CY2
    clear O_w0_4
    (go_at_call 16; refine (eq_ints rw0 x_g0 x_w0 _ (reads_own O_g0_7.out rfl (by omega)) (reads_own O_w0_7.out rfl (by omega))).mono ?_; rintro e w8 ⟨rfl, b⟩)
    go_wp2_with fail
    have O_w0_8 := Lib.hid (own_later O_w0_7.out b)
    have O_g0_8 := Lib.hid (own_later O_g0_7.out b)
    have C8 := Lib.hid (btrans C7.out b)
    clear b C7 O_w0_7 O_g0_7
    have FL := Lib.hid trivial
    go_wp2_with (go_at_call 17; have FG := FL; refine (imark_any _ rw0.length x_g0 _ (by simp) (by omega) _ (by omega) (by omega) _ O_g0_8.out).mono ?_; rintro e w9 ⟨rfl, o, hg⟩; clear FL FG)
    have O_w0_9 := Lib.hid (O_w0_8.out.kept hg AP_w0_g0.out.1)
    have C9 := Lib.hid (below_mark C8.out hg O_g0_8.out SZ_g0.out C8.out.size)
    have O_g0_9 := Lib.hid o
    clear O_w0_8 O_g0_8 C8 hg o
    have FL := Lib.hid trivial
    go_wp2_with (go_at_call 18; have FG := FL; refine (held_ints _ rw0.length (by omega) _ (by omega) (by omega) x_g0 _ (reads_own O_g0_9.out (imarks_length _ _).symm (by rw [imarks_length]; omega))).mono ?_; rintro e w10 ⟨rfl, rfl⟩; have CX := C9.out; have bx0_0 := (CX.cell (p := ⟨w.heap.size, 0, none⟩) (by show w.heap.size < _; omega)).trans HBOX0.out.1; have bx0_1 := (CX.cell (p := ⟨w.heap.size, 1, none⟩) (by show w.heap.size < _; omega)).trans HBOX0.out.2.1; have bx0_2 := (CX.cell (p := ⟨w.heap.size, 2, none⟩) (by show w.heap.size < _; omega)).trans HBOX0.out.2.2; have bx1_0 := (CX.cell (p := ⟨w.heap.size + 1, 0, none⟩) (by show w.heap.size + 1 < _; omega)).trans HBOX1.out.1; have bx1_1 := (CX.cell (p := ⟨w.heap.size + 1, 1, none⟩) (by show w.heap.size + 1 < _; omega)).trans HBOX1.out.2.1; have bx1_2 := (CX.cell (p := ⟨w.heap.size + 1, 2, none⟩) (by show w.heap.size + 1 < _; omega)).trans HBOX1.out.2.2.1; have bx1_3 := (CX.cell (p := ⟨w.heap.size + 1, 3, none⟩) (by show w.heap.size + 1 < _; omega)).trans HBOX1.out.2.2.2; clear CX; clear FL FG)
    have HKX11 : Hid (∀ w', Below W0.heap.size W0 w' → w'.cell? ⟨w.heap.size, 0, none⟩ = some (.int .i64 y0_0) ∧ w'.cell? ⟨w.heap.size, 1, none⟩ = some (.int .i64 y0_1) ∧ w'.cell? ⟨w.heap.size, 2, none⟩ = some (.string y0_2) ∧ w'.cell? ⟨w.heap.size + 1, 0, none⟩ = some (.int .i64 y1_0) ∧ w'.cell? ⟨w.heap.size + 1, 1, none⟩ = some (.bool y1_1) ∧ w'.cell? ⟨w.heap.size + 1, 2, none⟩ = some (.int .i64 y1_2) ∧ w'.cell? ⟨w.heap.size + 1, 3, none⟩ = some (.int .i64 y1_3)) := Lib.hid (fun w' h => ⟨(h.cell (p := ⟨w.heap.size, 0, none⟩) (by show w.heap.size < _; omega)).trans HBOX0.out.1, (h.cell (p := ⟨w.heap.size, 1, none⟩) (by show w.heap.size < _; omega)).trans HBOX0.out.2.1, (h.cell (p := ⟨w.heap.size, 2, none⟩) (by show w.heap.size < _; omega)).trans HBOX0.out.2.2, (h.cell (p := ⟨w.heap.size + 1, 0, none⟩) (by show w.heap.size + 1 < _; omega)).trans HBOX1.out.1, (h.cell (p := ⟨w.heap.size + 1, 1, none⟩) (by show w.heap.size + 1 < _; omega)).trans HBOX1.out.2.1, (h.cell (p := ⟨w.heap.size + 1, 2, none⟩) (by show w.heap.size + 1 < _; omega)).trans HBOX1.out.2.2.1, (h.cell (p := ⟨w.heap.size + 1, 3, none⟩) (by show w.heap.size + 1 < _; omega)).trans HBOX1.out.2.2.2⟩)
    obtain ⟨kk0, kk1, kk2, kk3, kk4, kk5, kk6⟩ := HKX11.out _ C9.out
    go_wp2_with fail
    go_region_held3 (fun w' => w'.cell? ⟨w.heap.size, 0, none⟩ = some (.int .i64 y0_0) ∧ w'.cell? ⟨w.heap.size, 1, none⟩ = some (.int .i64 y0_1) ∧ w'.cell? ⟨w.heap.size, 2, none⟩ = some (.string y0_2) ∧ w'.cell? ⟨w.heap.size + 1, 0, none⟩ = some (.int .i64 y1_0) ∧ w'.cell? ⟨w.heap.size + 1, 1, none⟩ = some (.bool y1_1) ∧ w'.cell? ⟨w.heap.size + 1, 2, none⟩ = some (.int .i64 y1_2) ∧ w'.cell? ⟨w.heap.size + 1, 3, none⟩ = some (.int .i64 y1_3)) (first | exact ⟨kk0, kk1, kk2, kk3, kk4, kk5, kk6⟩ | exact HKX11.out _ CY2.out | exact HKX11.out _ CY1.out | exact HKX11.out _ CY0.out) (first | (go_at_call 8; refine Calls.mono (one_to_Grid y0_0 y0_1 y0_2 _) ?_; rintro e w11 ⟨rfl, b⟩; have CY0 := Lib.hid (by first | exact btrans C9.out b | exact btrans C9.out.drew b); have BT0 := Lib.hid (by first | exact b | exact btrans ((Below.refl _ _).drew) b); clear b) | (go_at_call 14; refine Calls.mono (one_to_Slot y1_0 y1_1 y1_2 y1_3 _) ?_; rintro e w12 ⟨rfl, b⟩; have CY1 := Lib.hid (by first | exact btrans CY0.out b | exact btrans CY0.out.drew b); have BT1 := Lib.hid (by first | exact btrans BT0.out b | exact btrans BT0.out.drew b); clear b) | (go_at_call 15; refine Calls.mono (i_CellsOf y0_0 y0_1 y0_2 y1_0 y1_1 y1_2 y1_3 _ HK0.out (by omega) HK1.out) ?_; rintro e w13 ⟨rh0, x_h0, HAh, hnh0, rfl, o0, b⟩; obtain rfl := u_CellsOf HHw.out HAh; clear HAh; have CY2 := Lib.hid (by first | exact btrans CY1.out b | exact btrans CY1.out.drew b); have BT2 := Lib.hid (by first | exact btrans BT1.out b | exact btrans BT1.out.drew b); have OY_h0_2 := Lib.hid o0; clear b o0))
    go_wp2_with fail
    have O_w0_13 := Lib.hid (by first | exact own_later O_w0_9.out BT2.out | exact own_later O_w0_9.out.drew BT2.out)
    have O_g0_13 := Lib.hid (by first | exact own_later O_g0_9.out BT2.out | exact own_later O_g0_9.out.drew BT2.out)
    have O_h0_13 := OY_h0_2
    have C13 := CY2
    clear O_w0_9 O_g0_9
    (go_at_call 16; refine (eq_ints rw0 x_h0 x_w0 _ (reads_own O_h0_13.out rfl (by omega)) (reads_own O_w0_13.out rfl (by omega))).mono ?_; rintro e w14 ⟨rfl, b⟩)
    go_wp2_with fail
    have O_g0_14 := Lib.hid (own_later O_g0_13.out b)
    have C14 := Lib.hid (btrans C13.out b)
    clear b C13 O_w0_13 O_g0_13 O_h0_13
    have FL := Lib.hid trivial
    go_wp2_with (go_at_call 18; have FG := FL; refine (held_ints _ rw0.length (by omega) _ (by omega) (by omega) x_g0 _ (reads_own O_g0_14.out (imarks_length _ _).symm (by rw [imarks_length]; omega))).mono ?_; rintro e w15 ⟨rfl, rfl⟩; clear FL FG)
    go_ret
    exact ⟨rfl, HBX.out.trans (C14.out.mono (by omega))⟩
end Go.Proofs.Ytdhjgaadfofkkaa.fnExactCellsOf
