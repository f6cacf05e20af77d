/-
  The walk of the law FnExactTurnGrid: true at every argument, by the contracts of spec.TurnGrid and impl.TurnGrid.
-/
import Derived.Deep.RegionHeld3
import Derived.Test.YtbickkphiofmlaaGridImpl
namespace Go.Proofs.Ytbickkphiofmlaa.fnExactTurnGrid
open Go.RowKit

theorem below_mark {B base n s : Nat} {a w w' : World} {e : TypeId} {v : Value} {xs : List Value} (h : Below B a w) (hg : w.grownBy w' v.ownBlock) (ho : w.ownsRow base e s v n xs) (hB : B ≤ base) (hw : B ≤ w.heap.size) : Below B a w' :=
  h.grown hg hw (fun k hk => Nat.le_trans hB (ho.lt k hk).1)

set_option maxRecDepth 100000 in
set_option maxHeartbeats 3200000 in
theorem walk (y0_0 : Int) (y0_1 : Int) (y0_2 : ByteArray) (w : World) (hK0 : ok_Grid (y0_0, y0_1, y0_2)) :
    Calls Try.prog 6 #[.agg #[.int .i64 y0_0, .int .i64 y0_1, .string y0_2]] w fun e w' => e = .returned (.bool true) ∧ Below w.heap.size w w' := by
  have HK0 := Lib.hid hK0
  clear hK0
  go_enter Try.func6, Try.ntmps6
  go_wp2_with fail
  obtain ⟨W0, hW0⟩ : ∃ W0, W0 = (w.alloc (.cells #[.int .i64 y0_0, .int .i64 y0_1, .string y0_2] 36)) := ⟨_, rfl⟩
  have HBX := Lib.hid (show Below w.heap.size w W0 by rw [hW0]; exact ((Below.refl w.heap.size w).alloc (Nat.le_refl _) (.cells #[.int .i64 y0_0, .int .i64 y0_1, .string y0_2] 36)))
  have hws : W0.heap.size = w.heap.size + 1 := by rw [hW0]; simp
  have HBOX0 : Hid (W0.cell? ⟨w.heap.size, 0, none⟩ = some (.int .i64 y0_0) ∧ W0.cell? ⟨w.heap.size, 1, none⟩ = some (.int .i64 y0_1) ∧ W0.cell? ⟨w.heap.size, 2, none⟩ = some (.string y0_2)) := Lib.hid (by rw [hW0]; simp)
  rw [← hW0]
  clear hW0
  have C0 := Lib.hid (Below.refl W0.heap.size W0)
  (go_at_call 21; refine (one_sz_Grid y0_0 y0_1 y0_2 1048576 (HK0.out).2.2 (by omega) (by omega) _).mono ?_; rintro e w1 ⟨rl1, HG0, HJ0, HL0, rfl, b⟩; have HLL0 := Lib.hid (And.intro HG0 (And.intro HJ0 HL0)); clear HG0 HJ0 HL0; have CX := btrans C0.out b; have bx0_0 := (CX.cell (p := ⟨w.heap.size, 0, none⟩) (by show w.heap.size < _; omega)).trans HBOX0.out.1; have bx0_1 := (CX.cell (p := ⟨w.heap.size, 1, none⟩) (by show w.heap.size < _; omega)).trans HBOX0.out.2.1; have bx0_2 := (CX.cell (p := ⟨w.heap.size, 2, none⟩) (by show w.heap.size < _; omega)).trans HBOX0.out.2.2; clear CX)
  go_wp2_with fail
  · go_ret
    exact ⟨rfl, HBX.out.trans ((btrans C0.out b).mono (by omega))⟩
  · have hr1 : 0 ≤ rl1 := by omega
    have hle1 := HLL0.out.2.1
    have hsl0 := HLL0.out.2.2 hr1
    have C1 := Lib.hid (btrans C0.out b)
    clear b C0
    have FL := Lib.hid trivial
    go_wp2_with (go_at_call 22; have FG := FL; refine (one_to_Grid y0_0 y0_1 y0_2 _).mono ?_; rintro e w2 ⟨rfl, b⟩; clear FL FG)
    have C2 := Lib.hid (btrans C1.out b)
    clear b C1
    have FL := Lib.hid trivial
    go_wp2_with (go_at_call 24; have FG := FL; refine (s_TurnGrid y0_0 y0_1 y0_2 _ HK0.out (by omega)).mono ?_; rintro e w3 ⟨⟨rw0_0, rw0_1, rw0_2⟩, HAw, rfl, b⟩; have HHw := Lib.hid HAw; clear HAw; have CX := (btrans C2.out b).alloc (btrans C2.out b).size (.cells #[.int .i64 rw0_0, .int .i64 rw0_1, .string rw0_2] 25); have bx0_0 := (CX.cell (p := ⟨w.heap.size, 0, none⟩) (by show w.heap.size < _; omega)).trans HBOX0.out.1; have bx0_1 := (CX.cell (p := ⟨w.heap.size, 1, none⟩) (by show w.heap.size < _; omega)).trans HBOX0.out.2.1; have bx0_2 := (CX.cell (p := ⟨w.heap.size, 2, none⟩) (by show w.heap.size < _; omega)).trans HBOX0.out.2.2; clear CX; clear FL FG)
    have C3 := Lib.hid (btrans C2.out b)
    clear b C2
    obtain ⟨V3, hV3⟩ : ∃ V, V = w3.alloc (.cells #[.int .i64 rw0_0, .int .i64 rw0_1, .string rw0_2] 25) := ⟨_, rfl⟩
    have BX3 : Hid (∀ w', Below V3.heap.size V3 w' → w'.cell? ⟨w3.heap.size, 0, none⟩ = some (.int .i64 rw0_0) ∧ w'.cell? ⟨w3.heap.size, 1, none⟩ = some (.int .i64 rw0_1) ∧ w'.cell? ⟨w3.heap.size, 2, none⟩ = some (.string rw0_2)) := Lib.hid (fun w' h => ⟨(h.cell (p := ⟨w3.heap.size, 0, none⟩) (by show w3.heap.size < _; rw [hV3]; simp)).trans (by rw [hV3]; simp), (h.cell (p := ⟨w3.heap.size, 1, none⟩) (by show w3.heap.size < _; rw [hV3]; simp)).trans (by rw [hV3]; simp), (h.cell (p := ⟨w3.heap.size, 2, none⟩) (by show w3.heap.size < _; rw [hV3]; simp)).trans (by rw [hV3]; simp)⟩)
    have C3b := Lib.hid (show Below _ _ V3 by rw [hV3]; exact C3.out.alloc C3.out.size _)
    rw [← hV3]
    clear C3 hV3
    have D0_3c := Lib.hid (Below.refl V3.heap.size V3)
    have FL := Lib.hid trivial
    go_wp2_with (go_at_call 22; have FG := FL; refine (one_to_Grid y0_0 y0_1 y0_2 _).mono ?_; rintro e w4 ⟨rfl, b⟩; clear FL FG)
    have C4 := Lib.hid (btrans C3b.out b)
    have D0_4 := Lib.hid (btrans D0_3c.out b)
    clear b C3b D0_3c
    have FL := Lib.hid trivial
    go_wp2_with (go_at_call 16; have FG := FL; refine (i_TurnGrid y0_0 y0_1 y0_2 _ HK0.out (by omega)).mono ?_; rintro e w5 ⟨⟨rg0_0, rg0_1, rg0_2⟩, HAg, rfl, b⟩; obtain E0 := u_TurnGrid HHw.out HAg; cases E0; clear HAg; have CX := (btrans C4.out b).alloc (btrans C4.out b).size (.cells #[.int .i64 rw0_0, .int .i64 rw0_1, .string rw0_2] 25); have bx0_0 := (CX.cell (p := ⟨w.heap.size, 0, none⟩) (by show w.heap.size < _; omega)).trans HBOX0.out.1; have bx0_1 := (CX.cell (p := ⟨w.heap.size, 1, none⟩) (by show w.heap.size < _; omega)).trans HBOX0.out.2.1; have bx0_2 := (CX.cell (p := ⟨w.heap.size, 2, none⟩) (by show w.heap.size < _; omega)).trans HBOX0.out.2.2; have CZ := (btrans D0_4.out b).alloc (btrans D0_4.out b).size (.cells #[.int .i64 rw0_0, .int .i64 rw0_1, .string rw0_2] 25); have rx0_0 := (BX3.out _ CZ).1; have rx0_1 := (BX3.out _ CZ).2.1; have rx0_2 := (BX3.out _ CZ).2.2; clear CZ; clear CX; clear FL FG)
    have C5 := Lib.hid (btrans C4.out b)
    have D0_5 := Lib.hid (btrans D0_4.out b)
    clear b C4 D0_4
    obtain ⟨V5, hV5⟩ : ∃ V, V = w5.alloc (.cells #[.int .i64 rw0_0, .int .i64 rw0_1, .string rw0_2] 25) := ⟨_, rfl⟩
    have BX5 : Hid (∀ w', Below V5.heap.size V5 w' → w'.cell? ⟨w5.heap.size, 0, none⟩ = some (.int .i64 rw0_0) ∧ w'.cell? ⟨w5.heap.size, 1, none⟩ = some (.int .i64 rw0_1) ∧ w'.cell? ⟨w5.heap.size, 2, none⟩ = some (.string rw0_2)) := Lib.hid (fun w' h => ⟨(h.cell (p := ⟨w5.heap.size, 0, none⟩) (by show w5.heap.size < _; rw [hV5]; simp)).trans (by rw [hV5]; simp), (h.cell (p := ⟨w5.heap.size, 1, none⟩) (by show w5.heap.size < _; rw [hV5]; simp)).trans (by rw [hV5]; simp), (h.cell (p := ⟨w5.heap.size, 2, none⟩) (by show w5.heap.size < _; rw [hV5]; simp)).trans (by rw [hV5]; simp)⟩)
    have C5b := Lib.hid (show Below _ _ V5 by rw [hV5]; exact C5.out.alloc C5.out.size _)
    have D0_5b := Lib.hid (show Below _ _ V5 by rw [hV5]; exact D0_5.out.alloc D0_5.out.size _)
    rw [← hV5]
    clear C5 D0_5 hV5
    have D1_5c := Lib.hid (Below.refl V5.heap.size V5)
    have FL := Lib.hid trivial
    go_wp2_with (go_at_call 25; have FG := FL; refine (one_eq_Grid rw0_0 rw0_1 rw0_2 _).mono ?_; rintro e w6 ⟨rfl, b⟩; clear FL FG)
    have C6 := Lib.hid (btrans C5b.out b)
    have D0_6 := Lib.hid (btrans D0_5b.out b)
    have D1_6 := Lib.hid (btrans D1_5c.out b)
    clear b C5b D0_5b D1_5c
    go_ret
    exact ⟨rfl, HBX.out.trans (C6.out.mono (by omega))⟩
end Go.Proofs.Ytbickkphiofmlaa.fnExactTurnGrid
