/-
  The walk of the law FnExactEmptyFill: true at every argument, by the contracts of spec.EmptyFill and impl.EmptyFill.
-/
import Derived.Deep.RegionHeld3
import Derived.Test.YtpacopebdoflpaaDoorFillStdD
import Derived.Test.YtpacopebdoflpaaDoorGridS
namespace Go.Proofs.YtpacopebdoflpaaDoor.fnExactEmptyFill
open Go.RowKit

theorem below_mark {B base n s : Nat} {a w w' : World} {e : TypeId} {v : Value} {xs : List Value} (h : Below B a w) (hg : w.grownBy w' v.ownBlock) (ho : w.ownsRow base e s v n xs) (hB : B ≤ base) (hw : B ≤ w.heap.size) : Below B a w' :=
  h.grown hg hw (fun k hk => Nat.le_trans hB (ho.lt k hk).1)

set_option maxRecDepth 100000 in
set_option maxHeartbeats 3200000 in
theorem walk (y0_0 : Int) (y0_1 : Int) (y0_2 : ByteArray) (w : World) (hK0 : ok_Grid (y0_0, y0_1, y0_2)) (hV : DB w) :
    Calls Tryd.prog 4 #[.agg #[.int .i64 y0_0, .int .i64 y0_1, .string y0_2]] w fun e w' => e = .returned (.bool true) ∧ Below w.heap.size w w' := by
  have HV := Lib.hid hV
  clear hV
  have HK0 := Lib.hid hK0
  clear hK0
  go_enter Tryd.func4, Tryd.ntmps4
  go_wp2_with fail
  obtain ⟨W0, hW0⟩ : ∃ W0, W0 = (w.alloc (.cells #[.int .i64 y0_0, .int .i64 y0_1, .string y0_2] 40)) := ⟨_, rfl⟩
  have HBX := Lib.hid (show Below w.heap.size w W0 by rw [hW0]; exact ((Below.refl w.heap.size w).alloc (Nat.le_refl _) (.cells #[.int .i64 y0_0, .int .i64 y0_1, .string y0_2] 40)))
  have hws : W0.heap.size = w.heap.size + 1 := by rw [hW0]; simp
  have HBOX0 : Hid (W0.cell? ⟨w.heap.size, 0, none⟩ = some (.int .i64 y0_0) ∧ W0.cell? ⟨w.heap.size, 1, none⟩ = some (.int .i64 y0_1) ∧ W0.cell? ⟨w.heap.size, 2, none⟩ = some (.string y0_2)) := Lib.hid (by rw [hW0]; simp)
  rw [← hW0]
  clear hW0
  have C0 := Lib.hid (Below.refl W0.heap.size W0)
  (go_at_call 19; refine (one_sz_Grid y0_0 y0_1 y0_2 1048576 (HK0.out).2.2 (by omega) (by omega) _).mono ?_; rintro e w1 ⟨rl1, HG0, HJ0, HL0, rfl, b⟩; have HLL0 := Lib.hid (And.intro HG0 (And.intro HJ0 HL0)); clear HG0 HJ0 HL0; have CX := btrans C0.out b; have bx0_0 := (CX.cell (p := ⟨w.heap.size, 0, none⟩) (by show w.heap.size < _; omega)).trans HBOX0.out.1; have bx0_1 := (CX.cell (p := ⟨w.heap.size, 1, none⟩) (by show w.heap.size < _; omega)).trans HBOX0.out.2.1; have bx0_2 := (CX.cell (p := ⟨w.heap.size, 2, none⟩) (by show w.heap.size < _; omega)).trans HBOX0.out.2.2; clear CX)
  go_wp2_with fail
  · go_ret
    exact ⟨rfl, HBX.out.trans ((btrans C0.out b).mono (by omega))⟩
  · have hr1 : 0 ≤ rl1 := by omega
    have hle1 := HLL0.out.2.1
    have hsl0 := HLL0.out.2.2 hr1
    have C1 := Lib.hid (btrans C0.out b)
    clear b C0
    have FL := Lib.hid trivial
    go_wp2_with (go_at_call 21; have FG := FL; refine (one_to_Grid y0_0 y0_1 y0_2 _).mono ?_; rintro e w2 ⟨rfl, b⟩; clear FL FG)
    have C2 := Lib.hid (btrans C1.out b)
    clear b C1
    have FL := Lib.hid trivial
    go_wp2_with (go_at_call 20; have FG := FL; refine (s_EmptyFill y0_0 y0_1 y0_2 _ HK0.out (by omega)).mono ?_; rintro e w3 ⟨rw0, HAw, rfl, b⟩; have HHw := Lib.hid HAw; clear HAw; have CX := btrans C2.out b; have bx0_0 := (CX.cell (p := ⟨w.heap.size, 0, none⟩) (by show w.heap.size < _; omega)).trans HBOX0.out.1; have bx0_1 := (CX.cell (p := ⟨w.heap.size, 1, none⟩) (by show w.heap.size < _; omega)).trans HBOX0.out.2.1; have bx0_2 := (CX.cell (p := ⟨w.heap.size, 2, none⟩) (by show w.heap.size < _; omega)).trans HBOX0.out.2.2; clear CX; clear FL FG)
    have C3 := Lib.hid (btrans C2.out b)
    clear b C2
    have FL := Lib.hid trivial
    go_wp2_with (go_at_call 21; have FG := FL; refine (one_to_Grid y0_0 y0_1 y0_2 _).mono ?_; rintro e w4 ⟨rfl, b⟩; clear FL FG)
    have C4 := Lib.hid (btrans C3.out b)
    clear b C3
    have FL := Lib.hid trivial
    go_wp2_with (go_at_call 22; have FG := FL; refine (i_EmptyFill y0_0 y0_1 y0_2 _ HK0.out (by omega) ((HV.out.later HBX.out).later C4.out)).mono ?_; rintro e w5 ⟨rg0, HAg, rfl, b⟩; obtain rfl := u_EmptyFill HHw.out HAg; clear HAg; clear FL FG)
    have C5 := Lib.hid (btrans C4.out b)
    clear b C4
    go_ret
    exact ⟨rfl, HBX.out.trans (C5.out.mono (by omega))⟩
end Go.Proofs.YtpacopebdoflpaaDoor.fnExactEmptyFill
