/-
  The walk of the law FnExactForced: true at every argument, by the contracts of spec.Forced and impl.Forced.
-/
import Derived.Deep.RegionHeld3
import Derived.Test.YthgnhcjbjdhjfaaDoorDomStdD
import Derived.Test.YthgnhcjbjdhjfaaDoorGridS
namespace Go.Proofs.YthgnhcjbjdhjfaaDoor.fnExactForced
open Go.RowKit

theorem below_mark {B base n s : Nat} {a w w' : World} {e : TypeId} {v : Value} {xs : List Value} (h : Below B a w) (hg : w.grownBy w' v.ownBlock) (ho : w.ownsRow base e s v n xs) (hB : B ≤ base) (hw : B ≤ w.heap.size) : Below B a w' :=
  h.grown hg hw (fun k hk => Nat.le_trans hB (ho.lt k hk).1)

set_option maxRecDepth 100000 in
set_option maxHeartbeats 3200000 in
theorem walk (y0_0 : Int) (y0_1 : Int) (y0_2 : ByteArray) (a1 : ByteArray) (v2 : Value) (l2 : List (List ByteArray)) (w : World) (hK0 : ok_Grid (y0_0, y0_1, y0_2)) (hs1 : a1.size ≤ maxLen) (hR2 : ReadsN w.heap.size w v2 l2) (hB2 : ∀ m ∈ l2, ∀ z ∈ m, z.size ≤ maxLen) (hV : ML w) :
    Calls Tryd.prog 6 #[.agg #[.int .i64 y0_0, .int .i64 y0_1, .string y0_2], .string a1, v2] w fun e w' => e = .returned (.bool true) ∧ Below w.heap.size w w' := by
  have HV := Lib.hid hV
  clear hV
  obtain ⟨a02, cap2, rfl⟩ : ∃ a0 cap, v2 = .slice a0 l2.length cap := hR2.form
  have HR2 := Lib.hid hR2
  have HB2 := Lib.hid hB2
  have hlen2 := hR2.count
  clear hR2 hB2
  have HK0 := Lib.hid hK0
  clear hK0
  unfold maxLen at hs1
  by_cases hbig1 : 1048576 < a1.size
  · go_enter Tryd.func6, Tryd.ntmps6
    go_wp2
    go_ret
    first | exact ⟨rfl, Below.refl _ _⟩ | exact ⟨rfl, (Below.refl _ _).alloc (Nat.le_refl _) _⟩
  · skip
    go_enter Tryd.func6, Tryd.ntmps6
    go_wp2_with fail
    obtain ⟨W0, hW0⟩ : ∃ W0, W0 = (w.alloc (.cells #[.int .i64 y0_0, .int .i64 y0_1, .string y0_2] 44)) := ⟨_, rfl⟩
    have HBX := Lib.hid (show Below w.heap.size w W0 by rw [hW0]; exact ((Below.refl w.heap.size w).alloc (Nat.le_refl _) (.cells #[.int .i64 y0_0, .int .i64 y0_1, .string y0_2] 44)))
    have hws : W0.heap.size = w.heap.size + 1 := by rw [hW0]; simp
    have HBOX0 : Hid (W0.cell? ⟨w.heap.size, 0, none⟩ = some (.int .i64 y0_0) ∧ W0.cell? ⟨w.heap.size, 1, none⟩ = some (.int .i64 y0_1) ∧ W0.cell? ⟨w.heap.size, 2, none⟩ = some (.string y0_2)) := Lib.hid (by rw [hW0]; simp)
    rw [← hW0]
    have HQ2 := Lib.hid (HR2.out.now HBX.out)
    clear HR2
    have HR2 := HQ2
    clear HQ2
    clear hW0
    have C0 := Lib.hid (Below.refl W0.heap.size W0)
    (go_at_call 23; refine (one_sz_Grid y0_0 y0_1 y0_2 1048576 (HK0.out).2.2 (by omega) (by omega) _).mono ?_; rintro e w1 ⟨rl1, HG0, HJ0, HL0, rfl, b⟩; have HLL0 := Lib.hid (And.intro HG0 (And.intro HJ0 HL0)); clear HG0 HJ0 HL0)
    go_wp2_with fail
    · go_ret
      exact ⟨rfl, HBX.out.trans ((btrans C0.out b).mono (by omega))⟩
    · have hr1 : 0 ≤ rl1 := by omega
      have hle1 := HLL0.out.2.1
      have hsl0 := HLL0.out.2.2 hr1
      have C1 := Lib.hid (btrans C0.out b)
      clear b C0
      have FL := Lib.hid trivial
      go_wp2_with (go_at_call 31; have FG := FL; refine (sz_strss l2 rl1 (by omega) (by omega) _ _ HB2.out (HR2.out.now C1.out)).mono ?_; rintro e w2 ⟨rl2, HL2, rfl, rfl⟩; have HLL2 := Lib.hid HL2; clear HL2; have CX := C1.out; have bx0_0 := (CX.cell (p := ⟨w.heap.size, 0, none⟩) (by show w.heap.size < _; omega)).trans HBOX0.out.1; have bx0_1 := (CX.cell (p := ⟨w.heap.size, 1, none⟩) (by show w.heap.size < _; omega)).trans HBOX0.out.2.1; have bx0_2 := (CX.cell (p := ⟨w.heap.size, 2, none⟩) (by show w.heap.size < _; omega)).trans HBOX0.out.2.2; clear CX; clear FL FG)
      · go_ret
        exact ⟨rfl, HBX.out.trans (C1.out.mono (by omega))⟩
      · have hr2 : 0 ≤ rl2 := by omega
        have hle2 := (HLL2.out.2 hr2).1
        have hsl2 := (HLL2.out.2 hr2).2.1
        have HS2 := Lib.hid (szN_all (HLL2.out.2 hr2).2.2 (by omega))
        have FL := Lib.hid trivial
        go_wp2_with (go_at_call 25; have FG := FL; refine (one_to_Grid y0_0 y0_1 y0_2 _).mono ?_; rintro e w3 ⟨rfl, b⟩; clear FL FG)
        have C3 := Lib.hid (btrans C1.out b)
        clear b C1
        have FL := Lib.hid trivial
        go_wp2_with (go_at_call 33; have FG := FL; refine (to_N l2 (by omega) HS2.out _ _ (HR2.out.now C3.out)).mono ?_; rintro e w4 ⟨x_t3, rfl, o, b⟩; clear FL FG)
        have O_t3_4 := Lib.hid o
        have C4 := Lib.hid (btrans C3.out b)
        clear b C3 o
        have FL := Lib.hid trivial
        go_wp2_with (go_at_call 32; have FG := FL; refine (s_Forced y0_0 y0_1 y0_2 a1 x_t3 l2 _ HK0.out (by omega) (by omega) (readsN_own O_t3_4.out rfl (by omega)) (by omega) HS2.out).mono ?_; rintro e w5 ⟨rw0, rw1, HAw, rfl, b⟩; have HHw := Lib.hid HAw; clear HAw; clear FL FG)
        have C5 := Lib.hid (btrans C4.out b)
        clear b C4 O_t3_4
        have FL := Lib.hid trivial
        go_wp2_with (go_at_call 33; have FG := FL; refine (to_N l2 (by omega) HS2.out _ _ (HR2.out.now C5.out)).mono ?_; rintro e w6 ⟨x_x2, rfl, o, b⟩; have CX := btrans C5.out b; have bx0_0 := (CX.cell (p := ⟨w.heap.size, 0, none⟩) (by show w.heap.size < _; omega)).trans HBOX0.out.1; have bx0_1 := (CX.cell (p := ⟨w.heap.size, 1, none⟩) (by show w.heap.size < _; omega)).trans HBOX0.out.2.1; have bx0_2 := (CX.cell (p := ⟨w.heap.size, 2, none⟩) (by show w.heap.size < _; omega)).trans HBOX0.out.2.2; clear CX; clear FL FG)
        have O_x2_6 := Lib.hid o
        have C6 := Lib.hid (btrans C5.out b)
        clear b C5 o
        have FL := Lib.hid trivial
        go_wp2_with (go_at_call 25; have FG := FL; refine (one_to_Grid y0_0 y0_1 y0_2 _).mono ?_; rintro e w7 ⟨rfl, b⟩; clear FL FG)
        have O_x2_7 := Lib.hid (BoxN.later O_x2_6.out b)
        have C7 := Lib.hid (btrans C6.out b)
        clear b C6 O_x2_6
        have FL := Lib.hid trivial
        go_wp2_with (go_at_call 34; have FG := FL; refine (i_Forced y0_0 y0_1 y0_2 a1 x_x2 l2 _ HK0.out (by omega) (by omega) (readsN_own O_x2_7.out rfl (by omega)) (by omega) HS2.out ((HV.out.later HBX.out).later C7.out)).mono ?_; rintro e w8 ⟨rg0, rg1, HAg, rfl, b⟩; obtain ⟨rfl, rfl⟩ := u_Forced HHw.out HAg; clear HAg; clear FL FG)
        have O_x2_8 := Lib.hid (BoxN.later O_x2_7.out b)
        have C8 := Lib.hid (btrans C7.out b)
        clear b C7 O_x2_7
        have FL := Lib.hid trivial
        go_wp2_with (go_at_call 33; have FG := FL; refine (to_N l2 (by omega) HS2.out _ _ (HR2.out.now C8.out)).mono ?_; rintro e w9 ⟨x_t8, rfl, o, b⟩; clear FL FG)
        have O_t8_9 := Lib.hid o
        have O_x2_9 := Lib.hid (BoxN.later O_x2_8.out b)
        have C9 := Lib.hid (btrans C8.out b)
        clear b C8 o O_x2_8
        have FL := Lib.hid trivial
        go_wp2_with (go_at_call 27; have FG := FL; refine (eq_strss l2 x_x2 x_t8 _ (readsN_own O_x2_9.out rfl (by omega)) (readsN_own O_t8_9.out rfl (by omega))).mono ?_; rintro e w10 ⟨rfl, b⟩; clear FL FG)
        have C10 := Lib.hid (btrans C9.out b)
        clear b C9 O_x2_9 O_t8_9
        go_ret
        exact ⟨rfl, HBX.out.trans (C10.out.mono (by omega))⟩
end Go.Proofs.YthgnhcjbjdhjfaaDoor.fnExactForced
