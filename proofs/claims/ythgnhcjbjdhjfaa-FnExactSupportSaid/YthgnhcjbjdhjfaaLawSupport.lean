/-
  The walk of the law FnExactSupport: true at every argument, by the contracts of spec.Support and impl.Support.
-/
import Derived.Deep.RegionHeld3
import Derived.Test.YthgnhcjbjdhjfaaSupI
import Derived.Test.YthgnhcjbjdhjfaaGridS
namespace Go.Proofs.Ythgnhcjbjdhjfaa.fnExactSupport
open Go.RowKit

theorem below_mark {B base n s : Nat} {a w w' : World} {e : TypeId} {v : Value} {xs : List Value} (h : Below B a w) (hg : w.grownBy w' v.ownBlock) (ho : w.ownsRow base e s v n xs) (hB : B ≤ base) (hw : B ≤ w.heap.size) : Below B a w' :=
  h.grown hg hw (fun k hk => Nat.le_trans hB (ho.lt k hk).1)

set_option maxRecDepth 100000 in
set_option maxHeartbeats 3200000 in
theorem walk (y0_0 : Int) (y0_1 : Int) (y0_2 : ByteArray) (v1 : Value) (l1 : List (List ByteArray)) (a2 : Int) (a3 : ByteArray) (w : World) (hK0 : ok_Grid (y0_0, y0_1, y0_2)) (hR1 : ReadsN w.heap.size w v1 l1) (hB1 : ∀ m ∈ l1, ∀ z ∈ m, z.size ≤ maxLen) (lo2 : -9223372036854775808 ≤ a2) (hi2 : a2 ≤ 9223372036854775807) (hs3 : a3.size ≤ maxLen) :
    Calls Try.prog 4 #[.agg #[.int .i64 y0_0, .int .i64 y0_1, .string y0_2], v1, .int .i64 a2, .string a3] w fun e w' => e = .returned (.bool true) ∧ Below w.heap.size w w' := by
  obtain ⟨a01, cap1, rfl⟩ : ∃ a0 cap, v1 = .slice a0 l1.length cap := hR1.form
  have HR1 := Lib.hid hR1
  have HB1 := Lib.hid hB1
  have hlen1 := hR1.count
  clear hR1 hB1
  have HK0 := Lib.hid hK0
  clear hK0
  have LO2 := Lib.hid lo2
  have HI2 := Lib.hid hi2
  unfold maxLen at hs3
  by_cases hbig3 : 1048576 < a3.size
  · go_enter Try.func4, Try.ntmps4
    go_wp2
    go_ret
    first | exact ⟨rfl, Below.refl _ _⟩ | exact ⟨rfl, (Below.refl _ _).alloc (Nat.le_refl _) _⟩
  · skip
    go_enter Try.func4, Try.ntmps4
    go_wp2_with fail
    obtain ⟨W0, hW0⟩ : ∃ W0, W0 = (w.alloc (.cells #[.int .i64 y0_0, .int .i64 y0_1, .string y0_2] 43)) := ⟨_, rfl⟩
    have HBX := Lib.hid (show Below w.heap.size w W0 by rw [hW0]; exact ((Below.refl w.heap.size w).alloc (Nat.le_refl _) (.cells #[.int .i64 y0_0, .int .i64 y0_1, .string y0_2] 43)))
    have hws : W0.heap.size = w.heap.size + 1 := by rw [hW0]; simp
    have HBOX0 : Hid (W0.cell? ⟨w.heap.size, 0, none⟩ = some (.int .i64 y0_0) ∧ W0.cell? ⟨w.heap.size, 1, none⟩ = some (.int .i64 y0_1) ∧ W0.cell? ⟨w.heap.size, 2, none⟩ = some (.string y0_2)) := Lib.hid (by rw [hW0]; simp)
    rw [← hW0]
    have HQ1 := Lib.hid (HR1.out.now HBX.out)
    clear HR1
    have HR1 := HQ1
    clear HQ1
    clear hW0
    have C0 := Lib.hid (Below.refl W0.heap.size W0)
    (go_at_call 18; refine (one_sz_Grid y0_0 y0_1 y0_2 1048576 (HK0.out).2.2 (by omega) (by omega) _).mono ?_; rintro e w1 ⟨rl1, HG0, HJ0, HL0, rfl, b⟩; have HLL0 := Lib.hid (And.intro HG0 (And.intro HJ0 HL0)); clear HG0 HJ0 HL0)
    go_wp2_with fail
    · go_ret
      exact ⟨rfl, HBX.out.trans ((btrans C0.out b).mono (by omega))⟩
    · have hr1 : 0 ≤ rl1 := by omega
      have hle1 := HLL0.out.2.1
      have hsl0 := HLL0.out.2.2 hr1
      have C1 := Lib.hid (btrans C0.out b)
      clear b C0
      have FL := Lib.hid trivial
      go_wp2_with (go_at_call 19; have FG := FL; refine (sz_strss l1 rl1 (by omega) (by omega) _ _ HB1.out (HR1.out.now C1.out)).mono ?_; rintro e w2 ⟨rl2, HL1, rfl, rfl⟩; have HLL1 := Lib.hid HL1; clear HL1; have CX := C1.out; have bx0_0 := (CX.cell (p := ⟨w.heap.size, 0, none⟩) (by show w.heap.size < _; omega)).trans HBOX0.out.1; have bx0_1 := (CX.cell (p := ⟨w.heap.size, 1, none⟩) (by show w.heap.size < _; omega)).trans HBOX0.out.2.1; have bx0_2 := (CX.cell (p := ⟨w.heap.size, 2, none⟩) (by show w.heap.size < _; omega)).trans HBOX0.out.2.2; clear CX; clear FL FG)
      · go_ret
        exact ⟨rfl, HBX.out.trans (C1.out.mono (by omega))⟩
      · have hr2 : 0 ≤ rl2 := by omega
        have hle2 := (HLL1.out.2 hr2).1
        have hsl1 := (HLL1.out.2 hr2).2.1
        have HS1 := Lib.hid (szN_all (HLL1.out.2 hr2).2.2 (by omega))
        have FL := Lib.hid trivial
        go_wp2_with (go_at_call 21; have FG := FL; refine (one_to_Grid y0_0 y0_1 y0_2 _).mono ?_; rintro e w3 ⟨rfl, b⟩; clear FL FG)
        have C3 := Lib.hid (btrans C1.out b)
        clear b C1
        have FL := Lib.hid trivial
        go_wp2_with (go_at_call 22; have FG := FL; refine (to_N l1 (by omega) HS1.out _ _ (HR1.out.now C3.out)).mono ?_; rintro e w4 ⟨x_t3, rfl, o, b⟩; clear FL FG)
        have O_t3_4 := Lib.hid o
        have C4 := Lib.hid (btrans C3.out b)
        clear b C3 o
        have FL := Lib.hid trivial
        go_wp2_with (go_at_call 20; have FG := FL; refine (s_Support y0_0 y0_1 y0_2 x_t3 l1 a2 a3 _ HK0.out (by omega) (readsN_own O_t3_4.out rfl (by omega)) (by omega) HS1.out LO2.out HI2.out (by omega)).mono ?_; rintro e w5 ⟨rw0, HAw, rfl, b⟩; have HHw := Lib.hid HAw; clear HAw; clear FL FG)
        have C5 := Lib.hid (btrans C4.out b)
        clear b C4 O_t3_4
        have FL := Lib.hid trivial
        go_wp2_with (go_at_call 22; have FG := FL; refine (to_N l1 (by omega) HS1.out _ _ (HR1.out.now C5.out)).mono ?_; rintro e w6 ⟨x_x1, rfl, o, b⟩; have CX := btrans C5.out b; have bx0_0 := (CX.cell (p := ⟨w.heap.size, 0, none⟩) (by show w.heap.size < _; omega)).trans HBOX0.out.1; have bx0_1 := (CX.cell (p := ⟨w.heap.size, 1, none⟩) (by show w.heap.size < _; omega)).trans HBOX0.out.2.1; have bx0_2 := (CX.cell (p := ⟨w.heap.size, 2, none⟩) (by show w.heap.size < _; omega)).trans HBOX0.out.2.2; clear CX; clear FL FG)
        have O_x1_6 := Lib.hid o
        have C6 := Lib.hid (btrans C5.out b)
        clear b C5 o
        have FL := Lib.hid trivial
        go_wp2_with (go_at_call 21; have FG := FL; refine (one_to_Grid y0_0 y0_1 y0_2 _).mono ?_; rintro e w7 ⟨rfl, b⟩; clear FL FG)
        have O_x1_7 := Lib.hid (BoxN.later O_x1_6.out b)
        have C7 := Lib.hid (btrans C6.out b)
        clear b C6 O_x1_6
        have FL := Lib.hid trivial
        go_wp2_with (go_at_call 23; have FG := FL; refine (i_Support y0_0 y0_1 y0_2 x_x1 l1 a2 a3 _ HK0.out (by omega) (readsN_own O_x1_7.out rfl (by omega)) (by omega) HS1.out LO2.out HI2.out (by omega)).mono ?_; rintro e w8 ⟨rg0, HAg, rfl, b⟩; obtain rfl := u_Support HHw.out HAg; clear HAg; clear FL FG)
        have O_x1_8 := Lib.hid (BoxN.later O_x1_7.out b)
        have C8 := Lib.hid (btrans C7.out b)
        clear b C7 O_x1_7
        have FL := Lib.hid trivial
        go_wp2_with (go_at_call 22; have FG := FL; refine (to_N l1 (by omega) HS1.out _ _ (HR1.out.now C8.out)).mono ?_; rintro e w9 ⟨x_t8, rfl, o, b⟩; clear FL FG)
        have O_t8_9 := Lib.hid o
        have O_x1_9 := Lib.hid (BoxN.later O_x1_8.out b)
        have C9 := Lib.hid (btrans C8.out b)
        clear b C8 o O_x1_8
        have FL := Lib.hid trivial
        go_wp2_with (go_at_call 24; have FG := FL; refine (eq_strss l1 x_x1 x_t8 _ (readsN_own O_x1_9.out rfl (by omega)) (readsN_own O_t8_9.out rfl (by omega))).mono ?_; rintro e w10 ⟨rfl, b⟩; clear FL FG)
        have C10 := Lib.hid (btrans C9.out b)
        clear b C9 O_x1_9 O_t8_9
        go_ret
        exact ⟨rfl, HBX.out.trans (C10.out.mono (by omega))⟩
end Go.Proofs.Ythgnhcjbjdhjfaa.fnExactSupport
