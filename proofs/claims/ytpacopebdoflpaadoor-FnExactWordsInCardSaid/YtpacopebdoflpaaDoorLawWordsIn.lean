/-
  The walk of the law FnExactWordsIn: true at every argument, by the contracts of spec.WordsIn and impl.WordsIn.
-/
import Derived.Deep.RegionHeld3
import Derived.Test.YtpacopebdoflpaaDoorFillStdD
import Derived.Test.YtpacopebdoflpaaDoorGridS
namespace Go.Proofs.YtpacopebdoflpaaDoor.fnExactWordsIn
open Go.RowKit

theorem below_mark {B base n s : Nat} {a w w' : World} {e : TypeId} {v : Value} {xs : List Value} (h : Below B a w) (hg : w.grownBy w' v.ownBlock) (ho : w.ownsRow base e s v n xs) (hB : B ≤ base) (hw : B ≤ w.heap.size) : Below B a w' :=
  h.grown hg hw (fun k hk => Nat.le_trans hB (ho.lt k hk).1)

set_option maxRecDepth 100000 in
set_option maxHeartbeats 3200000 in
theorem walk (y0_0 : Int) (y0_1 : Int) (y0_2 : ByteArray) (a1 : ByteArray) (w : World) (hK0 : ok_Grid (y0_0, y0_1, y0_2)) (hs1 : a1.size ≤ maxLen) (hV : ML w) :
    Calls Tryd.prog 6 #[.agg #[.int .i64 y0_0, .int .i64 y0_1, .string y0_2], .string a1] w fun e w' => e = .returned (.bool true) ∧ Below w.heap.size w w' := by
  have HV := Lib.hid hV
  clear hV
  have HK0 := Lib.hid hK0
  clear hK0
  unfold maxLen at hs1
  by_cases hbig1 : 1048576 < a1.size
  · go_enter Tryd.func6, Tryd.ntmps6
    go_wp2
    go_ret
    first | exact ⟨rfl, Below.refl _ _⟩ | exact ⟨rfl, (Below.refl _ _).alloc (Nat.le_refl _) _⟩
  · skip
    go_enter Tryd.func6, Tryd.ntmps6
    go_wp2_with fail
    obtain ⟨W0, hW0⟩ : ∃ W0, W0 = (w.alloc (.cells #[.int .i64 y0_0, .int .i64 y0_1, .string y0_2] 40)) := ⟨_, rfl⟩
    have HBX := Lib.hid (show Below w.heap.size w W0 by rw [hW0]; exact ((Below.refl w.heap.size w).alloc (Nat.le_refl _) (.cells #[.int .i64 y0_0, .int .i64 y0_1, .string y0_2] 40)))
    have hws : W0.heap.size = w.heap.size + 1 := by rw [hW0]; simp
    have HBOX0 : Hid (W0.cell? ⟨w.heap.size, 0, none⟩ = some (.int .i64 y0_0) ∧ W0.cell? ⟨w.heap.size, 1, none⟩ = some (.int .i64 y0_1) ∧ W0.cell? ⟨w.heap.size, 2, none⟩ = some (.string y0_2)) := Lib.hid (by rw [hW0]; simp)
    rw [← hW0]
    clear hW0
    have C0 := Lib.hid (Below.refl W0.heap.size W0)
    (go_at_call 19; refine (one_sz_Grid y0_0 y0_1 y0_2 1048576 (HK0.out).2.2 (by omega) (by omega) _).mono ?_; rintro e w1 ⟨rl1, HG0, HJ0, HL0, rfl, b⟩; have HLL0 := Lib.hid (And.intro HG0 (And.intro HJ0 HL0)); clear HG0 HJ0 HL0; have CX := btrans C0.out b; have bx0_0 := (CX.cell (p := ⟨w.heap.size, 0, none⟩) (by show w.heap.size < _; omega)).trans HBOX0.out.1; have bx0_1 := (CX.cell (p := ⟨w.heap.size, 1, none⟩) (by show w.heap.size < _; omega)).trans HBOX0.out.2.1; have bx0_2 := (CX.cell (p := ⟨w.heap.size, 2, none⟩) (by show w.heap.size < _; omega)).trans HBOX0.out.2.2; clear CX)
    go_wp2_with fail
    · go_ret
      exact ⟨rfl, HBX.out.trans ((btrans C0.out b).mono (by omega))⟩
    · have hr1 : 0 ≤ rl1 := by omega
      have hle1 := HLL0.out.2.1
      have hsl0 := HLL0.out.2.2 hr1
      have C1 := Lib.hid (btrans C0.out b)
      clear b C0
      have FL := Lib.hid trivial
      go_wp2_with (go_at_call 21; have FG := FL; refine (one_to_Grid y0_0 y0_1 y0_2 _).mono ?_; rintro e w2 ⟨rfl, b⟩; clear FL FG)
      have C2 := Lib.hid (btrans C1.out b)
      clear b C1
      have FL := Lib.hid trivial
      go_wp2_with (go_at_call 25; have FG := FL; refine (s_WordsIn y0_0 y0_1 y0_2 a1 _ HK0.out (by omega) (by omega)).mono ?_; rintro e w3 ⟨rw0, x_w0, HAw, hnw0, rfl, o0, b⟩; have HHw := Lib.hid HAw; clear HAw; have CX := btrans C2.out b; have bx0_0 := (CX.cell (p := ⟨w.heap.size, 0, none⟩) (by show w.heap.size < _; omega)).trans HBOX0.out.1; have bx0_1 := (CX.cell (p := ⟨w.heap.size, 1, none⟩) (by show w.heap.size < _; omega)).trans HBOX0.out.2.1; have bx0_2 := (CX.cell (p := ⟨w.heap.size, 2, none⟩) (by show w.heap.size < _; omega)).trans HBOX0.out.2.2; clear CX; clear FL FG)
      have O_w0_3 := Lib.hid o0
      have C3 := Lib.hid (btrans C2.out b)
      clear b C2 o0
      have FL := Lib.hid trivial
      go_wp2_with (go_at_call 21; have FG := FL; refine (one_to_Grid y0_0 y0_1 y0_2 _).mono ?_; rintro e w4 ⟨rfl, b⟩; clear FL FG)
      have O_w0_4 := Lib.hid (ownV_later O_w0_3.out b)
      have C4 := Lib.hid (btrans C3.out b)
      clear b C3 O_w0_3
      have FL := Lib.hid trivial
      go_wp2_with (go_at_call 26; have FG := FL; refine (i_WordsIn y0_0 y0_1 y0_2 a1 _ HK0.out (by omega) (by omega) ((HV.out.later HBX.out).later C4.out)).mono ?_; rintro e w5 ⟨rg0, x_g0, HAg, hng0, rfl, o0, b⟩; obtain rfl := u_WordsIn HHw.out HAg; clear HAg; clear FL FG)
      have AP_w0_g0 := Lib.hid (apartV_of O_w0_4.out o0 (Nat.le_refl _))
      have O_g0_5 := Lib.hid o0
      have SZ_g0 := Lib.hid C4.out.size
      have O_w0_5 := Lib.hid (ownV_later O_w0_4.out b)
      have C5 := Lib.hid (btrans C4.out b)
      clear b C4 o0 O_w0_4
      have FL := Lib.hid trivial
      go_wp2_with (go_at_call 27; have FG := FL; refine (eq_strs rw0 x_g0 x_w0 _ (readsS_own O_g0_5.out rfl (by omega)) (readsS_own O_w0_5.out rfl (by omega))).mono ?_; rintro e w6 ⟨rfl, b⟩; clear FL FG)
      have O_w0_6 := Lib.hid (ownV_later O_w0_5.out b)
      have O_g0_6 := Lib.hid (ownV_later O_g0_5.out b)
      have C6 := Lib.hid (btrans C5.out b)
      clear b C5 O_w0_5 O_g0_5
      have FL := Lib.hid trivial
      go_wp2_with (go_at_call 28; have FG := FL; refine (smark_any _ rw0.length x_g0 _ (by simp) (by omega) 1 (by omega) (by omega) _ O_g0_6.out).mono ?_; rintro e w7 ⟨rfl, o, hg⟩; clear FL FG)
      have O_w0_7 := Lib.hid (O_w0_6.out.kept hg AP_w0_g0.out.1)
      have C7 := Lib.hid (below_mark C6.out hg O_g0_6.out SZ_g0.out C6.out.size)
      have O_g0_7 := Lib.hid o
      clear O_w0_6 O_g0_6 C6 hg o
      have FL := Lib.hid trivial
      go_wp2_with (go_at_call 29; have FG := FL; refine (held_strs rw0.length (by omega) 1 (by omega) (by omega) x_g0 _ (readsS_own O_g0_7.out (smarks_length _ _).symm (by rw [smarks_length]; omega))).mono ?_; rintro e w8 ⟨rfl, b⟩; have CX := btrans C7.out b; have bx0_0 := (CX.cell (p := ⟨w.heap.size, 0, none⟩) (by show w.heap.size < _; omega)).trans HBOX0.out.1; have bx0_1 := (CX.cell (p := ⟨w.heap.size, 1, none⟩) (by show w.heap.size < _; omega)).trans HBOX0.out.2.1; have bx0_2 := (CX.cell (p := ⟨w.heap.size, 2, none⟩) (by show w.heap.size < _; omega)).trans HBOX0.out.2.2; clear CX; clear FL FG)
      have O_w0_8 := Lib.hid (ownV_later O_w0_7.out b)
      have O_g0_8 := Lib.hid (ownV_later O_g0_7.out b)
      have C8 := Lib.hid (btrans C7.out b)
      clear b C7 O_w0_7 O_g0_7
      have FL := Lib.hid trivial
      go_wp2_with (go_at_call 21; have FG := FL; refine (one_to_Grid y0_0 y0_1 y0_2 _).mono ?_; rintro e w9 ⟨rfl, b⟩; clear FL FG)
      have O_w0_9 := Lib.hid (ownV_later O_w0_8.out b)
      have O_g0_9 := Lib.hid (ownV_later O_g0_8.out b)
      have C9 := Lib.hid (btrans C8.out b)
      clear b C8 O_w0_8 O_g0_8
      have FL := Lib.hid trivial
      go_wp2_with (go_at_call 26; have FG := FL; refine (i_WordsIn y0_0 y0_1 y0_2 a1 _ HK0.out (by omega) (by omega) ((HV.out.later HBX.out).later C9.out)).mono ?_; rintro e w10 ⟨rh0, x_h0, HAh, hnh0, rfl, o0, b⟩; obtain rfl := u_WordsIn HHw.out HAh; clear HAh; clear FL FG)
      have AP_g0_h0 := Lib.hid (apartV_of O_g0_9.out o0 (Nat.le_refl _))
      have O_h0_10 := Lib.hid o0
      have O_w0_10 := Lib.hid (ownV_later O_w0_9.out b)
      have O_g0_10 := Lib.hid (ownV_later O_g0_9.out b)
      have C10 := Lib.hid (btrans C9.out b)
      clear b C9 o0 O_w0_9 O_g0_9
      have FL := Lib.hid trivial
      go_wp2_with (go_at_call 27; have FG := FL; refine (eq_strs rw0 x_h0 x_w0 _ (readsS_own O_h0_10.out rfl (by omega)) (readsS_own O_w0_10.out rfl (by omega))).mono ?_; rintro e w11 ⟨rfl, b⟩; clear FL FG)
      have O_g0_11 := Lib.hid (ownV_later O_g0_10.out b)
      have C11 := Lib.hid (btrans C10.out b)
      clear b C10 O_w0_10 O_g0_10 O_h0_10
      have FL := Lib.hid trivial
      go_wp2_with (go_at_call 29; have FG := FL; refine (held_strs rw0.length (by omega) 1 (by omega) (by omega) x_g0 _ (readsS_own O_g0_11.out (smarks_length _ _).symm (by rw [smarks_length]; omega))).mono ?_; rintro e w12 ⟨rfl, b⟩; clear FL FG)
      have C12 := Lib.hid (btrans C11.out b)
      clear b C11 O_g0_11
      go_ret
      exact ⟨rfl, HBX.out.trans (C12.out.mono (by omega))⟩
end Go.Proofs.YtpacopebdoflpaaDoor.fnExactWordsIn
