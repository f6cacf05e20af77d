/-
  The walk of the law FnExactPrune: true at every argument, by the contracts of spec.Prune and impl.Prune.
-/
import Derived.Deep.RegionHeld3
import Derived.Test.YtmhgejljjjmejaaPruneK
import Derived.Test.YtmhgejljjjmejaaGridS
namespace Go.Proofs.Ytmhgejljjjmejaa.fnExactPrune
open Go.RowKit

theorem below_mark {B base n s : Nat} {a w w' : World} {e : TypeId} {v : Value} {xs : List Value} (h : Below B a w) (hg : w.grownBy w' v.ownBlock) (ho : w.ownsRow base e s v n xs) (hB : B ≤ base) (hw : B ≤ w.heap.size) : Below B a w' :=
  h.grown hg hw (fun k hk => Nat.le_trans hB (ho.lt k hk).1)

set_option maxRecDepth 100000 in
set_option maxHeartbeats 3200000 in
theorem walk (y0_0 : Int) (y0_1 : Int) (y0_2 : ByteArray) (v1 : Value) (l1 : List (List ByteArray)) (w : World) (hK0 : ok_Grid (y0_0, y0_1, y0_2)) (hR1 : ReadsN w.heap.size w v1 l1) (hB1 : ∀ m ∈ l1, ∀ z ∈ m, z.size ≤ maxLen) :
    Calls Try.prog 3 #[.agg #[.int .i64 y0_0, .int .i64 y0_1, .string y0_2], v1] w fun e w' => e = .returned (.bool true) ∧ Below w.heap.size w w' := by
  obtain ⟨a01, cap1, rfl⟩ : ∃ a0 cap, v1 = .slice a0 l1.length cap := hR1.form
  have HR1 := Lib.hid hR1
  have HB1 := Lib.hid hB1
  have hlen1 := hR1.count
  clear hR1 hB1
  have HK0 := Lib.hid hK0
  clear hK0
  go_enter Try.func3, Try.ntmps3
  go_wp2_with fail
  obtain ⟨W0, hW0⟩ : ∃ W0, W0 = (w.alloc (.cells #[.int .i64 y0_0, .int .i64 y0_1, .string y0_2] 23)) := ⟨_, rfl⟩
  have HBX := Lib.hid (show Below w.heap.size w W0 by rw [hW0]; exact ((Below.refl w.heap.size w).alloc (Nat.le_refl _) (.cells #[.int .i64 y0_0, .int .i64 y0_1, .string y0_2] 23)))
  have hws : W0.heap.size = w.heap.size + 1 := by rw [hW0]; simp
  have HBOX0 : Hid (W0.cell? ⟨w.heap.size, 0, none⟩ = some (.int .i64 y0_0) ∧ W0.cell? ⟨w.heap.size, 1, none⟩ = some (.int .i64 y0_1) ∧ W0.cell? ⟨w.heap.size, 2, none⟩ = some (.string y0_2)) := Lib.hid (by rw [hW0]; simp)
  rw [← hW0]
  have HQ1 := Lib.hid (HR1.out.now HBX.out)
  clear HR1
  have HR1 := HQ1
  clear HQ1
  clear hW0
  have C0 := Lib.hid (Below.refl W0.heap.size W0)
  (go_at_call 5; refine (one_sz_Grid y0_0 y0_1 y0_2 1048576 (HK0.out).2.2 (by omega) (by omega) _).mono ?_; rintro e w1 ⟨rl1, HG0, HJ0, HL0, rfl, b⟩; have HLL0 := Lib.hid (And.intro HG0 (And.intro HJ0 HL0)); clear HG0 HJ0 HL0)
  go_wp2_with fail
  · go_ret
    exact ⟨rfl, HBX.out.trans ((btrans C0.out b).mono (by omega))⟩
  · have hr1 : 0 ≤ rl1 := by omega
    have hle1 := HLL0.out.2.1
    have hsl0 := HLL0.out.2.2 hr1
    have C1 := Lib.hid (btrans C0.out b)
    clear b C0
    have FL := Lib.hid trivial
    go_wp2_with (go_at_call 6; have FG := FL; refine (sz_strss l1 rl1 (by omega) (by omega) _ _ HB1.out (HR1.out.now C1.out)).mono ?_; rintro e w2 ⟨rl2, HL1, rfl, rfl⟩; have HLL1 := Lib.hid HL1; clear HL1; have CX := C1.out; have bx0_0 := (CX.cell (p := ⟨w.heap.size, 0, none⟩) (by show w.heap.size < _; omega)).trans HBOX0.out.1; have bx0_1 := (CX.cell (p := ⟨w.heap.size, 1, none⟩) (by show w.heap.size < _; omega)).trans HBOX0.out.2.1; have bx0_2 := (CX.cell (p := ⟨w.heap.size, 2, none⟩) (by show w.heap.size < _; omega)).trans HBOX0.out.2.2; clear CX; clear FL FG)
    · go_ret
      exact ⟨rfl, HBX.out.trans (C1.out.mono (by omega))⟩
    · have hr2 : 0 ≤ rl2 := by omega
      have hle2 := (HLL1.out.2 hr2).1
      have hsl1 := (HLL1.out.2 hr2).2.1
      have HS1 := Lib.hid (szN_all (HLL1.out.2 hr2).2.2 (by omega))
      have FL := Lib.hid trivial
      go_wp2_with (go_at_call 8; have FG := FL; refine (one_to_Grid y0_0 y0_1 y0_2 _).mono ?_; rintro e w3 ⟨rfl, b⟩; clear FL FG)
      have C3 := Lib.hid (btrans C1.out b)
      clear b C1
      have FL := Lib.hid trivial
      go_wp2_with (go_at_call 9; have FG := FL; refine (to_N l1 (by omega) HS1.out _ _ (HR1.out.now C3.out)).mono ?_; rintro e w4 ⟨x_t3, rfl, o, b⟩; clear FL FG)
      have O_t3_4 := Lib.hid o
      have C4 := Lib.hid (btrans C3.out b)
      clear b C3 o
      have FL := Lib.hid trivial
      go_wp2_with (go_at_call 7; have FG := FL; refine (s_Prune y0_0 y0_1 y0_2 x_t3 l1 _ HK0.out (by omega) (readsN_own O_t3_4.out rfl (by omega)) (by omega) HS1.out).mono ?_; rintro e w5 ⟨rw0, x_w0, HAw, hnw0, rfl, o0, b⟩; have HHw := Lib.hid HAw; clear HAw; clear FL FG)
      have O_w0_5 := Lib.hid o0
      have C5 := Lib.hid (btrans C4.out b)
      clear b C4 o0 O_t3_4
      have FL := Lib.hid trivial
      go_wp2_with (go_at_call 9; have FG := FL; refine (to_N l1 (by omega) HS1.out _ _ (HR1.out.now C5.out)).mono ?_; rintro e w6 ⟨x_x1, rfl, o, b⟩; have CX := btrans C5.out b; have bx0_0 := (CX.cell (p := ⟨w.heap.size, 0, none⟩) (by show w.heap.size < _; omega)).trans HBOX0.out.1; have bx0_1 := (CX.cell (p := ⟨w.heap.size, 1, none⟩) (by show w.heap.size < _; omega)).trans HBOX0.out.2.1; have bx0_2 := (CX.cell (p := ⟨w.heap.size, 2, none⟩) (by show w.heap.size < _; omega)).trans HBOX0.out.2.2; clear CX; clear FL FG)
      have AP_w0_x1 := Lib.hid (apNN O_w0_5.out o)
      have O_x1_6 := Lib.hid o
      have SZ_x1 := Lib.hid C5.out.size
      have O_w0_6 := Lib.hid (BoxN.later O_w0_5.out b)
      have C6 := Lib.hid (btrans C5.out b)
      clear b C5 o O_w0_5
      have FL := Lib.hid trivial
      go_wp2_with (go_at_call 8; have FG := FL; refine (one_to_Grid y0_0 y0_1 y0_2 _).mono ?_; rintro e w7 ⟨rfl, b⟩; clear FL FG)
      have O_w0_7 := Lib.hid (BoxN.later O_w0_6.out b)
      have O_x1_7 := Lib.hid (BoxN.later O_x1_6.out b)
      have C7 := Lib.hid (btrans C6.out b)
      clear b C6 O_w0_6 O_x1_6
      have FL := Lib.hid trivial
      go_wp2_with (go_at_call 10; have FG := FL; refine (i_Prune y0_0 y0_1 y0_2 x_x1 l1 _ HK0.out (by omega) (readsN_own O_x1_7.out rfl (by omega)) (by omega) HS1.out).mono ?_; rintro e w8 ⟨rg0, x_g0, HAg, hng0, rfl, o0, b⟩; obtain rfl := u_Prune HHw.out HAg; clear HAg; clear FL FG)
      have AP_w0_g0 := Lib.hid (apNN O_w0_7.out o0)
      have AP_x1_g0 := Lib.hid (apNN O_x1_7.out o0)
      have O_g0_8 := Lib.hid o0
      have SZ_g0 := Lib.hid C7.out.size
      have O_w0_8 := Lib.hid (BoxN.later O_w0_7.out b)
      have O_x1_8 := Lib.hid (BoxN.later O_x1_7.out b)
      have C8 := Lib.hid (btrans C7.out b)
      clear b C7 o0 O_w0_7 O_x1_7
      have FL := Lib.hid trivial
      go_wp2_with (go_at_call 11; have FG := FL; refine (eq_strss rw0 x_g0 x_w0 _ (readsN_own O_g0_8.out rfl (by omega)) (readsN_own O_w0_8.out rfl (by omega))).mono ?_; rintro e w9 ⟨rfl, b⟩; clear FL FG)
      have O_w0_9 := Lib.hid (BoxN.later O_w0_8.out b)
      have O_x1_9 := Lib.hid (BoxN.later O_x1_8.out b)
      have O_g0_9 := Lib.hid (BoxN.later O_g0_8.out b)
      have C9 := Lib.hid (btrans C8.out b)
      clear b C8 O_w0_8 O_x1_8 O_g0_8
      have FL := Lib.hid trivial
      go_wp2_with (go_at_call 9; have FG := FL; refine (to_N l1 (by omega) HS1.out _ _ (HR1.out.now C9.out)).mono ?_; rintro e w10 ⟨x_t9, rfl, o, b⟩; clear FL FG)
      have AP_x1_t9 := Lib.hid (apNN O_x1_9.out o)
      have AP_g0_t9 := Lib.hid (apNN O_g0_9.out o)
      have O_t9_10 := Lib.hid o
      have O_w0_10 := Lib.hid (BoxN.later O_w0_9.out b)
      have O_x1_10 := Lib.hid (BoxN.later O_x1_9.out b)
      have O_g0_10 := Lib.hid (BoxN.later O_g0_9.out b)
      have C10 := Lib.hid (btrans C9.out b)
      clear b C9 o O_w0_9 O_x1_9 O_g0_9
      have FL := Lib.hid trivial
      go_wp2_with (go_at_call 11; have FG := FL; refine (eq_strss l1 x_x1 x_t9 _ (readsN_own O_x1_10.out rfl (by omega)) (readsN_own O_t9_10.out rfl (by omega))).mono ?_; rintro e w11 ⟨rfl, b⟩; clear FL FG)
      have O_w0_11 := Lib.hid (BoxN.later O_w0_10.out b)
      have O_x1_11 := Lib.hid (BoxN.later O_x1_10.out b)
      have O_g0_11 := Lib.hid (BoxN.later O_g0_10.out b)
      have C11 := Lib.hid (btrans C10.out b)
      clear b C10 O_w0_10 O_x1_10 O_g0_10 O_t9_10
      have FL := Lib.hid trivial
      go_wp2_with (go_at_call 12; have FG := FL; refine (mark_N _ l1.length x_x1 _ trivial (by omega) 1 (by omega) (by omega) _ O_x1_11.out).mono ?_; rintro e w12 ⟨rfl, _, hg⟩; clear FL FG)
      have O_w0_12 := Lib.hid (O_w0_11.out.keptN hg (.inr AP_w0_x1.out))
      have O_g0_12 := Lib.hid (O_g0_11.out.keptN hg (.inl AP_x1_g0.out))
      have C12 := Lib.hid (below_markN C11.out hg O_x1_11.out SZ_x1.out C11.out.size)
      clear O_w0_11 O_g0_11 O_x1_11 C11 hg
      have FL := Lib.hid trivial
      go_wp2_with (go_at_call 11; have FG := FL; refine (eq_strss rw0 x_g0 x_w0 _ (readsN_own O_g0_12.out rfl (by omega)) (readsN_own O_w0_12.out rfl (by omega))).mono ?_; rintro e w13 ⟨rfl, b⟩; clear FL FG)
      have O_w0_13 := Lib.hid (BoxN.later O_w0_12.out b)
      have O_g0_13 := Lib.hid (BoxN.later O_g0_12.out b)
      have C13 := Lib.hid (btrans C12.out b)
      clear b C12 O_w0_12 O_g0_12
      have FL := Lib.hid trivial
      go_wp2_with (go_at_call 12; have FG := FL; refine (mark_N _ rw0.length x_g0 _ trivial (by omega) 1 (by omega) (by omega) _ O_g0_13.out).mono ?_; rintro e w14 ⟨rfl, o, hg⟩; clear FL FG)
      have O_w0_14 := Lib.hid (O_w0_13.out.keptN hg (.inr AP_w0_g0.out))
      have C14 := Lib.hid (below_markN C13.out hg O_g0_13.out SZ_g0.out C13.out.size)
      have O_g0_14 := Lib.hid o
      clear O_w0_13 O_g0_13 C13 hg o
      have FL := Lib.hid trivial
      go_wp2_with (go_at_call 13; have FG := FL; refine (held_N rw0 x_g0 1 _ O_g0_14.out).mono ?_; rintro e w15 ⟨rfl, b⟩; have CX := btrans C14.out b; have bx0_0 := (CX.cell (p := ⟨w.heap.size, 0, none⟩) (by show w.heap.size < _; omega)).trans HBOX0.out.1; have bx0_1 := (CX.cell (p := ⟨w.heap.size, 1, none⟩) (by show w.heap.size < _; omega)).trans HBOX0.out.2.1; have bx0_2 := (CX.cell (p := ⟨w.heap.size, 2, none⟩) (by show w.heap.size < _; omega)).trans HBOX0.out.2.2; clear CX; clear FL FG)
      have O_w0_15 := Lib.hid (BoxN.later O_w0_14.out b)
      have O_g0_15 := Lib.hid (BoxN.later O_g0_14.out b)
      have C15 := Lib.hid (btrans C14.out b)
      clear b C14 O_w0_14 O_g0_14
      have FL := Lib.hid trivial
      go_wp2_with (go_at_call 8; have FG := FL; refine (one_to_Grid y0_0 y0_1 y0_2 _).mono ?_; rintro e w16 ⟨rfl, b⟩; clear FL FG)
      have O_w0_16 := Lib.hid (BoxN.later O_w0_15.out b)
      have O_g0_16 := Lib.hid (BoxN.later O_g0_15.out b)
      have C16 := Lib.hid (btrans C15.out b)
      clear b C15 O_w0_15 O_g0_15
      have FL := Lib.hid trivial
      go_wp2_with (go_at_call 9; have FG := FL; refine (to_N l1 (by omega) HS1.out _ _ (HR1.out.now C16.out)).mono ?_; rintro e w17 ⟨x_t16, rfl, o, b⟩; clear FL FG)
      have AP_g0_t16 := Lib.hid (apNN O_g0_16.out o)
      have O_t16_17 := Lib.hid o
      have O_w0_17 := Lib.hid (BoxN.later O_w0_16.out b)
      have O_g0_17 := Lib.hid (BoxN.later O_g0_16.out b)
      have C17 := Lib.hid (btrans C16.out b)
      clear b C16 o O_w0_16 O_g0_16
      have FL := Lib.hid trivial
      go_wp2_with (go_at_call 10; have FG := FL; refine (i_Prune y0_0 y0_1 y0_2 x_t16 l1 _ HK0.out (by omega) (readsN_own O_t16_17.out rfl (by omega)) (by omega) HS1.out).mono ?_; rintro e w18 ⟨rh0, x_h0, HAh, hnh0, rfl, o0, b⟩; obtain rfl := u_Prune HHw.out HAh; clear HAh; clear FL FG)
      have AP_g0_h0 := Lib.hid (apNN O_g0_17.out o0)
      have O_h0_18 := Lib.hid o0
      have O_w0_18 := Lib.hid (BoxN.later O_w0_17.out b)
      have O_g0_18 := Lib.hid (BoxN.later O_g0_17.out b)
      have C18 := Lib.hid (btrans C17.out b)
      clear b C17 o0 O_w0_17 O_g0_17 O_t16_17
      have FL := Lib.hid trivial
      go_wp2_with (go_at_call 11; have FG := FL; refine (eq_strss rw0 x_h0 x_w0 _ (readsN_own O_h0_18.out rfl (by omega)) (readsN_own O_w0_18.out rfl (by omega))).mono ?_; rintro e w19 ⟨rfl, b⟩; clear FL FG)
      have O_g0_19 := Lib.hid (BoxN.later O_g0_18.out b)
      have C19 := Lib.hid (btrans C18.out b)
      clear b C18 O_w0_18 O_g0_18 O_h0_18
      have FL := Lib.hid trivial
      go_wp2_with (go_at_call 13; have FG := FL; refine (held_N rw0 x_g0 1 _ O_g0_19.out).mono ?_; rintro e w20 ⟨rfl, b⟩; clear FL FG)
      have C20 := Lib.hid (btrans C19.out b)
      clear b C19 O_g0_19
      go_ret
      exact ⟨rfl, HBX.out.trans (C20.out.mono (by omega))⟩
end Go.Proofs.Ytmhgejljjjmejaa.fnExactPrune
