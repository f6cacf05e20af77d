/-
  The walk of the law FnExactAppendBytes: true at every argument, by the contracts of spec.AppendBytes and impl.AppendBytes.
-/
import Derived.Test.YtffjolonpkhmoaaImplReadInts
namespace Go.Proofs.Ytffjolonpkhmoaa.fnExactAppendBytes
open Go.RowKit

theorem below_mark {B base n : Nat} {a w w' : World} {e : TypeId} {v : Value} {xs : List Value} (h : Below B a w) (hg : w.grownBy w' v.ownBlock) (ho : w.ownsRow base e 1 v n xs) (hB : B ≤ base) (hw : B ≤ w.heap.size) : Below B a w' :=
  h.grown hg hw (fun k hk => Nat.le_trans hB (ho.lt k hk).1)

set_option maxRecDepth 100000 in
set_option maxHeartbeats 3200000 in
theorem walk (v0 : Value) (l0 : List Int) (v1 : Value) (l1 : List Int) (w : World) (hR0 : Reads w.heap.size w v0 .u8 l0) (hB0 : ∀ z ∈ l0, 0 ≤ z ∧ z ≤ 255) (hR1 : Reads w.heap.size w v1 .u8 l1) (hB1 : ∀ z ∈ l1, 0 ≤ z ∧ z ≤ 255) :
    Calls Try.prog 7 #[v0, v1] w fun e w' => e = .returned (.bool true) ∧ Below w.heap.size w w' := by
  obtain ⟨a00, cap0, rfl⟩ : ∃ a0 cap, v0 = .slice a0 l0.length cap := ⟨hR0.2.choose, hR0.2.choose_spec.choose, hR0.2.choose_spec.choose_spec.1⟩
  have HR0 := Lib.hid hR0
  have HB0 := Lib.hid hB0
  have hlen0 := hR0.1
  clear hR0 hB0
  obtain ⟨a01, cap1, rfl⟩ : ∃ a0 cap, v1 = .slice a0 l1.length cap := ⟨hR1.2.choose, hR1.2.choose_spec.choose, hR1.2.choose_spec.choose_spec.1⟩
  have HR1 := Lib.hid hR1
  have HB1 := Lib.hid hB1
  have hlen1 := hR1.1
  clear hR1 hB1
  by_cases hbig0 : 1048576 < l0.length
  · go_enter Try.func7, Try.ntmps7
    go_wp2
    go_ret
    exact ⟨rfl, Below.refl _ _⟩
  · skip
    by_cases hbig1 : 1048576 < l1.length
    · go_enter Try.func7, Try.ntmps7
      go_wp2
      go_ret
      exact ⟨rfl, Below.refl _ _⟩
    · skip
      go_enter Try.func7, Try.ntmps7
      have C0 := Lib.hid (Below.refl w.heap.size w)
      have FL := Lib.hid trivial
      go_wp2_with (go_at_call 27; have FG := FL; refine (to_bytes l0 (by omega) _ _ (HR0.out.now C0.out)).mono ?_; rintro e w1 ⟨x_t0, rfl, o, b⟩; clear FL FG)
      have O_t0_1 := Lib.hid o
      have C1 := Lib.hid (btrans C0.out b)
      clear b C0 o
      have FL := Lib.hid trivial
      go_wp2_with (go_at_call 27; have FG := FL; refine (to_bytes l1 (by omega) _ _ (HR1.out.now C1.out)).mono ?_; rintro e w2 ⟨x_t1, rfl, o, b⟩; clear FL FG)
      have O_t1_2 := Lib.hid o
      have O_t0_2 := Lib.hid (own_later O_t0_1.out b)
      have C2 := Lib.hid (btrans C1.out b)
      clear b C1 o O_t0_1
      have FL := Lib.hid trivial
      go_wp2_with (go_at_call 31; have FG := FL; refine (s_AppendBytes x_t0 l0 x_t1 l1 _ (reads_own O_t0_2.out rfl (by omega)) HB0.out (by omega) (reads_own O_t1_2.out rfl (by omega)) HB1.out (by omega)).mono ?_; rintro e w3 ⟨rw0, x_w0, HAw, hnw0, rfl, o0, b⟩; clear FL FG)
      have O_w0_3 := Lib.hid o0
      have C3 := Lib.hid (btrans C2.out b)
      clear b C2 o0 O_t0_2 O_t1_2
      have FL := Lib.hid trivial
      go_wp2_with (go_at_call 27; have FG := FL; refine (to_bytes l0 (by omega) _ _ (HR0.out.now C3.out)).mono ?_; rintro e w4 ⟨x_x0, rfl, o, b⟩; clear FL FG)
      have AP_w0_x0 := Lib.hid (apart_of O_w0_3.out o (Nat.le_refl _))
      have O_x0_4 := Lib.hid o
      have SZ_x0 := Lib.hid C3.out.size
      have O_w0_4 := Lib.hid (own_later O_w0_3.out b)
      have C4 := Lib.hid (btrans C3.out b)
      clear b C3 o O_w0_3
      have FL := Lib.hid trivial
      go_wp2_with (go_at_call 27; have FG := FL; refine (to_bytes l1 (by omega) _ _ (HR1.out.now C4.out)).mono ?_; rintro e w5 ⟨x_x1, rfl, o, b⟩; clear FL FG)
      have AP_w0_x1 := Lib.hid (apart_of O_w0_4.out o (Nat.le_refl _))
      have AP_x0_x1 := Lib.hid (apart_of O_x0_4.out o (Nat.le_refl _))
      have O_x1_5 := Lib.hid o
      have SZ_x1 := Lib.hid C4.out.size
      have O_w0_5 := Lib.hid (own_later O_w0_4.out b)
      have O_x0_5 := Lib.hid (own_later O_x0_4.out b)
      have C5 := Lib.hid (btrans C4.out b)
      clear b C4 o O_w0_4 O_x0_4
      have FL := Lib.hid trivial
      go_wp2_with (go_at_call 20; have FG := FL; refine (i_AppendBytes x_x0 l0 x_x1 l1 _ (reads_own O_x0_5.out rfl (by omega)) HB0.out (by omega) (reads_own O_x1_5.out rfl (by omega)) HB1.out (by omega)).mono ?_; rintro e w6 ⟨rg0, x_g0, HAg, hng0, rfl, o0, b⟩; obtain rfl := u_AppendBytes HAw HAg; clear FL FG)
      clear HAg
      have AP_w0_g0 := Lib.hid (apart_of O_w0_5.out o0 (Nat.le_refl _))
      have AP_x0_g0 := Lib.hid (apart_of O_x0_5.out o0 (Nat.le_refl _))
      have AP_x1_g0 := Lib.hid (apart_of O_x1_5.out o0 (Nat.le_refl _))
      have O_g0_6 := Lib.hid o0
      have SZ_g0 := Lib.hid C5.out.size
      have O_w0_6 := Lib.hid (own_later O_w0_5.out b)
      have O_x0_6 := Lib.hid (own_later O_x0_5.out b)
      have O_x1_6 := Lib.hid (own_later O_x1_5.out b)
      have C6 := Lib.hid (btrans C5.out b)
      clear b C5 o0 O_w0_5 O_x0_5 O_x1_5
      have FL := Lib.hid trivial
      go_wp2_with (go_at_call 28; have FG := FL; refine (eq_bytes rw0 x_g0 x_w0 _ (reads_own O_g0_6.out rfl (by omega)) (reads_own O_w0_6.out rfl (by omega))).mono ?_; rintro e w7 ⟨rfl, b⟩; clear FL FG)
      have O_w0_7 := Lib.hid (own_later O_w0_6.out b)
      have O_x0_7 := Lib.hid (own_later O_x0_6.out b)
      have O_x1_7 := Lib.hid (own_later O_x1_6.out b)
      have O_g0_7 := Lib.hid (own_later O_g0_6.out b)
      have C7 := Lib.hid (btrans C6.out b)
      clear b C6 O_w0_6 O_x0_6 O_x1_6 O_g0_6
      have FL := Lib.hid trivial
      go_wp2_with (go_at_call 27; have FG := FL; refine (to_bytes l0 (by omega) _ _ (HR0.out.now C7.out)).mono ?_; rintro e w8 ⟨x_t7, rfl, o, b⟩; clear FL FG)
      have AP_x0_t7 := Lib.hid (apart_of O_x0_7.out o (Nat.le_refl _))
      have AP_x1_t7 := Lib.hid (apart_of O_x1_7.out o (Nat.le_refl _))
      have AP_g0_t7 := Lib.hid (apart_of O_g0_7.out o (Nat.le_refl _))
      have O_t7_8 := Lib.hid o
      have O_w0_8 := Lib.hid (own_later O_w0_7.out b)
      have O_x0_8 := Lib.hid (own_later O_x0_7.out b)
      have O_x1_8 := Lib.hid (own_later O_x1_7.out b)
      have O_g0_8 := Lib.hid (own_later O_g0_7.out b)
      have C8 := Lib.hid (btrans C7.out b)
      clear b C7 o O_w0_7 O_x0_7 O_x1_7 O_g0_7
      have FL := Lib.hid trivial
      go_wp2_with (go_at_call 28; have FG := FL; refine (eq_bytes l0 x_x0 x_t7 _ (reads_own O_x0_8.out rfl (by omega)) (reads_own O_t7_8.out rfl (by omega))).mono ?_; rintro e w9 ⟨rfl, b⟩; clear FL FG)
      have O_w0_9 := Lib.hid (own_later O_w0_8.out b)
      have O_x0_9 := Lib.hid (own_later O_x0_8.out b)
      have O_x1_9 := Lib.hid (own_later O_x1_8.out b)
      have O_g0_9 := Lib.hid (own_later O_g0_8.out b)
      have C9 := Lib.hid (btrans C8.out b)
      clear b C8 O_w0_8 O_x0_8 O_x1_8 O_g0_8 O_t7_8
      have FL := Lib.hid trivial
      go_wp2_with (go_at_call 27; have FG := FL; refine (to_bytes l1 (by omega) _ _ (HR1.out.now C9.out)).mono ?_; rintro e w10 ⟨x_t9, rfl, o, b⟩; clear FL FG)
      have AP_x0_t9 := Lib.hid (apart_of O_x0_9.out o (Nat.le_refl _))
      have AP_x1_t9 := Lib.hid (apart_of O_x1_9.out o (Nat.le_refl _))
      have AP_g0_t9 := Lib.hid (apart_of O_g0_9.out o (Nat.le_refl _))
      have O_t9_10 := Lib.hid o
      have O_w0_10 := Lib.hid (own_later O_w0_9.out b)
      have O_x0_10 := Lib.hid (own_later O_x0_9.out b)
      have O_x1_10 := Lib.hid (own_later O_x1_9.out b)
      have O_g0_10 := Lib.hid (own_later O_g0_9.out b)
      have C10 := Lib.hid (btrans C9.out b)
      clear b C9 o O_w0_9 O_x0_9 O_x1_9 O_g0_9
      have FL := Lib.hid trivial
      go_wp2_with (go_at_call 28; have FG := FL; refine (eq_bytes l1 x_x1 x_t9 _ (reads_own O_x1_10.out rfl (by omega)) (reads_own O_t9_10.out rfl (by omega))).mono ?_; rintro e w11 ⟨rfl, b⟩; clear FL FG)
      have O_w0_11 := Lib.hid (own_later O_w0_10.out b)
      have O_x0_11 := Lib.hid (own_later O_x0_10.out b)
      have O_x1_11 := Lib.hid (own_later O_x1_10.out b)
      have O_g0_11 := Lib.hid (own_later O_g0_10.out b)
      have C11 := Lib.hid (btrans C10.out b)
      clear b C10 O_w0_10 O_x0_10 O_x1_10 O_g0_10 O_t9_10
      have FL := Lib.hid trivial
      go_wp2_with (go_at_call 29; have FG := FL; refine (mark_any _ l0.length x_x0 _ (by simp) (by omega) _ (by omega) (by omega) _ O_x0_11.out).mono ?_; rintro e w12 ⟨rfl, _, hg⟩; clear FL FG)
      have O_w0_12 := Lib.hid (O_w0_11.out.kept hg AP_w0_x0.out.1)
      have O_x1_12 := Lib.hid (O_x1_11.out.kept hg AP_x0_x1.out.2)
      have O_g0_12 := Lib.hid (O_g0_11.out.kept hg AP_x0_g0.out.2)
      have C12 := Lib.hid (below_mark C11.out hg O_x0_11.out SZ_x0.out C11.out.size)
      clear O_w0_11 O_x1_11 O_g0_11 O_x0_11 C11 hg
      have FL := Lib.hid trivial
      go_wp2_with (go_at_call 29; have FG := FL; refine (mark_any _ l1.length x_x1 _ (by simp) (by omega) _ (by omega) (by omega) _ O_x1_12.out).mono ?_; rintro e w13 ⟨rfl, _, hg⟩; clear FL FG)
      have O_w0_13 := Lib.hid (O_w0_12.out.kept hg AP_w0_x1.out.1)
      have O_g0_13 := Lib.hid (O_g0_12.out.kept hg AP_x1_g0.out.2)
      have C13 := Lib.hid (below_mark C12.out hg O_x1_12.out SZ_x1.out C12.out.size)
      clear O_w0_12 O_g0_12 O_x1_12 C12 hg
      have FL := Lib.hid trivial
      go_wp2_with (go_at_call 28; have FG := FL; refine (eq_bytes rw0 x_g0 x_w0 _ (reads_own O_g0_13.out rfl (by omega)) (reads_own O_w0_13.out rfl (by omega))).mono ?_; rintro e w14 ⟨rfl, b⟩; clear FL FG)
      have O_w0_14 := Lib.hid (own_later O_w0_13.out b)
      have O_g0_14 := Lib.hid (own_later O_g0_13.out b)
      have C14 := Lib.hid (btrans C13.out b)
      clear b C13 O_w0_13 O_g0_13
      have FL := Lib.hid trivial
      go_wp2_with (go_at_call 29; have FG := FL; refine (mark_any _ rw0.length x_g0 _ (by simp) (by omega) _ (by omega) (by omega) _ O_g0_14.out).mono ?_; rintro e w15 ⟨rfl, o, hg⟩; clear FL FG)
      have O_w0_15 := Lib.hid (O_w0_14.out.kept hg AP_w0_g0.out.1)
      have C15 := Lib.hid (below_mark C14.out hg O_g0_14.out SZ_g0.out C14.out.size)
      have O_g0_15 := Lib.hid o
      clear O_w0_14 O_g0_14 C14 hg o
      have FL := Lib.hid trivial
      go_wp2_with (go_at_call 30; have FG := FL; refine (held_bytes _ rw0.length (by omega) _ (by omega) (by omega) x_g0 _ (reads_own O_g0_15.out (marks_length _ _).symm (by rw [marks_length]; omega))).mono ?_; rintro e w16 ⟨rfl, rfl⟩; clear FL FG)
      have FL := Lib.hid trivial
      go_wp2_with (go_at_call 27; have FG := FL; refine (to_bytes l0 (by omega) _ _ (HR0.out.now C15.out)).mono ?_; rintro e w17 ⟨x_t16, rfl, o, b⟩; clear FL FG)
      have AP_g0_t16 := Lib.hid (apart_of O_g0_15.out o (Nat.le_refl _))
      have O_t16_17 := Lib.hid o
      have O_w0_17 := Lib.hid (own_later O_w0_15.out b)
      have O_g0_17 := Lib.hid (own_later O_g0_15.out b)
      have C17 := Lib.hid (btrans C15.out b)
      clear b C15 o O_w0_15 O_g0_15
      have FL := Lib.hid trivial
      go_wp2_with (go_at_call 27; have FG := FL; refine (to_bytes l1 (by omega) _ _ (HR1.out.now C17.out)).mono ?_; rintro e w18 ⟨x_t17, rfl, o, b⟩; clear FL FG)
      have AP_g0_t17 := Lib.hid (apart_of O_g0_17.out o (Nat.le_refl _))
      have O_t17_18 := Lib.hid o
      have O_w0_18 := Lib.hid (own_later O_w0_17.out b)
      have O_g0_18 := Lib.hid (own_later O_g0_17.out b)
      have O_t16_18 := Lib.hid (own_later O_t16_17.out b)
      have C18 := Lib.hid (btrans C17.out b)
      clear b C17 o O_w0_17 O_g0_17 O_t16_17
      have FL := Lib.hid trivial
      go_wp2_with (go_at_call 20; have FG := FL; refine (i_AppendBytes x_t16 l0 x_t17 l1 _ (reads_own O_t16_18.out rfl (by omega)) HB0.out (by omega) (reads_own O_t17_18.out rfl (by omega)) HB1.out (by omega)).mono ?_; rintro e w19 ⟨rh0, x_h0, HAh, hnh0, rfl, o0, b⟩; obtain rfl := u_AppendBytes HAw HAh; clear FL FG)
      clear HAh
      have AP_g0_h0 := Lib.hid (apart_of O_g0_18.out o0 (Nat.le_refl _))
      have O_h0_19 := Lib.hid o0
      have O_w0_19 := Lib.hid (own_later O_w0_18.out b)
      have O_g0_19 := Lib.hid (own_later O_g0_18.out b)
      have C19 := Lib.hid (btrans C18.out b)
      clear b C18 o0 O_w0_18 O_g0_18 O_t16_18 O_t17_18
      have FL := Lib.hid trivial
      go_wp2_with (go_at_call 28; have FG := FL; refine (eq_bytes rw0 x_h0 x_w0 _ (reads_own O_h0_19.out rfl (by omega)) (reads_own O_w0_19.out rfl (by omega))).mono ?_; rintro e w20 ⟨rfl, b⟩; clear FL FG)
      have O_g0_20 := Lib.hid (own_later O_g0_19.out b)
      have C20 := Lib.hid (btrans C19.out b)
      clear b C19 O_w0_19 O_g0_19 O_h0_19
      have FL := Lib.hid trivial
      go_wp2_with (go_at_call 30; have FG := FL; refine (held_bytes _ rw0.length (by omega) _ (by omega) (by omega) x_g0 _ (reads_own O_g0_20.out (marks_length _ _).symm (by rw [marks_length]; omega))).mono ?_; rintro e w21 ⟨rfl, rfl⟩; clear FL FG)
      go_ret
      exact ⟨rfl, C20.out⟩
end Go.Proofs.Ytffjolonpkhmoaa.fnExactAppendBytes
