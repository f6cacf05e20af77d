/-
  The walk of the law FnExactEncrypt: true at every argument, by the contracts of spec.Encrypt and impl.Encrypt.
-/
import Derived.Test.YtkofmllikneleaaCryptoImpl
namespace Go.Proofs.Ytkofmllikneleaa.fnExactEncrypt
open Go.RowKit

theorem below_mark {B base n : Nat} {a w w' : World} {e : TypeId} {v : Value} {xs : List Value} (h : Below B a w) (hg : w.grownBy w' v.ownBlock) (ho : w.ownsRow base e 1 v n xs) (hB : B ≤ base) (hw : B ≤ w.heap.size) : Below B a w' :=
  h.grown hg hw (fun k hk => Nat.le_trans hB (ho.lt k hk).1)

set_option maxRecDepth 100000 in
set_option maxHeartbeats 3200000 in
theorem walk (a0 : Int) (v1 : Value) (l1 : List Int) (w : World) (lo0 : -9223372036854775808 ≤ a0) (hi0 : a0 ≤ 9223372036854775807) (hR1 : Reads w.heap.size w v1 .u8 l1) (hB1 : ∀ z ∈ l1, 0 ≤ z ∧ z ≤ 255) :
    Calls Try.prog 8 #[.int .i64 a0, v1] w fun e w' => e = .returned (.bool true) ∧ Below w.heap.size w w' := by
  obtain ⟨a01, cap1, rfl⟩ : ∃ a0 cap, v1 = .slice a0 l1.length cap := ⟨hR1.2.choose, hR1.2.choose_spec.choose, hR1.2.choose_spec.choose_spec.1⟩
  have HR1 := Lib.hid hR1
  have HB1 := Lib.hid hB1
  have hlen1 := hR1.1
  clear hR1 hB1
  have LO0 := Lib.hid lo0
  have HI0 := Lib.hid hi0
  by_cases hbig1 : 1048576 < l1.length
  · go_enter Try.func8, Try.ntmps8
    go_wp2
    go_ret
    exact ⟨rfl, Below.refl _ _⟩
  · skip
    go_enter Try.func8, Try.ntmps8
    have C0 := Lib.hid (Below.refl w.heap.size w)
    have FL := Lib.hid trivial
    go_wp2_with (go_at_call 24; have FG := FL; refine (to_bytes l1 (by omega) _ _ (HR1.out.now C0.out)).mono ?_; rintro e w1 ⟨x_t0, rfl, o, b⟩; clear FL FG)
    have O_t0_1 := Lib.hid o
    have C1 := Lib.hid (btrans C0.out b)
    clear b C0 o
    have FL := Lib.hid trivial
    go_wp2_with (go_at_call 30; have FG := FL; refine (s_Encrypt a0 x_t0 l1 _ LO0.out HI0.out (reads_own O_t0_1.out rfl (by omega)) HB1.out (by omega)).mono ?_; rintro e w2 ⟨rw0, x_w0, HAw, hnw0, rfl, o0, b⟩; clear FL FG)
    have O_w0_2 := Lib.hid o0
    have C2 := Lib.hid (btrans C1.out b)
    clear b C1 o0 O_t0_1
    have FL := Lib.hid trivial
    go_wp2_with (go_at_call 24; have FG := FL; refine (to_bytes l1 (by omega) _ _ (HR1.out.now C2.out)).mono ?_; rintro e w3 ⟨x_x1, rfl, o, b⟩; clear FL FG)
    have AP_w0_x1 := Lib.hid (apart_of O_w0_2.out o (Nat.le_refl _))
    have O_x1_3 := Lib.hid o
    have SZ_x1 := Lib.hid C2.out.size
    have O_w0_3 := Lib.hid (own_later O_w0_2.out b)
    have C3 := Lib.hid (btrans C2.out b)
    clear b C2 o O_w0_2
    have FL := Lib.hid trivial
    go_wp2_with (go_at_call 14; have FG := FL; refine (i_Encrypt a0 x_x1 l1 _ LO0.out HI0.out (reads_own O_x1_3.out rfl (by omega)) HB1.out (by omega)).mono ?_; rintro e w4 ⟨rg0, x_g0, HAg, hng0, rfl, o0, b⟩; obtain rfl := u_Encrypt HAw HAg; clear FL FG)
    clear HAg
    have AP_w0_g0 := Lib.hid (apart_of O_w0_3.out o0 (Nat.le_refl _))
    have AP_x1_g0 := Lib.hid (apart_of O_x1_3.out o0 (Nat.le_refl _))
    have O_g0_4 := Lib.hid o0
    have SZ_g0 := Lib.hid C3.out.size
    have O_w0_4 := Lib.hid (own_later O_w0_3.out b)
    have O_x1_4 := Lib.hid (own_later O_x1_3.out b)
    have C4 := Lib.hid (btrans C3.out b)
    clear b C3 o0 O_w0_3 O_x1_3
    have FL := Lib.hid trivial
    go_wp2_with (go_at_call 26; have FG := FL; refine (eq_bytes rw0 x_g0 x_w0 _ (reads_own O_g0_4.out rfl (by omega)) (reads_own O_w0_4.out rfl (by omega))).mono ?_; rintro e w5 ⟨rfl, b⟩; clear FL FG)
    have O_w0_5 := Lib.hid (own_later O_w0_4.out b)
    have O_x1_5 := Lib.hid (own_later O_x1_4.out b)
    have O_g0_5 := Lib.hid (own_later O_g0_4.out b)
    have C5 := Lib.hid (btrans C4.out b)
    clear b C4 O_w0_4 O_x1_4 O_g0_4
    have FL := Lib.hid trivial
    go_wp2_with (go_at_call 24; have FG := FL; refine (to_bytes l1 (by omega) _ _ (HR1.out.now C5.out)).mono ?_; rintro e w6 ⟨x_t5, rfl, o, b⟩; clear FL FG)
    have AP_x1_t5 := Lib.hid (apart_of O_x1_5.out o (Nat.le_refl _))
    have AP_g0_t5 := Lib.hid (apart_of O_g0_5.out o (Nat.le_refl _))
    have O_t5_6 := Lib.hid o
    have O_w0_6 := Lib.hid (own_later O_w0_5.out b)
    have O_x1_6 := Lib.hid (own_later O_x1_5.out b)
    have O_g0_6 := Lib.hid (own_later O_g0_5.out b)
    have C6 := Lib.hid (btrans C5.out b)
    clear b C5 o O_w0_5 O_x1_5 O_g0_5
    have FL := Lib.hid trivial
    go_wp2_with (go_at_call 26; have FG := FL; refine (eq_bytes l1 x_x1 x_t5 _ (reads_own O_x1_6.out rfl (by omega)) (reads_own O_t5_6.out rfl (by omega))).mono ?_; rintro e w7 ⟨rfl, b⟩; clear FL FG)
    have O_w0_7 := Lib.hid (own_later O_w0_6.out b)
    have O_x1_7 := Lib.hid (own_later O_x1_6.out b)
    have O_g0_7 := Lib.hid (own_later O_g0_6.out b)
    have C7 := Lib.hid (btrans C6.out b)
    clear b C6 O_w0_6 O_x1_6 O_g0_6 O_t5_6
    have FL := Lib.hid trivial
    go_wp2_with (go_at_call 27; have FG := FL; refine (mark_any _ l1.length x_x1 _ (by simp) (by omega) _ (by omega) (by omega) _ O_x1_7.out).mono ?_; rintro e w8 ⟨rfl, _, hg⟩; clear FL FG)
    have O_w0_8 := Lib.hid (O_w0_7.out.kept hg AP_w0_x1.out.1)
    have O_g0_8 := Lib.hid (O_g0_7.out.kept hg AP_x1_g0.out.2)
    have C8 := Lib.hid (below_mark C7.out hg O_x1_7.out SZ_x1.out C7.out.size)
    clear O_w0_7 O_g0_7 O_x1_7 C7 hg
    have FL := Lib.hid trivial
    go_wp2_with (go_at_call 26; have FG := FL; refine (eq_bytes rw0 x_g0 x_w0 _ (reads_own O_g0_8.out rfl (by omega)) (reads_own O_w0_8.out rfl (by omega))).mono ?_; rintro e w9 ⟨rfl, b⟩; clear FL FG)
    have O_w0_9 := Lib.hid (own_later O_w0_8.out b)
    have O_g0_9 := Lib.hid (own_later O_g0_8.out b)
    have C9 := Lib.hid (btrans C8.out b)
    clear b C8 O_w0_8 O_g0_8
    have FL := Lib.hid trivial
    go_wp2_with (go_at_call 27; have FG := FL; refine (mark_any _ rw0.length x_g0 _ (by simp) (by omega) _ (by omega) (by omega) _ O_g0_9.out).mono ?_; rintro e w10 ⟨rfl, o, hg⟩; clear FL FG)
    have O_w0_10 := Lib.hid (O_w0_9.out.kept hg AP_w0_g0.out.1)
    have C10 := Lib.hid (below_mark C9.out hg O_g0_9.out SZ_g0.out C9.out.size)
    have O_g0_10 := Lib.hid o
    clear O_w0_9 O_g0_9 C9 hg o
    have FL := Lib.hid trivial
    go_wp2_with (go_at_call 31; have FG := FL; refine (held_bytes _ rw0.length (by omega) _ (by omega) (by omega) x_g0 _ (reads_own O_g0_10.out (marks_length _ _).symm (by rw [marks_length]; omega))).mono ?_; rintro e w11 ⟨rfl, rfl⟩; clear FL FG)
    have FL := Lib.hid trivial
    go_wp2_with (go_at_call 24; have FG := FL; refine (to_bytes l1 (by omega) _ _ (HR1.out.now C10.out)).mono ?_; rintro e w12 ⟨x_t11, rfl, o, b⟩; clear FL FG)
    have AP_g0_t11 := Lib.hid (apart_of O_g0_10.out o (Nat.le_refl _))
    have O_t11_12 := Lib.hid o
    have O_w0_12 := Lib.hid (own_later O_w0_10.out b)
    have O_g0_12 := Lib.hid (own_later O_g0_10.out b)
    have C12 := Lib.hid (btrans C10.out b)
    clear b C10 o O_w0_10 O_g0_10
    have FL := Lib.hid trivial
    go_wp2_with (go_at_call 14; have FG := FL; refine (i_Encrypt a0 x_t11 l1 _ LO0.out HI0.out (reads_own O_t11_12.out rfl (by omega)) HB1.out (by omega)).mono ?_; rintro e w13 ⟨rh0, x_h0, HAh, hnh0, rfl, o0, b⟩; obtain rfl := u_Encrypt HAw HAh; clear FL FG)
    clear HAh
    have AP_g0_h0 := Lib.hid (apart_of O_g0_12.out o0 (Nat.le_refl _))
    have O_h0_13 := Lib.hid o0
    have O_w0_13 := Lib.hid (own_later O_w0_12.out b)
    have O_g0_13 := Lib.hid (own_later O_g0_12.out b)
    have C13 := Lib.hid (btrans C12.out b)
    clear b C12 o0 O_w0_12 O_g0_12 O_t11_12
    have FL := Lib.hid trivial
    go_wp2_with (go_at_call 26; have FG := FL; refine (eq_bytes rw0 x_h0 x_w0 _ (reads_own O_h0_13.out rfl (by omega)) (reads_own O_w0_13.out rfl (by omega))).mono ?_; rintro e w14 ⟨rfl, b⟩; clear FL FG)
    have O_g0_14 := Lib.hid (own_later O_g0_13.out b)
    have C14 := Lib.hid (btrans C13.out b)
    clear b C13 O_w0_13 O_g0_13 O_h0_13
    have FL := Lib.hid trivial
    go_wp2_with (go_at_call 31; have FG := FL; refine (held_bytes _ rw0.length (by omega) _ (by omega) (by omega) x_g0 _ (reads_own O_g0_14.out (marks_length _ _).symm (by rw [marks_length]; omega))).mono ?_; rintro e w15 ⟨rfl, rfl⟩; clear FL FG)
    go_ret
    exact ⟨rfl, C14.out⟩
end Go.Proofs.Ytkofmllikneleaa.fnExactEncrypt
