/-
  The walk of the law FnExactEqualInts: true at every argument, by the contracts of spec.EqualInts and impl.EqualInts.
-/
import Derived.Test.YtpkbjcdllkkhdaaEqInts
namespace Go.Proofs.Ytpkbjcdllkkhdaa.fnExactEqualInts
open Go.RowKit

theorem below_mark {B base n : Nat} {a w w' : World} {e : TypeId} {v : Value} {xs : List Value} (h : Below B a w) (hg : w.grownBy w' v.ownBlock) (ho : w.ownsRow base e 1 v n xs) (hB : B ≤ base) (hw : B ≤ w.heap.size) : Below B a w' :=
  h.grown hg hw (fun k hk => Nat.le_trans hB (ho.lt k hk).1)

set_option maxRecDepth 100000 in
set_option maxHeartbeats 3200000 in
theorem walk (v0 : Value) (l0 : List Int) (v1 : Value) (l1 : List Int) (w : World) (hR0 : Reads w.heap.size w v0 .i64 l0) (hB0 : ∀ z ∈ l0, -9223372036854775808 ≤ z ∧ z ≤ 9223372036854775807) (hR1 : Reads w.heap.size w v1 .i64 l1) (hB1 : ∀ z ∈ l1, -9223372036854775808 ≤ z ∧ z ≤ 9223372036854775807) :
    Calls Try.prog 3 #[v0, v1] w fun e w' => e = .returned (.bool true) ∧ Below w.heap.size w w' := by
  obtain ⟨a00, cap0, rfl⟩ : ∃ a0 cap, v0 = .slice a0 l0.length cap := ⟨hR0.2.choose, hR0.2.choose_spec.choose, hR0.2.choose_spec.choose_spec.1⟩
  have HR0 := Lib.hid hR0
  have HB0 := Lib.hid hB0
  have hlen0 := hR0.1
  clear hR0 hB0
  obtain ⟨a01, cap1, rfl⟩ : ∃ a0 cap, v1 = .slice a0 l1.length cap := ⟨hR1.2.choose, hR1.2.choose_spec.choose, hR1.2.choose_spec.choose_spec.1⟩
  have HR1 := Lib.hid hR1
  have HB1 := Lib.hid hB1
  have hlen1 := hR1.1
  clear hR1 hB1
  by_cases hbig0 : 1048576 < l0.length
  · go_enter Try.func3, Try.ntmps3
    go_wp2
    go_ret
    exact ⟨rfl, Below.refl _ _⟩
  · skip
    by_cases hbig1 : 1048576 < l1.length
    · go_enter Try.func3, Try.ntmps3
      go_wp2
      go_ret
      exact ⟨rfl, Below.refl _ _⟩
    · skip
      go_enter Try.func3, Try.ntmps3
      have C0 := Lib.hid (Below.refl w.heap.size w)
      have FL := Lib.hid trivial
      go_wp2_with (go_at_call 5; have FG := FL; refine (to_ints l0 (by omega) _ _ (HR0.out.now C0.out)).mono ?_; rintro e w1 ⟨x_t0, rfl, o, b⟩; clear FL FG)
      have O_t0_1 := Lib.hid o
      have C1 := Lib.hid (btrans C0.out b)
      clear b C0 o
      have FL := Lib.hid trivial
      go_wp2_with (go_at_call 5; have FG := FL; refine (to_ints l1 (by omega) _ _ (HR1.out.now C1.out)).mono ?_; rintro e w2 ⟨x_t1, rfl, o, b⟩; clear FL FG)
      have O_t1_2 := Lib.hid o
      have O_t0_2 := Lib.hid (own_later O_t0_1.out b)
      have C2 := Lib.hid (btrans C1.out b)
      clear b C1 o O_t0_1
      have FL := Lib.hid trivial
      go_wp2_with (go_at_call 4; have FG := FL; refine (s_EqualInts x_t0 l0 x_t1 l1 _ (reads_own O_t0_2.out rfl (by omega)) HB0.out (by omega) (reads_own O_t1_2.out rfl (by omega)) HB1.out (by omega)).mono ?_; rintro e w3 ⟨rw0, HAw, rfl, b⟩; clear FL FG)
      have C3 := Lib.hid (btrans C2.out b)
      clear b C2 O_t0_2 O_t1_2
      have FL := Lib.hid trivial
      go_wp2_with (go_at_call 5; have FG := FL; refine (to_ints l0 (by omega) _ _ (HR0.out.now C3.out)).mono ?_; rintro e w4 ⟨x_x0, rfl, o, b⟩; clear FL FG)
      have O_x0_4 := Lib.hid o
      have C4 := Lib.hid (btrans C3.out b)
      clear b C3 o
      have FL := Lib.hid trivial
      go_wp2_with (go_at_call 5; have FG := FL; refine (to_ints l1 (by omega) _ _ (HR1.out.now C4.out)).mono ?_; rintro e w5 ⟨x_x1, rfl, o, b⟩; clear FL FG)
      have O_x1_5 := Lib.hid o
      have O_x0_5 := Lib.hid (own_later O_x0_4.out b)
      have C5 := Lib.hid (btrans C4.out b)
      clear b C4 o O_x0_4
      have FL := Lib.hid trivial
      go_wp2_with (go_at_call 6; have FG := FL; refine (i_EqualInts x_x0 l0 x_x1 l1 _ (reads_own O_x0_5.out rfl (by omega)) HB0.out (by omega) (reads_own O_x1_5.out rfl (by omega)) HB1.out (by omega)).mono ?_; rintro e w6 ⟨rg0, HAg, rfl, b⟩; obtain rfl := u_EqualInts HAw HAg; clear FL FG)
      clear HAg
      have O_x0_6 := Lib.hid (own_later O_x0_5.out b)
      have O_x1_6 := Lib.hid (own_later O_x1_5.out b)
      have C6 := Lib.hid (btrans C5.out b)
      clear b C5 O_x0_5 O_x1_5
      have FL := Lib.hid trivial
      go_wp2_with (go_at_call 5; have FG := FL; refine (to_ints l0 (by omega) _ _ (HR0.out.now C6.out)).mono ?_; rintro e w7 ⟨x_t6, rfl, o, b⟩; clear FL FG)
      have O_t6_7 := Lib.hid o
      have O_x0_7 := Lib.hid (own_later O_x0_6.out b)
      have O_x1_7 := Lib.hid (own_later O_x1_6.out b)
      have C7 := Lib.hid (btrans C6.out b)
      clear b C6 o O_x0_6 O_x1_6
      have FL := Lib.hid trivial
      go_wp2_with (go_at_call 7; have FG := FL; refine (eq_ints l0 x_x0 x_t6 _ (reads_own O_x0_7.out rfl (by omega)) (reads_own O_t6_7.out rfl (by omega))).mono ?_; rintro e w8 ⟨rfl, b⟩; clear FL FG)
      have O_x1_8 := Lib.hid (own_later O_x1_7.out b)
      have C8 := Lib.hid (btrans C7.out b)
      clear b C7 O_x0_7 O_x1_7 O_t6_7
      have FL := Lib.hid trivial
      go_wp2_with (go_at_call 5; have FG := FL; refine (to_ints l1 (by omega) _ _ (HR1.out.now C8.out)).mono ?_; rintro e w9 ⟨x_t8, rfl, o, b⟩; clear FL FG)
      have O_t8_9 := Lib.hid o
      have O_x1_9 := Lib.hid (own_later O_x1_8.out b)
      have C9 := Lib.hid (btrans C8.out b)
      clear b C8 o O_x1_8
      have FL := Lib.hid trivial
      go_wp2_with (go_at_call 7; have FG := FL; refine (eq_ints l1 x_x1 x_t8 _ (reads_own O_x1_9.out rfl (by omega)) (reads_own O_t8_9.out rfl (by omega))).mono ?_; rintro e w10 ⟨rfl, b⟩; clear FL FG)
      have C10 := Lib.hid (btrans C9.out b)
      clear b C9 O_x1_9 O_t8_9
      go_ret
      exact ⟨rfl, C10.out⟩
end Go.Proofs.Ytpkbjcdllkkhdaa.fnExactEqualInts
