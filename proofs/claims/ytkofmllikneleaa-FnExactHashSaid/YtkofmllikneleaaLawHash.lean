/-
  The walk of the law FnExactHash: true at every argument, by the contracts of spec.Hash and impl.Hash.
-/
import Derived.Test.YtkofmllikneleaaCryptoImpl
namespace Go.Proofs.Ytkofmllikneleaa.fnExactHash
open Go.RowKit

theorem below_mark {B base n : Nat} {a w w' : World} {e : TypeId} {v : Value} {xs : List Value} (h : Below B a w) (hg : w.grownBy w' v.ownBlock) (ho : w.ownsRow base e 1 v n xs) (hB : B ≤ base) (hw : B ≤ w.heap.size) : Below B a w' :=
  h.grown hg hw (fun k hk => Nat.le_trans hB (ho.lt k hk).1)

set_option maxRecDepth 100000 in
set_option maxHeartbeats 3200000 in
theorem walk (v0 : Value) (l0 : List Int) (w : World) (hR0 : Reads w.heap.size w v0 .i64 l0) (hB0 : ∀ z ∈ l0, -9223372036854775808 ≤ z ∧ z ≤ 9223372036854775807) :
    Calls Try.prog 4 #[v0] w fun e w' => e = .returned (.bool true) ∧ Below w.heap.size w w' := by
  obtain ⟨a00, cap0, rfl⟩ : ∃ a0 cap, v0 = .slice a0 l0.length cap := ⟨hR0.2.choose, hR0.2.choose_spec.choose, hR0.2.choose_spec.choose_spec.1⟩
  have HR0 := Lib.hid hR0
  have HB0 := Lib.hid hB0
  have hlen0 := hR0.1
  clear hR0 hB0
  by_cases hbig0 : 1048576 < l0.length
  · go_enter Try.func4, Try.ntmps4
    go_wp2
    go_ret
    exact ⟨rfl, Below.refl _ _⟩
  · skip
    go_enter Try.func4, Try.ntmps4
    have C0 := Lib.hid (Below.refl w.heap.size w)
    have FL := Lib.hid trivial
    go_wp2_with (go_at_call 16; have FG := FL; refine (to_ints l0 (by omega) _ _ (HR0.out.now C0.out)).mono ?_; rintro e w1 ⟨x_t0, rfl, o, b⟩; clear FL FG)
    have O_t0_1 := Lib.hid o
    have C1 := Lib.hid (btrans C0.out b)
    clear b C0 o
    have FL := Lib.hid trivial
    go_wp2_with (go_at_call 15; have FG := FL; refine (s_Hash x_t0 l0 _ (reads_own O_t0_1.out rfl (by omega)) HB0.out (by omega)).mono ?_; rintro e w2 ⟨rw0, HAw, rfl, b⟩; clear FL FG)
    have C2 := Lib.hid (btrans C1.out b)
    clear b C1 O_t0_1
    have FL := Lib.hid trivial
    go_wp2_with (go_at_call 16; have FG := FL; refine (to_ints l0 (by omega) _ _ (HR0.out.now C2.out)).mono ?_; rintro e w3 ⟨x_x0, rfl, o, b⟩; clear FL FG)
    have O_x0_3 := Lib.hid o
    have C3 := Lib.hid (btrans C2.out b)
    clear b C2 o
    have FL := Lib.hid trivial
    go_wp2_with (go_at_call 17; have FG := FL; refine (i_Hash x_x0 l0 _ (reads_own O_x0_3.out rfl (by omega)) HB0.out (by omega)).mono ?_; rintro e w4 ⟨rg0, HAg, rfl, b⟩; obtain rfl := u_Hash HAw HAg; clear FL FG)
    clear HAg
    have O_x0_4 := Lib.hid (own_later O_x0_3.out b)
    have C4 := Lib.hid (btrans C3.out b)
    clear b C3 O_x0_3
    have FL := Lib.hid trivial
    go_wp2_with (go_at_call 16; have FG := FL; refine (to_ints l0 (by omega) _ _ (HR0.out.now C4.out)).mono ?_; rintro e w5 ⟨x_t4, rfl, o, b⟩; clear FL FG)
    have O_t4_5 := Lib.hid o
    have O_x0_5 := Lib.hid (own_later O_x0_4.out b)
    have C5 := Lib.hid (btrans C4.out b)
    clear b C4 o O_x0_4
    have FL := Lib.hid trivial
    go_wp2_with (go_at_call 18; have FG := FL; refine (eq_ints l0 x_x0 x_t4 _ (reads_own O_x0_5.out rfl (by omega)) (reads_own O_t4_5.out rfl (by omega))).mono ?_; rintro e w6 ⟨rfl, b⟩; clear FL FG)
    have C6 := Lib.hid (btrans C5.out b)
    clear b C5 O_x0_5 O_t4_5
    go_ret
    exact ⟨rfl, C6.out⟩
end Go.Proofs.Ytkofmllikneleaa.fnExactHash
