/-
  The walk of the law FnExactKeyedHash: true at every argument, by the contracts of spec.KeyedHash and impl.KeyedHash.
-/
import Derived.Test.YtkofmllikneleaaCryptoImpl
namespace Go.Proofs.Ytkofmllikneleaa.fnExactKeyedHash
open Go.RowKit

theorem below_mark {B base n : Nat} {a w w' : World} {e : TypeId} {v : Value} {xs : List Value} (h : Below B a w) (hg : w.grownBy w' v.ownBlock) (ho : w.ownsRow base e 1 v n xs) (hB : B ≤ base) (hw : B ≤ w.heap.size) : Below B a w' :=
  h.grown hg hw (fun k hk => Nat.le_trans hB (ho.lt k hk).1)

set_option maxRecDepth 100000 in
set_option maxHeartbeats 3200000 in
theorem walk (a0 : Int) (v1 : Value) (l1 : List Int) (w : World) (lo0 : -9223372036854775808 ≤ a0) (hi0 : a0 ≤ 9223372036854775807) (hR1 : Reads w.heap.size w v1 .i64 l1) (hB1 : ∀ z ∈ l1, -9223372036854775808 ≤ z ∧ z ≤ 9223372036854775807) :
    Calls Try.prog 5 #[.int .i64 a0, v1] w fun e w' => e = .returned (.bool true) ∧ Below w.heap.size w w' := by
  obtain ⟨a01, cap1, rfl⟩ : ∃ a0 cap, v1 = .slice a0 l1.length cap := ⟨hR1.2.choose, hR1.2.choose_spec.choose, hR1.2.choose_spec.choose_spec.1⟩
  have HR1 := Lib.hid hR1
  have HB1 := Lib.hid hB1
  have hlen1 := hR1.1
  clear hR1 hB1
  have LO0 := Lib.hid lo0
  have HI0 := Lib.hid hi0
  by_cases hbig1 : 1048576 < l1.length
  · go_enter Try.func5, Try.ntmps5
    go_wp2
    go_ret
    exact ⟨rfl, Below.refl _ _⟩
  · skip
    go_enter Try.func5, Try.ntmps5
    have C0 := Lib.hid (Below.refl w.heap.size w)
    have FL := Lib.hid trivial
    go_wp2_with (go_at_call 16; have FG := FL; refine (to_ints l1 (by omega) _ _ (HR1.out.now C0.out)).mono ?_; rintro e w1 ⟨x_t0, rfl, o, b⟩; clear FL FG)
    have O_t0_1 := Lib.hid o
    have C1 := Lib.hid (btrans C0.out b)
    clear b C0 o
    have FL := Lib.hid trivial
    go_wp2_with (go_at_call 19; have FG := FL; refine (s_KeyedHash a0 x_t0 l1 _ LO0.out HI0.out (reads_own O_t0_1.out rfl (by omega)) HB1.out (by omega)).mono ?_; rintro e w2 ⟨rw0, HAw, rfl, b⟩; clear FL FG)
    have C2 := Lib.hid (btrans C1.out b)
    clear b C1 O_t0_1
    have FL := Lib.hid trivial
    go_wp2_with (go_at_call 16; have FG := FL; refine (to_ints l1 (by omega) _ _ (HR1.out.now C2.out)).mono ?_; rintro e w3 ⟨x_x1, rfl, o, b⟩; clear FL FG)
    have O_x1_3 := Lib.hid o
    have C3 := Lib.hid (btrans C2.out b)
    clear b C2 o
    have FL := Lib.hid trivial
    go_wp2_with (go_at_call 20; have FG := FL; refine (i_KeyedHash a0 x_x1 l1 _ LO0.out HI0.out (reads_own O_x1_3.out rfl (by omega)) HB1.out (by omega)).mono ?_; rintro e w4 ⟨rg0, HAg, rfl, b⟩; obtain rfl := u_KeyedHash HAw HAg; clear FL FG)
    clear HAg
    have O_x1_4 := Lib.hid (own_later O_x1_3.out b)
    have C4 := Lib.hid (btrans C3.out b)
    clear b C3 O_x1_3
    have FL := Lib.hid trivial
    go_wp2_with (go_at_call 16; have FG := FL; refine (to_ints l1 (by omega) _ _ (HR1.out.now C4.out)).mono ?_; rintro e w5 ⟨x_t4, rfl, o, b⟩; clear FL FG)
    have O_t4_5 := Lib.hid o
    have O_x1_5 := Lib.hid (own_later O_x1_4.out b)
    have C5 := Lib.hid (btrans C4.out b)
    clear b C4 o O_x1_4
    have FL := Lib.hid trivial
    go_wp2_with (go_at_call 18; have FG := FL; refine (eq_ints l1 x_x1 x_t4 _ (reads_own O_x1_5.out rfl (by omega)) (reads_own O_t4_5.out rfl (by omega))).mono ?_; rintro e w6 ⟨rfl, b⟩; clear FL FG)
    have C6 := Lib.hid (btrans C5.out b)
    clear b C5 O_x1_5 O_t4_5
    go_ret
    exact ⟨rfl, C6.out⟩
end Go.Proofs.Ytkofmllikneleaa.fnExactKeyedHash
