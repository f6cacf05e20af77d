/-
  The walk of the law FnExactRepeatsIn: true at every argument, by the contracts of spec.RepeatsIn and impl.RepeatsIn.
-/
import Derived.Test.YtmhgejljjjmejaaEachI
namespace Go.Proofs.Ytmhgejljjjmejaa.fnExactRepeatsIn
open Go.RowKit

theorem below_mark {B base n s : Nat} {a w w' : World} {e : TypeId} {v : Value} {xs : List Value} (h : Below B a w) (hg : w.grownBy w' v.ownBlock) (ho : w.ownsRow base e s v n xs) (hB : B ≤ base) (hw : B ≤ w.heap.size) : Below B a w' :=
  h.grown hg hw (fun k hk => Nat.le_trans hB (ho.lt k hk).1)

set_option maxRecDepth 100000 in
set_option maxHeartbeats 3200000 in
theorem walk (v0 : Value) (l0 : List ByteArray) (w : World) (hR0 : ReadsS w.heap.size w v0 l0) (hB0 : ∀ z ∈ l0, z.size ≤ maxLen) :
    Calls Try.prog 4 #[v0] w fun e w' => e = .returned (.bool true) ∧ Below w.heap.size w w' := by
  obtain ⟨a00, cap0, rfl⟩ : ∃ a0 cap, v0 = .slice a0 l0.length cap := ⟨hR0.2.2.choose, hR0.2.2.choose_spec.choose, hR0.2.2.choose_spec.choose_spec.1⟩
  have HR0 := Lib.hid hR0
  have HB0 := Lib.hid hB0
  have hlen0 := hR0.1
  clear hR0 hB0
  go_enter Try.func4, Try.ntmps4
  have C0 := Lib.hid (Below.refl w.heap.size w)
  have FL := Lib.hid trivial
  go_wp2_with (go_at_call 14; have FG := FL; refine (sz_strs l0 1048576 (by omega) (by omega) _ _ HB0.out (HR0.out.now C0.out)).mono ?_; rintro e w1 ⟨rl1, HL0, rfl, rfl⟩; have HLL0 := Lib.hid HL0; clear HL0; clear FL FG)
  · go_ret
    exact ⟨rfl, C0.out⟩
  · have hr1 : 0 ≤ rl1 := by omega
    have hle1 := (HLL0.out.2 hr1).1
    have hsl0 := (HLL0.out.2 hr1).2.1
    have HS0 := Lib.hid (fun z hz => (show (_ : Int) ≤ 1048576 from Int.le_trans ((HLL0.out.2 hr1).2.2 z hz) (by omega)))
    have FL := Lib.hid trivial
    go_wp2_with (go_at_call 16; have FG := FL; refine (to_strs l0 (by omega) _ _ (HR0.out.now C0.out)).mono ?_; rintro e w2 ⟨x_t1, rfl, o, b⟩; clear FL FG)
    have O_t1_2 := Lib.hid o
    have C2 := Lib.hid (btrans C0.out b)
    clear b C0 o
    have FL := Lib.hid trivial
    go_wp2_with (go_at_call 15; have FG := FL; refine (s_RepeatsIn x_t1 l0 _ (readsS_own O_t1_2.out rfl (by omega)) (by omega) (fun z hz => by have := HS0.out z hz; omega)).mono ?_; rintro e w3 ⟨rw0, HAw, rfl, b⟩; have HHw := Lib.hid HAw; clear HAw; clear FL FG)
    have C3 := Lib.hid (btrans C2.out b)
    clear b C2 O_t1_2
    have FL := Lib.hid trivial
    go_wp2_with (go_at_call 16; have FG := FL; refine (to_strs l0 (by omega) _ _ (HR0.out.now C3.out)).mono ?_; rintro e w4 ⟨x_x0, rfl, o, b⟩; clear FL FG)
    have O_x0_4 := Lib.hid o
    have C4 := Lib.hid (btrans C3.out b)
    clear b C3 o
    have FL := Lib.hid trivial
    go_wp2_with (go_at_call 17; have FG := FL; refine (i_RepeatsIn x_x0 l0 _ (readsS_own O_x0_4.out rfl (by omega)) (by omega) (fun z hz => by have := HS0.out z hz; omega)).mono ?_; rintro e w5 ⟨rg0, HAg, rfl, b⟩; obtain rfl := u_RepeatsIn HHw.out HAg; clear HAg; clear FL FG)
    have O_x0_5 := Lib.hid (ownV_later O_x0_4.out b)
    have C5 := Lib.hid (btrans C4.out b)
    clear b C4 O_x0_4
    have FL := Lib.hid trivial
    go_wp2_with (go_at_call 16; have FG := FL; refine (to_strs l0 (by omega) _ _ (HR0.out.now C5.out)).mono ?_; rintro e w6 ⟨x_t5, rfl, o, b⟩; clear FL FG)
    have O_t5_6 := Lib.hid o
    have O_x0_6 := Lib.hid (ownV_later O_x0_5.out b)
    have C6 := Lib.hid (btrans C5.out b)
    clear b C5 o O_x0_5
    have FL := Lib.hid trivial
    go_wp2_with (go_at_call 18; have FG := FL; refine (eq_strs l0 x_x0 x_t5 _ (readsS_own O_x0_6.out rfl (by omega)) (readsS_own O_t5_6.out rfl (by omega))).mono ?_; rintro e w7 ⟨rfl, b⟩; clear FL FG)
    have C7 := Lib.hid (btrans C6.out b)
    clear b C6 O_x0_6 O_t5_6
    go_ret
    exact ⟨rfl, C7.out⟩
end Go.Proofs.Ytmhgejljjjmejaa.fnExactRepeatsIn
