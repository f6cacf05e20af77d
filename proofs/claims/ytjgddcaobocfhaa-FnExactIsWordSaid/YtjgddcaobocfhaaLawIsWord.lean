/-
  The walk of the law FnExactIsWord: true at every argument, by the contracts of spec.IsWord and impl.IsWord.
-/
import Derived.Test.YtjgddcaobocfhaaWordImpl
namespace Go.Proofs.Ytjgddcaobocfhaa.fnExactIsWord
open Go.RowKit

theorem below_mark {B base n : Nat} {a w w' : World} {e : TypeId} {v : Value} {xs : List Value} (h : Below B a w) (hg : w.grownBy w' v.ownBlock) (ho : w.ownsRow base e 1 v n xs) (hB : B ≤ base) (hw : B ≤ w.heap.size) : Below B a w' :=
  h.grown hg hw (fun k hk => Nat.le_trans hB (ho.lt k hk).1)

set_option maxRecDepth 100000 in
set_option maxHeartbeats 3200000 in
theorem walk (a0 : ByteArray) (w : World) (hs0 : a0.size ≤ maxLen) :
    Calls Try.prog 4 #[.string a0] w fun e w' => e = .returned (.bool true) ∧ Below w.heap.size w w' := by
  unfold maxLen at hs0
  by_cases hbig0 : 1048576 < a0.size
  · go_enter Try.func4, Try.ntmps4
    go_wp2
    go_ret
    exact ⟨rfl, Below.refl _ _⟩
  · skip
    go_enter Try.func4, Try.ntmps4
    have C0 := Lib.hid (Below.refl w.heap.size w)
    have FL := Lib.hid trivial
    go_wp2_with (go_at_call 20; have FG := FL; refine (s_IsWord a0 _ (by omega)).mono ?_; rintro e w1 ⟨rw0, HAw, rfl, b⟩; clear FL FG)
    have C1 := Lib.hid (btrans C0.out b)
    clear b C0
    have FL := Lib.hid trivial
    go_wp2_with (go_at_call 13; have FG := FL; refine (i_IsWord a0 _ (by omega)).mono ?_; rintro e w2 ⟨rg0, HAg, rfl, b⟩; obtain rfl := u_IsWord HAw HAg; clear FL FG)
    clear HAg
    have C2 := Lib.hid (btrans C1.out b)
    clear b C1
    go_ret
    exact ⟨rfl, C2.out⟩
end Go.Proofs.Ytjgddcaobocfhaa.fnExactIsWord
