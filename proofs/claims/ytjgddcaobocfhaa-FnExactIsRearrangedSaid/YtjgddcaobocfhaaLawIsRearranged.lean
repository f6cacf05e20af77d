/-
  The walk of the law FnExactIsRearranged: true at every argument, by the contracts of spec.IsRearranged and impl.IsRearranged.
-/
import Derived.Test.YtjgddcaobocfhaaWordImpl
namespace Go.Proofs.Ytjgddcaobocfhaa.fnExactIsRearranged
open Go.RowKit

theorem below_mark {B base n : Nat} {a w w' : World} {e : TypeId} {v : Value} {xs : List Value} (h : Below B a w) (hg : w.grownBy w' v.ownBlock) (ho : w.ownsRow base e 1 v n xs) (hB : B ≤ base) (hw : B ≤ w.heap.size) : Below B a w' :=
  h.grown hg hw (fun k hk => Nat.le_trans hB (ho.lt k hk).1)

set_option maxRecDepth 100000 in
set_option maxHeartbeats 3200000 in
theorem walk (a0 : ByteArray) (a1 : ByteArray) (w : World) (hs0 : a0.size ≤ maxLen) (hs1 : a1.size ≤ maxLen) :
    Calls Try.prog 7 #[.string a0, .string a1] w fun e w' => e = .returned (.bool true) ∧ Below w.heap.size w w' := by
  unfold maxLen at hs0
  unfold maxLen at hs1
  by_cases hbig0 : 1048576 < a0.size
  · go_enter Try.func7, Try.ntmps7
    go_wp2
    go_ret
    exact ⟨rfl, Below.refl _ _⟩
  · skip
    by_cases hbig1 : 1048576 < a1.size
    · go_enter Try.func7, Try.ntmps7
      go_wp2
      go_ret
      exact ⟨rfl, Below.refl _ _⟩
    · skip
      go_enter Try.func7, Try.ntmps7
      have C0 := Lib.hid (Below.refl w.heap.size w)
      have FL := Lib.hid trivial
      go_wp2_with (go_at_call 23; have FG := FL; refine (s_IsRearranged a0 a1 _ (by omega) (by omega)).mono ?_; rintro e w1 ⟨rw0, HAw, rfl, b⟩; clear FL FG)
      have C1 := Lib.hid (btrans C0.out b)
      clear b C0
      have FL := Lib.hid trivial
      go_wp2_with (go_at_call 16; have FG := FL; refine (i_IsRearranged a0 a1 _ (by omega) (by omega)).mono ?_; rintro e w2 ⟨rg0, HAg, rfl, b⟩; obtain rfl := u_IsRearranged HAw HAg; clear FL FG)
      clear HAg
      have C2 := Lib.hid (btrans C1.out b)
      clear b C1
      go_ret
      exact ⟨rfl, C2.out⟩
end Go.Proofs.Ytjgddcaobocfhaa.fnExactIsRearranged
