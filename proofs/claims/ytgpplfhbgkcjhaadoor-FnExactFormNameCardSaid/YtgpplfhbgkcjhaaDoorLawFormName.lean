/-
  The walk of the law FnExactFormName: true at every argument, by the contracts of spec.FormName and impl.FormName.
-/
import Derived.Test.YtgpplfhbgkcjhaaDoorFormStdN
import Derived.Test.YtgpplfhbgkcjhaaDoorVarsD
namespace Go.Proofs.YtgpplfhbgkcjhaaDoor.fnExactFormName
open Go.RowKit

theorem below_mark {B base n s : Nat} {a w w' : World} {e : TypeId} {v : Value} {xs : List Value} (h : Below B a w) (hg : w.grownBy w' v.ownBlock) (ho : w.ownsRow base e s v n xs) (hB : B ≤ base) (hw : B ≤ w.heap.size) : Below B a w' :=
  h.grown hg hw (fun k hk => Nat.le_trans hB (ho.lt k hk).1)

set_option maxRecDepth 100000 in
set_option maxHeartbeats 3200000 in
theorem walk (a0 : Int) (w : World) (lo0 : -9223372036854775808 ≤ a0) (hi0 : a0 ≤ 9223372036854775807) (_hV : DB w) :
    Calls Tryd.prog 6 #[.int .i64 a0] w fun e w' => e = .returned (.bool true) ∧ Below w.heap.size w w' := by
  have LO0 := Lib.hid lo0
  have HI0 := Lib.hid hi0
  go_enter Tryd.func6, Tryd.ntmps6
  have C0 := Lib.hid (Below.refl w.heap.size w)
  have FL := Lib.hid trivial
  go_wp2_with (go_at_call 26; have FG := FL; refine (s_FormName a0 _ LO0.out HI0.out).mono ?_; rintro e w1 ⟨rw0, HAw, rfl, b⟩; have HHw := Lib.hid HAw; clear HAw; clear FL FG)
  have C1 := Lib.hid (btrans C0.out b)
  clear b C0
  have FL := Lib.hid trivial
  go_wp2_with (go_at_call 27; have FG := FL; refine (i_FormName a0 _ LO0.out HI0.out).mono ?_; rintro e w2 ⟨rg0, HAg, rfl, b⟩; obtain rfl := u_FormName HHw.out HAg; clear HAg; clear FL FG)
  have C2 := Lib.hid (btrans C1.out b)
  clear b C1
  go_ret
  exact ⟨rfl, C2.out⟩
end Go.Proofs.YtgpplfhbgkcjhaaDoor.fnExactFormName
