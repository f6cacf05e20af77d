/-
  The walk of the law FnExactDeriveFromString: true at every argument, by the contracts of spec.DeriveFromString and impl.DeriveFromString.
-/
import Derived.Test.YtkofmllikneleaaDoorTabs
namespace Go.Proofs.YtkofmllikneleaaDoor.fnExactDeriveFromString
open Go.RowKit

theorem below_mark {B base n : Nat} {a w w' : World} {e : TypeId} {v : Value} {xs : List Value} (h : Below B a w) (hg : w.grownBy w' v.ownBlock) (ho : w.ownsRow base e 1 v n xs) (hB : B ≤ base) (hw : B ≤ w.heap.size) : Below B a w' :=
  h.grown hg hw (fun k hk => Nat.le_trans hB (ho.lt k hk).1)

set_option maxRecDepth 100000 in
set_option maxHeartbeats 3200000 in
theorem walk (a0 : Int) (a1 : ByteArray) (w : World) (lo0 : -9223372036854775808 ≤ a0) (hi0 : a0 ≤ 9223372036854775807) (hs1 : a1.size ≤ maxLen) (hT : Tabs w) :
    Calls Tryd.prog 4 #[.int .i64 a0, .string a1] w fun e w' => e = .returned (.bool true) ∧ Below w.heap.size w w' := by
  have LO0 := Lib.hid lo0
  have HI0 := Lib.hid hi0
  have HT := Lib.hid hT
  clear hT
  unfold maxLen at hs1
  by_cases hbig1 : 1048576 < a1.size
  · go_enter Tryd.func4, Tryd.ntmps4
    go_wp2
    go_ret
    exact ⟨rfl, Below.refl _ _⟩
  · skip
    go_enter Tryd.func4, Tryd.ntmps4
    have C0 := Lib.hid (Below.refl w.heap.size w)
    have FL := Lib.hid trivial
    go_wp2_with (go_at_call 14; have FG := FL; refine (s_DeriveFromString a0 a1 _ LO0.out HI0.out (by omega)).mono ?_; rintro e w1 ⟨rw0, HAw, rfl, b⟩; clear FL FG)
    have C1 := Lib.hid (btrans C0.out b)
    clear b C0
    have FL := Lib.hid trivial
    go_wp2_with (go_at_call 13; have FG := FL; refine (i_DeriveFromString a0 a1 _ LO0.out HI0.out (by omega) (HT.out.later C1.out)).mono ?_; rintro e w2 ⟨rg0, HAg, rfl, b⟩; obtain rfl := u_DeriveFromString HAw HAg; clear FL FG)
    clear HAg
    have C2 := Lib.hid (btrans C1.out b)
    clear b C1
    go_ret
    exact ⟨rfl, C2.out⟩
end Go.Proofs.YtkofmllikneleaaDoor.fnExactDeriveFromString
