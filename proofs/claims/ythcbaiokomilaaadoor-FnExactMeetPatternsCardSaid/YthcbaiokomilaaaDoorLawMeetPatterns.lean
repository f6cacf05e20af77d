/-
  The walk of the law FnExactMeetPatterns: true at every argument, by the contracts of spec.MeetPatterns and impl.MeetPatterns.
-/
import Derived.Test.YthcbaiokomilaaaDoorPatImplD
namespace Go.Proofs.YthcbaiokomilaaaDoor.fnExactMeetPatterns
open Go.RowKit

theorem below_mark {B base n s : Nat} {a w w' : World} {e : TypeId} {v : Value} {xs : List Value} (h : Below B a w) (hg : w.grownBy w' v.ownBlock) (ho : w.ownsRow base e s v n xs) (hB : B ≤ base) (hw : B ≤ w.heap.size) : Below B a w' :=
  h.grown hg hw (fun k hk => Nat.le_trans hB (ho.lt k hk).1)

set_option maxRecDepth 100000 in
set_option maxHeartbeats 3200000 in
theorem walk (a0 : ByteArray) (a1 : ByteArray) (w : World) (hs0 : a0.size ≤ maxLen) (hs1 : a1.size ≤ maxLen) (hV : ML w ∧ DB w) :
    Calls Tryd.prog 7 #[.string a0, .string a1] w fun e w' => e = .returned (.bool true) ∧ Below w.heap.size w w' := by
  have HV := Lib.hid hV
  clear hV
  unfold maxLen at hs0
  unfold maxLen at hs1
  by_cases hbig0 : 1048576 < a0.size
  · go_enter Tryd.func7, Tryd.ntmps7
    go_wp2
    go_ret
    exact ⟨rfl, Below.refl _ _⟩
  · skip
    by_cases hbig1 : 1048576 < a1.size
    · go_enter Tryd.func7, Tryd.ntmps7
      go_wp2
      go_ret
      exact ⟨rfl, Below.refl _ _⟩
    · skip
      go_enter Tryd.func7, Tryd.ntmps7
      have C0 := Lib.hid (Below.refl w.heap.size w)
      have FL := Lib.hid trivial
      go_wp2_with (go_at_call 30; have FG := FL; refine (s_MeetPatterns a0 a1 _ (by omega) (by omega)).mono ?_; rintro e w1 ⟨rw0, rw1, HAw, rfl, b⟩; have HHw := Lib.hid HAw; clear HAw; clear FL FG)
      have C1 := Lib.hid (btrans C0.out b)
      clear b C0
      have FL := Lib.hid trivial
      go_wp2_with (go_at_call 12; have FG := FL; refine (i_MeetPatterns a0 a1 _ (by omega) (by omega) (HV.out.1.later C1.out) (HV.out.2.later C1.out)).mono ?_; rintro e w2 ⟨rg0, rg1, HAg, rfl, b⟩; obtain ⟨rfl, rfl⟩ := u_MeetPatterns HHw.out HAg; clear HAg; clear FL FG)
      have C2 := Lib.hid (btrans C1.out b)
      clear b C1
      go_ret
      exact ⟨rfl, C2.out⟩
end Go.Proofs.YthcbaiokomilaaaDoor.fnExactMeetPatterns
