/-
  Contracts of draws of chapter 5: l5Raw, l5Some.
-/
import Derived.Test.YthgnhcjbjdhjfaaGreatDoorDrawWord
import Derived.Test.YthgnhcjbjdhjfaaGreatDoorPatB
namespace Go.Proofs.YthgnhcjbjdhjfaaGreatDoor
open Go.RowKit

def raws5 : List Int := [-1, 0, 99, 100, 1000, 1001, 9223372036854775807, -9223372036854775808]
theorem raws5_in : ∀ z ∈ raws5, LO ≤ z ∧ z ≤ HI := by decide
theorem raw5_any (B : Nat) (w : World) (c n cap : Nat) (a0 : Option Addr) (hk : Cur B w c n cap a0) :
    Calls Tryz.prog 107 #[.pointer (some ⟨c, 0, none⟩)] w (Gives AnyInt B w c n cap a0) := by
  go_enter Tryz.func107, Tryz.ntmps107
  go_wp2_with (go_at_call 108; refine (int_any LO HI w.heap.size 8 (by decide) (by decide) B _ c n cap a0 (hk.alloc _) hk.ne (fun j hj => row_ints w raws5 3 LO HI raws5_in j hj)).mono ?_; rintro e w1 ⟨v, ⟨x, hx0, hx1, rfl⟩, rfl, hk1, hg1⟩; clear hk)
  go_ret
  exact ⟨_, ⟨x, hx0, hx1, rfl⟩, rfl, hk1, gtrans (World.grownBy_alloc w _ _) hg1⟩

/-- What l5Some leaves: at most five texts of at most ten bytes. -/
def SomeDrawn (B : Nat) (w : World) (c n cap : Nat) (a0 : Option Addr) (e : Ending) (w' : World) : Prop :=
  ∃ (L : List ByteArray) (v : Value), L.length ≤ 5 ∧ (∀ z ∈ L, z.size ≤ 10) ∧ e = .returned v ∧ w'.ownsRow w.heap.size 9 1 v L.length (L.map Value.string) ∧ Cur B w' c n cap a0 ∧ w.grownBy w' (some c)

end Go.Proofs.YthgnhcjbjdhjfaaGreatDoor
