/-
  Contract of the laws' helper 'at': a byte of the code, or a number from 0 to 255 that follows from its length.
-/
import Derived.Test.YtkofmllikneleaaDoorDraw
import Derived.Test.YtkofmllikneleaaDoorKit
namespace Go.Proofs.YtkofmllikneleaaDoor
open Go.RowKit

set_option maxHeartbeats 400000 in
theorem at_any (n cap : Nat) (a0 : Option Addr) (B : Nat) (w : World) (hc : Code B w a0 n) (hn : n ≤ 1048576) (i : Int) (hi0 : 0 ≤ i) (hi1 : i ≤ 1000) :
    Calls Tryd.prog 9 #[.slice a0 n cap, .int .i64 i] w fun e w' => ∃ x : Int, 0 ≤ x ∧ x ≤ 255 ∧ e = .returned (.int .i64 x) ∧ w = w' := by
  obtain ⟨k, rfl⟩ : ∃ k : Nat, i = (k : Int) := ⟨i.toNat, by omega⟩
  by_cases h : k < n
  · obtain ⟨b, off, x, rfl, hb, hx, h0, h1⟩ := hc.2 k h
    clear hc
    go_enter Tryd.func9, Tryd.ntmps9
    go_wp2
    go_ret
    exact ⟨x, h0, h1, rfl, rfl⟩
  · clear hc
    go_enter Tryd.func9, Tryd.ntmps9
    go_wp2
    go_ret
    exact ⟨((k : Int) * 31 + (n : Int) * 7) % 256, Int.emod_nonneg _ (by decide), by have := Int.emod_lt_of_pos ((k : Int) * 31 + (n : Int) * 7) (show (0 : Int) < 256 by decide); omega, rfl, rfl⟩

end Go.Proofs.YtkofmllikneleaaDoor
