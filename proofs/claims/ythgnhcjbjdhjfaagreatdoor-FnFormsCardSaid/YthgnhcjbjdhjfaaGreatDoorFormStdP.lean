/-
  The model's contract of IsConnected; the contracts of PartsOf and IsConnected, of the model and of the program, in the form that the exact laws' walks ask: s_F, i_F, and u_F: the relation fixes the answer.
-/
import Derived.Test.YthgnhcjbjdhjfaaGreatDoorFormBC
import Derived.Test.YthgnhcjbjdhjfaaGreatDoorFormG
import Derived.Test.YthgnhcjbjdhjfaaGreatDoorGridS
namespace Go.Proofs.YthgnhcjbjdhjfaaGreatDoor
open Go.RowKit

theorem u_PartsOf {x : Int × Int × ByteArray} {r r' : Int} (h : r = partsG x) (h' : r' = partsG x) : r = r' := h.trans h'.symm
theorem i_PartsOf (r c : Int) (s : ByteArray) (w : World) (_hK : ok_Grid (r, c, s)) (hs : s.size ≤ 1048576) (hD : DB w) :
    Calls Tryz.prog 10 #[.agg #[.int .i64 r, .int .i64 c, .string s]] w fun e w' => ∃ x, x = partsG (r, c, s) ∧ e = .returned (.int .i64 x) ∧ Below w.heap.size w w' :=
  (ipt_any r c s (by omega) w hD).mono fun _ _ ⟨h1, h2⟩ => ⟨_, rfl, h1, h2⟩
theorem u_IsConnected {x : Int × Int × ByteArray} {r r' : Bool} (h : r = decide (partsG x = 1)) (h' : r' = decide (partsG x = 1)) : r = r' := h.trans h'.symm
theorem i_IsConnected (r c : Int) (s : ByteArray) (w : World) (_hK : ok_Grid (r, c, s)) (hs : s.size ≤ 1048576) (hD : DB w) :
    Calls Tryz.prog 9 #[.agg #[.int .i64 r, .int .i64 c, .string s]] w fun e w' => ∃ x, x = decide (partsG (r, c, s) = 1) ∧ e = .returned (.bool x) ∧ Below w.heap.size w w' :=
  (icn_any r c s (by omega) w hD).mono fun _ _ ⟨h1, h2⟩ => ⟨_, rfl, h1, h2⟩
end Go.Proofs.YthgnhcjbjdhjfaaGreatDoor
