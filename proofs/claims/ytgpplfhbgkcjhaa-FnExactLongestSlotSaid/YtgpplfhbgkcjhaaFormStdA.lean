/-
  The contracts of LongestSlot, of the model and of the program, in the form that the exact laws' walks ask: s_F, i_F, and u_F: the relation fixes the answer.
-/
import Derived.Test.YtgpplfhbgkcjhaaFormA
import Derived.Test.YtgpplfhbgkcjhaaGridS
namespace Go.Proofs.Ytgpplfhbgkcjhaa
open Go.RowKit

theorem u_LongestSlot {x : Int × Int × ByteArray} {r r' : Int} (h : r = longG x) (h' : r' = longG x) : r = r' := h.trans h'.symm
theorem s_LongestSlot (r c : Int) (s : ByteArray) (w : World) (_hK : ok_Grid (r, c, s)) (hs : s.size ≤ 1048576) :
    Calls Try.prog 19 #[.agg #[.int .i64 r, .int .i64 c, .string s]] w fun e w' => ∃ x, x = longG (r, c, s) ∧ e = .returned (.int .i64 x) ∧ Below w.heap.size w w' :=
  (slg_any r c s (by omega) w).mono fun _ _ ⟨h1, h2⟩ => ⟨_, rfl, h1, h2⟩
theorem i_LongestSlot (r c : Int) (s : ByteArray) (w : World) (_hK : ok_Grid (r, c, s)) (hs : s.size ≤ 1048576) :
    Calls Try.prog 20 #[.agg #[.int .i64 r, .int .i64 c, .string s]] w fun e w' => ∃ x, x = longG (r, c, s) ∧ e = .returned (.int .i64 x) ∧ Below w.heap.size w w' :=
  (ilg_any r c s (by omega) w).mono fun _ _ ⟨h1, h2⟩ => ⟨_, rfl, h1, h2⟩
end Go.Proofs.Ytgpplfhbgkcjhaa
