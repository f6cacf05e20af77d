/-
  The contracts of FormName, of the model and of the program, in the form that the exact laws' walks ask: s_F, i_F, and u_F: the relation fixes the answer.
-/
import Derived.Test.YtgpplfhbgkcjhaaDoorFormN
namespace Go.Proofs.YtgpplfhbgkcjhaaDoor
open Go.RowKit

theorem u_FormName {k : Int} {r r' : ByteArray} (h : r = nameF k) (h' : r' = nameF k) : r = r' := h.trans h'.symm
theorem s_FormName (k : Int) (w : World) (_lo : -9223372036854775808 ≤ k) (_hi : k ≤ 9223372036854775807) :
    Calls Tryd.prog 26 #[.int .i64 k] w fun e w' => ∃ x, x = nameF k ∧ e = .returned (.string x) ∧ Below w.heap.size w w' :=
  (sfn_any k w).mono fun _ _ ⟨h1, h2⟩ => ⟨_, rfl, h1, h2⟩
theorem i_FormName (k : Int) (w : World) (_lo : -9223372036854775808 ≤ k) (_hi : k ≤ 9223372036854775807) :
    Calls Tryd.prog 27 #[.int .i64 k] w fun e w' => ∃ x, x = nameF k ∧ e = .returned (.string x) ∧ Below w.heap.size w w' :=
  (ifn_any k w).mono fun _ _ ⟨h1, h2⟩ => ⟨_, rfl, h1, h2⟩
end Go.Proofs.YtgpplfhbgkcjhaaDoor
