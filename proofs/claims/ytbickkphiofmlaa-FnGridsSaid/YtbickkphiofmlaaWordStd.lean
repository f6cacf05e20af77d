/-
  The model's contracts of chapter 4 in the form that the exact laws' walks ask: s_F, and u_F: the relation fixes the answer.
-/
import Derived.Test.YtbickkphiofmlaaWordSpec
namespace Go.Proofs.Ytbickkphiofmlaa
open Go.RowKit

theorem u_IsWord {a0 : ByteArray} {r r' : Bool} (h : r = isW a0) (h' : r' = isW a0) : r = r' := h.trans h'.symm
theorem u_Backwards {a0 : ByteArray} {r r' : ByteArray} (h : r = backL a0) (h' : r' = backL a0) : r = r' := h.trans h'.symm
theorem s_Backwards (a0 : ByteArray) (w : World) (h0 : a0.size ≤ 1048576) :
    Calls Try.prog 44 #[.string a0] w fun e w' => ∃ r, r = backL a0 ∧ e = .returned (.string r) ∧ Below w.heap.size w w' :=
  (sback_any a0 w h0).mono fun _ _ ⟨h1, h2⟩ => ⟨_, rfl, h1, h2⟩
theorem u_SortLetters {a0 : ByteArray} {r r' : ByteArray} (h : r = sortL a0) (h' : r' = sortL a0) : r = r' := h.trans h'.symm
theorem u_IsRearranged {a0 a1 : ByteArray} {r r' : Bool} (h : r = rearr a0 a1) (h' : r' = rearr a0 a1) : r = r' := h.trans h'.symm
theorem u_CountLetter {a0 a1 : ByteArray} {r r' : Int} (h : r = cntL a0 a1) (h' : r' = cntL a0 a1) : r = r' := h.trans h'.symm
theorem u_BeforeWord {a0 a1 : ByteArray} {r r' : Bool} (h : r = befW a0 a1) (h' : r' = befW a0 a1) : r = r' := h.trans h'.symm
end Go.Proofs.Ytbickkphiofmlaa
