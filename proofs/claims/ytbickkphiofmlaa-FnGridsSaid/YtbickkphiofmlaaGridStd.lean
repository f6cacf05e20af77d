/-
  The model's contracts of chapter 7 in the form that the exact laws' walks ask: s_F, and u_F: the relation fixes the answer.
-/
import Derived.Test.YtbickkphiofmlaaParseGrid
import Derived.Test.YtbickkphiofmlaaGridS
namespace Go.Proofs.Ytbickkphiofmlaa
open Go.RowKit

theorem u_IsGrid {x : Int × Int × ByteArray} {r r' : Bool} (h : r = isG x) (h' : r' = isG x) : r = r' := h.trans h'.symm
theorem s_IsGrid (r c : Int) (s : ByteArray) (w : World) (_hK : ok_Grid (r, c, s)) (hs : s.size ≤ 1048576) :
    Calls Try.prog 15 #[.agg #[.int .i64 r, .int .i64 c, .string s]] w fun e w' => ∃ q, q = isG (r, c, s) ∧ e = .returned (.bool q) ∧ Below w.heap.size w w' :=
  (sisg_any r c s (by omega) w).mono fun _ _ ⟨h1, h2⟩ => ⟨_, rfl, h1, h2⟩
theorem u_IsWhite {x : Int × Int × ByteArray} {k : Int} {r r' : Bool} (h : r = isWh x k) (h' : r' = isWh x k) : r = r' := h.trans h'.symm
theorem s_IsWhite (r c : Int) (s : ByteArray) (k : Int) (w : World) (_hK : ok_Grid (r, c, s)) (hs : s.size ≤ 1048576) (_lo : -9223372036854775808 ≤ k) (_hi : k ≤ 9223372036854775807) :
    Calls Try.prog 23 #[.agg #[.int .i64 r, .int .i64 c, .string s], .int .i64 k] w fun e w' => ∃ q, q = isWh (r, c, s) k ∧ e = .returned (.bool q) ∧ Below w.heap.size w w' :=
  (siswh_any r c s k (by omega) w).mono fun _ _ ⟨h1, h2⟩ => ⟨_, rfl, h1, h2⟩
theorem u_TurnGrid {x y y' : Int × Int × ByteArray} (h : y = turnG x) (h' : y' = turnG x) : y = y' := h.trans h'.symm
theorem s_TurnGrid (r c : Int) (s : ByteArray) (w : World) (_hK : ok_Grid (r, c, s)) (hs : s.size ≤ 1048576) :
    Calls Try.prog 24 #[.agg #[.int .i64 r, .int .i64 c, .string s]] w fun e w' => ∃ y : Int × Int × ByteArray, y = turnG (r, c, s) ∧ e = .returned (.agg #[.int .i64 y.1, .int .i64 y.2.1, .string y.2.2]) ∧ Below w.heap.size w w' :=
  (sturn_any r c s hs w).mono fun _ _ ⟨h1, h2⟩ => ⟨_, rfl, h1, h2⟩
theorem u_IsSymmetric {x : Int × Int × ByteArray} {r r' : Bool} (h : r = symG x) (h' : r' = symG x) : r = r' := h.trans h'.symm
theorem s_IsSymmetric (r c : Int) (s : ByteArray) (w : World) (_hK : ok_Grid (r, c, s)) (hs : s.size ≤ 1048576) :
    Calls Try.prog 26 #[.agg #[.int .i64 r, .int .i64 c, .string s]] w fun e w' => ∃ q, q = symG (r, c, s) ∧ e = .returned (.bool q) ∧ Below w.heap.size w w' :=
  (ssym_any r c s hs w).mono fun _ _ ⟨h1, h2⟩ => ⟨_, rfl, h1, h2⟩
theorem u_GridText {x : Int × Int × ByteArray} {r r' : ByteArray} (h : r = textG x) (h' : r' = textG x) : r = r' := h.trans h'.symm
theorem s_GridText (r c : Int) (s : ByteArray) (w : World) (_hK : ok_Grid (r, c, s)) (hs : s.size ≤ 1048576) :
    Calls Try.prog 27 #[.agg #[.int .i64 r, .int .i64 c, .string s]] w fun e w' => ∃ q, q = textG (r, c, s) ∧ e = .returned (.string q) ∧ Below w.heap.size w w' :=
  (stext_any r c s hs w).mono fun _ _ ⟨h1, h2⟩ => ⟨_, rfl, h1, h2⟩
theorem u_ParseGrid {s : ByteArray} {y y' : Int × Int × ByteArray} {b b' : Bool} (h : y = (parseG s).1 ∧ b = (parseG s).2) (h' : y' = (parseG s).1 ∧ b' = (parseG s).2) : y = y' ∧ b = b' := ⟨h.1.trans h'.1.symm, h.2.trans h'.2.symm⟩
theorem s_ParseGrid (s : ByteArray) (w : World) (hs : s.size ≤ 1048576) :
    Calls Try.prog 28 #[.string s] w fun e w' => ∃ (y : Int × Int × ByteArray) (b : Bool), (y = (parseG s).1 ∧ b = (parseG s).2) ∧ e = .returned (.tuple #[.agg #[.int .i64 y.1, .int .i64 y.2.1, .string y.2.2], .bool b]) ∧ Below w.heap.size w w' :=
  (sparseg_any s hs w).mono fun _ _ ⟨h1, h2⟩ => ⟨_, _, ⟨rfl, rfl⟩, h1, h2⟩
end Go.Proofs.Ytbickkphiofmlaa
