/-
  The contracts of EmptyFill, PutWord and WordsIn in the form that the exact laws' walks ask.
-/
import Derived.Test.YtpacopebdoflpaaDoorFillE
import Derived.Test.YtpacopebdoflpaaDoorGridS
namespace Go.Proofs.YtpacopebdoflpaaDoor
open Go.RowKit

theorem u_EmptyFill {x : Int × Int × ByteArray} {r r' : ByteArray} (h : r = emF x) (h' : r' = emF x) : r = r' := h.trans h'.symm
theorem s_EmptyFill (r c : Int) (s : ByteArray) (w : World) (_hK : ok_Grid (r, c, s)) (hs : s.size ≤ 1048576) :
    Calls Tryd.prog 20 #[.agg #[.int .i64 r, .int .i64 c, .string s]] w fun e w' => ∃ x, x = emF (r, c, s) ∧ e = .returned (.string x) ∧ Below w.heap.size w w' :=
  (semf_any r c s (by omega) w).mono fun _ _ ⟨h1, h2⟩ => ⟨_, rfl, h1, h2⟩
theorem i_EmptyFill (r c : Int) (s : ByteArray) (w : World) (_hK : ok_Grid (r, c, s)) (hs : s.size ≤ 1048576) (hV : DB w) :
    Calls Tryd.prog 22 #[.agg #[.int .i64 r, .int .i64 c, .string s]] w fun e w' => ∃ x, x = emF (r, c, s) ∧ e = .returned (.string x) ∧ Below w.heap.size w w' :=
  (iemf_any r c s (by omega) w hV).mono fun _ _ ⟨h1, h2⟩ => ⟨_, rfl, h1, h2⟩
theorem u_PutWord {x : Int × Int × ByteArray} {f : ByteArray} {k : Int} {y r r' : ByteArray} {b b' : Bool} (h : r = (putF x f k y).1 ∧ b = (putF x f k y).2) (h' : r' = (putF x f k y).1 ∧ b' = (putF x f k y).2) : r = r' ∧ b = b' := ⟨h.1.trans h'.1.symm, h.2.trans h'.2.symm⟩
theorem s_PutWord (r c : Int) (s : ByteArray) (f : ByteArray) (k : Int) (y : ByteArray) (w : World) (_hK : ok_Grid (r, c, s)) (hs : s.size ≤ 1048576) (hf : f.size ≤ 1048576) (_lo : -9223372036854775808 ≤ k) (_hi : k ≤ 9223372036854775807) (_hy : y.size ≤ 1048576) :
    Calls Tryd.prog 23 #[.agg #[.int .i64 r, .int .i64 c, .string s], .string f, .int .i64 k, .string y] w fun e w' => ∃ x b, (x = (putF (r, c, s) f k y).1 ∧ b = (putF (r, c, s) f k y).2) ∧ e = .returned (.tuple #[.string x, .bool b]) ∧ Below w.heap.size w w' :=
  (spw_any r c s f k y (by omega) (by omega) w).mono fun _ _ ⟨h1, h2⟩ => ⟨_, _, ⟨rfl, rfl⟩, h1, h2⟩
theorem i_PutWord (r c : Int) (s : ByteArray) (f : ByteArray) (k : Int) (y : ByteArray) (w : World) (_hK : ok_Grid (r, c, s)) (hs : s.size ≤ 1048576) (hf : f.size ≤ 1048576) (_lo : -9223372036854775808 ≤ k) (_hi : k ≤ 9223372036854775807) (hy : y.size ≤ 1048576) (hV : ML w) :
    Calls Tryd.prog 24 #[.agg #[.int .i64 r, .int .i64 c, .string s], .string f, .int .i64 k, .string y] w fun e w' => ∃ x b, (x = (putF (r, c, s) f k y).1 ∧ b = (putF (r, c, s) f k y).2) ∧ e = .returned (.tuple #[.string x, .bool b]) ∧ Below w.heap.size w w' :=
  (ipw_any r c s f k y (by omega) hf hy w hV).mono fun _ _ ⟨h1, h2⟩ => ⟨_, _, ⟨rfl, rfl⟩, h1, h2⟩
theorem u_WordsIn {x : Int × Int × ByteArray} {f : ByteArray} {L L' : List ByteArray} (h : L = wordsF x f) (h' : L' = wordsF x f) : L = L' := h.trans h'.symm
theorem s_WordsIn (r c : Int) (s : ByteArray) (f : ByteArray) (w : World) (_hK : ok_Grid (r, c, s)) (hs : s.size ≤ 1048576) (hf : f.size ≤ 1048576) :
    Calls Tryd.prog 25 #[.agg #[.int .i64 r, .int .i64 c, .string s], .string f] w fun e w' => ∃ L v', L = wordsF (r, c, s) f ∧ L.length ≤ 16777216 ∧ e = .returned v' ∧ w'.ownsRow w.heap.size 9 1 v' L.length (L.map Value.string) ∧ Below w.heap.size w w' :=
  (swin_any r c s f (by omega) (by omega) w).mono fun _ _ ⟨v', h1, h2, h3⟩ => ⟨_, v', rfl, by have := wordsF_length (r, c, s) f; omega, h1, h2, h3⟩
theorem i_WordsIn (r c : Int) (s : ByteArray) (f : ByteArray) (w : World) (_hK : ok_Grid (r, c, s)) (hs : s.size ≤ 1048576) (hf : f.size ≤ 1048576) (hV : ML w) :
    Calls Tryd.prog 26 #[.agg #[.int .i64 r, .int .i64 c, .string s], .string f] w fun e w' => ∃ L v', L = wordsF (r, c, s) f ∧ L.length ≤ 16777216 ∧ e = .returned v' ∧ w'.ownsRow w.heap.size 9 1 v' L.length (L.map Value.string) ∧ Below w.heap.size w w' :=
  (iwin_any r c s f (by omega) hf w hV).mono fun _ _ ⟨v', h1, h2, h3⟩ => ⟨_, v', rfl, by have := wordsF_length (r, c, s) f; omega, h1, h2, h3⟩
end Go.Proofs.YtpacopebdoflpaaDoor
