/-
  The contracts of IsFill and SlotPattern in the form that the exact laws' walks ask: s_F, i_F, and u_F: the relation fixes the answer.
-/
import Derived.Test.YtpacopebdoflpaaFillT
import Derived.Test.YtpacopebdoflpaaFillB
import Derived.Test.YtpacopebdoflpaaGridS
namespace Go.Proofs.Ytpacopebdoflpaa
open Go.RowKit

theorem u_IsFill {x : Int × Int × ByteArray} {f : ByteArray} {r r' : Bool} (h : r = isF x f) (h' : r' = isF x f) : r = r' := h.trans h'.symm
theorem s_IsFill (r c : Int) (s : ByteArray) (f : ByteArray) (w : World) (_hK : ok_Grid (r, c, s)) (hs : s.size ≤ 1048576) (hf : f.size ≤ 1048576) :
    Calls Try.prog 20 #[.agg #[.int .i64 r, .int .i64 c, .string s], .string f] w fun e w' => ∃ x, x = isF (r, c, s) f ∧ e = .returned (.bool x) ∧ Below w.heap.size w w' :=
  (sisf_any r c s f (by omega) (by omega) w).mono fun _ _ ⟨h1, h2⟩ => ⟨_, rfl, h1, h2⟩
theorem i_IsFill (r c : Int) (s : ByteArray) (f : ByteArray) (w : World) (_hK : ok_Grid (r, c, s)) (hs : s.size ≤ 1048576) (hf : f.size ≤ 1048576) :
    Calls Try.prog 21 #[.agg #[.int .i64 r, .int .i64 c, .string s], .string f] w fun e w' => ∃ x, x = isF (r, c, s) f ∧ e = .returned (.bool x) ∧ Below w.heap.size w w' :=
  (iisf_any r c s f (by omega) hf w).mono fun _ _ ⟨h1, h2⟩ => ⟨_, rfl, h1, h2⟩
theorem u_SlotPattern {x : Int × Int × ByteArray} {f : ByteArray} {k : Int} {r r' : ByteArray} (h : r = patF x f k) (h' : r' = patF x f k) : r = r' := h.trans h'.symm
theorem s_SlotPattern (r c : Int) (s : ByteArray) (f : ByteArray) (k : Int) (w : World) (_hK : ok_Grid (r, c, s)) (hs : s.size ≤ 1048576) (hf : f.size ≤ 1048576) (_lo : -9223372036854775808 ≤ k) (_hi : k ≤ 9223372036854775807) :
    Calls Try.prog 22 #[.agg #[.int .i64 r, .int .i64 c, .string s], .string f, .int .i64 k] w fun e w' => ∃ x, x = patF (r, c, s) f k ∧ e = .returned (.string x) ∧ Below w.heap.size w w' :=
  (spat_any r c s f k (by omega) (by omega) w).mono fun _ _ ⟨h1, h2⟩ => ⟨_, rfl, h1, h2⟩
theorem i_SlotPattern (r c : Int) (s : ByteArray) (f : ByteArray) (k : Int) (w : World) (_hK : ok_Grid (r, c, s)) (hs : s.size ≤ 1048576) (hf : f.size ≤ 1048576) (_lo : -9223372036854775808 ≤ k) (_hi : k ≤ 9223372036854775807) :
    Calls Try.prog 23 #[.agg #[.int .i64 r, .int .i64 c, .string s], .string f, .int .i64 k] w fun e w' => ∃ x, x = patF (r, c, s) f k ∧ e = .returned (.string x) ∧ Below w.heap.size w w' :=
  (ispat_any r c s f k (by omega) hf w).mono fun _ _ ⟨h1, h2⟩ => ⟨_, rfl, h1, h2⟩
end Go.Proofs.Ytpacopebdoflpaa
