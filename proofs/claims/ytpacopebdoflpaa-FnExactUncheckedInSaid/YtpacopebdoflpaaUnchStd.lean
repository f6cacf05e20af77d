/-
  The contracts of UncheckedIn, of the model and of the program, in the form that the exact laws' walks ask: s_F, i_F, and u_F: the relation fixes the answer.
-/
import Derived.Test.YtpacopebdoflpaaCrossSpecB
import Derived.Test.YtpacopebdoflpaaUnchImpl
import Derived.Test.YtpacopebdoflpaaGridS
namespace Go.Proofs.Ytpacopebdoflpaa
open Go.RowKit

theorem u_UncheckedIn {x : Int × Int × ByteArray} {k : Int} {r r' : Int} (h : r = unchS x k) (h' : r' = unchS x k) : r = r' := h.trans h'.symm
theorem s_UncheckedIn (r c : Int) (s : ByteArray) (k : Int) (w : World) (_hK : ok_Grid (r, c, s)) (hs : s.size ≤ 1048576) (lo : -9223372036854775808 ≤ k) (hi : k ≤ 9223372036854775807) :
    Calls Try.prog 18 #[.agg #[.int .i64 r, .int .i64 c, .string s], .int .i64 k] w fun e w' => ∃ x, x = unchS (r, c, s) k ∧ e = .returned (.int .i64 x) ∧ Below w.heap.size w w' :=
  (sun_any r c s k (by omega) lo hi w).mono fun _ _ ⟨h1, h2⟩ => ⟨_, rfl, h1, h2⟩
theorem i_UncheckedIn (r c : Int) (s : ByteArray) (k : Int) (w : World) (_hK : ok_Grid (r, c, s)) (hs : s.size ≤ 1048576) (lo : -9223372036854775808 ≤ k) (hi : k ≤ 9223372036854775807) :
    Calls Try.prog 16 #[.agg #[.int .i64 r, .int .i64 c, .string s], .int .i64 k] w fun e w' => ∃ x, x = unchS (r, c, s) k ∧ e = .returned (.int .i64 x) ∧ Below w.heap.size w w' :=
  (iun_any r c s k (by omega) lo hi w).mono fun _ _ ⟨h1, h2⟩ => ⟨_, rfl, h1, h2⟩
end Go.Proofs.Ytpacopebdoflpaa
