/-
  The model's DeriveFromString, and the contracts of chapter 3 in the form that the exact laws' walks ask.
-/
import Derived.Test.YtkofmllikneleaaCipher
import Derived.Test.YtkofmllikneleaaStrBytes
namespace Go.Proofs.Ytkofmllikneleaa
open Go.RowKit

/-- What DeriveFromString answers. -/
def derive (s : Int) (t : ByteArray) : Int := if 1 < khash s (b2i (bytesI t)) then khash s (b2i (bytesI t)) else 1
theorem derive_range (s : Int) (t : ByteArray) : 1 ≤ derive s t ∧ derive s t ≤ 2147483646 := by
  have := khash_range s (b2i (bytesI t))
  unfold derive
  split <;> omega

end Go.Proofs.Ytkofmllikneleaa
