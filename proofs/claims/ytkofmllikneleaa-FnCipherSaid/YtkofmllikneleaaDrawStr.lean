/-
  Contract of spec.l1Str: one of the list's texts; only the cursor's own block is written.
-/
import Derived.Test.YtkofmllikneleaaDraw
namespace Go.Proofs.Ytkofmllikneleaa
open Go.RowKit

end Go.Proofs.Ytkofmllikneleaa
