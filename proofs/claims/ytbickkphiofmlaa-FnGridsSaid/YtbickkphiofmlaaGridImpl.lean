/-
  The program's contracts of chapter 7: all of them.
-/
import Derived.Test.YtbickkphiofmlaaGridImplH
namespace Go.Proofs.Ytbickkphiofmlaa
end Go.Proofs.Ytbickkphiofmlaa
