/-
  Contracts of spec.EqualInts and impl.EqualInts: true exactly if both slices read the same.
-/
import Derived.Test.YtkofmllikneleaaDoorKit
import Derived.Test.YtkofmllikneleaaDoorInts
namespace Go.Proofs.YtkofmllikneleaaDoor
open Go.RowKit

theorem u_EqualInts {a b : List Int} {x y : Bool} (h : x = decide (a = b)) (h' : y = decide (a = b)) : x = y := h.trans h'.symm
/-- The first k numbers of both are alike. -/
theorem alike_end {l s : List Int} (hn : l.length = s.length) (h : ∀ j, j < l.length → l.getD j 0 = s.getD j 0) : l = s := by
  refine List.ext_getElem hn fun i h1 h2 => ?_
  have := h i h1
  simpa [List.getD, h1, h2] using this
theorem other_at {l s : List Int} {k : Nat} (h : l.getD k 0 ≠ s.getD k 0) : l ≠ s := fun e => h (by rw [e])

end Go.Proofs.YtkofmllikneleaaDoor
