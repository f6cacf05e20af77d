/-
  What the listed variables and the world's shape give the walks of chapter 6.
-/
import Derived.Test.YthgnhcjbjdhjfaaDoorCards
import Derived.Test.YthgnhcjbjdhjfaaDoorTie
import Derived.Test.YthgnhcjbjdhjfaaDoorPatImplB
import Derived.Test.YthgnhcjbjdhjfaaDoorHanded
import Derived.Shelf.Vars
import Derived.Lib.LaidTab
import Derived.PinnedBridge
import Derived.ProofKit
import Derived.LaidMore
import Derived.LaidOnce
import Derived.Lay
namespace Go.Proofs.YthgnhcjbjdhjfaaDoor
open Go.RowKit

theorem ml_shape {W : World} (h : W.ShapedOpen Tryd.prog) : ML W :=
  cell_of_shapedOpen_int (P := Tryd.prog) (g := 1) (t := 3) (zero := #[.int .i64 0]) h (of_decide_eq_true (by kernel_rfl)) (by kernel_rfl) rfl (by kernel_rfl) (by kernel_rfl) Tryd.underlying3
theorem db_data : (Rows.laid_math_bits_deBruijn64tab : DataW Unit) = Lib.tabData .u8 (Lib.deBruijn64tab.map fun (k : Nat) => (k : Int)) := by kernel_rfl
theorem db_named : Tryd.prog.globalNamed "math/bits.deBruijn64tab" = some 0 := by kernel_rfl
theorem db_plain {W : World} {rest : List (String × DataW Unit)} (h : Go.laidMet Tryd.prog (("math/bits.deBruijn64tab", Rows.laid_math_bits_deBruijn64tab) :: rest) W) : DB W := by
  rw [db_data] at h
  have h2 := Lib.tabIs_of_head (t := 131) (e := 5) (n := 64) db_named (by kernel_rfl) Tryd.underlying131 Tryd.underlying5 (by kernel_rfl) (by kernel_rfl) h
  intro j hj
  have h3 := h2.cell db_named j (by simpa using hj)
  rw [h3, List.getD_eq_getElem?_getD, List.getD_eq_getElem?_getD, List.getElem?_map, List.getElem?_eq_getElem hj]
  rfl
theorem vM {W : World} {L : List (String × DataW Unit)} (_ : laidMetH Tryd.prog L W) (h : W.ShapedOpen Tryd.prog) : ML W := ml_shape h
theorem vD {W : World} (h : laidMetH Tryd.prog [("math/bits.deBruijn64tab", Rows.laid_math_bits_deBruijn64tab)] W) (_ : W.ShapedOpen Tryd.prog) : DB W := by
  rw [MakeChecks.laidMetH_plain _ _ _ (by kernel_rfl)] at h
  exact db_plain h
theorem vMD {W : World} (h : laidMetH Tryd.prog [("math/bits.deBruijn64tab", Rows.laid_math_bits_deBruijn64tab), ("unicode/utf8.acceptRanges", Rows.laid_unicode_utf8_acceptRanges), ("unicode/utf8.first", Rows.laid_unicode_utf8_first)] W) (hs : W.ShapedOpen Tryd.prog) : ML W ∧ DB W := by
  rw [MakeChecks.laidMetH_plain _ _ _ (by kernel_rfl)] at h
  exact ⟨ml_shape hs, db_plain h⟩
end Go.Proofs.YthgnhcjbjdhjfaaDoor
