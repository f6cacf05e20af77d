/-
  What the listed variable (the table of lowest bits) gives the walks of chapter 10.
-/
import Derived.Test.YthgnhcjbjdhjfaaGreatDoorCards
import Derived.Test.YthgnhcjbjdhjfaaGreatDoorTie
import Derived.Test.YthgnhcjbjdhjfaaGreatDoorItems
import Derived.Test.YthgnhcjbjdhjfaaGreatDoorHanded
import Derived.Shelf.Vars
import Derived.Lib.LaidTab
import Derived.PinnedBridge
import Derived.ProofKit
import Derived.LaidMore
import Derived.LaidOnce
import Derived.Lay
namespace Go.Proofs.YthgnhcjbjdhjfaaGreatDoor
open Go.RowKit

theorem db_data : (Rows.laid_math_bits_deBruijn64tab : DataW Unit) = Lib.tabData .u8 (Lib.deBruijn64tab.map fun (k : Nat) => (k : Int)) := by kernel_rfl
theorem db_named : Tryz.prog.globalNamed "math/bits.deBruijn64tab" = some 0 := by kernel_rfl
theorem db_plain {W : World} {rest : List (String × DataW Unit)} (h : Go.laidMet Tryz.prog (("math/bits.deBruijn64tab", Rows.laid_math_bits_deBruijn64tab) :: rest) W) : DB W := by
  rw [db_data] at h
  have h2 := Lib.tabIs_of_head (t := 210) (e := 5) (n := 64) db_named (by kernel_rfl) Tryz.underlying210 Tryz.underlying5 (by kernel_rfl) (by kernel_rfl) h
  intro j hj
  have h3 := h2.cell db_named j (by simpa using hj)
  rw [h3, List.getD_eq_getElem?_getD, List.getD_eq_getElem?_getD, List.getElem?_map, List.getElem?_eq_getElem hj]
  rfl
theorem vD {W : World} (h : laidMetH Tryz.prog [("math/bits.deBruijn64tab", Rows.laid_math_bits_deBruijn64tab)] W) (_ : W.ShapedOpen Tryz.prog) : DB W := by
  rw [MakeChecks.laidMetH_plain _ _ _ (by kernel_rfl)] at h
  exact db_plain h
end Go.Proofs.YthgnhcjbjdhjfaaGreatDoor
