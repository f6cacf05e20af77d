/-
  What the world's shape gives the walks (no table of lowest bits).
-/
import Derived.Test.YtgjijmcedonlmaaGreatDoorCards
import Derived.Test.YtgjijmcedonlmaaGreatDoorTie
import Derived.Test.YtgjijmcedonlmaaGreatDoorPatImplB
import Derived.Test.YtgjijmcedonlmaaGreatDoorHanded
import Derived.Shelf.Vars
import Derived.Lib.LaidTab
import Derived.PinnedBridge
import Derived.ProofKit
import Derived.LaidMore
import Derived.LaidOnce
import Derived.Lay
namespace Go.Proofs.YtgjijmcedonlmaaGreatDoor
open Go.RowKit

theorem ml_shape {W : World} (h : W.ShapedOpen Tryz.prog) : ML W :=
  cell_of_shapedOpen_int (P := Tryz.prog) (g := 0) (t := 3) (zero := #[.int .i64 0]) h (of_decide_eq_true (by kernel_rfl)) (by kernel_rfl) rfl (by kernel_rfl) (by kernel_rfl) Tryz.underlying3
theorem vM {W : World} {L : List (String × DataW Unit)} (_ : laidMetH Tryz.prog L W) (h : W.ShapedOpen Tryz.prog) : ML W := ml_shape h
end Go.Proofs.YtgjijmcedonlmaaGreatDoor
