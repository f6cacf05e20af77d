/-
  What the listed variables give the walks of chapter 8: the table of powers of ten.
-/
import Derived.Test.YtmhgejljjjmejaaDoorCards
import Derived.Test.YtmhgejljjjmejaaDoorTie
import Derived.Test.YtmhgejljjjmejaaDoorHanded
import Derived.Test.YtmhgejljjjmejaaDoorSlotName
import Derived.Shelf.Vars
import Derived.Lib.LaidTab
import Derived.PinnedBridge
import Derived.ProofKit
import Derived.LaidMore
import Derived.LaidOnce
import Derived.Lay
import Derived.Stop.LaidErr
namespace Go.Proofs.YtmhgejljjjmejaaDoor
open Go.RowKit

theorem pow_data : (Rows.laid_internal_strconv_uint64pow10 : DataW Unit) = Lib.tabData .u64 Lib.pow10Tab := by kernel_rfl
theorem pow_plain {W : World} {rest : List (String × DataW Unit)} (h : Go.laidMet Tryd.prog (("internal/strconv.uint64pow10", Rows.laid_internal_strconv_uint64pow10) :: rest) W) : PT W := by
  rw [pow_data] at h
  exact Lib.tabIs_of_head (t := 121) (e := 40) (n := 20) gPow (by kernel_rfl) Tryd.underlying121 Tryd.underlying40 (by kernel_rfl) (by kernel_rfl) h
theorem vT {W : World} (h : laidMetH Tryd.prog [("math/bits.deBruijn32tab", Rows.laid_math_bits_deBruijn32tab), ("math/bits.deBruijn64tab", Rows.laid_math_bits_deBruijn64tab), ("internal/strconv.uint64pow10", Rows.laid_internal_strconv_uint64pow10)] W) (_ : W.ShapedOpen Tryd.prog) : PT W := by
  rw [MakeChecks.laidMetH_plain _ _ _ (by kernel_rfl)] at h
  exact pow_plain (laidMet.tail (laidMet.tail h))
end Go.Proofs.YtmhgejljjjmejaaDoor
