/-
  What the list of six package-level variables gives the walks (the table of powers of ten, three sentinels), and that start-up leaves them so.
-/
import Derived.Test.YtkiopplnbkoljaaDoorCards
import Derived.Test.YtkiopplnbkoljaaDoorTie
import Derived.Test.YtkiopplnbkoljaaDoorParse
import Derived.ProofKit
import Derived.LaidMore
import Derived.Stop.LaidErr
import Derived.Stop.Joined
namespace Go.Proofs.YtkiopplnbkoljaaDoor
open Go.ChangeShapes Go.WideShapes Go.ChangeAt Go.RowKit

theorem own : ownKnob Tryd.prog.godebug = none := by kernel_rfl
theorem tErr : (Tryd.prog.globals[0]?).map (·.type) = some 41 := by kernel_rfl
theorem tSyn : (Tryd.prog.globals[1]?).map (·.type) = some 41 := by kernel_rfl
theorem tRng : (Tryd.prog.globals[2]?).map (·.type) = some 41 := by kernel_rfl
theorem tPow : (Tryd.prog.globals[3]?).map (·.type) = some 90 := by kernel_rfl
theorem cells90 : Tryd.prog.cellsOf 90 = 20 := by kernel_rfl
theorem cells77 : Tryd.prog.cellsOf 77 = 1 := by kernel_rfl
theorem cells98 : Tryd.prog.cellsOf 98 = 1 := by kernel_rfl
theorem cells9 : Tryd.prog.cellsOf 9 = 1 := by kernel_rfl
theorem powData : (Rows.laid_internal_strconv_uint64pow10 : DataW Unit) = Lib.tabData .u64 Lib.pow10Tab := by kernel_rfl
theorem star : "*" ++ "errors.errorString" = "*errors.errorString" := by decide
theorem row96 (u : TypeId) (h : Tryd.prog.typeName? 3 u = some "*errors.errorString") : u = 96 :=
  typeName_ptr_named (nm := "errors.errorString") (by rw [star]; kernel_rfl) (by kernel_rfl) (by decide) u (by rw [star]; exact h)

theorem vars_of_laid {W : World} (h : laidMetH Tryd.prog Rows.fnExactParseIntRow.laid W) : ∃ a p q, Vars W a p q := by
  rw [MakeChecks.laidMetH_plain _ _ _ (by kernel_rfl)] at h
  have h2 : laidMet Tryd.prog [("internal/strconv.uint64pow10", Rows.laid_internal_strconv_uint64pow10), ("strconv.ErrRange", Rows.laid_strconv_ErrRange), ("strconv.ErrSyntax", Rows.laid_strconv_ErrSyntax), ("loop.example/g03003/impl.errNotInteger", Rows.laid_loop_example_g03003_impl_errNotInteger)] W := h.tail.tail
  have h3 := h2.tail
  rw [powData] at h2
  obtain ⟨a1, s1, e1, -⟩ := laid_sentinel h3 gRng tRng Tryd.underlying41 row96 Tryd.underlying96 Tryd.underlying98 rfl rfl Tryd.underlying9 cells98 cells9
  obtain ⟨a2, s2, e2, -⟩ := laid_sentinel h3.tail gSyn tSyn Tryd.underlying41 row96 Tryd.underlying96 Tryd.underlying98 rfl rfl Tryd.underlying9 cells98 cells9
  obtain ⟨a3, s3, e3, -⟩ := laid_sentinel h3.tail.tail gErr tErr Tryd.underlying41 row96 Tryd.underlying96 Tryd.underlying98 rfl rfl Tryd.underlying9 cells98 cells9
  exact ⟨a3, _, _, Lib.tabIs_of_head gPow tPow Tryd.underlying90 Tryd.underlying77 cells77 cells90 h2, e3, e2, e1⟩

theorem door_met (os : Os) (args : Array Value) : laidMetH Tryd.prog Rows.fnExactParseIntRow.laid ((World.doorLaid Tryd.prog 81 os).forCall (fun _ _ => 0) ⟨#[], args, []⟩).memory :=
  laidMetH_of_parts3 (fuel := 8) (laidMet_of_run' 8 (by kernel_rfl) (by kernel_rfl)) (by kernel_rfl) (by kernel_rfl)
end Go.Proofs.YtkiopplnbkoljaaDoor
