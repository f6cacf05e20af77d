/-
  No cell of these rows narrows 'for every input' (looked for: loops, veiled, ifaces, maps, wideKeys, modest, calm, conditions, laid).
  DERIVED. THE GIVEN ROWS OF THIS SEAT. 7 by the template 'for every input the law returns true; each argument reads behind the call as it read before'; 0 by the template 'total and deterministic' (their statements: YtbickkphiofmlaaTotals.lean).
  GIVEN WITH THE SEED: the statements are not yours to turn. If you find one false, say at which input.
  Laid BY PROGRAM, IN A SANDBOX (cutbox-rows.mjs): the forced cells as the released guide's own fill.sh prints them over the translation 0f4452d902747922… (all of the seat's roots in one cut). By AI agents, Wed Nov 11 2026. No macro, syntax, notation, axiom, sorry.
-/
import Derived.Test.YtbickkphiofmlaaChecked
import GoSem.Claim
import GoSem.ClaimJoined
import GoSem.ClaimMapViews
import Derived.JoinedTies
import Derived.KernelRfl
namespace Go.Proofs.Ytbickkphiofmlaa
/- THE CELL 'sum', in the pinned program and in every row, IS THE sha256 OF THE DUMP (.gsa) THAT YtbickkphiofmlaaProg.lean LOADS. Nothing in Lean hashes anything: it is a label: what it is worth is what the hold of that sum in a sandbox is worth. -/
noncomputable def Try.pinned : Pinned := { name := "ytbickkphiofmlaa", sum := "0f4452d9027479224092c1186ba0bbb4e5c3d1954f4536de92a74395b870202e", checked := Try.checked }
namespace Rows
def none {H : Type} : Left H := { results := [], args := [] }

/-- 'laws.FnGrids': WHATEVER THE INPUT: true; the input reads as it did. -/
def fnGridsSpec : ChangeSpec := { name := "fnGrids", fn := fun _ => fun
  | [d] => { results := [.lit (.bool true)], args := [d] }
  | _ => none }
def fnGridsRow : OpenClaim := { program := "ytbickkphiofmlaa", sum := "0f4452d9027479224092c1186ba0bbb4e5c3d1954f4536de92a74395b870202e", func := "loop.example/g03003/laws.FnGrids", spec := "fnGrids", inPlace := ["internal/bytealg.MakeNoZero"], unfollowed := true, recurses := true, apart := false }
def FnGridsSaid : Prop := fnGridsRow.holds Try.pinned (OpenSpec.ofChange fnGridsSpec)

/-- ITS FALSE NEIGHBOUR: 'it returns false'. Refute it at one input. -/
def fnGridsWrong : ChangeSpec := { name := "fnGrids", fn := fun _ => fun
  | [d] => { results := [.lit (.bool false)], args := [d] }
  | _ => none }
def FnGridsWrongFalsely : Prop := fnGridsRow.holds Try.pinned (OpenSpec.ofChange fnGridsWrong)

/-- 'laws.FnExactIsGrid': WHATEVER THE INPUT: true; the input reads as it did. -/
def fnExactIsGridSpec : ChangeSpec := { name := "fnExactIsGrid", fn := fun _ => fun
  | [d] => { results := [.lit (.bool true)], args := [d] }
  | _ => none }
def fnExactIsGridRow : OpenClaim := { program := "ytbickkphiofmlaa", sum := "0f4452d9027479224092c1186ba0bbb4e5c3d1954f4536de92a74395b870202e", func := "loop.example/g03003/laws.FnExactIsGrid", spec := "fnExactIsGrid", unfollowed := true, recurses := true, apart := false }
def FnExactIsGridSaid : Prop := fnExactIsGridRow.holds Try.pinned (OpenSpec.ofChange fnExactIsGridSpec)

/-- ITS FALSE NEIGHBOUR: 'it returns false'. Refute it at one input. -/
def fnExactIsGridWrong : ChangeSpec := { name := "fnExactIsGrid", fn := fun _ => fun
  | [d] => { results := [.lit (.bool false)], args := [d] }
  | _ => none }
def FnExactIsGridWrongFalsely : Prop := fnExactIsGridRow.holds Try.pinned (OpenSpec.ofChange fnExactIsGridWrong)

/-- 'laws.FnExactIsWhite': WHATEVER THE INPUT: true; the input reads as it did. -/
def fnExactIsWhiteSpec : ChangeSpec := { name := "fnExactIsWhite", fn := fun _ => fun
  | [d1, d2] => { results := [.lit (.bool true)], args := [d1, d2] }
  | _ => none }
def fnExactIsWhiteRow : OpenClaim := { program := "ytbickkphiofmlaa", sum := "0f4452d9027479224092c1186ba0bbb4e5c3d1954f4536de92a74395b870202e", func := "loop.example/g03003/laws.FnExactIsWhite", spec := "fnExactIsWhite", unfollowed := true, recurses := true, apart := false }
def FnExactIsWhiteSaid : Prop := fnExactIsWhiteRow.holds Try.pinned (OpenSpec.ofChange fnExactIsWhiteSpec)

/-- ITS FALSE NEIGHBOUR: 'it returns false'. Refute it at one input. -/
def fnExactIsWhiteWrong : ChangeSpec := { name := "fnExactIsWhite", fn := fun _ => fun
  | [d1, d2] => { results := [.lit (.bool false)], args := [d1, d2] }
  | _ => none }
def FnExactIsWhiteWrongFalsely : Prop := fnExactIsWhiteRow.holds Try.pinned (OpenSpec.ofChange fnExactIsWhiteWrong)

/-- 'laws.FnExactTurnGrid': WHATEVER THE INPUT: true; the input reads as it did. -/
def fnExactTurnGridSpec : ChangeSpec := { name := "fnExactTurnGrid", fn := fun _ => fun
  | [d] => { results := [.lit (.bool true)], args := [d] }
  | _ => none }
def fnExactTurnGridRow : OpenClaim := { program := "ytbickkphiofmlaa", sum := "0f4452d9027479224092c1186ba0bbb4e5c3d1954f4536de92a74395b870202e", func := "loop.example/g03003/laws.FnExactTurnGrid", spec := "fnExactTurnGrid", unfollowed := true, recurses := true, apart := false }
def FnExactTurnGridSaid : Prop := fnExactTurnGridRow.holds Try.pinned (OpenSpec.ofChange fnExactTurnGridSpec)

/-- ITS FALSE NEIGHBOUR: 'it returns false'. Refute it at one input. -/
def fnExactTurnGridWrong : ChangeSpec := { name := "fnExactTurnGrid", fn := fun _ => fun
  | [d] => { results := [.lit (.bool false)], args := [d] }
  | _ => none }
def FnExactTurnGridWrongFalsely : Prop := fnExactTurnGridRow.holds Try.pinned (OpenSpec.ofChange fnExactTurnGridWrong)

/-- 'laws.FnExactIsSymmetric': WHATEVER THE INPUT: true; the input reads as it did. -/
def fnExactIsSymmetricSpec : ChangeSpec := { name := "fnExactIsSymmetric", fn := fun _ => fun
  | [d] => { results := [.lit (.bool true)], args := [d] }
  | _ => none }
def fnExactIsSymmetricRow : OpenClaim := { program := "ytbickkphiofmlaa", sum := "0f4452d9027479224092c1186ba0bbb4e5c3d1954f4536de92a74395b870202e", func := "loop.example/g03003/laws.FnExactIsSymmetric", spec := "fnExactIsSymmetric", unfollowed := true, recurses := true, apart := false }
def FnExactIsSymmetricSaid : Prop := fnExactIsSymmetricRow.holds Try.pinned (OpenSpec.ofChange fnExactIsSymmetricSpec)

/-- ITS FALSE NEIGHBOUR: 'it returns false'. Refute it at one input. -/
def fnExactIsSymmetricWrong : ChangeSpec := { name := "fnExactIsSymmetric", fn := fun _ => fun
  | [d] => { results := [.lit (.bool false)], args := [d] }
  | _ => none }
def FnExactIsSymmetricWrongFalsely : Prop := fnExactIsSymmetricRow.holds Try.pinned (OpenSpec.ofChange fnExactIsSymmetricWrong)

/-- 'laws.FnExactGridText': WHATEVER THE INPUT: true; the input reads as it did. -/
def fnExactGridTextSpec : ChangeSpec := { name := "fnExactGridText", fn := fun _ => fun
  | [d] => { results := [.lit (.bool true)], args := [d] }
  | _ => none }
def fnExactGridTextRow : OpenClaim := { program := "ytbickkphiofmlaa", sum := "0f4452d9027479224092c1186ba0bbb4e5c3d1954f4536de92a74395b870202e", func := "loop.example/g03003/laws.FnExactGridText", spec := "fnExactGridText", inPlace := ["internal/bytealg.MakeNoZero"], unfollowed := true, recurses := true, apart := false }
def FnExactGridTextSaid : Prop := fnExactGridTextRow.holds Try.pinned (OpenSpec.ofChange fnExactGridTextSpec)

/-- ITS FALSE NEIGHBOUR: 'it returns false'. Refute it at one input. -/
def fnExactGridTextWrong : ChangeSpec := { name := "fnExactGridText", fn := fun _ => fun
  | [d] => { results := [.lit (.bool false)], args := [d] }
  | _ => none }
def FnExactGridTextWrongFalsely : Prop := fnExactGridTextRow.holds Try.pinned (OpenSpec.ofChange fnExactGridTextWrong)

/-- 'laws.FnExactParseGrid': WHATEVER THE INPUT: true; the input reads as it did. -/
def fnExactParseGridSpec : ChangeSpec := { name := "fnExactParseGrid", fn := fun _ => fun
  | [d] => { results := [.lit (.bool true)], args := [d] }
  | _ => none }
def fnExactParseGridRow : OpenClaim := { program := "ytbickkphiofmlaa", sum := "0f4452d9027479224092c1186ba0bbb4e5c3d1954f4536de92a74395b870202e", func := "loop.example/g03003/laws.FnExactParseGrid", spec := "fnExactParseGrid", inPlace := ["internal/bytealg.MakeNoZero"], unfollowed := true, recurses := true, apart := false }
def FnExactParseGridSaid : Prop := fnExactParseGridRow.holds Try.pinned (OpenSpec.ofChange fnExactParseGridSpec)

/-- ITS FALSE NEIGHBOUR: 'it returns false'. Refute it at one input. -/
def fnExactParseGridWrong : ChangeSpec := { name := "fnExactParseGrid", fn := fun _ => fun
  | [d] => { results := [.lit (.bool false)], args := [d] }
  | _ => none }
def FnExactParseGridWrongFalsely : Prop := fnExactParseGridRow.holds Try.pinned (OpenSpec.ofChange fnExactParseGridWrong)

/- THE SECOND FORM. 'bulk': how many values and letters a reading holds, each counted each time it is reached (what is shared counts as often as it is met; a slice's spare places count too). A statement '..UptoSaid' is the law's where the arguments, and the package variables that the reading takes, are together of bulk at most 1048576: NARROWER than '..Said'. Prove '..Said' where nothing that the law and all that it calls make is longer than what came in: it says more and counts as full. Else prove '..UptoSaid'. A law counts once. -/
mutual
def uptoBulk {H : Type} : DataW H → Nat
  | .lit (.string bytes) => bytes.length + 1
  | .lit _ => 1
  | .nil => 1
  | .ptr d => uptoBulk d + 1
  | .slice elems spare => uptoBulkAll elems + uptoBulkAll spare + 1
  | .agg parts => uptoBulkAll parts + 1
  | .iface _ d => uptoBulk d + 1
  | .map entries => uptoBulkEntries entries + 1
  | .held _ => 1
def uptoBulkAll {H : Type} : List (DataW H) → Nat
  | [] => 0
  | d :: r => uptoBulk d + uptoBulkAll r
def uptoBulkEntries {H : Type} : List (Lit × DataW H) → Nat
  | [] => 0
  | x :: r => uptoBulkEntry x + uptoBulkEntries r
def uptoBulkEntry {H : Type} : Lit × DataW H → Nat
  | (.string bytes, d) => bytes.length + uptoBulk d + 1
  | (_, d) => uptoBulk d + 1
 end
def uptoSmall : (H : Type) → List (DataW H) → Bool := fun _ ds => decide (uptoBulkAll ds ≤ 1048576)
def OpenSpec.upto (s : _root_.Go.ChangeSpec) : _root_.Go.OpenSpec := { _root_.Go.OpenSpec.ofChange s with cond := some uptoSmall }

/-- 'laws.FnGrids', WHERE WHAT IT READS IS OF BULK AT MOST 1048576: true; the input reads as it did. -/
def fnGridsUptoRow : OpenClaim := { program := "ytbickkphiofmlaa", sum := "0f4452d9027479224092c1186ba0bbb4e5c3d1954f4536de92a74395b870202e", func := "loop.example/g03003/laws.FnGrids", spec := "fnGrids", inPlace := ["internal/bytealg.MakeNoZero"], unfollowed := true, recurses := true, apart := false, narrowed := true }
def FnGridsUptoSaid : Prop := fnGridsUptoRow.holds Try.pinned (OpenSpec.upto fnGridsSpec)

/-- 'laws.FnExactIsGrid', WHERE WHAT IT READS IS OF BULK AT MOST 1048576: true; the input reads as it did. -/
def fnExactIsGridUptoRow : OpenClaim := { program := "ytbickkphiofmlaa", sum := "0f4452d9027479224092c1186ba0bbb4e5c3d1954f4536de92a74395b870202e", func := "loop.example/g03003/laws.FnExactIsGrid", spec := "fnExactIsGrid", unfollowed := true, recurses := true, apart := false, narrowed := true }
def FnExactIsGridUptoSaid : Prop := fnExactIsGridUptoRow.holds Try.pinned (OpenSpec.upto fnExactIsGridSpec)

/-- 'laws.FnExactIsWhite', WHERE WHAT IT READS IS OF BULK AT MOST 1048576: true; the input reads as it did. -/
def fnExactIsWhiteUptoRow : OpenClaim := { program := "ytbickkphiofmlaa", sum := "0f4452d9027479224092c1186ba0bbb4e5c3d1954f4536de92a74395b870202e", func := "loop.example/g03003/laws.FnExactIsWhite", spec := "fnExactIsWhite", unfollowed := true, recurses := true, apart := false, narrowed := true }
def FnExactIsWhiteUptoSaid : Prop := fnExactIsWhiteUptoRow.holds Try.pinned (OpenSpec.upto fnExactIsWhiteSpec)

/-- 'laws.FnExactTurnGrid', WHERE WHAT IT READS IS OF BULK AT MOST 1048576: true; the input reads as it did. -/
def fnExactTurnGridUptoRow : OpenClaim := { program := "ytbickkphiofmlaa", sum := "0f4452d9027479224092c1186ba0bbb4e5c3d1954f4536de92a74395b870202e", func := "loop.example/g03003/laws.FnExactTurnGrid", spec := "fnExactTurnGrid", unfollowed := true, recurses := true, apart := false, narrowed := true }
def FnExactTurnGridUptoSaid : Prop := fnExactTurnGridUptoRow.holds Try.pinned (OpenSpec.upto fnExactTurnGridSpec)

/-- 'laws.FnExactIsSymmetric', WHERE WHAT IT READS IS OF BULK AT MOST 1048576: true; the input reads as it did. -/
def fnExactIsSymmetricUptoRow : OpenClaim := { program := "ytbickkphiofmlaa", sum := "0f4452d9027479224092c1186ba0bbb4e5c3d1954f4536de92a74395b870202e", func := "loop.example/g03003/laws.FnExactIsSymmetric", spec := "fnExactIsSymmetric", unfollowed := true, recurses := true, apart := false, narrowed := true }
def FnExactIsSymmetricUptoSaid : Prop := fnExactIsSymmetricUptoRow.holds Try.pinned (OpenSpec.upto fnExactIsSymmetricSpec)

/-- 'laws.FnExactGridText', WHERE WHAT IT READS IS OF BULK AT MOST 1048576: true; the input reads as it did. -/
def fnExactGridTextUptoRow : OpenClaim := { program := "ytbickkphiofmlaa", sum := "0f4452d9027479224092c1186ba0bbb4e5c3d1954f4536de92a74395b870202e", func := "loop.example/g03003/laws.FnExactGridText", spec := "fnExactGridText", inPlace := ["internal/bytealg.MakeNoZero"], unfollowed := true, recurses := true, apart := false, narrowed := true }
def FnExactGridTextUptoSaid : Prop := fnExactGridTextUptoRow.holds Try.pinned (OpenSpec.upto fnExactGridTextSpec)

/-- 'laws.FnExactParseGrid', WHERE WHAT IT READS IS OF BULK AT MOST 1048576: true; the input reads as it did. -/
def fnExactParseGridUptoRow : OpenClaim := { program := "ytbickkphiofmlaa", sum := "0f4452d9027479224092c1186ba0bbb4e5c3d1954f4536de92a74395b870202e", func := "loop.example/g03003/laws.FnExactParseGrid", spec := "fnExactParseGrid", inPlace := ["internal/bytealg.MakeNoZero"], unfollowed := true, recurses := true, apart := false, narrowed := true }
def FnExactParseGridUptoSaid : Prop := fnExactParseGridUptoRow.holds Try.pinned (OpenSpec.upto fnExactParseGridSpec)

end Rows
end Go.Proofs.Ytbickkphiofmlaa
