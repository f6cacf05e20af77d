/-
  No cell of these rows narrows 'for every input' (looked for: loops, veiled, ifaces, maps, wideKeys, modest, calm, conditions, laid).
  DERIVED. THE GIVEN ROWS OF THIS SEAT. 6 by the template 'for every input the law returns true; each argument reads behind the call as it read before'; 0 by the template 'total and deterministic' (their statements: YtpcmobbenhppbaaTotals.lean).
  GIVEN WITH THE SEED: the statements are not yours to turn. If you find one false, say at which input.
  Laid BY PROGRAM, IN A SANDBOX (cutbox-rows.mjs): the forced cells as the released guide's own fill.sh prints them over the translation 5cbd759741044f7a… (all of the seat's roots in one cut). By AI agents, Wed Nov 11 2026. No macro, syntax, notation, axiom, sorry.
-/
import Derived.Test.YtpcmobbenhppbaaChecked
import GoSem.Claim
import GoSem.ClaimJoined
import GoSem.ClaimMapViews
import Derived.JoinedTies
import Derived.KernelRfl
namespace Go.Proofs.Ytpcmobbenhppbaa
/- THE CELL 'sum', in the pinned program and in every row, IS THE sha256 OF THE DUMP (.gsa) THAT YtpcmobbenhppbaaProg.lean LOADS. Nothing in Lean hashes anything: it is a label: what it is worth is what the hold of that sum in a sandbox is worth. -/
noncomputable def Try.pinned : Pinned := { name := "ytpcmobbenhppbaa", sum := "5cbd759741044f7a334846bfb3fb56c8e2d864d0886ffb0162a54561b8d04fc2", checked := Try.checked }
namespace Rows
def none {H : Type} : Left H := { results := [], args := [] }

/-- 'laws.FnCrossings': WHATEVER THE INPUT: true; the input reads as it did. -/
def fnCrossingsSpec : ChangeSpec := { name := "fnCrossings", fn := fun _ => fun
  | [d] => { results := [.lit (.bool true)], args := [d] }
  | _ => none }
def fnCrossingsRow : OpenClaim := { program := "ytpcmobbenhppbaa", sum := "5cbd759741044f7a334846bfb3fb56c8e2d864d0886ffb0162a54561b8d04fc2", func := "loop.example/g03003/laws.FnCrossings", spec := "fnCrossings", unfollowed := true, recurses := true, apart := false }
def FnCrossingsSaid : Prop := fnCrossingsRow.holds Try.pinned (OpenSpec.ofChange fnCrossingsSpec)

/-- ITS FALSE NEIGHBOUR: 'it returns false'. Refute it at one input. -/
def fnCrossingsWrong : ChangeSpec := { name := "fnCrossings", fn := fun _ => fun
  | [d] => { results := [.lit (.bool false)], args := [d] }
  | _ => none }
def FnCrossingsWrongFalsely : Prop := fnCrossingsRow.holds Try.pinned (OpenSpec.ofChange fnCrossingsWrong)

/-- 'laws.FnExactCrossingsOf': WHATEVER THE INPUT: true; the input reads as it did. -/
def fnExactCrossingsOfSpec : ChangeSpec := { name := "fnExactCrossingsOf", fn := fun _ => fun
  | [d] => { results := [.lit (.bool true)], args := [d] }
  | _ => none }
def fnExactCrossingsOfRow : OpenClaim := { program := "ytpcmobbenhppbaa", sum := "5cbd759741044f7a334846bfb3fb56c8e2d864d0886ffb0162a54561b8d04fc2", func := "loop.example/g03003/laws.FnExactCrossingsOf", spec := "fnExactCrossingsOf", unfollowed := true, recurses := true, apart := false }
def FnExactCrossingsOfSaid : Prop := fnExactCrossingsOfRow.holds Try.pinned (OpenSpec.ofChange fnExactCrossingsOfSpec)

/-- ITS FALSE NEIGHBOUR: 'it returns false'. Refute it at one input. -/
def fnExactCrossingsOfWrong : ChangeSpec := { name := "fnExactCrossingsOf", fn := fun _ => fun
  | [d] => { results := [.lit (.bool false)], args := [d] }
  | _ => none }
def FnExactCrossingsOfWrongFalsely : Prop := fnExactCrossingsOfRow.holds Try.pinned (OpenSpec.ofChange fnExactCrossingsOfWrong)

/-- 'laws.FnExactIsChecked': WHATEVER THE INPUT: true; the input reads as it did. -/
def fnExactIsCheckedSpec : ChangeSpec := { name := "fnExactIsChecked", fn := fun _ => fun
  | [d1, d2] => { results := [.lit (.bool true)], args := [d1, d2] }
  | _ => none }
def fnExactIsCheckedRow : OpenClaim := { program := "ytpcmobbenhppbaa", sum := "5cbd759741044f7a334846bfb3fb56c8e2d864d0886ffb0162a54561b8d04fc2", func := "loop.example/g03003/laws.FnExactIsChecked", spec := "fnExactIsChecked", unfollowed := true, recurses := true, apart := false }
def FnExactIsCheckedSaid : Prop := fnExactIsCheckedRow.holds Try.pinned (OpenSpec.ofChange fnExactIsCheckedSpec)

/-- ITS FALSE NEIGHBOUR: 'it returns false'. Refute it at one input. -/
def fnExactIsCheckedWrong : ChangeSpec := { name := "fnExactIsChecked", fn := fun _ => fun
  | [d1, d2] => { results := [.lit (.bool false)], args := [d1, d2] }
  | _ => none }
def FnExactIsCheckedWrongFalsely : Prop := fnExactIsCheckedRow.holds Try.pinned (OpenSpec.ofChange fnExactIsCheckedWrong)

/-- 'laws.FnExactUncheckedIn': WHATEVER THE INPUT: true; the input reads as it did. -/
def fnExactUncheckedInSpec : ChangeSpec := { name := "fnExactUncheckedIn", fn := fun _ => fun
  | [d1, d2] => { results := [.lit (.bool true)], args := [d1, d2] }
  | _ => none }
def fnExactUncheckedInRow : OpenClaim := { program := "ytpcmobbenhppbaa", sum := "5cbd759741044f7a334846bfb3fb56c8e2d864d0886ffb0162a54561b8d04fc2", func := "loop.example/g03003/laws.FnExactUncheckedIn", spec := "fnExactUncheckedIn", unfollowed := true, recurses := true, apart := false }
def FnExactUncheckedInSaid : Prop := fnExactUncheckedInRow.holds Try.pinned (OpenSpec.ofChange fnExactUncheckedInSpec)

/-- ITS FALSE NEIGHBOUR: 'it returns false'. Refute it at one input. -/
def fnExactUncheckedInWrong : ChangeSpec := { name := "fnExactUncheckedIn", fn := fun _ => fun
  | [d1, d2] => { results := [.lit (.bool false)], args := [d1, d2] }
  | _ => none }
def FnExactUncheckedInWrongFalsely : Prop := fnExactUncheckedInRow.holds Try.pinned (OpenSpec.ofChange fnExactUncheckedInWrong)

/-- 'laws.FnExactCrossedBy': WHATEVER THE INPUT: true; the input reads as it did. -/
def fnExactCrossedBySpec : ChangeSpec := { name := "fnExactCrossedBy", fn := fun _ => fun
  | [d1, d2] => { results := [.lit (.bool true)], args := [d1, d2] }
  | _ => none }
def fnExactCrossedByRow : OpenClaim := { program := "ytpcmobbenhppbaa", sum := "5cbd759741044f7a334846bfb3fb56c8e2d864d0886ffb0162a54561b8d04fc2", func := "loop.example/g03003/laws.FnExactCrossedBy", spec := "fnExactCrossedBy", unfollowed := true, recurses := true, apart := false }
def FnExactCrossedBySaid : Prop := fnExactCrossedByRow.holds Try.pinned (OpenSpec.ofChange fnExactCrossedBySpec)

/-- ITS FALSE NEIGHBOUR: 'it returns false'. Refute it at one input. -/
def fnExactCrossedByWrong : ChangeSpec := { name := "fnExactCrossedBy", fn := fun _ => fun
  | [d1, d2] => { results := [.lit (.bool false)], args := [d1, d2] }
  | _ => none }
def FnExactCrossedByWrongFalsely : Prop := fnExactCrossedByRow.holds Try.pinned (OpenSpec.ofChange fnExactCrossedByWrong)

/-- 'laws.FnExactCheckedShare': WHATEVER THE INPUT: true; the input reads as it did. -/
def fnExactCheckedShareSpec : ChangeSpec := { name := "fnExactCheckedShare", fn := fun _ => fun
  | [d] => { results := [.lit (.bool true)], args := [d] }
  | _ => none }
def fnExactCheckedShareRow : OpenClaim := { program := "ytpcmobbenhppbaa", sum := "5cbd759741044f7a334846bfb3fb56c8e2d864d0886ffb0162a54561b8d04fc2", func := "loop.example/g03003/laws.FnExactCheckedShare", spec := "fnExactCheckedShare", unfollowed := true, recurses := true, apart := false }
def FnExactCheckedShareSaid : Prop := fnExactCheckedShareRow.holds Try.pinned (OpenSpec.ofChange fnExactCheckedShareSpec)

/-- ITS FALSE NEIGHBOUR: 'it returns false'. Refute it at one input. -/
def fnExactCheckedShareWrong : ChangeSpec := { name := "fnExactCheckedShare", fn := fun _ => fun
  | [d] => { results := [.lit (.bool false)], args := [d] }
  | _ => none }
def FnExactCheckedShareWrongFalsely : Prop := fnExactCheckedShareRow.holds Try.pinned (OpenSpec.ofChange fnExactCheckedShareWrong)

/- THE SECOND FORM. 'bulk': how many values and letters a reading holds, each counted each time it is reached (what is shared counts as often as it is met; a slice's spare places count too). A statement '..UptoSaid' is the law's where the arguments, and the package variables that the reading takes, are together of bulk at most 1048576: NARROWER than '..Said'. Prove '..Said' where nothing that the law and all that it calls make is longer than what came in: it says more and counts as full. Else prove '..UptoSaid'. A law counts once. -/
mutual
def uptoBulk {H : Type} : DataW H → Nat
  | .lit (.string bytes) => bytes.length + 1
  | .lit _ => 1
  | .nil => 1
  | .ptr d => uptoBulk d + 1
  | .slice elems spare => uptoBulkAll elems + uptoBulkAll spare + 1
  | .agg parts => uptoBulkAll parts + 1
  | .iface _ d => uptoBulk d + 1
  | .map entries => uptoBulkEntries entries + 1
  | .held _ => 1
def uptoBulkAll {H : Type} : List (DataW H) → Nat
  | [] => 0
  | d :: r => uptoBulk d + uptoBulkAll r
def uptoBulkEntries {H : Type} : List (Lit × DataW H) → Nat
  | [] => 0
  | x :: r => uptoBulkEntry x + uptoBulkEntries r
def uptoBulkEntry {H : Type} : Lit × DataW H → Nat
  | (.string bytes, d) => bytes.length + uptoBulk d + 1
  | (_, d) => uptoBulk d + 1
 end
def uptoSmall : (H : Type) → List (DataW H) → Bool := fun _ ds => decide (uptoBulkAll ds ≤ 1048576)
def OpenSpec.upto (s : _root_.Go.ChangeSpec) : _root_.Go.OpenSpec := { _root_.Go.OpenSpec.ofChange s with cond := some uptoSmall }

/-- 'laws.FnCrossings', WHERE WHAT IT READS IS OF BULK AT MOST 1048576: true; the input reads as it did. -/
def fnCrossingsUptoRow : OpenClaim := { program := "ytpcmobbenhppbaa", sum := "5cbd759741044f7a334846bfb3fb56c8e2d864d0886ffb0162a54561b8d04fc2", func := "loop.example/g03003/laws.FnCrossings", spec := "fnCrossings", unfollowed := true, recurses := true, apart := false, narrowed := true }
def FnCrossingsUptoSaid : Prop := fnCrossingsUptoRow.holds Try.pinned (OpenSpec.upto fnCrossingsSpec)

/-- 'laws.FnExactCrossingsOf', WHERE WHAT IT READS IS OF BULK AT MOST 1048576: true; the input reads as it did. -/
def fnExactCrossingsOfUptoRow : OpenClaim := { program := "ytpcmobbenhppbaa", sum := "5cbd759741044f7a334846bfb3fb56c8e2d864d0886ffb0162a54561b8d04fc2", func := "loop.example/g03003/laws.FnExactCrossingsOf", spec := "fnExactCrossingsOf", unfollowed := true, recurses := true, apart := false, narrowed := true }
def FnExactCrossingsOfUptoSaid : Prop := fnExactCrossingsOfUptoRow.holds Try.pinned (OpenSpec.upto fnExactCrossingsOfSpec)

/-- 'laws.FnExactIsChecked', WHERE WHAT IT READS IS OF BULK AT MOST 1048576: true; the input reads as it did. -/
def fnExactIsCheckedUptoRow : OpenClaim := { program := "ytpcmobbenhppbaa", sum := "5cbd759741044f7a334846bfb3fb56c8e2d864d0886ffb0162a54561b8d04fc2", func := "loop.example/g03003/laws.FnExactIsChecked", spec := "fnExactIsChecked", unfollowed := true, recurses := true, apart := false, narrowed := true }
def FnExactIsCheckedUptoSaid : Prop := fnExactIsCheckedUptoRow.holds Try.pinned (OpenSpec.upto fnExactIsCheckedSpec)

/-- 'laws.FnExactUncheckedIn', WHERE WHAT IT READS IS OF BULK AT MOST 1048576: true; the input reads as it did. -/
def fnExactUncheckedInUptoRow : OpenClaim := { program := "ytpcmobbenhppbaa", sum := "5cbd759741044f7a334846bfb3fb56c8e2d864d0886ffb0162a54561b8d04fc2", func := "loop.example/g03003/laws.FnExactUncheckedIn", spec := "fnExactUncheckedIn", unfollowed := true, recurses := true, apart := false, narrowed := true }
def FnExactUncheckedInUptoSaid : Prop := fnExactUncheckedInUptoRow.holds Try.pinned (OpenSpec.upto fnExactUncheckedInSpec)

/-- 'laws.FnExactCrossedBy', WHERE WHAT IT READS IS OF BULK AT MOST 1048576: true; the input reads as it did. -/
def fnExactCrossedByUptoRow : OpenClaim := { program := "ytpcmobbenhppbaa", sum := "5cbd759741044f7a334846bfb3fb56c8e2d864d0886ffb0162a54561b8d04fc2", func := "loop.example/g03003/laws.FnExactCrossedBy", spec := "fnExactCrossedBy", unfollowed := true, recurses := true, apart := false, narrowed := true }
def FnExactCrossedByUptoSaid : Prop := fnExactCrossedByUptoRow.holds Try.pinned (OpenSpec.upto fnExactCrossedBySpec)

/-- 'laws.FnExactCheckedShare', WHERE WHAT IT READS IS OF BULK AT MOST 1048576: true; the input reads as it did. -/
def fnExactCheckedShareUptoRow : OpenClaim := { program := "ytpcmobbenhppbaa", sum := "5cbd759741044f7a334846bfb3fb56c8e2d864d0886ffb0162a54561b8d04fc2", func := "loop.example/g03003/laws.FnExactCheckedShare", spec := "fnExactCheckedShare", unfollowed := true, recurses := true, apart := false, narrowed := true }
def FnExactCheckedShareUptoSaid : Prop := fnExactCheckedShareUptoRow.holds Try.pinned (OpenSpec.upto fnExactCheckedShareSpec)

end Rows
end Go.Proofs.Ytpcmobbenhppbaa
