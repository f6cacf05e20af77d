/-
  No cell of these rows narrows 'for every input' (looked for: loops, veiled, ifaces, maps, wideKeys, modest, calm, conditions, laid).
  DERIVED. THE GIVEN ROWS OF THIS SEAT. 4 by the template 'for every input the law returns true; each argument reads behind the call as it read before'; 0 by the template 'total and deterministic' (their statements: YtpacopebdoflpaaTotals.lean).
  GIVEN WITH THE SEED: the statements are not yours to turn. If you find one false, say at which input.
  Laid BY PROGRAM, IN A SANDBOX (cutbox-rows.mjs): the forced cells as the released guide's own fill.sh prints them over the translation efd570fd3e79d678… (all of the seat's roots in one cut). By AI agents, Wed Nov 11 2026. No macro, syntax, notation, axiom, sorry.
-/
import Derived.Test.YtpacopebdoflpaaChecked
import GoSem.Claim
import GoSem.ClaimJoined
import GoSem.ClaimMapViews
import Derived.JoinedTies
import Derived.KernelRfl
namespace Go.Proofs.Ytpacopebdoflpaa
/- THE CELL 'sum', in the pinned program and in every row, IS THE sha256 OF THE DUMP (.gsa) THAT YtpacopebdoflpaaProg.lean LOADS. Nothing in Lean hashes anything: it is a label: what it is worth is what the hold of that sum in a sandbox is worth. -/
noncomputable def Try.pinned : Pinned := { name := "ytpacopebdoflpaa", sum := "efd570fd3e79d678c829a556cc2a5261596d7838187497cd4567ba3f8f1ae3ab", checked := Try.checked }
namespace Rows
def none {H : Type} : Left H := { results := [], args := [] }

/-- 'laws.FnCrossings': WHATEVER THE INPUT: true; the input reads as it did. -/
def fnCrossingsSpec : ChangeSpec := { name := "fnCrossings", fn := fun _ => fun
  | [d] => { results := [.lit (.bool true)], args := [d] }
  | _ => none }
def fnCrossingsRow : OpenClaim := { program := "ytpacopebdoflpaa", sum := "efd570fd3e79d678c829a556cc2a5261596d7838187497cd4567ba3f8f1ae3ab", func := "loop.example/g03003/laws.FnCrossings", spec := "fnCrossings", unfollowed := true, recurses := true, apart := false }
def FnCrossingsSaid : Prop := fnCrossingsRow.holds Try.pinned (OpenSpec.ofChange fnCrossingsSpec)

/-- ITS FALSE NEIGHBOUR: 'it returns false'. Refute it at one input. -/
def fnCrossingsWrong : ChangeSpec := { name := "fnCrossings", fn := fun _ => fun
  | [d] => { results := [.lit (.bool false)], args := [d] }
  | _ => none }
def FnCrossingsWrongFalsely : Prop := fnCrossingsRow.holds Try.pinned (OpenSpec.ofChange fnCrossingsWrong)

/-- 'laws.FnExactUncheckedIn': WHATEVER THE INPUT: true; the input reads as it did. -/
def fnExactUncheckedInSpec : ChangeSpec := { name := "fnExactUncheckedIn", fn := fun _ => fun
  | [d1, d2] => { results := [.lit (.bool true)], args := [d1, d2] }
  | _ => none }
def fnExactUncheckedInRow : OpenClaim := { program := "ytpacopebdoflpaa", sum := "efd570fd3e79d678c829a556cc2a5261596d7838187497cd4567ba3f8f1ae3ab", func := "loop.example/g03003/laws.FnExactUncheckedIn", spec := "fnExactUncheckedIn", unfollowed := true, recurses := true, apart := false }
def FnExactUncheckedInSaid : Prop := fnExactUncheckedInRow.holds Try.pinned (OpenSpec.ofChange fnExactUncheckedInSpec)

/-- ITS FALSE NEIGHBOUR: 'it returns false'. Refute it at one input. -/
def fnExactUncheckedInWrong : ChangeSpec := { name := "fnExactUncheckedIn", fn := fun _ => fun
  | [d1, d2] => { results := [.lit (.bool false)], args := [d1, d2] }
  | _ => none }
def FnExactUncheckedInWrongFalsely : Prop := fnExactUncheckedInRow.holds Try.pinned (OpenSpec.ofChange fnExactUncheckedInWrong)

/-- 'laws.FnExactIsFill': WHATEVER THE INPUT: true; the input reads as it did. -/
def fnExactIsFillSpec : ChangeSpec := { name := "fnExactIsFill", fn := fun _ => fun
  | [d1, d2] => { results := [.lit (.bool true)], args := [d1, d2] }
  | _ => none }
def fnExactIsFillRow : OpenClaim := { program := "ytpacopebdoflpaa", sum := "efd570fd3e79d678c829a556cc2a5261596d7838187497cd4567ba3f8f1ae3ab", func := "loop.example/g03003/laws.FnExactIsFill", spec := "fnExactIsFill", unfollowed := true, recurses := true, apart := false }
def FnExactIsFillSaid : Prop := fnExactIsFillRow.holds Try.pinned (OpenSpec.ofChange fnExactIsFillSpec)

/-- ITS FALSE NEIGHBOUR: 'it returns false'. Refute it at one input. -/
def fnExactIsFillWrong : ChangeSpec := { name := "fnExactIsFill", fn := fun _ => fun
  | [d1, d2] => { results := [.lit (.bool false)], args := [d1, d2] }
  | _ => none }
def FnExactIsFillWrongFalsely : Prop := fnExactIsFillRow.holds Try.pinned (OpenSpec.ofChange fnExactIsFillWrong)

/-- 'laws.FnExactSlotPattern': WHATEVER THE INPUT: true; the input reads as it did. -/
def fnExactSlotPatternSpec : ChangeSpec := { name := "fnExactSlotPattern", fn := fun _ => fun
  | [d1, d2, d3] => { results := [.lit (.bool true)], args := [d1, d2, d3] }
  | _ => none }
def fnExactSlotPatternRow : OpenClaim := { program := "ytpacopebdoflpaa", sum := "efd570fd3e79d678c829a556cc2a5261596d7838187497cd4567ba3f8f1ae3ab", func := "loop.example/g03003/laws.FnExactSlotPattern", spec := "fnExactSlotPattern", unfollowed := true, recurses := true, apart := false }
def FnExactSlotPatternSaid : Prop := fnExactSlotPatternRow.holds Try.pinned (OpenSpec.ofChange fnExactSlotPatternSpec)

/-- ITS FALSE NEIGHBOUR: 'it returns false'. Refute it at one input. -/
def fnExactSlotPatternWrong : ChangeSpec := { name := "fnExactSlotPattern", fn := fun _ => fun
  | [d1, d2, d3] => { results := [.lit (.bool false)], args := [d1, d2, d3] }
  | _ => none }
def FnExactSlotPatternWrongFalsely : Prop := fnExactSlotPatternRow.holds Try.pinned (OpenSpec.ofChange fnExactSlotPatternWrong)

/- THE SECOND FORM. 'bulk': how many values and letters a reading holds, each counted each time it is reached (what is shared counts as often as it is met; a slice's spare places count too). A statement '..UptoSaid' is the law's where the arguments, and the package variables that the reading takes, are together of bulk at most 1048576: NARROWER than '..Said'. Prove '..Said' where nothing that the law and all that it calls make is longer than what came in: it says more and counts as full. Else prove '..UptoSaid'. A law counts once. -/
mutual
def uptoBulk {H : Type} : DataW H → Nat
  | .lit (.string bytes) => bytes.length + 1
  | .lit _ => 1
  | .nil => 1
  | .ptr d => uptoBulk d + 1
  | .slice elems spare => uptoBulkAll elems + uptoBulkAll spare + 1
  | .agg parts => uptoBulkAll parts + 1
  | .iface _ d => uptoBulk d + 1
  | .map entries => uptoBulkEntries entries + 1
  | .held _ => 1
def uptoBulkAll {H : Type} : List (DataW H) → Nat
  | [] => 0
  | d :: r => uptoBulk d + uptoBulkAll r
def uptoBulkEntries {H : Type} : List (Lit × DataW H) → Nat
  | [] => 0
  | x :: r => uptoBulkEntry x + uptoBulkEntries r
def uptoBulkEntry {H : Type} : Lit × DataW H → Nat
  | (.string bytes, d) => bytes.length + uptoBulk d + 1
  | (_, d) => uptoBulk d + 1
 end
def uptoSmall : (H : Type) → List (DataW H) → Bool := fun _ ds => decide (uptoBulkAll ds ≤ 1048576)
def OpenSpec.upto (s : _root_.Go.ChangeSpec) : _root_.Go.OpenSpec := { _root_.Go.OpenSpec.ofChange s with cond := some uptoSmall }

/-- 'laws.FnCrossings', WHERE WHAT IT READS IS OF BULK AT MOST 1048576: true; the input reads as it did. -/
def fnCrossingsUptoRow : OpenClaim := { program := "ytpacopebdoflpaa", sum := "efd570fd3e79d678c829a556cc2a5261596d7838187497cd4567ba3f8f1ae3ab", func := "loop.example/g03003/laws.FnCrossings", spec := "fnCrossings", unfollowed := true, recurses := true, apart := false, narrowed := true }
def FnCrossingsUptoSaid : Prop := fnCrossingsUptoRow.holds Try.pinned (OpenSpec.upto fnCrossingsSpec)

/-- 'laws.FnExactUncheckedIn', WHERE WHAT IT READS IS OF BULK AT MOST 1048576: true; the input reads as it did. -/
def fnExactUncheckedInUptoRow : OpenClaim := { program := "ytpacopebdoflpaa", sum := "efd570fd3e79d678c829a556cc2a5261596d7838187497cd4567ba3f8f1ae3ab", func := "loop.example/g03003/laws.FnExactUncheckedIn", spec := "fnExactUncheckedIn", unfollowed := true, recurses := true, apart := false, narrowed := true }
def FnExactUncheckedInUptoSaid : Prop := fnExactUncheckedInUptoRow.holds Try.pinned (OpenSpec.upto fnExactUncheckedInSpec)

/-- 'laws.FnExactIsFill', WHERE WHAT IT READS IS OF BULK AT MOST 1048576: true; the input reads as it did. -/
def fnExactIsFillUptoRow : OpenClaim := { program := "ytpacopebdoflpaa", sum := "efd570fd3e79d678c829a556cc2a5261596d7838187497cd4567ba3f8f1ae3ab", func := "loop.example/g03003/laws.FnExactIsFill", spec := "fnExactIsFill", unfollowed := true, recurses := true, apart := false, narrowed := true }
def FnExactIsFillUptoSaid : Prop := fnExactIsFillUptoRow.holds Try.pinned (OpenSpec.upto fnExactIsFillSpec)

/-- 'laws.FnExactSlotPattern', WHERE WHAT IT READS IS OF BULK AT MOST 1048576: true; the input reads as it did. -/
def fnExactSlotPatternUptoRow : OpenClaim := { program := "ytpacopebdoflpaa", sum := "efd570fd3e79d678c829a556cc2a5261596d7838187497cd4567ba3f8f1ae3ab", func := "loop.example/g03003/laws.FnExactSlotPattern", spec := "fnExactSlotPattern", unfollowed := true, recurses := true, apart := false, narrowed := true }
def FnExactSlotPatternUptoSaid : Prop := fnExactSlotPatternUptoRow.holds Try.pinned (OpenSpec.upto fnExactSlotPatternSpec)

end Rows
end Go.Proofs.Ytpacopebdoflpaa
