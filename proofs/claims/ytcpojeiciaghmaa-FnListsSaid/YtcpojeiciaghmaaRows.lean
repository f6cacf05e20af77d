/-
  No cell of these rows narrows 'for every input' (looked for: loops, veiled, ifaces, maps, wideKeys, modest, calm, conditions, laid).
  DERIVED. THE GIVEN ROWS OF THIS SEAT. 7 by the template 'for every input the law returns true; each argument reads behind the call as it read before'; 0 by the template 'total and deterministic' (their statements: YtcpojeiciaghmaaTotals.lean).
  GIVEN WITH THE SEED: the statements are not yours to turn. If you find one false, say at which input.
  Laid BY PROGRAM, IN A SANDBOX (cutbox-rows.mjs): the forced cells as the released guide's own fill.sh prints them over the translation cb2f5afaf1dbb3eb… (all of the seat's roots in one cut). By AI agents, Wed Nov 11 2026. No macro, syntax, notation, axiom, sorry.
-/
import Derived.Test.YtcpojeiciaghmaaChecked
import GoSem.Claim
import GoSem.ClaimJoined
import GoSem.ClaimMapViews
import Derived.JoinedTies
import Derived.KernelRfl
namespace Go.Proofs.Ytcpojeiciaghmaa
/- THE CELL 'sum', in the pinned program and in every row, IS THE sha256 OF THE DUMP (.gsa) THAT YtcpojeiciaghmaaProg.lean LOADS. Nothing in Lean hashes anything: it is a label: what it is worth is what the hold of that sum in a sandbox is worth. -/
noncomputable def Try.pinned : Pinned := { name := "ytcpojeiciaghmaa", sum := "cb2f5afaf1dbb3eb6441666118758ab1b081de0bf90e2c6d8a663aba98bd48f0", checked := Try.checked }
namespace Rows
def none {H : Type} : Left H := { results := [], args := [] }

/-- 'laws.FnLists': WHATEVER THE INPUT: true; the input reads as it did. -/
def fnListsSpec : ChangeSpec := { name := "fnLists", fn := fun _ => fun
  | [d] => { results := [.lit (.bool true)], args := [d] }
  | _ => none }
def fnListsRow : OpenClaim := { program := "ytcpojeiciaghmaa", sum := "cb2f5afaf1dbb3eb6441666118758ab1b081de0bf90e2c6d8a663aba98bd48f0", func := "loop.example/g03003/laws.FnLists", spec := "fnLists", inPlace := ["slices.overlaps[loop.example/g03003/impl.Listed]"], apart := false }
def FnListsSaid : Prop := fnListsRow.holds Try.pinned (OpenSpec.ofChange fnListsSpec)

/-- ITS FALSE NEIGHBOUR: 'it returns false'. Refute it at one input. -/
def fnListsWrong : ChangeSpec := { name := "fnLists", fn := fun _ => fun
  | [d] => { results := [.lit (.bool false)], args := [d] }
  | _ => none }
def FnListsWrongFalsely : Prop := fnListsRow.holds Try.pinned (OpenSpec.ofChange fnListsWrong)

/-- 'laws.FnExactIsList': WHATEVER THE INPUT: true; the input reads as it did. -/
def fnExactIsListSpec : ChangeSpec := { name := "fnExactIsList", fn := fun _ => fun
  | [d] => { results := [.lit (.bool true)], args := [d] }
  | _ => none }
def fnExactIsListRow : OpenClaim := { program := "ytcpojeiciaghmaa", sum := "cb2f5afaf1dbb3eb6441666118758ab1b081de0bf90e2c6d8a663aba98bd48f0", func := "loop.example/g03003/laws.FnExactIsList", spec := "fnExactIsList", apart := false }
def FnExactIsListSaid : Prop := fnExactIsListRow.holds Try.pinned (OpenSpec.ofChange fnExactIsListSpec)

/-- ITS FALSE NEIGHBOUR: 'it returns false'. Refute it at one input. -/
def fnExactIsListWrong : ChangeSpec := { name := "fnExactIsList", fn := fun _ => fun
  | [d] => { results := [.lit (.bool false)], args := [d] }
  | _ => none }
def FnExactIsListWrongFalsely : Prop := fnExactIsListRow.holds Try.pinned (OpenSpec.ofChange fnExactIsListWrong)

/-- 'laws.FnExactWordsAt': WHATEVER THE INPUT: true; the input reads as it did. -/
def fnExactWordsAtSpec : ChangeSpec := { name := "fnExactWordsAt", fn := fun _ => fun
  | [d1, d2] => { results := [.lit (.bool true)], args := [d1, d2] }
  | _ => none }
def fnExactWordsAtRow : OpenClaim := { program := "ytcpojeiciaghmaa", sum := "cb2f5afaf1dbb3eb6441666118758ab1b081de0bf90e2c6d8a663aba98bd48f0", func := "loop.example/g03003/laws.FnExactWordsAt", spec := "fnExactWordsAt", apart := false }
def FnExactWordsAtSaid : Prop := fnExactWordsAtRow.holds Try.pinned (OpenSpec.ofChange fnExactWordsAtSpec)

/-- ITS FALSE NEIGHBOUR: 'it returns false'. Refute it at one input. -/
def fnExactWordsAtWrong : ChangeSpec := { name := "fnExactWordsAt", fn := fun _ => fun
  | [d1, d2] => { results := [.lit (.bool false)], args := [d1, d2] }
  | _ => none }
def FnExactWordsAtWrongFalsely : Prop := fnExactWordsAtRow.holds Try.pinned (OpenSpec.ofChange fnExactWordsAtWrong)

/-- 'laws.FnExactAddWord': WHATEVER THE INPUT: true; the input reads as it did. -/
def fnExactAddWordSpec : ChangeSpec := { name := "fnExactAddWord", fn := fun _ => fun
  | [d1, d2] => { results := [.lit (.bool true)], args := [d1, d2] }
  | _ => none }
def fnExactAddWordRow : OpenClaim := { program := "ytcpojeiciaghmaa", sum := "cb2f5afaf1dbb3eb6441666118758ab1b081de0bf90e2c6d8a663aba98bd48f0", func := "loop.example/g03003/laws.FnExactAddWord", spec := "fnExactAddWord", inPlace := ["slices.overlaps[loop.example/g03003/impl.Listed]"], apart := false }
def FnExactAddWordSaid : Prop := fnExactAddWordRow.holds Try.pinned (OpenSpec.ofChange fnExactAddWordSpec)

/-- ITS FALSE NEIGHBOUR: 'it returns false'. Refute it at one input. -/
def fnExactAddWordWrong : ChangeSpec := { name := "fnExactAddWord", fn := fun _ => fun
  | [d1, d2] => { results := [.lit (.bool false)], args := [d1, d2] }
  | _ => none }
def FnExactAddWordWrongFalsely : Prop := fnExactAddWordRow.holds Try.pinned (OpenSpec.ofChange fnExactAddWordWrong)

/-- 'laws.FnExactEndWord': WHATEVER THE INPUT: true; the input reads as it did. -/
def fnExactEndWordSpec : ChangeSpec := { name := "fnExactEndWord", fn := fun _ => fun
  | [d1, d2, d3] => { results := [.lit (.bool true)], args := [d1, d2, d3] }
  | _ => none }
def fnExactEndWordRow : OpenClaim := { program := "ytcpojeiciaghmaa", sum := "cb2f5afaf1dbb3eb6441666118758ab1b081de0bf90e2c6d8a663aba98bd48f0", func := "loop.example/g03003/laws.FnExactEndWord", spec := "fnExactEndWord", apart := false }
def FnExactEndWordSaid : Prop := fnExactEndWordRow.holds Try.pinned (OpenSpec.ofChange fnExactEndWordSpec)

/-- ITS FALSE NEIGHBOUR: 'it returns false'. Refute it at one input. -/
def fnExactEndWordWrong : ChangeSpec := { name := "fnExactEndWord", fn := fun _ => fun
  | [d1, d2, d3] => { results := [.lit (.bool false)], args := [d1, d2, d3] }
  | _ => none }
def FnExactEndWordWrongFalsely : Prop := fnExactEndWordRow.holds Try.pinned (OpenSpec.ofChange fnExactEndWordWrong)

/-- 'laws.FnExactScoreOf': WHATEVER THE INPUT: true; the input reads as it did. -/
def fnExactScoreOfSpec : ChangeSpec := { name := "fnExactScoreOf", fn := fun _ => fun
  | [d1, d2] => { results := [.lit (.bool true)], args := [d1, d2] }
  | _ => none }
def fnExactScoreOfRow : OpenClaim := { program := "ytcpojeiciaghmaa", sum := "cb2f5afaf1dbb3eb6441666118758ab1b081de0bf90e2c6d8a663aba98bd48f0", func := "loop.example/g03003/laws.FnExactScoreOf", spec := "fnExactScoreOf", apart := false }
def FnExactScoreOfSaid : Prop := fnExactScoreOfRow.holds Try.pinned (OpenSpec.ofChange fnExactScoreOfSpec)

/-- ITS FALSE NEIGHBOUR: 'it returns false'. Refute it at one input. -/
def fnExactScoreOfWrong : ChangeSpec := { name := "fnExactScoreOf", fn := fun _ => fun
  | [d1, d2] => { results := [.lit (.bool false)], args := [d1, d2] }
  | _ => none }
def FnExactScoreOfWrongFalsely : Prop := fnExactScoreOfRow.holds Try.pinned (OpenSpec.ofChange fnExactScoreOfWrong)

/-- 'laws.FnExactHasWord': WHATEVER THE INPUT: true; the input reads as it did. -/
def fnExactHasWordSpec : ChangeSpec := { name := "fnExactHasWord", fn := fun _ => fun
  | [d1, d2] => { results := [.lit (.bool true)], args := [d1, d2] }
  | _ => none }
def fnExactHasWordRow : OpenClaim := { program := "ytcpojeiciaghmaa", sum := "cb2f5afaf1dbb3eb6441666118758ab1b081de0bf90e2c6d8a663aba98bd48f0", func := "loop.example/g03003/laws.FnExactHasWord", spec := "fnExactHasWord", apart := false }
def FnExactHasWordSaid : Prop := fnExactHasWordRow.holds Try.pinned (OpenSpec.ofChange fnExactHasWordSpec)

/-- ITS FALSE NEIGHBOUR: 'it returns false'. Refute it at one input. -/
def fnExactHasWordWrong : ChangeSpec := { name := "fnExactHasWord", fn := fun _ => fun
  | [d1, d2] => { results := [.lit (.bool false)], args := [d1, d2] }
  | _ => none }
def FnExactHasWordWrongFalsely : Prop := fnExactHasWordRow.holds Try.pinned (OpenSpec.ofChange fnExactHasWordWrong)

/- THE SECOND FORM. 'bulk': how many values and letters a reading holds, each counted each time it is reached (what is shared counts as often as it is met; a slice's spare places count too). A statement '..UptoSaid' is the law's where the arguments, and the package variables that the reading takes, are together of bulk at most 1048576: NARROWER than '..Said'. Prove '..Said' where nothing that the law and all that it calls make is longer than what came in: it says more and counts as full. Else prove '..UptoSaid'. A law counts once. -/
mutual
def uptoBulk {H : Type} : DataW H → Nat
  | .lit (.string bytes) => bytes.length + 1
  | .lit _ => 1
  | .nil => 1
  | .ptr d => uptoBulk d + 1
  | .slice elems spare => uptoBulkAll elems + uptoBulkAll spare + 1
  | .agg parts => uptoBulkAll parts + 1
  | .iface _ d => uptoBulk d + 1
  | .map entries => uptoBulkEntries entries + 1
  | .held _ => 1
def uptoBulkAll {H : Type} : List (DataW H) → Nat
  | [] => 0
  | d :: r => uptoBulk d + uptoBulkAll r
def uptoBulkEntries {H : Type} : List (Lit × DataW H) → Nat
  | [] => 0
  | x :: r => uptoBulkEntry x + uptoBulkEntries r
def uptoBulkEntry {H : Type} : Lit × DataW H → Nat
  | (.string bytes, d) => bytes.length + uptoBulk d + 1
  | (_, d) => uptoBulk d + 1
 end
def uptoSmall : (H : Type) → List (DataW H) → Bool := fun _ ds => decide (uptoBulkAll ds ≤ 1048576)
def OpenSpec.upto (s : _root_.Go.ChangeSpec) : _root_.Go.OpenSpec := { _root_.Go.OpenSpec.ofChange s with cond := some uptoSmall }

/-- 'laws.FnLists', WHERE WHAT IT READS IS OF BULK AT MOST 1048576: true; the input reads as it did. -/
def fnListsUptoRow : OpenClaim := { program := "ytcpojeiciaghmaa", sum := "cb2f5afaf1dbb3eb6441666118758ab1b081de0bf90e2c6d8a663aba98bd48f0", func := "loop.example/g03003/laws.FnLists", spec := "fnLists", inPlace := ["slices.overlaps[loop.example/g03003/impl.Listed]"], apart := false, narrowed := true }
def FnListsUptoSaid : Prop := fnListsUptoRow.holds Try.pinned (OpenSpec.upto fnListsSpec)

/-- 'laws.FnExactIsList', WHERE WHAT IT READS IS OF BULK AT MOST 1048576: true; the input reads as it did. -/
def fnExactIsListUptoRow : OpenClaim := { program := "ytcpojeiciaghmaa", sum := "cb2f5afaf1dbb3eb6441666118758ab1b081de0bf90e2c6d8a663aba98bd48f0", func := "loop.example/g03003/laws.FnExactIsList", spec := "fnExactIsList", apart := false, narrowed := true }
def FnExactIsListUptoSaid : Prop := fnExactIsListUptoRow.holds Try.pinned (OpenSpec.upto fnExactIsListSpec)

/-- 'laws.FnExactWordsAt', WHERE WHAT IT READS IS OF BULK AT MOST 1048576: true; the input reads as it did. -/
def fnExactWordsAtUptoRow : OpenClaim := { program := "ytcpojeiciaghmaa", sum := "cb2f5afaf1dbb3eb6441666118758ab1b081de0bf90e2c6d8a663aba98bd48f0", func := "loop.example/g03003/laws.FnExactWordsAt", spec := "fnExactWordsAt", apart := false, narrowed := true }
def FnExactWordsAtUptoSaid : Prop := fnExactWordsAtUptoRow.holds Try.pinned (OpenSpec.upto fnExactWordsAtSpec)

/-- 'laws.FnExactAddWord', WHERE WHAT IT READS IS OF BULK AT MOST 1048576: true; the input reads as it did. -/
def fnExactAddWordUptoRow : OpenClaim := { program := "ytcpojeiciaghmaa", sum := "cb2f5afaf1dbb3eb6441666118758ab1b081de0bf90e2c6d8a663aba98bd48f0", func := "loop.example/g03003/laws.FnExactAddWord", spec := "fnExactAddWord", inPlace := ["slices.overlaps[loop.example/g03003/impl.Listed]"], apart := false, narrowed := true }
def FnExactAddWordUptoSaid : Prop := fnExactAddWordUptoRow.holds Try.pinned (OpenSpec.upto fnExactAddWordSpec)

/-- 'laws.FnExactEndWord', WHERE WHAT IT READS IS OF BULK AT MOST 1048576: true; the input reads as it did. -/
def fnExactEndWordUptoRow : OpenClaim := { program := "ytcpojeiciaghmaa", sum := "cb2f5afaf1dbb3eb6441666118758ab1b081de0bf90e2c6d8a663aba98bd48f0", func := "loop.example/g03003/laws.FnExactEndWord", spec := "fnExactEndWord", apart := false, narrowed := true }
def FnExactEndWordUptoSaid : Prop := fnExactEndWordUptoRow.holds Try.pinned (OpenSpec.upto fnExactEndWordSpec)

/-- 'laws.FnExactScoreOf', WHERE WHAT IT READS IS OF BULK AT MOST 1048576: true; the input reads as it did. -/
def fnExactScoreOfUptoRow : OpenClaim := { program := "ytcpojeiciaghmaa", sum := "cb2f5afaf1dbb3eb6441666118758ab1b081de0bf90e2c6d8a663aba98bd48f0", func := "loop.example/g03003/laws.FnExactScoreOf", spec := "fnExactScoreOf", apart := false, narrowed := true }
def FnExactScoreOfUptoSaid : Prop := fnExactScoreOfUptoRow.holds Try.pinned (OpenSpec.upto fnExactScoreOfSpec)

/-- 'laws.FnExactHasWord', WHERE WHAT IT READS IS OF BULK AT MOST 1048576: true; the input reads as it did. -/
def fnExactHasWordUptoRow : OpenClaim := { program := "ytcpojeiciaghmaa", sum := "cb2f5afaf1dbb3eb6441666118758ab1b081de0bf90e2c6d8a663aba98bd48f0", func := "loop.example/g03003/laws.FnExactHasWord", spec := "fnExactHasWord", apart := false, narrowed := true }
def FnExactHasWordUptoSaid : Prop := fnExactHasWordUptoRow.holds Try.pinned (OpenSpec.upto fnExactHasWordSpec)

end Rows
end Go.Proofs.Ytcpojeiciaghmaa
