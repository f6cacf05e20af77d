/-
  No cell of these rows narrows 'for every input' (looked for: loops, veiled, ifaces, maps, wideKeys, modest, calm, conditions, laid).
  DERIVED. THE GIVEN ROWS OF THIS SEAT. 7 by the template 'for every input the law returns true; each argument reads behind the call as it read before'; 0 by the template 'total and deterministic' (their statements: YtjgddcaobocfhaaTotals.lean).
  GIVEN WITH THE SEED: the statements are not yours to turn. If you find one false, say at which input.
  Laid BY PROGRAM, IN A SANDBOX (cutbox-rows.mjs): the forced cells as the released guide's own fill.sh prints them over the translation 2d8643f9fb161ad0… (all of the seat's roots in one cut). By AI agents, Wed Nov 11 2026. No macro, syntax, notation, axiom, sorry.
-/
import Derived.Test.YtjgddcaobocfhaaChecked
import GoSem.Claim
import GoSem.ClaimJoined
import GoSem.ClaimMapViews
import Derived.JoinedTies
import Derived.KernelRfl
namespace Go.Proofs.Ytjgddcaobocfhaa
/- THE CELL 'sum', in the pinned program and in every row, IS THE sha256 OF THE DUMP (.gsa) THAT YtjgddcaobocfhaaProg.lean LOADS. Nothing in Lean hashes anything: it is a label: what it is worth is what the hold of that sum in a sandbox is worth. -/
noncomputable def Try.pinned : Pinned := { name := "ytjgddcaobocfhaa", sum := "2d8643f9fb161ad020052b3b6649b1d1fd903e76c6255a458ec163fafbc4a14c", checked := Try.checked }
namespace Rows
def none {H : Type} : Left H := { results := [], args := [] }

/-- 'laws.FnWords': WHATEVER THE INPUT: true; the input reads as it did. -/
def fnWordsSpec : ChangeSpec := { name := "fnWords", fn := fun _ => fun
  | [d] => { results := [.lit (.bool true)], args := [d] }
  | _ => none }
def fnWordsRow : OpenClaim := { program := "ytjgddcaobocfhaa", sum := "2d8643f9fb161ad020052b3b6649b1d1fd903e76c6255a458ec163fafbc4a14c", func := "loop.example/g03003/laws.FnWords", spec := "fnWords", apart := false }
def FnWordsSaid : Prop := fnWordsRow.holds Try.pinned (OpenSpec.ofChange fnWordsSpec)

/-- ITS FALSE NEIGHBOUR: 'it returns false'. Refute it at one input. -/
def fnWordsWrong : ChangeSpec := { name := "fnWords", fn := fun _ => fun
  | [d] => { results := [.lit (.bool false)], args := [d] }
  | _ => none }
def FnWordsWrongFalsely : Prop := fnWordsRow.holds Try.pinned (OpenSpec.ofChange fnWordsWrong)

/-- 'laws.FnExactIsWord': WHATEVER THE INPUT: true; the input reads as it did. -/
def fnExactIsWordSpec : ChangeSpec := { name := "fnExactIsWord", fn := fun _ => fun
  | [d] => { results := [.lit (.bool true)], args := [d] }
  | _ => none }
def fnExactIsWordRow : OpenClaim := { program := "ytjgddcaobocfhaa", sum := "2d8643f9fb161ad020052b3b6649b1d1fd903e76c6255a458ec163fafbc4a14c", func := "loop.example/g03003/laws.FnExactIsWord", spec := "fnExactIsWord", apart := false }
def FnExactIsWordSaid : Prop := fnExactIsWordRow.holds Try.pinned (OpenSpec.ofChange fnExactIsWordSpec)

/-- ITS FALSE NEIGHBOUR: 'it returns false'. Refute it at one input. -/
def fnExactIsWordWrong : ChangeSpec := { name := "fnExactIsWord", fn := fun _ => fun
  | [d] => { results := [.lit (.bool false)], args := [d] }
  | _ => none }
def FnExactIsWordWrongFalsely : Prop := fnExactIsWordRow.holds Try.pinned (OpenSpec.ofChange fnExactIsWordWrong)

/-- 'laws.FnExactBackwards': WHATEVER THE INPUT: true; the input reads as it did. -/
def fnExactBackwardsSpec : ChangeSpec := { name := "fnExactBackwards", fn := fun _ => fun
  | [d] => { results := [.lit (.bool true)], args := [d] }
  | _ => none }
def fnExactBackwardsRow : OpenClaim := { program := "ytjgddcaobocfhaa", sum := "2d8643f9fb161ad020052b3b6649b1d1fd903e76c6255a458ec163fafbc4a14c", func := "loop.example/g03003/laws.FnExactBackwards", spec := "fnExactBackwards", apart := false }
def FnExactBackwardsSaid : Prop := fnExactBackwardsRow.holds Try.pinned (OpenSpec.ofChange fnExactBackwardsSpec)

/-- ITS FALSE NEIGHBOUR: 'it returns false'. Refute it at one input. -/
def fnExactBackwardsWrong : ChangeSpec := { name := "fnExactBackwards", fn := fun _ => fun
  | [d] => { results := [.lit (.bool false)], args := [d] }
  | _ => none }
def FnExactBackwardsWrongFalsely : Prop := fnExactBackwardsRow.holds Try.pinned (OpenSpec.ofChange fnExactBackwardsWrong)

/-- 'laws.FnExactSortLetters': WHATEVER THE INPUT: true; the input reads as it did. -/
def fnExactSortLettersSpec : ChangeSpec := { name := "fnExactSortLetters", fn := fun _ => fun
  | [d] => { results := [.lit (.bool true)], args := [d] }
  | _ => none }
def fnExactSortLettersRow : OpenClaim := { program := "ytjgddcaobocfhaa", sum := "2d8643f9fb161ad020052b3b6649b1d1fd903e76c6255a458ec163fafbc4a14c", func := "loop.example/g03003/laws.FnExactSortLetters", spec := "fnExactSortLetters", apart := false }
def FnExactSortLettersSaid : Prop := fnExactSortLettersRow.holds Try.pinned (OpenSpec.ofChange fnExactSortLettersSpec)

/-- ITS FALSE NEIGHBOUR: 'it returns false'. Refute it at one input. -/
def fnExactSortLettersWrong : ChangeSpec := { name := "fnExactSortLetters", fn := fun _ => fun
  | [d] => { results := [.lit (.bool false)], args := [d] }
  | _ => none }
def FnExactSortLettersWrongFalsely : Prop := fnExactSortLettersRow.holds Try.pinned (OpenSpec.ofChange fnExactSortLettersWrong)

/-- 'laws.FnExactIsRearranged': WHATEVER THE INPUT: true; the input reads as it did. -/
def fnExactIsRearrangedSpec : ChangeSpec := { name := "fnExactIsRearranged", fn := fun _ => fun
  | [d1, d2] => { results := [.lit (.bool true)], args := [d1, d2] }
  | _ => none }
def fnExactIsRearrangedRow : OpenClaim := { program := "ytjgddcaobocfhaa", sum := "2d8643f9fb161ad020052b3b6649b1d1fd903e76c6255a458ec163fafbc4a14c", func := "loop.example/g03003/laws.FnExactIsRearranged", spec := "fnExactIsRearranged", apart := false }
def FnExactIsRearrangedSaid : Prop := fnExactIsRearrangedRow.holds Try.pinned (OpenSpec.ofChange fnExactIsRearrangedSpec)

/-- ITS FALSE NEIGHBOUR: 'it returns false'. Refute it at one input. -/
def fnExactIsRearrangedWrong : ChangeSpec := { name := "fnExactIsRearranged", fn := fun _ => fun
  | [d1, d2] => { results := [.lit (.bool false)], args := [d1, d2] }
  | _ => none }
def FnExactIsRearrangedWrongFalsely : Prop := fnExactIsRearrangedRow.holds Try.pinned (OpenSpec.ofChange fnExactIsRearrangedWrong)

/-- 'laws.FnExactCountLetter': WHATEVER THE INPUT: true; the input reads as it did. -/
def fnExactCountLetterSpec : ChangeSpec := { name := "fnExactCountLetter", fn := fun _ => fun
  | [d1, d2] => { results := [.lit (.bool true)], args := [d1, d2] }
  | _ => none }
def fnExactCountLetterRow : OpenClaim := { program := "ytjgddcaobocfhaa", sum := "2d8643f9fb161ad020052b3b6649b1d1fd903e76c6255a458ec163fafbc4a14c", func := "loop.example/g03003/laws.FnExactCountLetter", spec := "fnExactCountLetter", apart := false }
def FnExactCountLetterSaid : Prop := fnExactCountLetterRow.holds Try.pinned (OpenSpec.ofChange fnExactCountLetterSpec)

/-- ITS FALSE NEIGHBOUR: 'it returns false'. Refute it at one input. -/
def fnExactCountLetterWrong : ChangeSpec := { name := "fnExactCountLetter", fn := fun _ => fun
  | [d1, d2] => { results := [.lit (.bool false)], args := [d1, d2] }
  | _ => none }
def FnExactCountLetterWrongFalsely : Prop := fnExactCountLetterRow.holds Try.pinned (OpenSpec.ofChange fnExactCountLetterWrong)

/-- 'laws.FnExactBeforeWord': WHATEVER THE INPUT: true; the input reads as it did. -/
def fnExactBeforeWordSpec : ChangeSpec := { name := "fnExactBeforeWord", fn := fun _ => fun
  | [d1, d2] => { results := [.lit (.bool true)], args := [d1, d2] }
  | _ => none }
def fnExactBeforeWordRow : OpenClaim := { program := "ytjgddcaobocfhaa", sum := "2d8643f9fb161ad020052b3b6649b1d1fd903e76c6255a458ec163fafbc4a14c", func := "loop.example/g03003/laws.FnExactBeforeWord", spec := "fnExactBeforeWord", apart := false }
def FnExactBeforeWordSaid : Prop := fnExactBeforeWordRow.holds Try.pinned (OpenSpec.ofChange fnExactBeforeWordSpec)

/-- ITS FALSE NEIGHBOUR: 'it returns false'. Refute it at one input. -/
def fnExactBeforeWordWrong : ChangeSpec := { name := "fnExactBeforeWord", fn := fun _ => fun
  | [d1, d2] => { results := [.lit (.bool false)], args := [d1, d2] }
  | _ => none }
def FnExactBeforeWordWrongFalsely : Prop := fnExactBeforeWordRow.holds Try.pinned (OpenSpec.ofChange fnExactBeforeWordWrong)

/- THE SECOND FORM. 'bulk': how many values and letters a reading holds, each counted each time it is reached (what is shared counts as often as it is met; a slice's spare places count too). A statement '..UptoSaid' is the law's where the arguments, and the package variables that the reading takes, are together of bulk at most 1048576: NARROWER than '..Said'. Prove '..Said' where nothing that the law and all that it calls make is longer than what came in: it says more and counts as full. Else prove '..UptoSaid'. A law counts once. -/
mutual
def uptoBulk {H : Type} : DataW H → Nat
  | .lit (.string bytes) => bytes.length + 1
  | .lit _ => 1
  | .nil => 1
  | .ptr d => uptoBulk d + 1
  | .slice elems spare => uptoBulkAll elems + uptoBulkAll spare + 1
  | .agg parts => uptoBulkAll parts + 1
  | .iface _ d => uptoBulk d + 1
  | .map entries => uptoBulkEntries entries + 1
  | .held _ => 1
def uptoBulkAll {H : Type} : List (DataW H) → Nat
  | [] => 0
  | d :: r => uptoBulk d + uptoBulkAll r
def uptoBulkEntries {H : Type} : List (Lit × DataW H) → Nat
  | [] => 0
  | x :: r => uptoBulkEntry x + uptoBulkEntries r
def uptoBulkEntry {H : Type} : Lit × DataW H → Nat
  | (.string bytes, d) => bytes.length + uptoBulk d + 1
  | (_, d) => uptoBulk d + 1
 end
def uptoSmall : (H : Type) → List (DataW H) → Bool := fun _ ds => decide (uptoBulkAll ds ≤ 1048576)
def OpenSpec.upto (s : _root_.Go.ChangeSpec) : _root_.Go.OpenSpec := { _root_.Go.OpenSpec.ofChange s with cond := some uptoSmall }

/-- 'laws.FnWords', WHERE WHAT IT READS IS OF BULK AT MOST 1048576: true; the input reads as it did. -/
def fnWordsUptoRow : OpenClaim := { program := "ytjgddcaobocfhaa", sum := "2d8643f9fb161ad020052b3b6649b1d1fd903e76c6255a458ec163fafbc4a14c", func := "loop.example/g03003/laws.FnWords", spec := "fnWords", apart := false, narrowed := true }
def FnWordsUptoSaid : Prop := fnWordsUptoRow.holds Try.pinned (OpenSpec.upto fnWordsSpec)

/-- 'laws.FnExactIsWord', WHERE WHAT IT READS IS OF BULK AT MOST 1048576: true; the input reads as it did. -/
def fnExactIsWordUptoRow : OpenClaim := { program := "ytjgddcaobocfhaa", sum := "2d8643f9fb161ad020052b3b6649b1d1fd903e76c6255a458ec163fafbc4a14c", func := "loop.example/g03003/laws.FnExactIsWord", spec := "fnExactIsWord", apart := false, narrowed := true }
def FnExactIsWordUptoSaid : Prop := fnExactIsWordUptoRow.holds Try.pinned (OpenSpec.upto fnExactIsWordSpec)

/-- 'laws.FnExactBackwards', WHERE WHAT IT READS IS OF BULK AT MOST 1048576: true; the input reads as it did. -/
def fnExactBackwardsUptoRow : OpenClaim := { program := "ytjgddcaobocfhaa", sum := "2d8643f9fb161ad020052b3b6649b1d1fd903e76c6255a458ec163fafbc4a14c", func := "loop.example/g03003/laws.FnExactBackwards", spec := "fnExactBackwards", apart := false, narrowed := true }
def FnExactBackwardsUptoSaid : Prop := fnExactBackwardsUptoRow.holds Try.pinned (OpenSpec.upto fnExactBackwardsSpec)

/-- 'laws.FnExactSortLetters', WHERE WHAT IT READS IS OF BULK AT MOST 1048576: true; the input reads as it did. -/
def fnExactSortLettersUptoRow : OpenClaim := { program := "ytjgddcaobocfhaa", sum := "2d8643f9fb161ad020052b3b6649b1d1fd903e76c6255a458ec163fafbc4a14c", func := "loop.example/g03003/laws.FnExactSortLetters", spec := "fnExactSortLetters", apart := false, narrowed := true }
def FnExactSortLettersUptoSaid : Prop := fnExactSortLettersUptoRow.holds Try.pinned (OpenSpec.upto fnExactSortLettersSpec)

/-- 'laws.FnExactIsRearranged', WHERE WHAT IT READS IS OF BULK AT MOST 1048576: true; the input reads as it did. -/
def fnExactIsRearrangedUptoRow : OpenClaim := { program := "ytjgddcaobocfhaa", sum := "2d8643f9fb161ad020052b3b6649b1d1fd903e76c6255a458ec163fafbc4a14c", func := "loop.example/g03003/laws.FnExactIsRearranged", spec := "fnExactIsRearranged", apart := false, narrowed := true }
def FnExactIsRearrangedUptoSaid : Prop := fnExactIsRearrangedUptoRow.holds Try.pinned (OpenSpec.upto fnExactIsRearrangedSpec)

/-- 'laws.FnExactCountLetter', WHERE WHAT IT READS IS OF BULK AT MOST 1048576: true; the input reads as it did. -/
def fnExactCountLetterUptoRow : OpenClaim := { program := "ytjgddcaobocfhaa", sum := "2d8643f9fb161ad020052b3b6649b1d1fd903e76c6255a458ec163fafbc4a14c", func := "loop.example/g03003/laws.FnExactCountLetter", spec := "fnExactCountLetter", apart := false, narrowed := true }
def FnExactCountLetterUptoSaid : Prop := fnExactCountLetterUptoRow.holds Try.pinned (OpenSpec.upto fnExactCountLetterSpec)

/-- 'laws.FnExactBeforeWord', WHERE WHAT IT READS IS OF BULK AT MOST 1048576: true; the input reads as it did. -/
def fnExactBeforeWordUptoRow : OpenClaim := { program := "ytjgddcaobocfhaa", sum := "2d8643f9fb161ad020052b3b6649b1d1fd903e76c6255a458ec163fafbc4a14c", func := "loop.example/g03003/laws.FnExactBeforeWord", spec := "fnExactBeforeWord", apart := false, narrowed := true }
def FnExactBeforeWordUptoSaid : Prop := fnExactBeforeWordUptoRow.holds Try.pinned (OpenSpec.upto fnExactBeforeWordSpec)

end Rows
end Go.Proofs.Ytjgddcaobocfhaa
