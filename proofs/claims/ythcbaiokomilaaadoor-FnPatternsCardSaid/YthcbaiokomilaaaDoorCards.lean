/-
  DERIVED. GIVEN WITH THE SEED: THE CARDS: each row of YthcbaiokomilaaaDoorRows.lean that lists a variable, with what it lists TIED to the program's text (the seventh form; the later family's looks); each row that meets fmt, with fmt's text TOLD by the authors' own Lean function (tested against real Go, not proved from fmt's source: count such statements apart). THE CARD IS WHAT COUNTS. Prove the row's statement (the work); the ties are given (YthcbaiokomilaaaDoorTie.lean); close each card by the builder's one call (the guide's Derived/Test/ToyasCard.lean, 'card_holds'). Laid BY PROGRAM, IN A SANDBOX (cutbox-door.mjs). By AI agents, Wed Nov 11 2026. No macro, syntax, notation, axiom, sorry.
-/
import Derived.Test.YthcbaiokomilaaaDoorRows
import GoSem.ClaimSeven
namespace Go.Proofs.YthcbaiokomilaaaDoor
namespace Rows

/-- THE TIED CARD OF 'laws.FnPatterns'. -/
def fnPatternsCard : Claim7 := { stood := { row := fnPatternsRow, standIns := [], harness := (true, "f43836f5be04badf96c25b53c7fa074a9fc5b76b53b09868f9f1aa94fa288a1a"), looks := false }, kinds := [], alts := [], laidByText := true, laidKinds := [.data, .data, .pinned], laidTests := true, laidLooks := .later }
def FnPatternsCardSaid : Prop := Claim7.holds Tryd.pinned (.plain (OpenSpec.ofChange fnPatternsSpec)) fnPatternsCard

/-- THE TIED CARD OF 'laws.FnExactIsPattern'. -/
def fnExactIsPatternCard : Claim7 := { stood := { row := fnExactIsPatternRow, standIns := [], harness := (true, "f43836f5be04badf96c25b53c7fa074a9fc5b76b53b09868f9f1aa94fa288a1a"), looks := false }, kinds := [], alts := [], laidByText := true, laidKinds := [.data, .pinned], laidTests := true, laidLooks := .later }
def FnExactIsPatternCardSaid : Prop := Claim7.holds Tryd.pinned (.plain (OpenSpec.ofChange fnExactIsPatternSpec)) fnExactIsPatternCard

/-- THE TIED CARD OF 'laws.FnExactFitsPattern'. -/
def fnExactFitsPatternCard : Claim7 := { stood := { row := fnExactFitsPatternRow, standIns := [], harness := (true, "f43836f5be04badf96c25b53c7fa074a9fc5b76b53b09868f9f1aa94fa288a1a"), looks := false }, kinds := [], alts := [], laidByText := true, laidKinds := [.data, .pinned], laidTests := true, laidLooks := .later }
def FnExactFitsPatternCardSaid : Prop := Claim7.holds Tryd.pinned (.plain (OpenSpec.ofChange fnExactFitsPatternSpec)) fnExactFitsPatternCard

/-- THE TIED CARD OF 'laws.FnExactWordsFitting'. -/
def fnExactWordsFittingCard : Claim7 := { stood := { row := fnExactWordsFittingRow, standIns := [], harness := (true, "f43836f5be04badf96c25b53c7fa074a9fc5b76b53b09868f9f1aa94fa288a1a"), looks := false }, kinds := [], alts := [], laidByText := true, laidKinds := [.data, .pinned], laidTests := true, laidLooks := .later }
def FnExactWordsFittingCardSaid : Prop := Claim7.holds Tryd.pinned (.plain (OpenSpec.ofChange fnExactWordsFittingSpec)) fnExactWordsFittingCard

/-- THE TIED CARD OF 'laws.FnExactMeetPatterns'. -/
def fnExactMeetPatternsCard : Claim7 := { stood := { row := fnExactMeetPatternsRow, standIns := [], harness := (true, "f43836f5be04badf96c25b53c7fa074a9fc5b76b53b09868f9f1aa94fa288a1a"), looks := false }, kinds := [], alts := [], laidByText := true, laidKinds := [.data, .data, .pinned], laidTests := true, laidLooks := .later }
def FnExactMeetPatternsCardSaid : Prop := Claim7.holds Tryd.pinned (.plain (OpenSpec.ofChange fnExactMeetPatternsSpec)) fnExactMeetPatternsCard

/-- THE TIED CARD OF 'laws.FnExactCountOpen'. -/
def fnExactCountOpenCard : Claim7 := { stood := { row := fnExactCountOpenRow, standIns := [], harness := (true, "f43836f5be04badf96c25b53c7fa074a9fc5b76b53b09868f9f1aa94fa288a1a"), looks := false }, kinds := [], alts := [], laidByText := true, laidKinds := [.data, .pinned], laidTests := true, laidLooks := .later }
def FnExactCountOpenCardSaid : Prop := Claim7.holds Tryd.pinned (.plain (OpenSpec.ofChange fnExactCountOpenSpec)) fnExactCountOpenCard

/-- THE TIED CARD OF 'laws.FnExactLettersAt'. -/
def fnExactLettersAtCard : Claim7 := { stood := { row := fnExactLettersAtRow, standIns := [], harness := (true, "f43836f5be04badf96c25b53c7fa074a9fc5b76b53b09868f9f1aa94fa288a1a"), looks := false }, kinds := [], alts := [], laidByText := true, laidKinds := [.data], laidTests := true, laidLooks := .later }
def FnExactLettersAtCardSaid : Prop := Claim7.holds Tryd.pinned (.plain (OpenSpec.ofChange fnExactLettersAtSpec)) fnExactLettersAtCard

/-- THE SECOND FORM's CARD OF 'laws.FnPatterns'. -/
def fnPatternsUptoCard : Claim7 := { stood := { row := fnPatternsUptoRow, standIns := [], harness := (true, "f43836f5be04badf96c25b53c7fa074a9fc5b76b53b09868f9f1aa94fa288a1a"), looks := false }, kinds := [], alts := [], laidByText := true, laidKinds := [.data, .data, .pinned], laidTests := true, laidLooks := .later }
def FnPatternsUptoCardSaid : Prop := Claim7.holds Tryd.pinned (.plain (OpenSpec.upto fnPatternsSpec)) fnPatternsUptoCard

/-- THE SECOND FORM's CARD OF 'laws.FnExactIsPattern'. -/
def fnExactIsPatternUptoCard : Claim7 := { stood := { row := fnExactIsPatternUptoRow, standIns := [], harness := (true, "f43836f5be04badf96c25b53c7fa074a9fc5b76b53b09868f9f1aa94fa288a1a"), looks := false }, kinds := [], alts := [], laidByText := true, laidKinds := [.data, .pinned], laidTests := true, laidLooks := .later }
def FnExactIsPatternUptoCardSaid : Prop := Claim7.holds Tryd.pinned (.plain (OpenSpec.upto fnExactIsPatternSpec)) fnExactIsPatternUptoCard

/-- THE SECOND FORM's CARD OF 'laws.FnExactFitsPattern'. -/
def fnExactFitsPatternUptoCard : Claim7 := { stood := { row := fnExactFitsPatternUptoRow, standIns := [], harness := (true, "f43836f5be04badf96c25b53c7fa074a9fc5b76b53b09868f9f1aa94fa288a1a"), looks := false }, kinds := [], alts := [], laidByText := true, laidKinds := [.data, .pinned], laidTests := true, laidLooks := .later }
def FnExactFitsPatternUptoCardSaid : Prop := Claim7.holds Tryd.pinned (.plain (OpenSpec.upto fnExactFitsPatternSpec)) fnExactFitsPatternUptoCard

/-- THE SECOND FORM's CARD OF 'laws.FnExactWordsFitting'. -/
def fnExactWordsFittingUptoCard : Claim7 := { stood := { row := fnExactWordsFittingUptoRow, standIns := [], harness := (true, "f43836f5be04badf96c25b53c7fa074a9fc5b76b53b09868f9f1aa94fa288a1a"), looks := false }, kinds := [], alts := [], laidByText := true, laidKinds := [.data, .pinned], laidTests := true, laidLooks := .later }
def FnExactWordsFittingUptoCardSaid : Prop := Claim7.holds Tryd.pinned (.plain (OpenSpec.upto fnExactWordsFittingSpec)) fnExactWordsFittingUptoCard

/-- THE SECOND FORM's CARD OF 'laws.FnExactMeetPatterns'. -/
def fnExactMeetPatternsUptoCard : Claim7 := { stood := { row := fnExactMeetPatternsUptoRow, standIns := [], harness := (true, "f43836f5be04badf96c25b53c7fa074a9fc5b76b53b09868f9f1aa94fa288a1a"), looks := false }, kinds := [], alts := [], laidByText := true, laidKinds := [.data, .data, .pinned], laidTests := true, laidLooks := .later }
def FnExactMeetPatternsUptoCardSaid : Prop := Claim7.holds Tryd.pinned (.plain (OpenSpec.upto fnExactMeetPatternsSpec)) fnExactMeetPatternsUptoCard

/-- THE SECOND FORM's CARD OF 'laws.FnExactCountOpen'. -/
def fnExactCountOpenUptoCard : Claim7 := { stood := { row := fnExactCountOpenUptoRow, standIns := [], harness := (true, "f43836f5be04badf96c25b53c7fa074a9fc5b76b53b09868f9f1aa94fa288a1a"), looks := false }, kinds := [], alts := [], laidByText := true, laidKinds := [.data, .pinned], laidTests := true, laidLooks := .later }
def FnExactCountOpenUptoCardSaid : Prop := Claim7.holds Tryd.pinned (.plain (OpenSpec.upto fnExactCountOpenSpec)) fnExactCountOpenUptoCard

/-- THE SECOND FORM's CARD OF 'laws.FnExactLettersAt'. -/
def fnExactLettersAtUptoCard : Claim7 := { stood := { row := fnExactLettersAtUptoRow, standIns := [], harness := (true, "f43836f5be04badf96c25b53c7fa074a9fc5b76b53b09868f9f1aa94fa288a1a"), looks := false }, kinds := [], alts := [], laidByText := true, laidKinds := [.data], laidTests := true, laidLooks := .later }
def FnExactLettersAtUptoCardSaid : Prop := Claim7.holds Tryd.pinned (.plain (OpenSpec.upto fnExactLettersAtSpec)) fnExactLettersAtUptoCard
end Rows
end Go.Proofs.YthcbaiokomilaaaDoor
