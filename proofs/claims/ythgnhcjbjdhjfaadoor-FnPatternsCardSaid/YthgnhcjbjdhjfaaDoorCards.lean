/-
  DERIVED. GIVEN WITH THE SEED: THE CARDS: each row of YthgnhcjbjdhjfaaDoorRows.lean that lists a variable, with what it lists TIED to the program's text (the seventh form; the later family's looks); each row that meets fmt, with fmt's text TOLD by the authors' own Lean function (tested against real Go, not proved from fmt's source: count such statements apart). THE CARD IS WHAT COUNTS. Prove the row's statement (the work); the ties are given (YthgnhcjbjdhjfaaDoorTie.lean); close each card by the builder's one call (the guide's Derived/Test/ToyasCard.lean, 'card_holds'). Laid BY PROGRAM, IN A SANDBOX (cutbox-door.mjs). By AI agents, Wed Nov 11 2026. No macro, syntax, notation, axiom, sorry.
-/
import Derived.Test.YthgnhcjbjdhjfaaDoorRows
import GoSem.ClaimSeven
namespace Go.Proofs.YthgnhcjbjdhjfaaDoor
namespace Rows

/-- THE TIED CARD OF 'laws.FnPatterns'. -/
def fnPatternsCard : Claim7 := { stood := { row := fnPatternsRow, standIns := [], harness := (true, "95b78eca46642fbd01ce0820e9f7031d035c7c798c59dbde977c89af4c35ff4d"), looks := true }, kinds := [], alts := [], laidByText := true, laidKinds := [.data, .data, .pinned], laidTests := true, laidLooks := .later }
def FnPatternsCardSaid : Prop := Claim7.holds Tryd.pinned (.plain (OpenSpec.ofChange fnPatternsSpec)) fnPatternsCard

/-- THE TIED CARD OF 'laws.FnExactLettersAt'. -/
def fnExactLettersAtCard : Claim7 := { stood := { row := fnExactLettersAtRow, standIns := [], harness := (true, "95b78eca46642fbd01ce0820e9f7031d035c7c798c59dbde977c89af4c35ff4d"), looks := true }, kinds := [], alts := [], laidByText := true, laidKinds := [.data], laidTests := true, laidLooks := .later }
def FnExactLettersAtCardSaid : Prop := Claim7.holds Tryd.pinned (.plain (OpenSpec.ofChange fnExactLettersAtSpec)) fnExactLettersAtCard

/-- THE TIED CARD OF 'laws.FnExactDomainsOf'. -/
def fnExactDomainsOfCard : Claim7 := { stood := { row := fnExactDomainsOfRow, standIns := [], harness := (true, "95b78eca46642fbd01ce0820e9f7031d035c7c798c59dbde977c89af4c35ff4d"), looks := true }, kinds := [], alts := [], laidByText := true, laidKinds := [.data, .pinned], laidTests := true, laidLooks := .later }
def FnExactDomainsOfCardSaid : Prop := Claim7.holds Tryd.pinned (.plain (OpenSpec.ofChange fnExactDomainsOfSpec)) fnExactDomainsOfCard

/-- THE TIED CARD OF 'laws.FnExactForced'. -/
def fnExactForcedCard : Claim7 := { stood := { row := fnExactForcedRow, standIns := [], harness := (true, "95b78eca46642fbd01ce0820e9f7031d035c7c798c59dbde977c89af4c35ff4d"), looks := true }, kinds := [], alts := [], laidByText := true, laidKinds := [.data, .pinned], laidTests := true, laidLooks := .later }
def FnExactForcedCardSaid : Prop := Claim7.holds Tryd.pinned (.plain (OpenSpec.ofChange fnExactForcedSpec)) fnExactForcedCard

/-- THE SECOND FORM's CARD OF 'laws.FnPatterns'. -/
def fnPatternsUptoCard : Claim7 := { stood := { row := fnPatternsUptoRow, standIns := [], harness := (true, "95b78eca46642fbd01ce0820e9f7031d035c7c798c59dbde977c89af4c35ff4d"), looks := true }, kinds := [], alts := [], laidByText := true, laidKinds := [.data, .data, .pinned], laidTests := true, laidLooks := .later }
def FnPatternsUptoCardSaid : Prop := Claim7.holds Tryd.pinned (.plain (OpenSpec.upto fnPatternsSpec)) fnPatternsUptoCard

/-- THE SECOND FORM's CARD OF 'laws.FnExactLettersAt'. -/
def fnExactLettersAtUptoCard : Claim7 := { stood := { row := fnExactLettersAtUptoRow, standIns := [], harness := (true, "95b78eca46642fbd01ce0820e9f7031d035c7c798c59dbde977c89af4c35ff4d"), looks := true }, kinds := [], alts := [], laidByText := true, laidKinds := [.data], laidTests := true, laidLooks := .later }
def FnExactLettersAtUptoCardSaid : Prop := Claim7.holds Tryd.pinned (.plain (OpenSpec.upto fnExactLettersAtSpec)) fnExactLettersAtUptoCard

/-- THE SECOND FORM's CARD OF 'laws.FnExactDomainsOf'. -/
def fnExactDomainsOfUptoCard : Claim7 := { stood := { row := fnExactDomainsOfUptoRow, standIns := [], harness := (true, "95b78eca46642fbd01ce0820e9f7031d035c7c798c59dbde977c89af4c35ff4d"), looks := true }, kinds := [], alts := [], laidByText := true, laidKinds := [.data, .pinned], laidTests := true, laidLooks := .later }
def FnExactDomainsOfUptoCardSaid : Prop := Claim7.holds Tryd.pinned (.plain (OpenSpec.upto fnExactDomainsOfSpec)) fnExactDomainsOfUptoCard

/-- THE SECOND FORM's CARD OF 'laws.FnExactForced'. -/
def fnExactForcedUptoCard : Claim7 := { stood := { row := fnExactForcedUptoRow, standIns := [], harness := (true, "95b78eca46642fbd01ce0820e9f7031d035c7c798c59dbde977c89af4c35ff4d"), looks := true }, kinds := [], alts := [], laidByText := true, laidKinds := [.data, .pinned], laidTests := true, laidLooks := .later }
def FnExactForcedUptoCardSaid : Prop := Claim7.holds Tryd.pinned (.plain (OpenSpec.upto fnExactForcedSpec)) fnExactForcedUptoCard
end Rows
end Go.Proofs.YthgnhcjbjdhjfaaDoor
