/-
  DERIVED. GIVEN WITH THE SEED: THE CARDS: each row of YtpacopebdoflpaaGreatDoorRows.lean that lists a variable, with what it lists TIED to the program's text (the seventh form; the later family's looks); each row that meets fmt, with fmt's text TOLD by the authors' own Lean function (tested against real Go, not proved from fmt's source: count such statements apart). THE CARD IS WHAT COUNTS. Prove the row's statement (the work); the ties are given (YtpacopebdoflpaaGreatDoorTie.lean); close each card by the builder's one call (the guide's Derived/Test/ToyasCard.lean, 'card_holds'). Laid BY PROGRAM, IN A SANDBOX (cutbox-door.mjs). By AI agents, Wed Nov 11 2026. No macro, syntax, notation, axiom, sorry.
-/
import Derived.Test.YtpacopebdoflpaaGreatDoorRows
import GoSem.ClaimSeven
namespace Go.Proofs.YtpacopebdoflpaaGreatDoor
namespace Rows

/-- THE TIED CARD OF 'laws.FnFills'. -/
def fnFillsCard : Claim7 := { stood := { row := fnFillsRow, standIns := [], harness := (true, "7400d96c6e78246b81e68185ce7c09e99f304adeaf6972d3e614472cce44bc81"), looks := true }, kinds := [], alts := [], laidByText := true, laidKinds := [.data, .data, .pinned], laidTests := true, laidLooks := .later }
def FnFillsCardSaid : Prop := Claim7.holds Tryz.pinned (.plain (OpenSpec.ofChange fnFillsSpec)) fnFillsCard

/-- THE SECOND FORM's CARD OF 'laws.FnFills'. -/
def fnFillsUptoCard : Claim7 := { stood := { row := fnFillsUptoRow, standIns := [], harness := (true, "7400d96c6e78246b81e68185ce7c09e99f304adeaf6972d3e614472cce44bc81"), looks := true }, kinds := [], alts := [], laidByText := true, laidKinds := [.data, .data, .pinned], laidTests := true, laidLooks := .later }
def FnFillsUptoCardSaid : Prop := Claim7.holds Tryz.pinned (.plain (OpenSpec.upto fnFillsSpec)) fnFillsUptoCard
end Rows
end Go.Proofs.YtpacopebdoflpaaGreatDoor
