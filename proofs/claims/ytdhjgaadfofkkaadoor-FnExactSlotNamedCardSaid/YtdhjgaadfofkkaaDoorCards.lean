/-
  DERIVED. GIVEN WITH THE SEED: THE CARDS: each row of YtdhjgaadfofkkaaDoorRows.lean that lists a variable, with what it lists TIED to the program's text (the seventh form; the later family's looks); each row that meets fmt, with fmt's text TOLD by the authors' own Lean function (tested against real Go, not proved from fmt's source: count such statements apart). THE CARD IS WHAT COUNTS. Prove the row's statement (the work); the ties are given (YtdhjgaadfofkkaaDoorTie.lean); close each card by the builder's one call (the guide's Derived/Test/ToyasCard.lean, 'card_holds'). Laid BY PROGRAM, IN A SANDBOX (cutbox-door.mjs). By AI agents, Wed Nov 11 2026. No macro, syntax, notation, axiom, sorry.
-/
import Derived.Test.YtdhjgaadfofkkaaDoorRows
import GoSem.ClaimSeven
namespace Go.Proofs.YtdhjgaadfofkkaaDoor
namespace Rows

/-- THE TIED CARD OF 'laws.FnSlots'. -/
def fnSlotsCard : Claim7 := { stood := { row := fnSlotsRow, standIns := [], harness := (true, "b32fa6e142dcce6518f648c8c911e2c2a97a412c14f950dcab1c0df7d6182608"), looks := true }, kinds := [], alts := [], laidByText := true, laidKinds := [.data, .data, .data], laidTests := true, laidLooks := .later }
def FnSlotsCardSaid : Prop := Claim7.holds Tryd.pinned (.plain (OpenSpec.ofChange fnSlotsSpec)) fnSlotsCard

/-- THE TIED CARD OF 'laws.FnExactSlotName'. -/
def fnExactSlotNameCard : Claim7 := { stood := { row := fnExactSlotNameRow, standIns := [], harness := (true, "b32fa6e142dcce6518f648c8c911e2c2a97a412c14f950dcab1c0df7d6182608"), looks := true }, kinds := [], alts := [], laidByText := true, laidKinds := [.data, .data, .data], laidTests := true, laidLooks := .later }
def FnExactSlotNameCardSaid : Prop := Claim7.holds Tryd.pinned (.plain (OpenSpec.ofChange fnExactSlotNameSpec)) fnExactSlotNameCard

/-- THE TIED CARD OF 'laws.FnExactSlotNamed'. -/
def fnExactSlotNamedCard : Claim7 := { stood := { row := fnExactSlotNamedRow, standIns := [], harness := (true, "b32fa6e142dcce6518f648c8c911e2c2a97a412c14f950dcab1c0df7d6182608"), looks := true }, kinds := [], alts := [], laidByText := true, laidKinds := [.data, .data, .data], laidTests := true, laidLooks := .later }
def FnExactSlotNamedCardSaid : Prop := Claim7.holds Tryd.pinned (.plain (OpenSpec.ofChange fnExactSlotNamedSpec)) fnExactSlotNamedCard

/-- THE SECOND FORM's CARD OF 'laws.FnSlots'. -/
def fnSlotsUptoCard : Claim7 := { stood := { row := fnSlotsUptoRow, standIns := [], harness := (true, "b32fa6e142dcce6518f648c8c911e2c2a97a412c14f950dcab1c0df7d6182608"), looks := true }, kinds := [], alts := [], laidByText := true, laidKinds := [.data, .data, .data], laidTests := true, laidLooks := .later }
def FnSlotsUptoCardSaid : Prop := Claim7.holds Tryd.pinned (.plain (OpenSpec.upto fnSlotsSpec)) fnSlotsUptoCard

/-- THE SECOND FORM's CARD OF 'laws.FnExactSlotName'. -/
def fnExactSlotNameUptoCard : Claim7 := { stood := { row := fnExactSlotNameUptoRow, standIns := [], harness := (true, "b32fa6e142dcce6518f648c8c911e2c2a97a412c14f950dcab1c0df7d6182608"), looks := true }, kinds := [], alts := [], laidByText := true, laidKinds := [.data, .data, .data], laidTests := true, laidLooks := .later }
def FnExactSlotNameUptoCardSaid : Prop := Claim7.holds Tryd.pinned (.plain (OpenSpec.upto fnExactSlotNameSpec)) fnExactSlotNameUptoCard

/-- THE SECOND FORM's CARD OF 'laws.FnExactSlotNamed'. -/
def fnExactSlotNamedUptoCard : Claim7 := { stood := { row := fnExactSlotNamedUptoRow, standIns := [], harness := (true, "b32fa6e142dcce6518f648c8c911e2c2a97a412c14f950dcab1c0df7d6182608"), looks := true }, kinds := [], alts := [], laidByText := true, laidKinds := [.data, .data, .data], laidTests := true, laidLooks := .later }
def FnExactSlotNamedUptoCardSaid : Prop := Claim7.holds Tryd.pinned (.plain (OpenSpec.upto fnExactSlotNamedSpec)) fnExactSlotNamedUptoCard
end Rows
end Go.Proofs.YtdhjgaadfofkkaaDoor
