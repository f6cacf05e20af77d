/-
  DERIVED. GIVEN WITH THE SEED: THE CARDS: each row of YtgpplfhbgkcjhaaDoorRows.lean that lists a variable, with what it lists TIED to the program's text (the seventh form; the later family's looks); each row that meets fmt, with fmt's text TOLD by the authors' own Lean function (tested against real Go, not proved from fmt's source: count such statements apart). THE CARD IS WHAT COUNTS. Prove the row's statement (the work); the ties are given (YtgpplfhbgkcjhaaDoorTie.lean); close each card by the builder's one call (the guide's Derived/Test/ToyasCard.lean, 'card_holds'). Laid BY PROGRAM, IN A SANDBOX (cutbox-door.mjs). By AI agents, Wed Nov 11 2026. No macro, syntax, notation, axiom, sorry.
-/
import Derived.Test.YtgpplfhbgkcjhaaDoorRows
import GoSem.ClaimSeven
namespace Go.Proofs.YtgpplfhbgkcjhaaDoor
namespace Rows

/-- THE TIED CARD OF 'laws.FnSlots'. -/
def fnSlotsCard : Claim7 := { stood := { row := fnSlotsRow, standIns := [], harness := (true, "fff2959df394ae67ef2f5c1b0908f6f9b19837e037c8f4d0a8731e53349fdaa4"), looks := true }, kinds := [], alts := [], laidByText := true, laidKinds := [.data, .data, .data], laidTests := true, laidLooks := .later }
def FnSlotsCardSaid : Prop := Claim7.holds Tryd.pinned (.plain (OpenSpec.ofChange fnSlotsSpec)) fnSlotsCard

/-- THE TIED CARD OF 'laws.FnExactIsConnected'. -/
def fnExactIsConnectedCard : Claim7 := { stood := { row := fnExactIsConnectedRow, standIns := [], harness := (true, "fff2959df394ae67ef2f5c1b0908f6f9b19837e037c8f4d0a8731e53349fdaa4"), looks := true }, kinds := [], alts := [], laidByText := true, laidKinds := [.data], laidTests := true, laidLooks := .later }
def FnExactIsConnectedCardSaid : Prop := Claim7.holds Tryd.pinned (.plain (OpenSpec.ofChange fnExactIsConnectedSpec)) fnExactIsConnectedCard

/-- THE TIED CARD OF 'laws.FnExactFormOf'. -/
def fnExactFormOfCard : Claim7 := { stood := { row := fnExactFormOfRow, standIns := [], harness := (true, "fff2959df394ae67ef2f5c1b0908f6f9b19837e037c8f4d0a8731e53349fdaa4"), looks := true }, kinds := [], alts := [], laidByText := true, laidKinds := [.data], laidTests := true, laidLooks := .later }
def FnExactFormOfCardSaid : Prop := Claim7.holds Tryd.pinned (.plain (OpenSpec.ofChange fnExactFormOfSpec)) fnExactFormOfCard

/-- THE TIED CARD OF 'laws.FnExactFormName'. -/
def fnExactFormNameCard : Claim7 := { stood := { row := fnExactFormNameRow, standIns := [], harness := (true, "fff2959df394ae67ef2f5c1b0908f6f9b19837e037c8f4d0a8731e53349fdaa4"), looks := true }, kinds := [], alts := [], laidByText := true, laidKinds := [.data], laidTests := true, laidLooks := .later }
def FnExactFormNameCardSaid : Prop := Claim7.holds Tryd.pinned (.plain (OpenSpec.ofChange fnExactFormNameSpec)) fnExactFormNameCard

/-- THE TIED CARD OF 'laws.FnExactPartsOf'. -/
def fnExactPartsOfCard : Claim7 := { stood := { row := fnExactPartsOfRow, standIns := [], harness := (true, "fff2959df394ae67ef2f5c1b0908f6f9b19837e037c8f4d0a8731e53349fdaa4"), looks := true }, kinds := [], alts := [], laidByText := true, laidKinds := [.data], laidTests := true, laidLooks := .later }
def FnExactPartsOfCardSaid : Prop := Claim7.holds Tryd.pinned (.plain (OpenSpec.ofChange fnExactPartsOfSpec)) fnExactPartsOfCard

/-- THE SECOND FORM's CARD OF 'laws.FnSlots'. -/
def fnSlotsUptoCard : Claim7 := { stood := { row := fnSlotsUptoRow, standIns := [], harness := (true, "fff2959df394ae67ef2f5c1b0908f6f9b19837e037c8f4d0a8731e53349fdaa4"), looks := true }, kinds := [], alts := [], laidByText := true, laidKinds := [.data, .data, .data], laidTests := true, laidLooks := .later }
def FnSlotsUptoCardSaid : Prop := Claim7.holds Tryd.pinned (.plain (OpenSpec.upto fnSlotsSpec)) fnSlotsUptoCard

/-- THE SECOND FORM's CARD OF 'laws.FnExactIsConnected'. -/
def fnExactIsConnectedUptoCard : Claim7 := { stood := { row := fnExactIsConnectedUptoRow, standIns := [], harness := (true, "fff2959df394ae67ef2f5c1b0908f6f9b19837e037c8f4d0a8731e53349fdaa4"), looks := true }, kinds := [], alts := [], laidByText := true, laidKinds := [.data], laidTests := true, laidLooks := .later }
def FnExactIsConnectedUptoCardSaid : Prop := Claim7.holds Tryd.pinned (.plain (OpenSpec.upto fnExactIsConnectedSpec)) fnExactIsConnectedUptoCard

/-- THE SECOND FORM's CARD OF 'laws.FnExactFormOf'. -/
def fnExactFormOfUptoCard : Claim7 := { stood := { row := fnExactFormOfUptoRow, standIns := [], harness := (true, "fff2959df394ae67ef2f5c1b0908f6f9b19837e037c8f4d0a8731e53349fdaa4"), looks := true }, kinds := [], alts := [], laidByText := true, laidKinds := [.data], laidTests := true, laidLooks := .later }
def FnExactFormOfUptoCardSaid : Prop := Claim7.holds Tryd.pinned (.plain (OpenSpec.upto fnExactFormOfSpec)) fnExactFormOfUptoCard

/-- THE SECOND FORM's CARD OF 'laws.FnExactFormName'. -/
def fnExactFormNameUptoCard : Claim7 := { stood := { row := fnExactFormNameUptoRow, standIns := [], harness := (true, "fff2959df394ae67ef2f5c1b0908f6f9b19837e037c8f4d0a8731e53349fdaa4"), looks := true }, kinds := [], alts := [], laidByText := true, laidKinds := [.data], laidTests := true, laidLooks := .later }
def FnExactFormNameUptoCardSaid : Prop := Claim7.holds Tryd.pinned (.plain (OpenSpec.upto fnExactFormNameSpec)) fnExactFormNameUptoCard

/-- THE SECOND FORM's CARD OF 'laws.FnExactPartsOf'. -/
def fnExactPartsOfUptoCard : Claim7 := { stood := { row := fnExactPartsOfUptoRow, standIns := [], harness := (true, "fff2959df394ae67ef2f5c1b0908f6f9b19837e037c8f4d0a8731e53349fdaa4"), looks := true }, kinds := [], alts := [], laidByText := true, laidKinds := [.data], laidTests := true, laidLooks := .later }
def FnExactPartsOfUptoCardSaid : Prop := Claim7.holds Tryd.pinned (.plain (OpenSpec.upto fnExactPartsOfSpec)) fnExactPartsOfUptoCard
end Rows
end Go.Proofs.YtgpplfhbgkcjhaaDoor
