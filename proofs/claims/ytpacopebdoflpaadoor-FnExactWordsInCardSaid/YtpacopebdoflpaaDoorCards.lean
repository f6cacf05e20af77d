/-
  DERIVED. GIVEN WITH THE SEED: THE CARDS: each row of YtpacopebdoflpaaDoorRows.lean that lists a variable, with what it lists TIED to the program's text (the seventh form; the later family's looks); each row that meets fmt, with fmt's text TOLD by the authors' own Lean function (tested against real Go, not proved from fmt's source: count such statements apart). THE CARD IS WHAT COUNTS. Prove the row's statement (the work); the ties are given (YtpacopebdoflpaaDoorTie.lean); close each card by the builder's one call (the guide's Derived/Test/ToyasCard.lean, 'card_holds'). Laid BY PROGRAM, IN A SANDBOX (cutbox-door.mjs). By AI agents, Wed Nov 11 2026. No macro, syntax, notation, axiom, sorry.
-/
import Derived.Test.YtpacopebdoflpaaDoorRows
import GoSem.ClaimSeven
namespace Go.Proofs.YtpacopebdoflpaaDoor
namespace Rows

/-- THE TIED CARD OF 'laws.FnSlots'. -/
def fnSlotsCard : Claim7 := { stood := { row := fnSlotsRow, standIns := [], harness := (true, "d544dab106371c8578f7e1a5c55016fcbd5f8ac11221558ea57b91643624cdea"), looks := true }, kinds := [], alts := [], laidByText := true, laidKinds := [.data, .data, .data], laidTests := true, laidLooks := .later }
def FnSlotsCardSaid : Prop := Claim7.holds Tryd.pinned (.plain (OpenSpec.ofChange fnSlotsSpec)) fnSlotsCard

/-- THE TIED CARD OF 'laws.FnExactEmptyFill'. -/
def fnExactEmptyFillCard : Claim7 := { stood := { row := fnExactEmptyFillRow, standIns := [], harness := (true, "d544dab106371c8578f7e1a5c55016fcbd5f8ac11221558ea57b91643624cdea"), looks := true }, kinds := [], alts := [], laidByText := true, laidKinds := [.data], laidTests := true, laidLooks := .later }
def FnExactEmptyFillCardSaid : Prop := Claim7.holds Tryd.pinned (.plain (OpenSpec.ofChange fnExactEmptyFillSpec)) fnExactEmptyFillCard

/-- THE TIED CARD OF 'laws.FnExactPutWord'. -/
def fnExactPutWordCard : Claim7 := { stood := { row := fnExactPutWordRow, standIns := [], harness := (true, "d544dab106371c8578f7e1a5c55016fcbd5f8ac11221558ea57b91643624cdea"), looks := true }, kinds := [], alts := [], laidByText := true, laidKinds := [.data, .pinned], laidTests := true, laidLooks := .later }
def FnExactPutWordCardSaid : Prop := Claim7.holds Tryd.pinned (.plain (OpenSpec.ofChange fnExactPutWordSpec)) fnExactPutWordCard

/-- THE TIED CARD OF 'laws.FnExactWordsIn'. -/
def fnExactWordsInCard : Claim7 := { stood := { row := fnExactWordsInRow, standIns := [], harness := (true, "d544dab106371c8578f7e1a5c55016fcbd5f8ac11221558ea57b91643624cdea"), looks := true }, kinds := [], alts := [], laidByText := true, laidKinds := [.data, .pinned], laidTests := true, laidLooks := .later }
def FnExactWordsInCardSaid : Prop := Claim7.holds Tryd.pinned (.plain (OpenSpec.ofChange fnExactWordsInSpec)) fnExactWordsInCard

/-- THE SECOND FORM's CARD OF 'laws.FnSlots'. -/
def fnSlotsUptoCard : Claim7 := { stood := { row := fnSlotsUptoRow, standIns := [], harness := (true, "d544dab106371c8578f7e1a5c55016fcbd5f8ac11221558ea57b91643624cdea"), looks := true }, kinds := [], alts := [], laidByText := true, laidKinds := [.data, .data, .data], laidTests := true, laidLooks := .later }
def FnSlotsUptoCardSaid : Prop := Claim7.holds Tryd.pinned (.plain (OpenSpec.upto fnSlotsSpec)) fnSlotsUptoCard

/-- THE SECOND FORM's CARD OF 'laws.FnExactEmptyFill'. -/
def fnExactEmptyFillUptoCard : Claim7 := { stood := { row := fnExactEmptyFillUptoRow, standIns := [], harness := (true, "d544dab106371c8578f7e1a5c55016fcbd5f8ac11221558ea57b91643624cdea"), looks := true }, kinds := [], alts := [], laidByText := true, laidKinds := [.data], laidTests := true, laidLooks := .later }
def FnExactEmptyFillUptoCardSaid : Prop := Claim7.holds Tryd.pinned (.plain (OpenSpec.upto fnExactEmptyFillSpec)) fnExactEmptyFillUptoCard

/-- THE SECOND FORM's CARD OF 'laws.FnExactPutWord'. -/
def fnExactPutWordUptoCard : Claim7 := { stood := { row := fnExactPutWordUptoRow, standIns := [], harness := (true, "d544dab106371c8578f7e1a5c55016fcbd5f8ac11221558ea57b91643624cdea"), looks := true }, kinds := [], alts := [], laidByText := true, laidKinds := [.data, .pinned], laidTests := true, laidLooks := .later }
def FnExactPutWordUptoCardSaid : Prop := Claim7.holds Tryd.pinned (.plain (OpenSpec.upto fnExactPutWordSpec)) fnExactPutWordUptoCard

/-- THE SECOND FORM's CARD OF 'laws.FnExactWordsIn'. -/
def fnExactWordsInUptoCard : Claim7 := { stood := { row := fnExactWordsInUptoRow, standIns := [], harness := (true, "d544dab106371c8578f7e1a5c55016fcbd5f8ac11221558ea57b91643624cdea"), looks := true }, kinds := [], alts := [], laidByText := true, laidKinds := [.data, .pinned], laidTests := true, laidLooks := .later }
def FnExactWordsInUptoCardSaid : Prop := Claim7.holds Tryd.pinned (.plain (OpenSpec.upto fnExactWordsInSpec)) fnExactWordsInUptoCard
end Rows
end Go.Proofs.YtpacopebdoflpaaDoor
