/-
  DERIVED. GIVEN WITH THE SEED: THE CARDS: each row of YtkofmllikneleaaDoorRows.lean that lists a variable, with what it lists TIED to the program's text (the seventh form; the later family's looks); each row that meets fmt, with fmt's text TOLD by the authors' own Lean function (tested against real Go, not proved from fmt's source: count such statements apart). THE CARD IS WHAT COUNTS. Prove the row's statement (the work); the ties are given (YtkofmllikneleaaDoorTie.lean); close each card by the builder's one call (the guide's Derived/Test/ToyasCard.lean, 'card_holds'). Laid BY PROGRAM, IN A SANDBOX (cutbox-door.mjs). By AI agents, Wed Nov 11 2026. No macro, syntax, notation, axiom, sorry.
-/
import Derived.Test.YtkofmllikneleaaDoorRows
import GoSem.ClaimSeven
namespace Go.Proofs.YtkofmllikneleaaDoor
namespace Rows

/-- THE TIED CARD OF 'laws.FnKeyedHash'. -/
def fnKeyedHashCard : Claim7 := { stood := { row := fnKeyedHashRow, standIns := [], harness := (true, "392102398bb6c5bd0f0fc138e62b32a1c14c34037080d4502719ac8240ee9b94"), looks := false }, kinds := [], alts := [], laidByText := true, laidKinds := [.data, .pinned], laidTests := true, laidLooks := .later }
def FnKeyedHashCardSaid : Prop := Claim7.holds Tryd.pinned (.plain (OpenSpec.ofChange fnKeyedHashSpec)) fnKeyedHashCard

/-- THE TIED CARD OF 'laws.FnExactDeriveFromString'. -/
def fnExactDeriveFromStringCard : Claim7 := { stood := { row := fnExactDeriveFromStringRow, standIns := [], harness := (true, "392102398bb6c5bd0f0fc138e62b32a1c14c34037080d4502719ac8240ee9b94"), looks := false }, kinds := [], alts := [], laidByText := true, laidKinds := [.data, .pinned], laidTests := true, laidLooks := .later }
def FnExactDeriveFromStringCardSaid : Prop := Claim7.holds Tryd.pinned (.plain (OpenSpec.ofChange fnExactDeriveFromStringSpec)) fnExactDeriveFromStringCard

/-- THE SECOND FORM's CARD OF 'laws.FnKeyedHash'. -/
def fnKeyedHashUptoCard : Claim7 := { stood := { row := fnKeyedHashUptoRow, standIns := [], harness := (true, "392102398bb6c5bd0f0fc138e62b32a1c14c34037080d4502719ac8240ee9b94"), looks := false }, kinds := [], alts := [], laidByText := true, laidKinds := [.data, .pinned], laidTests := true, laidLooks := .later }
def FnKeyedHashUptoCardSaid : Prop := Claim7.holds Tryd.pinned (.plain (OpenSpec.upto fnKeyedHashSpec)) fnKeyedHashUptoCard

/-- THE SECOND FORM's CARD OF 'laws.FnExactDeriveFromString'. -/
def fnExactDeriveFromStringUptoCard : Claim7 := { stood := { row := fnExactDeriveFromStringUptoRow, standIns := [], harness := (true, "392102398bb6c5bd0f0fc138e62b32a1c14c34037080d4502719ac8240ee9b94"), looks := false }, kinds := [], alts := [], laidByText := true, laidKinds := [.data, .pinned], laidTests := true, laidLooks := .later }
def FnExactDeriveFromStringUptoCardSaid : Prop := Claim7.holds Tryd.pinned (.plain (OpenSpec.upto fnExactDeriveFromStringSpec)) fnExactDeriveFromStringUptoCard
end Rows
end Go.Proofs.YtkofmllikneleaaDoor
