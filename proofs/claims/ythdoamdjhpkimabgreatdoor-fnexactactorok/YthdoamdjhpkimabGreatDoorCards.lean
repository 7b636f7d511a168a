/-
  DERIVED. GIVEN WITH THE SEED: THE CARDS: each row of YthdoamdjhpkimabGreatDoorRows.lean that lists a variable, with what it lists TIED to the program's text (the seventh form; the later family's looks); each row that meets fmt, with fmt's text TOLD by the authors' own Lean function (tested against real Go, not proved from fmt's source: count such statements apart). THE CARD IS WHAT COUNTS. Prove the row's statement (the work); the ties are given (YthdoamdjhpkimabGreatDoorTie.lean); close each card by the builder's one call (the guide's Derived/Test/ToyasCard.lean, 'card_holds'). Laid BY PROGRAM, IN A SANDBOX (cutbox-door.mjs). By AI agents, Wed Nov 11 2026. No macro, syntax, notation, axiom, sorry.
-/
import Derived.Test.YthdoamdjhpkimabGreatDoorRows
import GoSem.ClaimSeven
namespace Go.Proofs.YthdoamdjhpkimabGreatDoor
namespace Rows

/-- THE TIED CARD OF 'laws.FnExactActorOk'. -/
def fnExactActorOkCard : Claim7 := { stood := { row := fnExactActorOkRow, standIns := [], harness := (true, "271fe891108b12dcf752cc7523af43ec6ac2ed71479d405793ea6f871a8bde40"), looks := true }, kinds := [], alts := [], laidByText := true, laidKinds := [.data, .data, .data, .handle, .data], laidTests := true, laidLooks := .later }
def FnExactActorOkCardSaid : Prop := Claim7.holds Tryz.pinned (.plain (OpenSpec.ofChange fnExactActorOkSpec)) fnExactActorOkCard

/-- THE SECOND FORM's CARD OF 'laws.FnExactActorOk'. -/
def fnExactActorOkUptoCard : Claim7 := { stood := { row := fnExactActorOkUptoRow, standIns := [], harness := (true, "271fe891108b12dcf752cc7523af43ec6ac2ed71479d405793ea6f871a8bde40"), looks := true }, kinds := [], alts := [], laidByText := true, laidKinds := [.data, .data, .data, .handle, .data], laidTests := true, laidLooks := .later }
def FnExactActorOkUptoCardSaid : Prop := Claim7.holds Tryz.pinned (.plain (OpenSpec.upto fnExactActorOkSpec)) fnExactActorOkUptoCard
end Rows
end Go.Proofs.YthdoamdjhpkimabGreatDoor
