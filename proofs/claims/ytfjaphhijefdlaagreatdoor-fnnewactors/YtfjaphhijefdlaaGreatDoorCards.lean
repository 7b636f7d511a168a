/-
  DERIVED. GIVEN WITH THE SEED: THE CARDS: each row of YtfjaphhijefdlaaGreatDoorRows.lean that lists a variable, with what it lists TIED to the program's text (the seventh form; the later family's looks); each row that meets fmt, with fmt's text TOLD by the authors' own Lean function (tested against real Go, not proved from fmt's source: count such statements apart). THE CARD IS WHAT COUNTS. Prove the row's statement (the work); the ties are given (YtfjaphhijefdlaaGreatDoorTie.lean); close each card by the builder's one call (the guide's Derived/Test/ToyasCard.lean, 'card_holds'). Laid BY PROGRAM, IN A SANDBOX (cutbox-door.mjs). By AI agents, Wed Nov 11 2026. No macro, syntax, notation, axiom, sorry.
-/
import Derived.Test.YtfjaphhijefdlaaGreatDoorRows
import GoSem.ClaimSeven
namespace Go.Proofs.YtfjaphhijefdlaaGreatDoor
namespace Rows

/-- THE TIED CARD OF 'laws.FnNewActors'. -/
def fnNewActorsCard : Claim7 := { stood := { row := fnNewActorsRow, standIns := [], harness := (true, "66c2e8f4198f3004f498746e649d7a134e569dae11da4c37f3bfccecc6628a41"), looks := true }, kinds := [], alts := [], laidByText := true, laidKinds := [.data, .data, .data, .handle, .data], laidTests := true, laidLooks := .later }
def FnNewActorsCardSaid : Prop := Claim7.holds Tryz.pinned (.plain (OpenSpec.ofChange fnNewActorsSpec)) fnNewActorsCard

/-- THE SECOND FORM's CARD OF 'laws.FnNewActors'. -/
def fnNewActorsUptoCard : Claim7 := { stood := { row := fnNewActorsUptoRow, standIns := [], harness := (true, "66c2e8f4198f3004f498746e649d7a134e569dae11da4c37f3bfccecc6628a41"), looks := true }, kinds := [], alts := [], laidByText := true, laidKinds := [.data, .data, .data, .handle, .data], laidTests := true, laidLooks := .later }
def FnNewActorsUptoCardSaid : Prop := Claim7.holds Tryz.pinned (.plain (OpenSpec.upto fnNewActorsSpec)) fnNewActorsUptoCard
end Rows
end Go.Proofs.YtfjaphhijefdlaaGreatDoor
