/-
  DERIVED. GIVEN WITH THE SEED: THE CARDS: each row of YtjjmikfbongccaaGreatDoorRows.lean that lists a variable, with what it lists TIED to the program's text (the seventh form; the later family's looks); each row that meets fmt, with fmt's text TOLD by the authors' own Lean function (tested against real Go, not proved from fmt's source: count such statements apart). THE CARD IS WHAT COUNTS. Prove the row's statement (the work); the ties are given (YtjjmikfbongccaaGreatDoorTie.lean); close each card by the builder's one call (the guide's Derived/Test/ToyasCard.lean, 'card_holds'). Laid BY PROGRAM, IN A SANDBOX (cutbox-door.mjs). By AI agents, Wed Nov 11 2026. No macro, syntax, notation, axiom, sorry.
-/
import Derived.Test.YtjjmikfbongccaaGreatDoorRows
import GoSem.ClaimSeven
namespace Go.Proofs.YtjjmikfbongccaaGreatDoor
namespace Rows

/-- THE TIED CARD OF 'laws.FnExactCellOk'. -/
def fnExactCellOkCard : Claim7 := { stood := { row := fnExactCellOkRow, standIns := [], harness := (true, "c80654487d9eb7500d5b79f1f0b1e03742df58f4b5f3aa1b3d7803ac28a794ae"), looks := true }, kinds := [], alts := [], laidByText := true, laidKinds := [.data, .data, .data, .handle, .data], laidTests := true, laidLooks := .later }
def FnExactCellOkCardSaid : Prop := Claim7.holds Tryz.pinned (.plain (OpenSpec.ofChange fnExactCellOkSpec)) fnExactCellOkCard

/-- THE SECOND FORM's CARD OF 'laws.FnExactCellOk'. -/
def fnExactCellOkUptoCard : Claim7 := { stood := { row := fnExactCellOkUptoRow, standIns := [], harness := (true, "c80654487d9eb7500d5b79f1f0b1e03742df58f4b5f3aa1b3d7803ac28a794ae"), looks := true }, kinds := [], alts := [], laidByText := true, laidKinds := [.data, .data, .data, .handle, .data], laidTests := true, laidLooks := .later }
def FnExactCellOkUptoCardSaid : Prop := Claim7.holds Tryz.pinned (.plain (OpenSpec.upto fnExactCellOkSpec)) fnExactCellOkUptoCard
end Rows
end Go.Proofs.YtjjmikfbongccaaGreatDoor
