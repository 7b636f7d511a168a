/-
  DERIVED. GIVEN WITH THE SEED: THE CARDS: each row of YtgdlkekjbdkjjaaGreatDoorRows.lean that lists a variable, with what it lists TIED to the program's text (the seventh form; the later family's looks); each row that meets fmt, with fmt's text TOLD by the authors' own Lean function (tested against real Go, not proved from fmt's source: count such statements apart). THE CARD IS WHAT COUNTS. Prove the row's statement (the work); the ties are given (YtgdlkekjbdkjjaaGreatDoorTie.lean); close each card by the builder's one call (the guide's Derived/Test/ToyasCard.lean, 'card_holds'). Laid BY PROGRAM, IN A SANDBOX (cutbox-door.mjs). By AI agents, Wed Nov 11 2026. No macro, syntax, notation, axiom, sorry.
-/
import Derived.Test.YtgdlkekjbdkjjaaGreatDoorRows
import GoSem.ClaimSeven
namespace Go.Proofs.YtgdlkekjbdkjjaaGreatDoor
namespace Rows

/-- THE TIED CARD OF 'laws.FnCodesRead'. -/
def fnCodesReadCard : Claim7 := { stood := { row := fnCodesReadRow, standIns := [], harness := (true, "67791245e05f105de24f0622fcc7950b41943286c25214ff88c7ea03b69435b7"), looks := true }, kinds := [], alts := [], laidByText := true, laidKinds := [.data, .data, .data, .data, .handle, .sentinel, .sentinel, .data, .pinned], laidTests := true, laidLooks := .later }
def FnCodesReadCardSaid : Prop := Claim7.holds Tryz.pinned (.plain (OpenSpec.ofChange fnCodesReadSpec)) fnCodesReadCard

/-- THE SECOND FORM's CARD OF 'laws.FnCodesRead'. -/
def fnCodesReadUptoCard : Claim7 := { stood := { row := fnCodesReadUptoRow, standIns := [], harness := (true, "67791245e05f105de24f0622fcc7950b41943286c25214ff88c7ea03b69435b7"), looks := true }, kinds := [], alts := [], laidByText := true, laidKinds := [.data, .data, .data, .data, .handle, .sentinel, .sentinel, .data, .pinned], laidTests := true, laidLooks := .later }
def FnCodesReadUptoCardSaid : Prop := Claim7.holds Tryz.pinned (.plain (OpenSpec.upto fnCodesReadSpec)) fnCodesReadUptoCard
end Rows
end Go.Proofs.YtgdlkekjbdkjjaaGreatDoor
