/-
  DERIVED. GIVEN WITH THE SEED: THE CARDS: each row of YtcpodedmeeihhaaDoorRows.lean that lists a variable, with what it lists TIED to the program's text (the seventh form; the later family's looks); each row that meets fmt, with fmt's text TOLD by the authors' own Lean function (tested against real Go, not proved from fmt's source: count such statements apart). THE CARD IS WHAT COUNTS. Prove the row's statement (the work); the ties are given (YtcpodedmeeihhaaDoorTie.lean); close each card by the builder's one call (the guide's Derived/Test/ToyasCard.lean, 'card_holds'). Laid BY PROGRAM, IN A SANDBOX (cutbox-door.mjs). By AI agents, Wed Nov 11 2026. No macro, syntax, notation, axiom, sorry.
-/
import Derived.Test.YtcpodedmeeihhaaDoorRows
import GoSem.ClaimSeven
namespace Go.Proofs.YtcpodedmeeihhaaDoor
namespace Rows

/-- THE TIED CARD OF 'laws.FnExactPutCode'. -/
def fnExactPutCodeCard : Claim7 := { stood := { row := fnExactPutCodeRow, standIns := [], harness := (true, "30dba901f47578e3bf1141fe66990a5d44ed60632e946e9e5a6c263b9cc6781f"), looks := true }, kinds := [], alts := [], laidByText := true, laidKinds := [.data, .data, .data, .handle, .data], laidTests := true, laidLooks := .later }
def FnExactPutCodeCardSaid : Prop := Claim7.holds Tryd.pinned (.plain (OpenSpec.ofChange fnExactPutCodeSpec)) fnExactPutCodeCard

/-- THE TIED CARD OF 'laws.FnExactGetCode'. -/
def fnExactGetCodeCard : Claim7 := { stood := { row := fnExactGetCodeRow, standIns := [], harness := (true, "30dba901f47578e3bf1141fe66990a5d44ed60632e946e9e5a6c263b9cc6781f"), looks := true }, kinds := [], alts := [], laidByText := true, laidKinds := [.data, .data, .data, .handle, .data], laidTests := true, laidLooks := .later }
def FnExactGetCodeCardSaid : Prop := Claim7.holds Tryd.pinned (.plain (OpenSpec.ofChange fnExactGetCodeSpec)) fnExactGetCodeCard

/-- THE SECOND FORM's CARD OF 'laws.FnExactPutCode'. -/
def fnExactPutCodeUptoCard : Claim7 := { stood := { row := fnExactPutCodeUptoRow, standIns := [], harness := (true, "30dba901f47578e3bf1141fe66990a5d44ed60632e946e9e5a6c263b9cc6781f"), looks := true }, kinds := [], alts := [], laidByText := true, laidKinds := [.data, .data, .data, .handle, .data], laidTests := true, laidLooks := .later }
def FnExactPutCodeUptoCardSaid : Prop := Claim7.holds Tryd.pinned (.plain (OpenSpec.upto fnExactPutCodeSpec)) fnExactPutCodeUptoCard

/-- THE SECOND FORM's CARD OF 'laws.FnExactGetCode'. -/
def fnExactGetCodeUptoCard : Claim7 := { stood := { row := fnExactGetCodeUptoRow, standIns := [], harness := (true, "30dba901f47578e3bf1141fe66990a5d44ed60632e946e9e5a6c263b9cc6781f"), looks := true }, kinds := [], alts := [], laidByText := true, laidKinds := [.data, .data, .data, .handle, .data], laidTests := true, laidLooks := .later }
def FnExactGetCodeUptoCardSaid : Prop := Claim7.holds Tryd.pinned (.plain (OpenSpec.upto fnExactGetCodeSpec)) fnExactGetCodeUptoCard
end Rows
end Go.Proofs.YtcpodedmeeihhaaDoor
