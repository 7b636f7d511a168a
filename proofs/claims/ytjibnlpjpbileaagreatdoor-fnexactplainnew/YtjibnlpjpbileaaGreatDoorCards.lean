/-
  DERIVED. GIVEN WITH THE SEED: THE CARDS: each row of YtjibnlpjpbileaaGreatDoorRows.lean that lists a variable, with what it lists TIED to the program's text (the seventh form; the later family's looks); each row that meets fmt, with fmt's text TOLD by the authors' own Lean function (tested against real Go, not proved from fmt's source: count such statements apart). THE CARD IS WHAT COUNTS. Prove the row's statement (the work); the ties are given (YtjibnlpjpbileaaGreatDoorTie.lean); close each card by the builder's one call (the guide's Derived/Test/ToyasCard.lean, 'card_holds'). Laid BY PROGRAM, IN A SANDBOX (cutbox-door.mjs). By AI agents, Wed Nov 11 2026. No macro, syntax, notation, axiom, sorry.
-/
import Derived.Test.YtjibnlpjpbileaaGreatDoorRows
import GoSem.ClaimSeven
namespace Go.Proofs.YtjibnlpjpbileaaGreatDoor
namespace Rows

/-- THE TIED CARD OF 'laws.FnExactPlainNew'. -/
def fnExactPlainNewCard : Claim7 := { stood := { row := fnExactPlainNewRow, standIns := [], harness := (true, "ce89986e240c60f71c559562592205c63c2bb839115cd5ea4bca6a7bf0f34e20"), looks := true }, kinds := [], alts := [], laidByText := true, laidKinds := [.data, .data, .data, .handle, .data], laidTests := true, laidLooks := .later }
def FnExactPlainNewCardSaid : Prop := Claim7.holds Tryz.pinned (.plain (OpenSpec.ofChange fnExactPlainNewSpec)) fnExactPlainNewCard

/-- THE TIED CARD OF 'laws.FnExactPlainTell'. -/
def fnExactPlainTellCard : Claim7 := { stood := { row := fnExactPlainTellRow, standIns := [], harness := (true, "ce89986e240c60f71c559562592205c63c2bb839115cd5ea4bca6a7bf0f34e20"), looks := true }, kinds := [], alts := [], laidByText := true, laidKinds := [.data, .data, .data, .handle, .data], laidTests := true, laidLooks := .later }
def FnExactPlainTellCardSaid : Prop := Claim7.holds Tryz.pinned (.plain (OpenSpec.ofChange fnExactPlainTellSpec)) fnExactPlainTellCard

/-- THE TIED CARD OF 'laws.FnExactPlainEnd'. -/
def fnExactPlainEndCard : Claim7 := { stood := { row := fnExactPlainEndRow, standIns := [], harness := (true, "ce89986e240c60f71c559562592205c63c2bb839115cd5ea4bca6a7bf0f34e20"), looks := true }, kinds := [], alts := [], laidByText := true, laidKinds := [.data, .data, .data, .handle, .data], laidTests := true, laidLooks := .later }
def FnExactPlainEndCardSaid : Prop := Claim7.holds Tryz.pinned (.plain (OpenSpec.ofChange fnExactPlainEndSpec)) fnExactPlainEndCard

/-- THE SECOND FORM's CARD OF 'laws.FnExactPlainNew'. -/
def fnExactPlainNewUptoCard : Claim7 := { stood := { row := fnExactPlainNewUptoRow, standIns := [], harness := (true, "ce89986e240c60f71c559562592205c63c2bb839115cd5ea4bca6a7bf0f34e20"), looks := true }, kinds := [], alts := [], laidByText := true, laidKinds := [.data, .data, .data, .handle, .data], laidTests := true, laidLooks := .later }
def FnExactPlainNewUptoCardSaid : Prop := Claim7.holds Tryz.pinned (.plain (OpenSpec.upto fnExactPlainNewSpec)) fnExactPlainNewUptoCard

/-- THE SECOND FORM's CARD OF 'laws.FnExactPlainTell'. -/
def fnExactPlainTellUptoCard : Claim7 := { stood := { row := fnExactPlainTellUptoRow, standIns := [], harness := (true, "ce89986e240c60f71c559562592205c63c2bb839115cd5ea4bca6a7bf0f34e20"), looks := true }, kinds := [], alts := [], laidByText := true, laidKinds := [.data, .data, .data, .handle, .data], laidTests := true, laidLooks := .later }
def FnExactPlainTellUptoCardSaid : Prop := Claim7.holds Tryz.pinned (.plain (OpenSpec.upto fnExactPlainTellSpec)) fnExactPlainTellUptoCard

/-- THE SECOND FORM's CARD OF 'laws.FnExactPlainEnd'. -/
def fnExactPlainEndUptoCard : Claim7 := { stood := { row := fnExactPlainEndUptoRow, standIns := [], harness := (true, "ce89986e240c60f71c559562592205c63c2bb839115cd5ea4bca6a7bf0f34e20"), looks := true }, kinds := [], alts := [], laidByText := true, laidKinds := [.data, .data, .data, .handle, .data], laidTests := true, laidLooks := .later }
def FnExactPlainEndUptoCardSaid : Prop := Claim7.holds Tryz.pinned (.plain (OpenSpec.upto fnExactPlainEndSpec)) fnExactPlainEndUptoCard
end Rows
end Go.Proofs.YtjibnlpjpbileaaGreatDoor
