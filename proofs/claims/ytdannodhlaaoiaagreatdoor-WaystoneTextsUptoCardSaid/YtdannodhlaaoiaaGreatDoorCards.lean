/-
  DERIVED. GIVEN WITH THE SEED: THE CARDS: each row of YtdannodhlaaoiaaGreatDoorRows.lean that lists a variable, with what it lists TIED to the program's text (the seventh form; the later family's looks); each row that meets fmt, with fmt's text TOLD by the authors' own Lean function (tested against real Go, not proved from fmt's source: count such statements apart). THE CARD IS WHAT COUNTS. Prove the row's statement (the work); the ties are given (YtdannodhlaaoiaaGreatDoorTie.lean); close each card by the builder's one call (the guide's Derived/Test/ToyasCard.lean, 'card_holds'). Laid BY PROGRAM, IN A SANDBOX (cutbox-door.mjs). By AI agents, Wed Nov 11 2026. No macro, syntax, notation, axiom, sorry.
-/
import Derived.Test.YtdannodhlaaoiaaGreatDoorRows
import GoSem.ClaimSeven
namespace Go.Proofs.YtdannodhlaaoiaaGreatDoor
namespace Rows

/-- THE TIED CARD OF 'waystonetop.WaystoneTexts'. -/
def waystoneTextsCard : Claim7 := { stood := { row := waystoneTextsRow, standIns := [], harness := (true, "03d1472ba7f1dfb1e83d4538b7abf78473850d86cac9474db043050a0ee03717"), looks := false }, kinds := [], alts := [], laidByText := true, laidKinds := [.data, .data, .data, .data], laidTests := true, laidLooks := .later }
def WaystoneTextsCardSaid : Prop := Claim7.holds Tryz.pinned (.plain (OpenSpec.ofChange waystoneTextsSpec)) waystoneTextsCard

/-- THE SECOND FORM's CARD OF 'waystonetop.WaystoneTexts'. -/
def waystoneTextsUptoCard : Claim7 := { stood := { row := waystoneTextsUptoRow, standIns := [], harness := (true, "03d1472ba7f1dfb1e83d4538b7abf78473850d86cac9474db043050a0ee03717"), looks := false }, kinds := [], alts := [], laidByText := true, laidKinds := [.data, .data, .data, .data], laidTests := true, laidLooks := .later }
def WaystoneTextsUptoCardSaid : Prop := Claim7.holds Tryz.pinned (.plain (OpenSpec.upto waystoneTextsSpec)) waystoneTextsUptoCard
end Rows
end Go.Proofs.YtdannodhlaaoiaaGreatDoor
