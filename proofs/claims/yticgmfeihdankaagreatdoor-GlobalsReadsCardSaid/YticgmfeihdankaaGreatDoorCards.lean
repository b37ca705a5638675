/-
  DERIVED. GIVEN WITH THE SEED: THE CARDS: each row of YticgmfeihdankaaGreatDoorRows.lean that lists a variable, with what it lists TIED to the program's text (the seventh form; the later family's looks); each row that meets fmt, with fmt's text TOLD by the authors' own Lean function (tested against real Go, not proved from fmt's source: count such statements apart). THE CARD IS WHAT COUNTS. Prove the row's statement (the work); the ties are given (YticgmfeihdankaaGreatDoorTie.lean); close each card by the builder's one call (the guide's Derived/Test/ToyasCard.lean, 'card_holds'). Laid BY PROGRAM, IN A SANDBOX (cutbox-door.mjs). By AI agents, Wed Nov 11 2026. No macro, syntax, notation, axiom, sorry.
-/
import Derived.Test.YticgmfeihdankaaGreatDoorRows
import GoSem.ClaimSeven
namespace Go.Proofs.YticgmfeihdankaaGreatDoor
namespace Rows

/-- THE TIED CARD OF 'creellaw12.GlobalsReads'. -/
def globalsReadsCard : Claim7 := { stood := { row := globalsReadsRow, standIns := [], harness := (true, "21b3f47b25a00b7f5aad510372d1f8b1a45b2ff7a22cc1bb4006e0085f42c4fb"), looks := true }, kinds := [], alts := [], laidByText := true, laidKinds := [.data, .data, .data, .data, .data, .data], laidTests := true, laidLooks := .later }
def GlobalsReadsCardSaid : Prop := Claim7.holds Tryz.pinned (.plain (OpenSpec.ofChange globalsReadsSpec)) globalsReadsCard

/-- THE TIED CARD OF 'creellaw12.GlobalsBack'. -/
def globalsBackCard : Claim7 := { stood := { row := globalsBackRow, standIns := [], harness := (true, "21b3f47b25a00b7f5aad510372d1f8b1a45b2ff7a22cc1bb4006e0085f42c4fb"), looks := true }, kinds := [], alts := [], laidByText := true, laidKinds := [.data, .data, .data, .data, .data, .data], laidTests := true, laidLooks := .later }
def GlobalsBackCardSaid : Prop := Claim7.holds Tryz.pinned (.plain (OpenSpec.ofChange globalsBackSpec)) globalsBackCard

/-- THE SECOND FORM's CARD OF 'creellaw12.GlobalsReads'. -/
def globalsReadsUptoCard : Claim7 := { stood := { row := globalsReadsUptoRow, standIns := [], harness := (true, "21b3f47b25a00b7f5aad510372d1f8b1a45b2ff7a22cc1bb4006e0085f42c4fb"), looks := true }, kinds := [], alts := [], laidByText := true, laidKinds := [.data, .data, .data, .data, .data, .data], laidTests := true, laidLooks := .later }
def GlobalsReadsUptoCardSaid : Prop := Claim7.holds Tryz.pinned (.plain (OpenSpec.upto globalsReadsSpec)) globalsReadsUptoCard

/-- THE SECOND FORM's CARD OF 'creellaw12.GlobalsBack'. -/
def globalsBackUptoCard : Claim7 := { stood := { row := globalsBackUptoRow, standIns := [], harness := (true, "21b3f47b25a00b7f5aad510372d1f8b1a45b2ff7a22cc1bb4006e0085f42c4fb"), looks := true }, kinds := [], alts := [], laidByText := true, laidKinds := [.data, .data, .data, .data, .data, .data], laidTests := true, laidLooks := .later }
def GlobalsBackUptoCardSaid : Prop := Claim7.holds Tryz.pinned (.plain (OpenSpec.upto globalsBackSpec)) globalsBackUptoCard
end Rows
end Go.Proofs.YticgmfeihdankaaGreatDoor
