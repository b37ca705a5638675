/-
  DERIVED. GIVEN WITH THE SEED: THE CARDS: each row of YtebgmfjgapmpfaaGreatDoorRows.lean that lists a variable, with what it lists TIED to the program's text (the seventh form; the later family's looks); each row that meets fmt, with fmt's text TOLD by the authors' own Lean function (tested against real Go, not proved from fmt's source: count such statements apart). THE CARD IS WHAT COUNTS. Prove the row's statement (the work); the ties are given (YtebgmfjgapmpfaaGreatDoorTie.lean); close each card by the builder's one call (the guide's Derived/Test/ToyasCard.lean, 'card_holds'). Laid BY PROGRAM, IN A SANDBOX (cutbox-door.mjs). By AI agents, Wed Nov 11 2026. No macro, syntax, notation, axiom, sorry.
-/
import Derived.Test.YtebgmfjgapmpfaaGreatDoorRows
import GoSem.ClaimSeven
namespace Go.Proofs.YtebgmfjgapmpfaaGreatDoor
namespace Rows

/-- THE TIED CARD OF 'creellaw12.GlobalsReads'. -/
def globalsReadsCard : Claim7 := { stood := { row := globalsReadsRow, standIns := [], harness := (true, "b92316cb4a2ea87d898616ca22c8bfc1544da9c7bbd508b0096e3845b4ed46e3"), looks := true }, kinds := [], alts := [], laidByText := true, laidKinds := [.data, .data, .data, .data, .data, .data], laidTests := true, laidLooks := .later }
def GlobalsReadsCardSaid : Prop := Claim7.holds Tryz.pinned (.plain (OpenSpec.ofChange globalsReadsSpec)) globalsReadsCard

/-- THE TIED CARD OF 'creellaw12.GlobalsBack'. -/
def globalsBackCard : Claim7 := { stood := { row := globalsBackRow, standIns := [], harness := (true, "b92316cb4a2ea87d898616ca22c8bfc1544da9c7bbd508b0096e3845b4ed46e3"), looks := true }, kinds := [], alts := [], laidByText := true, laidKinds := [.data, .data, .data, .data, .data, .data], laidTests := true, laidLooks := .later }
def GlobalsBackCardSaid : Prop := Claim7.holds Tryz.pinned (.plain (OpenSpec.ofChange globalsBackSpec)) globalsBackCard

/-- THE TIED CARD OF 'creellaw13.ElemsReads'. -/
def elemsReadsCard : Claim7 := { stood := { row := elemsReadsRow, standIns := [], harness := (true, "b92316cb4a2ea87d898616ca22c8bfc1544da9c7bbd508b0096e3845b4ed46e3"), looks := true }, kinds := [], alts := [], laidByText := true, laidKinds := [.data, .data, .data, .data, .data, .data], laidTests := true, laidLooks := .later }
def ElemsReadsCardSaid : Prop := Claim7.holds Tryz.pinned (.plain (OpenSpec.ofChange elemsReadsSpec)) elemsReadsCard

/-- THE TIED CARD OF 'creellaw13.ElemsBack'. -/
def elemsBackCard : Claim7 := { stood := { row := elemsBackRow, standIns := [], harness := (true, "b92316cb4a2ea87d898616ca22c8bfc1544da9c7bbd508b0096e3845b4ed46e3"), looks := true }, kinds := [], alts := [], laidByText := true, laidKinds := [.data, .data, .data, .data, .data, .data], laidTests := true, laidLooks := .later }
def ElemsBackCardSaid : Prop := Claim7.holds Tryz.pinned (.plain (OpenSpec.ofChange elemsBackSpec)) elemsBackCard

/-- THE TIED CARD OF 'creellaw14.BodiesPuts'. -/
def bodiesPutsCard : Claim7 := { stood := { row := bodiesPutsRow, standIns := [], harness := (true, "b92316cb4a2ea87d898616ca22c8bfc1544da9c7bbd508b0096e3845b4ed46e3"), looks := true }, kinds := [], alts := [], laidByText := true, laidKinds := [.data, .data, .data, .data, .data, .data], laidTests := true, laidLooks := .later }
def BodiesPutsCardSaid : Prop := Claim7.holds Tryz.pinned (.plain (OpenSpec.ofChange bodiesPutsSpec)) bodiesPutsCard

/-- THE SECOND FORM's CARD OF 'creellaw12.GlobalsReads'. -/
def globalsReadsUptoCard : Claim7 := { stood := { row := globalsReadsUptoRow, standIns := [], harness := (true, "b92316cb4a2ea87d898616ca22c8bfc1544da9c7bbd508b0096e3845b4ed46e3"), looks := true }, kinds := [], alts := [], laidByText := true, laidKinds := [.data, .data, .data, .data, .data, .data], laidTests := true, laidLooks := .later }
def GlobalsReadsUptoCardSaid : Prop := Claim7.holds Tryz.pinned (.plain (OpenSpec.upto globalsReadsSpec)) globalsReadsUptoCard

/-- THE SECOND FORM's CARD OF 'creellaw12.GlobalsBack'. -/
def globalsBackUptoCard : Claim7 := { stood := { row := globalsBackUptoRow, standIns := [], harness := (true, "b92316cb4a2ea87d898616ca22c8bfc1544da9c7bbd508b0096e3845b4ed46e3"), looks := true }, kinds := [], alts := [], laidByText := true, laidKinds := [.data, .data, .data, .data, .data, .data], laidTests := true, laidLooks := .later }
def GlobalsBackUptoCardSaid : Prop := Claim7.holds Tryz.pinned (.plain (OpenSpec.upto globalsBackSpec)) globalsBackUptoCard

/-- THE SECOND FORM's CARD OF 'creellaw13.ElemsReads'. -/
def elemsReadsUptoCard : Claim7 := { stood := { row := elemsReadsUptoRow, standIns := [], harness := (true, "b92316cb4a2ea87d898616ca22c8bfc1544da9c7bbd508b0096e3845b4ed46e3"), looks := true }, kinds := [], alts := [], laidByText := true, laidKinds := [.data, .data, .data, .data, .data, .data], laidTests := true, laidLooks := .later }
def ElemsReadsUptoCardSaid : Prop := Claim7.holds Tryz.pinned (.plain (OpenSpec.upto elemsReadsSpec)) elemsReadsUptoCard

/-- THE SECOND FORM's CARD OF 'creellaw13.ElemsBack'. -/
def elemsBackUptoCard : Claim7 := { stood := { row := elemsBackUptoRow, standIns := [], harness := (true, "b92316cb4a2ea87d898616ca22c8bfc1544da9c7bbd508b0096e3845b4ed46e3"), looks := true }, kinds := [], alts := [], laidByText := true, laidKinds := [.data, .data, .data, .data, .data, .data], laidTests := true, laidLooks := .later }
def ElemsBackUptoCardSaid : Prop := Claim7.holds Tryz.pinned (.plain (OpenSpec.upto elemsBackSpec)) elemsBackUptoCard

/-- THE SECOND FORM's CARD OF 'creellaw14.BodiesPuts'. -/
def bodiesPutsUptoCard : Claim7 := { stood := { row := bodiesPutsUptoRow, standIns := [], harness := (true, "b92316cb4a2ea87d898616ca22c8bfc1544da9c7bbd508b0096e3845b4ed46e3"), looks := true }, kinds := [], alts := [], laidByText := true, laidKinds := [.data, .data, .data, .data, .data, .data], laidTests := true, laidLooks := .later }
def BodiesPutsUptoCardSaid : Prop := Claim7.holds Tryz.pinned (.plain (OpenSpec.upto bodiesPutsSpec)) bodiesPutsUptoCard
end Rows
end Go.Proofs.YtebgmfjgapmpfaaGreatDoor
