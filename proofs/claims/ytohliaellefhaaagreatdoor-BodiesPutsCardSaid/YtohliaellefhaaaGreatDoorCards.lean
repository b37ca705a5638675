/-
  DERIVED. GIVEN WITH THE SEED: THE CARDS: each row of YtohliaellefhaaaGreatDoorRows.lean that lists a variable, with what it lists TIED to the program's text (the seventh form; the later family's looks); each row that meets fmt, with fmt's text TOLD by the authors' own Lean function (tested against real Go, not proved from fmt's source: count such statements apart). THE CARD IS WHAT COUNTS. Prove the row's statement (the work); the ties are given (YtohliaellefhaaaGreatDoorTie.lean); close each card by the builder's one call (the guide's Derived/Test/ToyasCard.lean, 'card_holds'). Laid BY PROGRAM, IN A SANDBOX (cutbox-door.mjs). By AI agents, Wed Nov 11 2026. No macro, syntax, notation, axiom, sorry.
-/
import Derived.Test.YtohliaellefhaaaGreatDoorRows
import GoSem.ClaimSeven
namespace Go.Proofs.YtohliaellefhaaaGreatDoor
namespace Rows

/-- THE TIED CARD OF 'creellaw14.BodiesPuts'. -/
def bodiesPutsCard : Claim7 := { stood := { row := bodiesPutsRow, standIns := [], harness := (true, "3bbe84f7de46ea0478cc1a8ccd335fa328d7b1e3b0463283e4de4afac7e841e6"), looks := true }, kinds := [], alts := [], laidByText := true, laidKinds := [.data, .data, .data, .data, .data, .data], laidTests := true, laidLooks := .later }
def BodiesPutsCardSaid : Prop := Claim7.holds Tryz.pinned (.plain (OpenSpec.ofChange bodiesPutsSpec)) bodiesPutsCard

/-- THE TIED CARD OF 'creellaw14.BodiesBack'. -/
def bodiesBackCard : Claim7 := { stood := { row := bodiesBackRow, standIns := [], harness := (true, "3bbe84f7de46ea0478cc1a8ccd335fa328d7b1e3b0463283e4de4afac7e841e6"), looks := true }, kinds := [], alts := [], laidByText := true, laidKinds := [.data, .data, .data, .data, .data, .data], laidTests := true, laidLooks := .later }
def BodiesBackCardSaid : Prop := Claim7.holds Tryz.pinned (.plain (OpenSpec.ofChange bodiesBackSpec)) bodiesBackCard

/-- THE SECOND FORM's CARD OF 'creellaw14.BodiesPuts'. -/
def bodiesPutsUptoCard : Claim7 := { stood := { row := bodiesPutsUptoRow, standIns := [], harness := (true, "3bbe84f7de46ea0478cc1a8ccd335fa328d7b1e3b0463283e4de4afac7e841e6"), looks := true }, kinds := [], alts := [], laidByText := true, laidKinds := [.data, .data, .data, .data, .data, .data], laidTests := true, laidLooks := .later }
def BodiesPutsUptoCardSaid : Prop := Claim7.holds Tryz.pinned (.plain (OpenSpec.upto bodiesPutsSpec)) bodiesPutsUptoCard

/-- THE SECOND FORM's CARD OF 'creellaw14.BodiesBack'. -/
def bodiesBackUptoCard : Claim7 := { stood := { row := bodiesBackUptoRow, standIns := [], harness := (true, "3bbe84f7de46ea0478cc1a8ccd335fa328d7b1e3b0463283e4de4afac7e841e6"), looks := true }, kinds := [], alts := [], laidByText := true, laidKinds := [.data, .data, .data, .data, .data, .data], laidTests := true, laidLooks := .later }
def BodiesBackUptoCardSaid : Prop := Claim7.holds Tryz.pinned (.plain (OpenSpec.upto bodiesBackSpec)) bodiesBackUptoCard
end Rows
end Go.Proofs.YtohliaellefhaaaGreatDoor
