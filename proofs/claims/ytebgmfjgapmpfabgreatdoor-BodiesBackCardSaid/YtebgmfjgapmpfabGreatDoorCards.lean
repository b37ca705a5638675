/-
  DERIVED. GIVEN WITH THE SEED: THE CARDS: each row of YtebgmfjgapmpfabGreatDoorRows.lean that lists a variable, with what it lists TIED to the program's text (the seventh form; the later family's looks); each row that meets fmt, with fmt's text TOLD by the authors' own Lean function (tested against real Go, not proved from fmt's source: count such statements apart). THE CARD IS WHAT COUNTS. Prove the row's statement (the work); the ties are given (YtebgmfjgapmpfabGreatDoorTie.lean); close each card by the builder's one call (the guide's Derived/Test/ToyasCard.lean, 'card_holds'). Laid BY PROGRAM, IN A SANDBOX (cutbox-door.mjs). By AI agents, Wed Nov 11 2026. No macro, syntax, notation, axiom, sorry.
-/
import Derived.Test.YtebgmfjgapmpfabGreatDoorRows
import GoSem.ClaimSeven
namespace Go.Proofs.YtebgmfjgapmpfabGreatDoor
namespace Rows

/-- THE TIED CARD OF 'creellaw14.BodiesBack'. -/
def bodiesBackCard : Claim7 := { stood := { row := bodiesBackRow, standIns := [], harness := (true, "34dae3eabcd8c480bc71e3085b286c4c8c1966906c6ffbfb5fc60f99318b288a"), looks := true }, kinds := [], alts := [], laidByText := true, laidKinds := [.data, .data, .data, .data, .data, .data], laidTests := true, laidLooks := .later }
def BodiesBackCardSaid : Prop := Claim7.holds Tryz.pinned (.plain (OpenSpec.ofChange bodiesBackSpec)) bodiesBackCard

/-- THE TIED CARD OF 'creellaw15.DatasReads'. -/
def datasReadsCard : Claim7 := { stood := { row := datasReadsRow, standIns := [], harness := (true, "34dae3eabcd8c480bc71e3085b286c4c8c1966906c6ffbfb5fc60f99318b288a"), looks := true }, kinds := [], alts := [], laidByText := true, laidKinds := [.data, .data, .data, .data, .data, .data], laidTests := true, laidLooks := .later }
def DatasReadsCardSaid : Prop := Claim7.holds Tryz.pinned (.plain (OpenSpec.ofChange datasReadsSpec)) datasReadsCard

/-- THE TIED CARD OF 'creellaw15.DatasBack'. -/
def datasBackCard : Claim7 := { stood := { row := datasBackRow, standIns := [], harness := (true, "34dae3eabcd8c480bc71e3085b286c4c8c1966906c6ffbfb5fc60f99318b288a"), looks := true }, kinds := [], alts := [], laidByText := true, laidKinds := [.data, .data, .data, .data, .data, .data], laidTests := true, laidLooks := .later }
def DatasBackCardSaid : Prop := Claim7.holds Tryz.pinned (.plain (OpenSpec.ofChange datasBackSpec)) datasBackCard

/-- THE SECOND FORM's CARD OF 'creellaw14.BodiesBack'. -/
def bodiesBackUptoCard : Claim7 := { stood := { row := bodiesBackUptoRow, standIns := [], harness := (true, "34dae3eabcd8c480bc71e3085b286c4c8c1966906c6ffbfb5fc60f99318b288a"), looks := true }, kinds := [], alts := [], laidByText := true, laidKinds := [.data, .data, .data, .data, .data, .data], laidTests := true, laidLooks := .later }
def BodiesBackUptoCardSaid : Prop := Claim7.holds Tryz.pinned (.plain (OpenSpec.upto bodiesBackSpec)) bodiesBackUptoCard

/-- THE SECOND FORM's CARD OF 'creellaw15.DatasReads'. -/
def datasReadsUptoCard : Claim7 := { stood := { row := datasReadsUptoRow, standIns := [], harness := (true, "34dae3eabcd8c480bc71e3085b286c4c8c1966906c6ffbfb5fc60f99318b288a"), looks := true }, kinds := [], alts := [], laidByText := true, laidKinds := [.data, .data, .data, .data, .data, .data], laidTests := true, laidLooks := .later }
def DatasReadsUptoCardSaid : Prop := Claim7.holds Tryz.pinned (.plain (OpenSpec.upto datasReadsSpec)) datasReadsUptoCard

/-- THE SECOND FORM's CARD OF 'creellaw15.DatasBack'. -/
def datasBackUptoCard : Claim7 := { stood := { row := datasBackUptoRow, standIns := [], harness := (true, "34dae3eabcd8c480bc71e3085b286c4c8c1966906c6ffbfb5fc60f99318b288a"), looks := true }, kinds := [], alts := [], laidByText := true, laidKinds := [.data, .data, .data, .data, .data, .data], laidTests := true, laidLooks := .later }
def DatasBackUptoCardSaid : Prop := Claim7.holds Tryz.pinned (.plain (OpenSpec.upto datasBackSpec)) datasBackUptoCard
end Rows
end Go.Proofs.YtebgmfjgapmpfabGreatDoor
