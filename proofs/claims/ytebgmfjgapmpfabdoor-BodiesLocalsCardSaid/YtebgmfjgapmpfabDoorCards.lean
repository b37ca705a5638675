/-
  DERIVED. GIVEN WITH THE SEED: THE CARDS: each row of YtebgmfjgapmpfabDoorRows.lean that lists a variable, with what it lists TIED to the program's text (the seventh form; the later family's looks); each row that meets fmt, with fmt's text TOLD by the authors' own Lean function (tested against real Go, not proved from fmt's source: count such statements apart). THE CARD IS WHAT COUNTS. Prove the row's statement (the work); the ties are given (YtebgmfjgapmpfabDoorTie.lean); close each card by the builder's one call (the guide's Derived/Test/ToyasCard.lean, 'card_holds'). Laid BY PROGRAM, IN A SANDBOX (cutbox-door.mjs). By AI agents, Wed Nov 11 2026. No macro, syntax, notation, axiom, sorry.
-/
import Derived.Test.YtebgmfjgapmpfabDoorRows
import GoSem.ClaimSeven
namespace Go.Proofs.YtebgmfjgapmpfabDoor
namespace Rows

/-- THE TIED CARD OF 'creellaw14.BodiesLocals'. -/
def bodiesLocalsCard : Claim7 := { stood := { row := bodiesLocalsRow, standIns := [], harness := (true, "7f7746f48c0757f4adc871bdfafb58150afdaf79f967018a1d9a435c8c458595"), looks := true }, kinds := [], alts := [], laidByText := true, laidKinds := [.data, .data, .data, .data, .data, .data], laidTests := true, laidLooks := .later }
def BodiesLocalsCardSaid : Prop := Claim7.holds Tryd.pinned (.plain (OpenSpec.ofChange bodiesLocalsSpec)) bodiesLocalsCard

/-- THE TIED CARD OF 'creellaw15.DatasPuts'. -/
def datasPutsCard : Claim7 := { stood := { row := datasPutsRow, standIns := [], harness := (true, "7f7746f48c0757f4adc871bdfafb58150afdaf79f967018a1d9a435c8c458595"), looks := true }, kinds := [], alts := [], laidByText := true, laidKinds := [.data, .data, .data, .data, .data, .data], laidTests := true, laidLooks := .later }
def DatasPutsCardSaid : Prop := Claim7.holds Tryd.pinned (.plain (OpenSpec.ofChange datasPutsSpec)) datasPutsCard

/-- THE SECOND FORM's CARD OF 'creellaw14.BodiesLocals'. -/
def bodiesLocalsUptoCard : Claim7 := { stood := { row := bodiesLocalsUptoRow, standIns := [], harness := (true, "7f7746f48c0757f4adc871bdfafb58150afdaf79f967018a1d9a435c8c458595"), looks := true }, kinds := [], alts := [], laidByText := true, laidKinds := [.data, .data, .data, .data, .data, .data], laidTests := true, laidLooks := .later }
def BodiesLocalsUptoCardSaid : Prop := Claim7.holds Tryd.pinned (.plain (OpenSpec.upto bodiesLocalsSpec)) bodiesLocalsUptoCard

/-- THE SECOND FORM's CARD OF 'creellaw15.DatasPuts'. -/
def datasPutsUptoCard : Claim7 := { stood := { row := datasPutsUptoRow, standIns := [], harness := (true, "7f7746f48c0757f4adc871bdfafb58150afdaf79f967018a1d9a435c8c458595"), looks := true }, kinds := [], alts := [], laidByText := true, laidKinds := [.data, .data, .data, .data, .data, .data], laidTests := true, laidLooks := .later }
def DatasPutsUptoCardSaid : Prop := Claim7.holds Tryd.pinned (.plain (OpenSpec.upto datasPutsSpec)) datasPutsUptoCard
end Rows
end Go.Proofs.YtebgmfjgapmpfabDoor
