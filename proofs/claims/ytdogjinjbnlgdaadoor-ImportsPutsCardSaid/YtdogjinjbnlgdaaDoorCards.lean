/-
  DERIVED. GIVEN WITH THE SEED: THE CARDS: each row of YtdogjinjbnlgdaaDoorRows.lean that lists a variable, with what it lists TIED to the program's text (the seventh form; the later family's looks); each row that meets fmt, with fmt's text TOLD by the authors' own Lean function (tested against real Go, not proved from fmt's source: count such statements apart). THE CARD IS WHAT COUNTS. Prove the row's statement (the work); the ties are given (YtdogjinjbnlgdaaDoorTie.lean); close each card by the builder's one call (the guide's Derived/Test/ToyasCard.lean, 'card_holds'). Laid BY PROGRAM, IN A SANDBOX (cutbox-door.mjs). By AI agents, Wed Nov 11 2026. No macro, syntax, notation, axiom, sorry.
-/
import Derived.Test.YtdogjinjbnlgdaaDoorRows
import GoSem.ClaimSeven
namespace Go.Proofs.YtdogjinjbnlgdaaDoor
namespace Rows

/-- THE TIED CARD OF 'creellaw10.ImportsPuts'. -/
def importsPutsCard : Claim7 := { stood := { row := importsPutsRow, standIns := [], harness := (true, "32e0373dc1ceeeca2d443f27d81f04361e50d0b5dce6e7728dd216710c76886b"), looks := true }, kinds := [], alts := [], laidByText := true, laidKinds := [.data, .pinned], laidTests := true, laidLooks := .later }
def ImportsPutsCardSaid : Prop := Claim7.holds Tryd.pinned (.plain (OpenSpec.ofChange importsPutsSpec)) importsPutsCard

/-- THE TIED CARD OF 'creellaw10.ImportsBack'. -/
def importsBackCard : Claim7 := { stood := { row := importsBackRow, standIns := [], harness := (true, "32e0373dc1ceeeca2d443f27d81f04361e50d0b5dce6e7728dd216710c76886b"), looks := true }, kinds := [], alts := [], laidByText := true, laidKinds := [.data, .pinned], laidTests := true, laidLooks := .later }
def ImportsBackCardSaid : Prop := Claim7.holds Tryd.pinned (.plain (OpenSpec.ofChange importsBackSpec)) importsBackCard

/-- THE TIED CARD OF 'creellaw10.ImportsFinds'. -/
def importsFindsCard : Claim7 := { stood := { row := importsFindsRow, standIns := [], harness := (true, "32e0373dc1ceeeca2d443f27d81f04361e50d0b5dce6e7728dd216710c76886b"), looks := true }, kinds := [], alts := [], laidByText := true, laidKinds := [.data, .pinned], laidTests := true, laidLooks := .later }
def ImportsFindsCardSaid : Prop := Claim7.holds Tryd.pinned (.plain (OpenSpec.ofChange importsFindsSpec)) importsFindsCard

/-- THE SECOND FORM's CARD OF 'creellaw10.ImportsPuts'. -/
def importsPutsUptoCard : Claim7 := { stood := { row := importsPutsUptoRow, standIns := [], harness := (true, "32e0373dc1ceeeca2d443f27d81f04361e50d0b5dce6e7728dd216710c76886b"), looks := true }, kinds := [], alts := [], laidByText := true, laidKinds := [.data, .pinned], laidTests := true, laidLooks := .later }
def ImportsPutsUptoCardSaid : Prop := Claim7.holds Tryd.pinned (.plain (OpenSpec.upto importsPutsSpec)) importsPutsUptoCard

/-- THE SECOND FORM's CARD OF 'creellaw10.ImportsBack'. -/
def importsBackUptoCard : Claim7 := { stood := { row := importsBackUptoRow, standIns := [], harness := (true, "32e0373dc1ceeeca2d443f27d81f04361e50d0b5dce6e7728dd216710c76886b"), looks := true }, kinds := [], alts := [], laidByText := true, laidKinds := [.data, .pinned], laidTests := true, laidLooks := .later }
def ImportsBackUptoCardSaid : Prop := Claim7.holds Tryd.pinned (.plain (OpenSpec.upto importsBackSpec)) importsBackUptoCard

/-- THE SECOND FORM's CARD OF 'creellaw10.ImportsFinds'. -/
def importsFindsUptoCard : Claim7 := { stood := { row := importsFindsUptoRow, standIns := [], harness := (true, "32e0373dc1ceeeca2d443f27d81f04361e50d0b5dce6e7728dd216710c76886b"), looks := true }, kinds := [], alts := [], laidByText := true, laidKinds := [.data, .pinned], laidTests := true, laidLooks := .later }
def ImportsFindsUptoCardSaid : Prop := Claim7.holds Tryd.pinned (.plain (OpenSpec.upto importsFindsSpec)) importsFindsUptoCard
end Rows
end Go.Proofs.YtdogjinjbnlgdaaDoor
