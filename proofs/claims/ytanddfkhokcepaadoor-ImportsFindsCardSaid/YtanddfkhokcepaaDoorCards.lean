/-
  DERIVED. GIVEN WITH THE SEED: THE CARDS: each row of YtanddfkhokcepaaDoorRows.lean that lists a variable, with what it lists TIED to the program's text (the seventh form; the later family's looks); each row that meets fmt, with fmt's text TOLD by the authors' own Lean function (tested against real Go, not proved from fmt's source: count such statements apart). THE CARD IS WHAT COUNTS. Prove the row's statement (the work); the ties are given (YtanddfkhokcepaaDoorTie.lean); close each card by the builder's one call (the guide's Derived/Test/ToyasCard.lean, 'card_holds'). Laid BY PROGRAM, IN A SANDBOX (cutbox-door.mjs). By AI agents, Wed Nov 11 2026. No macro, syntax, notation, axiom, sorry.
-/
import Derived.Test.YtanddfkhokcepaaDoorRows
import GoSem.ClaimSeven
namespace Go.Proofs.YtanddfkhokcepaaDoor
namespace Rows

/-- THE TIED CARD OF 'creellaw09.SectJoins'. -/
def sectJoinsCard : Claim7 := { stood := { row := sectJoinsRow, standIns := [], harness := (true, "0921dc69279bf3e16a548789fbff497a0b5a2b437214f842e919ecb9e0c44b52"), looks := true }, kinds := [], alts := [], laidByText := true, laidKinds := [.data, .pinned], laidTests := true, laidLooks := .later }
def SectJoinsCardSaid : Prop := Claim7.holds Tryd.pinned (.plain (OpenSpec.ofChange sectJoinsSpec)) sectJoinsCard

/-- THE TIED CARD OF 'creellaw10.ImportsPuts'. -/
def importsPutsCard : Claim7 := { stood := { row := importsPutsRow, standIns := [], harness := (true, "0921dc69279bf3e16a548789fbff497a0b5a2b437214f842e919ecb9e0c44b52"), looks := true }, kinds := [], alts := [], laidByText := true, laidKinds := [.data, .pinned], laidTests := true, laidLooks := .later }
def ImportsPutsCardSaid : Prop := Claim7.holds Tryd.pinned (.plain (OpenSpec.ofChange importsPutsSpec)) importsPutsCard

/-- THE TIED CARD OF 'creellaw10.ImportsBack'. -/
def importsBackCard : Claim7 := { stood := { row := importsBackRow, standIns := [], harness := (true, "0921dc69279bf3e16a548789fbff497a0b5a2b437214f842e919ecb9e0c44b52"), looks := true }, kinds := [], alts := [], laidByText := true, laidKinds := [.data, .pinned], laidTests := true, laidLooks := .later }
def ImportsBackCardSaid : Prop := Claim7.holds Tryd.pinned (.plain (OpenSpec.ofChange importsBackSpec)) importsBackCard

/-- THE TIED CARD OF 'creellaw10.ImportsFinds'. -/
def importsFindsCard : Claim7 := { stood := { row := importsFindsRow, standIns := [], harness := (true, "0921dc69279bf3e16a548789fbff497a0b5a2b437214f842e919ecb9e0c44b52"), looks := true }, kinds := [], alts := [], laidByText := true, laidKinds := [.data, .pinned], laidTests := true, laidLooks := .later }
def ImportsFindsCardSaid : Prop := Claim7.holds Tryd.pinned (.plain (OpenSpec.ofChange importsFindsSpec)) importsFindsCard

/-- THE TIED CARD OF 'creellaw11.ExportsPuts'. -/
def exportsPutsCard : Claim7 := { stood := { row := exportsPutsRow, standIns := [], harness := (true, "0921dc69279bf3e16a548789fbff497a0b5a2b437214f842e919ecb9e0c44b52"), looks := true }, kinds := [], alts := [], laidByText := true, laidKinds := [.data, .pinned], laidTests := true, laidLooks := .later }
def ExportsPutsCardSaid : Prop := Claim7.holds Tryd.pinned (.plain (OpenSpec.ofChange exportsPutsSpec)) exportsPutsCard

/-- THE TIED CARD OF 'creellaw11.ExportsBack'. -/
def exportsBackCard : Claim7 := { stood := { row := exportsBackRow, standIns := [], harness := (true, "0921dc69279bf3e16a548789fbff497a0b5a2b437214f842e919ecb9e0c44b52"), looks := true }, kinds := [], alts := [], laidByText := true, laidKinds := [.data, .pinned], laidTests := true, laidLooks := .later }
def ExportsBackCardSaid : Prop := Claim7.holds Tryd.pinned (.plain (OpenSpec.ofChange exportsBackSpec)) exportsBackCard

/-- THE TIED CARD OF 'creellaw11.ExportsFinds'. -/
def exportsFindsCard : Claim7 := { stood := { row := exportsFindsRow, standIns := [], harness := (true, "0921dc69279bf3e16a548789fbff497a0b5a2b437214f842e919ecb9e0c44b52"), looks := true }, kinds := [], alts := [], laidByText := true, laidKinds := [.data, .pinned], laidTests := true, laidLooks := .later }
def ExportsFindsCardSaid : Prop := Claim7.holds Tryd.pinned (.plain (OpenSpec.ofChange exportsFindsSpec)) exportsFindsCard

/-- THE SECOND FORM's CARD OF 'creellaw09.SectJoins'. -/
def sectJoinsUptoCard : Claim7 := { stood := { row := sectJoinsUptoRow, standIns := [], harness := (true, "0921dc69279bf3e16a548789fbff497a0b5a2b437214f842e919ecb9e0c44b52"), looks := true }, kinds := [], alts := [], laidByText := true, laidKinds := [.data, .pinned], laidTests := true, laidLooks := .later }
def SectJoinsUptoCardSaid : Prop := Claim7.holds Tryd.pinned (.plain (OpenSpec.upto sectJoinsSpec)) sectJoinsUptoCard

/-- THE SECOND FORM's CARD OF 'creellaw10.ImportsPuts'. -/
def importsPutsUptoCard : Claim7 := { stood := { row := importsPutsUptoRow, standIns := [], harness := (true, "0921dc69279bf3e16a548789fbff497a0b5a2b437214f842e919ecb9e0c44b52"), looks := true }, kinds := [], alts := [], laidByText := true, laidKinds := [.data, .pinned], laidTests := true, laidLooks := .later }
def ImportsPutsUptoCardSaid : Prop := Claim7.holds Tryd.pinned (.plain (OpenSpec.upto importsPutsSpec)) importsPutsUptoCard

/-- THE SECOND FORM's CARD OF 'creellaw10.ImportsBack'. -/
def importsBackUptoCard : Claim7 := { stood := { row := importsBackUptoRow, standIns := [], harness := (true, "0921dc69279bf3e16a548789fbff497a0b5a2b437214f842e919ecb9e0c44b52"), looks := true }, kinds := [], alts := [], laidByText := true, laidKinds := [.data, .pinned], laidTests := true, laidLooks := .later }
def ImportsBackUptoCardSaid : Prop := Claim7.holds Tryd.pinned (.plain (OpenSpec.upto importsBackSpec)) importsBackUptoCard

/-- THE SECOND FORM's CARD OF 'creellaw10.ImportsFinds'. -/
def importsFindsUptoCard : Claim7 := { stood := { row := importsFindsUptoRow, standIns := [], harness := (true, "0921dc69279bf3e16a548789fbff497a0b5a2b437214f842e919ecb9e0c44b52"), looks := true }, kinds := [], alts := [], laidByText := true, laidKinds := [.data, .pinned], laidTests := true, laidLooks := .later }
def ImportsFindsUptoCardSaid : Prop := Claim7.holds Tryd.pinned (.plain (OpenSpec.upto importsFindsSpec)) importsFindsUptoCard

/-- THE SECOND FORM's CARD OF 'creellaw11.ExportsPuts'. -/
def exportsPutsUptoCard : Claim7 := { stood := { row := exportsPutsUptoRow, standIns := [], harness := (true, "0921dc69279bf3e16a548789fbff497a0b5a2b437214f842e919ecb9e0c44b52"), looks := true }, kinds := [], alts := [], laidByText := true, laidKinds := [.data, .pinned], laidTests := true, laidLooks := .later }
def ExportsPutsUptoCardSaid : Prop := Claim7.holds Tryd.pinned (.plain (OpenSpec.upto exportsPutsSpec)) exportsPutsUptoCard

/-- THE SECOND FORM's CARD OF 'creellaw11.ExportsBack'. -/
def exportsBackUptoCard : Claim7 := { stood := { row := exportsBackUptoRow, standIns := [], harness := (true, "0921dc69279bf3e16a548789fbff497a0b5a2b437214f842e919ecb9e0c44b52"), looks := true }, kinds := [], alts := [], laidByText := true, laidKinds := [.data, .pinned], laidTests := true, laidLooks := .later }
def ExportsBackUptoCardSaid : Prop := Claim7.holds Tryd.pinned (.plain (OpenSpec.upto exportsBackSpec)) exportsBackUptoCard

/-- THE SECOND FORM's CARD OF 'creellaw11.ExportsFinds'. -/
def exportsFindsUptoCard : Claim7 := { stood := { row := exportsFindsUptoRow, standIns := [], harness := (true, "0921dc69279bf3e16a548789fbff497a0b5a2b437214f842e919ecb9e0c44b52"), looks := true }, kinds := [], alts := [], laidByText := true, laidKinds := [.data, .pinned], laidTests := true, laidLooks := .later }
def ExportsFindsUptoCardSaid : Prop := Claim7.holds Tryd.pinned (.plain (OpenSpec.upto exportsFindsSpec)) exportsFindsUptoCard
end Rows
end Go.Proofs.YtanddfkhokcepaaDoor
