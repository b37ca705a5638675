/-
  DERIVED. GIVEN WITH THE SEED: THE CARDS: each row of YtebgmfjgapmpfaaDoorRows.lean that lists a variable, with what it lists TIED to the program's text (the seventh form; the later family's looks); each row that meets fmt, with fmt's text TOLD by the authors' own Lean function (tested against real Go, not proved from fmt's source: count such statements apart). THE CARD IS WHAT COUNTS. Prove the row's statement (the work); the ties are given (YtebgmfjgapmpfaaDoorTie.lean); close each card by the builder's one call (the guide's Derived/Test/ToyasCard.lean, 'card_holds'). Laid BY PROGRAM, IN A SANDBOX (cutbox-door.mjs). By AI agents, Wed Nov 11 2026. No macro, syntax, notation, axiom, sorry.
-/
import Derived.Test.YtebgmfjgapmpfaaDoorRows
import GoSem.ClaimSeven
namespace Go.Proofs.YtebgmfjgapmpfaaDoor
namespace Rows

/-- THE TIED CARD OF 'creellaw07.InstrPuts'. -/
def instrPutsCard : Claim7 := { stood := { row := instrPutsRow, standIns := [], harness := (true, "3da5988339bb4b0156f31852f354fd84807b6edb858ef2dfa460c81423d23034"), looks := true }, kinds := [], alts := [], laidByText := true, laidKinds := [.data, .data, .data, .data, .data, .data], laidTests := true, laidLooks := .later }
def InstrPutsCardSaid : Prop := Claim7.holds Tryd.pinned (.plain (OpenSpec.ofChange instrPutsSpec)) instrPutsCard

/-- THE TIED CARD OF 'creellaw07.InstrBodies'. -/
def instrBodiesCard : Claim7 := { stood := { row := instrBodiesRow, standIns := [], harness := (true, "3da5988339bb4b0156f31852f354fd84807b6edb858ef2dfa460c81423d23034"), looks := true }, kinds := [], alts := [], laidByText := true, laidKinds := [.data, .data, .data, .data, .data, .data], laidTests := true, laidLooks := .later }
def InstrBodiesCardSaid : Prop := Claim7.holds Tryd.pinned (.plain (OpenSpec.ofChange instrBodiesSpec)) instrBodiesCard

/-- THE TIED CARD OF 'creellaw08.ConstsPuts'. -/
def constsPutsCard : Claim7 := { stood := { row := constsPutsRow, standIns := [], harness := (true, "3da5988339bb4b0156f31852f354fd84807b6edb858ef2dfa460c81423d23034"), looks := true }, kinds := [], alts := [], laidByText := true, laidKinds := [.data, .data, .data, .data, .data, .data], laidTests := true, laidLooks := .later }
def ConstsPutsCardSaid : Prop := Claim7.holds Tryd.pinned (.plain (OpenSpec.ofChange constsPutsSpec)) constsPutsCard

/-- THE TIED CARD OF 'creellaw08.ConstsReads'. -/
def constsReadsCard : Claim7 := { stood := { row := constsReadsRow, standIns := [], harness := (true, "3da5988339bb4b0156f31852f354fd84807b6edb858ef2dfa460c81423d23034"), looks := true }, kinds := [], alts := [], laidByText := true, laidKinds := [.data, .data, .data, .data, .data, .data], laidTests := true, laidLooks := .later }
def ConstsReadsCardSaid : Prop := Claim7.holds Tryd.pinned (.plain (OpenSpec.ofChange constsReadsSpec)) constsReadsCard

/-- THE TIED CARD OF 'creellaw08.ConstsValues'. -/
def constsValuesCard : Claim7 := { stood := { row := constsValuesRow, standIns := [], harness := (true, "3da5988339bb4b0156f31852f354fd84807b6edb858ef2dfa460c81423d23034"), looks := true }, kinds := [], alts := [], laidByText := true, laidKinds := [.data, .data, .data, .data, .data, .data], laidTests := true, laidLooks := .later }
def ConstsValuesCardSaid : Prop := Claim7.holds Tryd.pinned (.plain (OpenSpec.ofChange constsValuesSpec)) constsValuesCard

/-- THE TIED CARD OF 'creellaw12.GlobalsPuts'. -/
def globalsPutsCard : Claim7 := { stood := { row := globalsPutsRow, standIns := [], harness := (true, "3da5988339bb4b0156f31852f354fd84807b6edb858ef2dfa460c81423d23034"), looks := true }, kinds := [], alts := [], laidByText := true, laidKinds := [.data, .data, .data, .data, .data, .data], laidTests := true, laidLooks := .later }
def GlobalsPutsCardSaid : Prop := Claim7.holds Tryd.pinned (.plain (OpenSpec.ofChange globalsPutsSpec)) globalsPutsCard

/-- THE TIED CARD OF 'creellaw13.ElemsPuts'. -/
def elemsPutsCard : Claim7 := { stood := { row := elemsPutsRow, standIns := [], harness := (true, "3da5988339bb4b0156f31852f354fd84807b6edb858ef2dfa460c81423d23034"), looks := true }, kinds := [], alts := [], laidByText := true, laidKinds := [.data, .data, .data, .data, .data, .data], laidTests := true, laidLooks := .later }
def ElemsPutsCardSaid : Prop := Claim7.holds Tryd.pinned (.plain (OpenSpec.ofChange elemsPutsSpec)) elemsPutsCard

/-- THE SECOND FORM's CARD OF 'creellaw07.InstrPuts'. -/
def instrPutsUptoCard : Claim7 := { stood := { row := instrPutsUptoRow, standIns := [], harness := (true, "3da5988339bb4b0156f31852f354fd84807b6edb858ef2dfa460c81423d23034"), looks := true }, kinds := [], alts := [], laidByText := true, laidKinds := [.data, .data, .data, .data, .data, .data], laidTests := true, laidLooks := .later }
def InstrPutsUptoCardSaid : Prop := Claim7.holds Tryd.pinned (.plain (OpenSpec.upto instrPutsSpec)) instrPutsUptoCard

/-- THE SECOND FORM's CARD OF 'creellaw07.InstrBodies'. -/
def instrBodiesUptoCard : Claim7 := { stood := { row := instrBodiesUptoRow, standIns := [], harness := (true, "3da5988339bb4b0156f31852f354fd84807b6edb858ef2dfa460c81423d23034"), looks := true }, kinds := [], alts := [], laidByText := true, laidKinds := [.data, .data, .data, .data, .data, .data], laidTests := true, laidLooks := .later }
def InstrBodiesUptoCardSaid : Prop := Claim7.holds Tryd.pinned (.plain (OpenSpec.upto instrBodiesSpec)) instrBodiesUptoCard

/-- THE SECOND FORM's CARD OF 'creellaw08.ConstsPuts'. -/
def constsPutsUptoCard : Claim7 := { stood := { row := constsPutsUptoRow, standIns := [], harness := (true, "3da5988339bb4b0156f31852f354fd84807b6edb858ef2dfa460c81423d23034"), looks := true }, kinds := [], alts := [], laidByText := true, laidKinds := [.data, .data, .data, .data, .data, .data], laidTests := true, laidLooks := .later }
def ConstsPutsUptoCardSaid : Prop := Claim7.holds Tryd.pinned (.plain (OpenSpec.upto constsPutsSpec)) constsPutsUptoCard

/-- THE SECOND FORM's CARD OF 'creellaw08.ConstsReads'. -/
def constsReadsUptoCard : Claim7 := { stood := { row := constsReadsUptoRow, standIns := [], harness := (true, "3da5988339bb4b0156f31852f354fd84807b6edb858ef2dfa460c81423d23034"), looks := true }, kinds := [], alts := [], laidByText := true, laidKinds := [.data, .data, .data, .data, .data, .data], laidTests := true, laidLooks := .later }
def ConstsReadsUptoCardSaid : Prop := Claim7.holds Tryd.pinned (.plain (OpenSpec.upto constsReadsSpec)) constsReadsUptoCard

/-- THE SECOND FORM's CARD OF 'creellaw08.ConstsValues'. -/
def constsValuesUptoCard : Claim7 := { stood := { row := constsValuesUptoRow, standIns := [], harness := (true, "3da5988339bb4b0156f31852f354fd84807b6edb858ef2dfa460c81423d23034"), looks := true }, kinds := [], alts := [], laidByText := true, laidKinds := [.data, .data, .data, .data, .data, .data], laidTests := true, laidLooks := .later }
def ConstsValuesUptoCardSaid : Prop := Claim7.holds Tryd.pinned (.plain (OpenSpec.upto constsValuesSpec)) constsValuesUptoCard

/-- THE SECOND FORM's CARD OF 'creellaw12.GlobalsPuts'. -/
def globalsPutsUptoCard : Claim7 := { stood := { row := globalsPutsUptoRow, standIns := [], harness := (true, "3da5988339bb4b0156f31852f354fd84807b6edb858ef2dfa460c81423d23034"), looks := true }, kinds := [], alts := [], laidByText := true, laidKinds := [.data, .data, .data, .data, .data, .data], laidTests := true, laidLooks := .later }
def GlobalsPutsUptoCardSaid : Prop := Claim7.holds Tryd.pinned (.plain (OpenSpec.upto globalsPutsSpec)) globalsPutsUptoCard

/-- THE SECOND FORM's CARD OF 'creellaw13.ElemsPuts'. -/
def elemsPutsUptoCard : Claim7 := { stood := { row := elemsPutsUptoRow, standIns := [], harness := (true, "3da5988339bb4b0156f31852f354fd84807b6edb858ef2dfa460c81423d23034"), looks := true }, kinds := [], alts := [], laidByText := true, laidKinds := [.data, .data, .data, .data, .data, .data], laidTests := true, laidLooks := .later }
def ElemsPutsUptoCardSaid : Prop := Claim7.holds Tryd.pinned (.plain (OpenSpec.upto elemsPutsSpec)) elemsPutsUptoCard
end Rows
end Go.Proofs.YtebgmfjgapmpfaaDoor
