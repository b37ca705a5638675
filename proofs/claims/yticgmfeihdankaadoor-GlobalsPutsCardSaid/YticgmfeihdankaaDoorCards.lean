/-
  DERIVED. GIVEN WITH THE SEED: THE CARDS: each row of YticgmfeihdankaaDoorRows.lean that lists a variable, with what it lists TIED to the program's text (the seventh form; the later family's looks); each row that meets fmt, with fmt's text TOLD by the authors' own Lean function (tested against real Go, not proved from fmt's source: count such statements apart). THE CARD IS WHAT COUNTS. Prove the row's statement (the work); the ties are given (YticgmfeihdankaaDoorTie.lean); close each card by the builder's one call (the guide's Derived/Test/ToyasCard.lean, 'card_holds'). Laid BY PROGRAM, IN A SANDBOX (cutbox-door.mjs). By AI agents, Wed Nov 11 2026. No macro, syntax, notation, axiom, sorry.
-/
import Derived.Test.YticgmfeihdankaaDoorRows
import GoSem.ClaimSeven
namespace Go.Proofs.YticgmfeihdankaaDoor
namespace Rows

/-- THE TIED CARD OF 'creellaw13.ElemsPuts'. -/
def elemsPutsCard : Claim7 := { stood := { row := elemsPutsRow, standIns := [], harness := (true, "b81839734c5e980571cbe3b13439dad15f7f110bc178ffa1f8cd28f36a190fd5"), looks := true }, kinds := [], alts := [], laidByText := true, laidKinds := [.data, .data, .data, .data, .data, .data], laidTests := true, laidLooks := .later }
def ElemsPutsCardSaid : Prop := Claim7.holds Tryd.pinned (.plain (OpenSpec.ofChange elemsPutsSpec)) elemsPutsCard

/-- THE TIED CARD OF 'creellaw13.ElemsReads'. -/
def elemsReadsCard : Claim7 := { stood := { row := elemsReadsRow, standIns := [], harness := (true, "b81839734c5e980571cbe3b13439dad15f7f110bc178ffa1f8cd28f36a190fd5"), looks := true }, kinds := [], alts := [], laidByText := true, laidKinds := [.data, .data, .data, .data, .data, .data], laidTests := true, laidLooks := .later }
def ElemsReadsCardSaid : Prop := Claim7.holds Tryd.pinned (.plain (OpenSpec.ofChange elemsReadsSpec)) elemsReadsCard

/-- THE TIED CARD OF 'creellaw13.ElemsBack'. -/
def elemsBackCard : Claim7 := { stood := { row := elemsBackRow, standIns := [], harness := (true, "b81839734c5e980571cbe3b13439dad15f7f110bc178ffa1f8cd28f36a190fd5"), looks := true }, kinds := [], alts := [], laidByText := true, laidKinds := [.data, .data, .data, .data, .data, .data], laidTests := true, laidLooks := .later }
def ElemsBackCardSaid : Prop := Claim7.holds Tryd.pinned (.plain (OpenSpec.ofChange elemsBackSpec)) elemsBackCard

/-- THE TIED CARD OF 'creellaw07.InstrPuts'. -/
def instrPutsCard : Claim7 := { stood := { row := instrPutsRow, standIns := [], harness := (true, "b81839734c5e980571cbe3b13439dad15f7f110bc178ffa1f8cd28f36a190fd5"), looks := true }, kinds := [], alts := [], laidByText := true, laidKinds := [.data, .data, .data, .data, .data, .data], laidTests := true, laidLooks := .later }
def InstrPutsCardSaid : Prop := Claim7.holds Tryd.pinned (.plain (OpenSpec.ofChange instrPutsSpec)) instrPutsCard

/-- THE TIED CARD OF 'creellaw07.InstrBodies'. -/
def instrBodiesCard : Claim7 := { stood := { row := instrBodiesRow, standIns := [], harness := (true, "b81839734c5e980571cbe3b13439dad15f7f110bc178ffa1f8cd28f36a190fd5"), looks := true }, kinds := [], alts := [], laidByText := true, laidKinds := [.data, .data, .data, .data, .data, .data], laidTests := true, laidLooks := .later }
def InstrBodiesCardSaid : Prop := Claim7.holds Tryd.pinned (.plain (OpenSpec.ofChange instrBodiesSpec)) instrBodiesCard

/-- THE TIED CARD OF 'creellaw08.ConstsPuts'. -/
def constsPutsCard : Claim7 := { stood := { row := constsPutsRow, standIns := [], harness := (true, "b81839734c5e980571cbe3b13439dad15f7f110bc178ffa1f8cd28f36a190fd5"), looks := true }, kinds := [], alts := [], laidByText := true, laidKinds := [.data, .data, .data, .data, .data, .data], laidTests := true, laidLooks := .later }
def ConstsPutsCardSaid : Prop := Claim7.holds Tryd.pinned (.plain (OpenSpec.ofChange constsPutsSpec)) constsPutsCard

/-- THE TIED CARD OF 'creellaw08.ConstsReads'. -/
def constsReadsCard : Claim7 := { stood := { row := constsReadsRow, standIns := [], harness := (true, "b81839734c5e980571cbe3b13439dad15f7f110bc178ffa1f8cd28f36a190fd5"), looks := true }, kinds := [], alts := [], laidByText := true, laidKinds := [.data, .data, .data, .data, .data, .data], laidTests := true, laidLooks := .later }
def ConstsReadsCardSaid : Prop := Claim7.holds Tryd.pinned (.plain (OpenSpec.ofChange constsReadsSpec)) constsReadsCard

/-- THE TIED CARD OF 'creellaw08.ConstsValues'. -/
def constsValuesCard : Claim7 := { stood := { row := constsValuesRow, standIns := [], harness := (true, "b81839734c5e980571cbe3b13439dad15f7f110bc178ffa1f8cd28f36a190fd5"), looks := true }, kinds := [], alts := [], laidByText := true, laidKinds := [.data, .data, .data, .data, .data, .data], laidTests := true, laidLooks := .later }
def ConstsValuesCardSaid : Prop := Claim7.holds Tryd.pinned (.plain (OpenSpec.ofChange constsValuesSpec)) constsValuesCard

/-- THE TIED CARD OF 'creellaw12.GlobalsPuts'. -/
def globalsPutsCard : Claim7 := { stood := { row := globalsPutsRow, standIns := [], harness := (true, "b81839734c5e980571cbe3b13439dad15f7f110bc178ffa1f8cd28f36a190fd5"), looks := true }, kinds := [], alts := [], laidByText := true, laidKinds := [.data, .data, .data, .data, .data, .data], laidTests := true, laidLooks := .later }
def GlobalsPutsCardSaid : Prop := Claim7.holds Tryd.pinned (.plain (OpenSpec.ofChange globalsPutsSpec)) globalsPutsCard

/-- THE SECOND FORM's CARD OF 'creellaw13.ElemsPuts'. -/
def elemsPutsUptoCard : Claim7 := { stood := { row := elemsPutsUptoRow, standIns := [], harness := (true, "b81839734c5e980571cbe3b13439dad15f7f110bc178ffa1f8cd28f36a190fd5"), looks := true }, kinds := [], alts := [], laidByText := true, laidKinds := [.data, .data, .data, .data, .data, .data], laidTests := true, laidLooks := .later }
def ElemsPutsUptoCardSaid : Prop := Claim7.holds Tryd.pinned (.plain (OpenSpec.upto elemsPutsSpec)) elemsPutsUptoCard

/-- THE SECOND FORM's CARD OF 'creellaw13.ElemsReads'. -/
def elemsReadsUptoCard : Claim7 := { stood := { row := elemsReadsUptoRow, standIns := [], harness := (true, "b81839734c5e980571cbe3b13439dad15f7f110bc178ffa1f8cd28f36a190fd5"), looks := true }, kinds := [], alts := [], laidByText := true, laidKinds := [.data, .data, .data, .data, .data, .data], laidTests := true, laidLooks := .later }
def ElemsReadsUptoCardSaid : Prop := Claim7.holds Tryd.pinned (.plain (OpenSpec.upto elemsReadsSpec)) elemsReadsUptoCard

/-- THE SECOND FORM's CARD OF 'creellaw13.ElemsBack'. -/
def elemsBackUptoCard : Claim7 := { stood := { row := elemsBackUptoRow, standIns := [], harness := (true, "b81839734c5e980571cbe3b13439dad15f7f110bc178ffa1f8cd28f36a190fd5"), looks := true }, kinds := [], alts := [], laidByText := true, laidKinds := [.data, .data, .data, .data, .data, .data], laidTests := true, laidLooks := .later }
def ElemsBackUptoCardSaid : Prop := Claim7.holds Tryd.pinned (.plain (OpenSpec.upto elemsBackSpec)) elemsBackUptoCard

/-- THE SECOND FORM's CARD OF 'creellaw07.InstrPuts'. -/
def instrPutsUptoCard : Claim7 := { stood := { row := instrPutsUptoRow, standIns := [], harness := (true, "b81839734c5e980571cbe3b13439dad15f7f110bc178ffa1f8cd28f36a190fd5"), looks := true }, kinds := [], alts := [], laidByText := true, laidKinds := [.data, .data, .data, .data, .data, .data], laidTests := true, laidLooks := .later }
def InstrPutsUptoCardSaid : Prop := Claim7.holds Tryd.pinned (.plain (OpenSpec.upto instrPutsSpec)) instrPutsUptoCard

/-- THE SECOND FORM's CARD OF 'creellaw07.InstrBodies'. -/
def instrBodiesUptoCard : Claim7 := { stood := { row := instrBodiesUptoRow, standIns := [], harness := (true, "b81839734c5e980571cbe3b13439dad15f7f110bc178ffa1f8cd28f36a190fd5"), looks := true }, kinds := [], alts := [], laidByText := true, laidKinds := [.data, .data, .data, .data, .data, .data], laidTests := true, laidLooks := .later }
def InstrBodiesUptoCardSaid : Prop := Claim7.holds Tryd.pinned (.plain (OpenSpec.upto instrBodiesSpec)) instrBodiesUptoCard

/-- THE SECOND FORM's CARD OF 'creellaw08.ConstsPuts'. -/
def constsPutsUptoCard : Claim7 := { stood := { row := constsPutsUptoRow, standIns := [], harness := (true, "b81839734c5e980571cbe3b13439dad15f7f110bc178ffa1f8cd28f36a190fd5"), looks := true }, kinds := [], alts := [], laidByText := true, laidKinds := [.data, .data, .data, .data, .data, .data], laidTests := true, laidLooks := .later }
def ConstsPutsUptoCardSaid : Prop := Claim7.holds Tryd.pinned (.plain (OpenSpec.upto constsPutsSpec)) constsPutsUptoCard

/-- THE SECOND FORM's CARD OF 'creellaw08.ConstsReads'. -/
def constsReadsUptoCard : Claim7 := { stood := { row := constsReadsUptoRow, standIns := [], harness := (true, "b81839734c5e980571cbe3b13439dad15f7f110bc178ffa1f8cd28f36a190fd5"), looks := true }, kinds := [], alts := [], laidByText := true, laidKinds := [.data, .data, .data, .data, .data, .data], laidTests := true, laidLooks := .later }
def ConstsReadsUptoCardSaid : Prop := Claim7.holds Tryd.pinned (.plain (OpenSpec.upto constsReadsSpec)) constsReadsUptoCard

/-- THE SECOND FORM's CARD OF 'creellaw08.ConstsValues'. -/
def constsValuesUptoCard : Claim7 := { stood := { row := constsValuesUptoRow, standIns := [], harness := (true, "b81839734c5e980571cbe3b13439dad15f7f110bc178ffa1f8cd28f36a190fd5"), looks := true }, kinds := [], alts := [], laidByText := true, laidKinds := [.data, .data, .data, .data, .data, .data], laidTests := true, laidLooks := .later }
def ConstsValuesUptoCardSaid : Prop := Claim7.holds Tryd.pinned (.plain (OpenSpec.upto constsValuesSpec)) constsValuesUptoCard

/-- THE SECOND FORM's CARD OF 'creellaw12.GlobalsPuts'. -/
def globalsPutsUptoCard : Claim7 := { stood := { row := globalsPutsUptoRow, standIns := [], harness := (true, "b81839734c5e980571cbe3b13439dad15f7f110bc178ffa1f8cd28f36a190fd5"), looks := true }, kinds := [], alts := [], laidByText := true, laidKinds := [.data, .data, .data, .data, .data, .data], laidTests := true, laidLooks := .later }
def GlobalsPutsUptoCardSaid : Prop := Claim7.holds Tryd.pinned (.plain (OpenSpec.upto globalsPutsSpec)) globalsPutsUptoCard
end Rows
end Go.Proofs.YticgmfeihdankaaDoor
