/-
  DERIVED. GIVEN WITH THE SEED: THE CARDS: each row of YtjjhgmmkapeifaaDoorRows.lean that lists a variable, with what it lists TIED to the program's text (the seventh form; the later family's looks); each row that meets fmt, with fmt's text TOLD by the authors' own Lean function (tested against real Go, not proved from fmt's source: count such statements apart). THE CARD IS WHAT COUNTS. Prove the row's statement (the work); the ties are given (YtjjhgmmkapeifaaDoorTie.lean); close each card by the builder's one call (the guide's Derived/Test/ToyasCard.lean, 'card_holds'). Laid BY PROGRAM, IN A SANDBOX (cutbox-door.mjs). By AI agents, Wed Nov 11 2026. No macro, syntax, notation, axiom, sorry.
-/
import Derived.Test.YtjjhgmmkapeifaaDoorRows
import GoSem.ClaimSeven
namespace Go.Proofs.YtjjhgmmkapeifaaDoor
namespace Rows

/-- THE TIED CARD OF 'creellaw08.ConstsPuts'. -/
def constsPutsCard : Claim7 := { stood := { row := constsPutsRow, standIns := [], harness := (true, "7c0bb7205803a0a927eb9df743536cf42a57116e7b17a17da410276d29fb58e5"), looks := true }, kinds := [], alts := [], laidByText := true, laidKinds := [.data, .data, .data, .data, .data, .data], laidTests := true, laidLooks := .later }
def ConstsPutsCardSaid : Prop := Claim7.holds Tryd.pinned (.plain (OpenSpec.ofChange constsPutsSpec)) constsPutsCard

/-- THE TIED CARD OF 'creellaw08.ConstsReads'. -/
def constsReadsCard : Claim7 := { stood := { row := constsReadsRow, standIns := [], harness := (true, "7c0bb7205803a0a927eb9df743536cf42a57116e7b17a17da410276d29fb58e5"), looks := true }, kinds := [], alts := [], laidByText := true, laidKinds := [.data, .data, .data, .data, .data, .data], laidTests := true, laidLooks := .later }
def ConstsReadsCardSaid : Prop := Claim7.holds Tryd.pinned (.plain (OpenSpec.ofChange constsReadsSpec)) constsReadsCard

/-- THE TIED CARD OF 'creellaw08.ConstsValues'. -/
def constsValuesCard : Claim7 := { stood := { row := constsValuesRow, standIns := [], harness := (true, "7c0bb7205803a0a927eb9df743536cf42a57116e7b17a17da410276d29fb58e5"), looks := true }, kinds := [], alts := [], laidByText := true, laidKinds := [.data, .data, .data, .data, .data, .data], laidTests := true, laidLooks := .later }
def ConstsValuesCardSaid : Prop := Claim7.holds Tryd.pinned (.plain (OpenSpec.ofChange constsValuesSpec)) constsValuesCard

/-- THE SECOND FORM's CARD OF 'creellaw08.ConstsPuts'. -/
def constsPutsUptoCard : Claim7 := { stood := { row := constsPutsUptoRow, standIns := [], harness := (true, "7c0bb7205803a0a927eb9df743536cf42a57116e7b17a17da410276d29fb58e5"), looks := true }, kinds := [], alts := [], laidByText := true, laidKinds := [.data, .data, .data, .data, .data, .data], laidTests := true, laidLooks := .later }
def ConstsPutsUptoCardSaid : Prop := Claim7.holds Tryd.pinned (.plain (OpenSpec.upto constsPutsSpec)) constsPutsUptoCard

/-- THE SECOND FORM's CARD OF 'creellaw08.ConstsReads'. -/
def constsReadsUptoCard : Claim7 := { stood := { row := constsReadsUptoRow, standIns := [], harness := (true, "7c0bb7205803a0a927eb9df743536cf42a57116e7b17a17da410276d29fb58e5"), looks := true }, kinds := [], alts := [], laidByText := true, laidKinds := [.data, .data, .data, .data, .data, .data], laidTests := true, laidLooks := .later }
def ConstsReadsUptoCardSaid : Prop := Claim7.holds Tryd.pinned (.plain (OpenSpec.upto constsReadsSpec)) constsReadsUptoCard

/-- THE SECOND FORM's CARD OF 'creellaw08.ConstsValues'. -/
def constsValuesUptoCard : Claim7 := { stood := { row := constsValuesUptoRow, standIns := [], harness := (true, "7c0bb7205803a0a927eb9df743536cf42a57116e7b17a17da410276d29fb58e5"), looks := true }, kinds := [], alts := [], laidByText := true, laidKinds := [.data, .data, .data, .data, .data, .data], laidTests := true, laidLooks := .later }
def ConstsValuesUptoCardSaid : Prop := Claim7.holds Tryd.pinned (.plain (OpenSpec.upto constsValuesSpec)) constsValuesUptoCard
end Rows
end Go.Proofs.YtjjhgmmkapeifaaDoor
