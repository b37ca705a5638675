/-
  DERIVED. GIVEN WITH THE SEED: THE CARDS: each row of YtohliaellefhaaaDoorRows.lean that lists a variable, with what it lists TIED to the program's text (the seventh form; the later family's looks); each row that meets fmt, with fmt's text TOLD by the authors' own Lean function (tested against real Go, not proved from fmt's source: count such statements apart). THE CARD IS WHAT COUNTS. Prove the row's statement (the work); the ties are given (YtohliaellefhaaaDoorTie.lean); close each card by the builder's one call (the guide's Derived/Test/ToyasCard.lean, 'card_holds'). Laid BY PROGRAM, IN A SANDBOX (cutbox-door.mjs). By AI agents, Wed Nov 11 2026. No macro, syntax, notation, axiom, sorry.
-/
import Derived.Test.YtohliaellefhaaaDoorRows
import GoSem.ClaimSeven
namespace Go.Proofs.YtohliaellefhaaaDoor
namespace Rows

/-- THE TIED CARD OF 'creellaw14.BodiesLocals'. -/
def bodiesLocalsCard : Claim7 := { stood := { row := bodiesLocalsRow, standIns := [], harness := (true, "5f0f3343769220d0cae3f0c684d2450390756cb2ea432905feef543d551ed6df"), looks := true }, kinds := [], alts := [], laidByText := true, laidKinds := [.data, .data, .data, .data, .data, .data], laidTests := true, laidLooks := .later }
def BodiesLocalsCardSaid : Prop := Claim7.holds Tryd.pinned (.plain (OpenSpec.ofChange bodiesLocalsSpec)) bodiesLocalsCard

/-- THE TIED CARD OF 'creellaw09.SectJoins'. -/
def sectJoinsCard : Claim7 := { stood := { row := sectJoinsRow, standIns := [], harness := (true, "5f0f3343769220d0cae3f0c684d2450390756cb2ea432905feef543d551ed6df"), looks := true }, kinds := [], alts := [], laidByText := true, laidKinds := [.data, .pinned], laidTests := true, laidLooks := .later }
def SectJoinsCardSaid : Prop := Claim7.holds Tryd.pinned (.plain (OpenSpec.ofChange sectJoinsSpec)) sectJoinsCard

/-- THE SECOND FORM's CARD OF 'creellaw14.BodiesLocals'. -/
def bodiesLocalsUptoCard : Claim7 := { stood := { row := bodiesLocalsUptoRow, standIns := [], harness := (true, "5f0f3343769220d0cae3f0c684d2450390756cb2ea432905feef543d551ed6df"), looks := true }, kinds := [], alts := [], laidByText := true, laidKinds := [.data, .data, .data, .data, .data, .data], laidTests := true, laidLooks := .later }
def BodiesLocalsUptoCardSaid : Prop := Claim7.holds Tryd.pinned (.plain (OpenSpec.upto bodiesLocalsSpec)) bodiesLocalsUptoCard

/-- THE SECOND FORM's CARD OF 'creellaw09.SectJoins'. -/
def sectJoinsUptoCard : Claim7 := { stood := { row := sectJoinsUptoRow, standIns := [], harness := (true, "5f0f3343769220d0cae3f0c684d2450390756cb2ea432905feef543d551ed6df"), looks := true }, kinds := [], alts := [], laidByText := true, laidKinds := [.data, .pinned], laidTests := true, laidLooks := .later }
def SectJoinsUptoCardSaid : Prop := Claim7.holds Tryd.pinned (.plain (OpenSpec.upto sectJoinsSpec)) sectJoinsUptoCard
end Rows
end Go.Proofs.YtohliaellefhaaaDoor
