/-
  DERIVED. GIVEN WITH THE SEED: THE CARDS: each row of YtakklljpngeocaaDoorRows.lean that lists a variable, with what it lists TIED to the program's text (the seventh form; the later family's looks); each row that meets fmt, with fmt's text TOLD by the authors' own Lean function (tested against real Go, not proved from fmt's source: count such statements apart). THE CARD IS WHAT COUNTS. Prove the row's statement (the work); the ties are given (YtakklljpngeocaaDoorTie.lean); close each card by the builder's one call (the guide's Derived/Test/ToyasCard.lean, 'card_holds'). Laid BY PROGRAM, IN A SANDBOX (cutbox-door.mjs). By AI agents, Wed Nov 11 2026. No macro, syntax, notation, axiom, sorry.
-/
import Derived.Test.YtakklljpngeocaaDoorRows
import GoSem.ClaimSeven
namespace Go.Proofs.YtakklljpngeocaaDoor
namespace Rows

/-- THE TIED CARD OF 'creellaw20.ConvDoes'. -/
def convDoesCard : Claim7 := { stood := { row := convDoesRow, standIns := [], harness := (true, "bbd47d4e4e1c59c677a504aa1884cdef506c76ee43770776ac519edd9e899a72"), looks := false }, kinds := [], alts := [], laidByText := true, laidKinds := [.data], laidTests := true, laidLooks := .later }
def ConvDoesCardSaid : Prop := Claim7.holds Tryd.pinned (.plain (OpenSpec.ofChange convDoesSpec)) convDoesCard

/-- THE TIED CARD OF 'creellaw20.ConvAccess'. -/
def convAccessCard : Claim7 := { stood := { row := convAccessRow, standIns := [], harness := (true, "bbd47d4e4e1c59c677a504aa1884cdef506c76ee43770776ac519edd9e899a72"), looks := false }, kinds := [], alts := [], laidByText := true, laidKinds := [.data], laidTests := true, laidLooks := .later }
def ConvAccessCardSaid : Prop := Claim7.holds Tryd.pinned (.plain (OpenSpec.ofChange convAccessSpec)) convAccessCard

/-- THE TIED CARD OF 'creellaw20.ConvBack'. -/
def convBackCard : Claim7 := { stood := { row := convBackRow, standIns := [], harness := (true, "bbd47d4e4e1c59c677a504aa1884cdef506c76ee43770776ac519edd9e899a72"), looks := false }, kinds := [], alts := [], laidByText := true, laidKinds := [.data], laidTests := true, laidLooks := .later }
def ConvBackCardSaid : Prop := Claim7.holds Tryd.pinned (.plain (OpenSpec.ofChange convBackSpec)) convBackCard

/-- THE SECOND FORM's CARD OF 'creellaw20.ConvDoes'. -/
def convDoesUptoCard : Claim7 := { stood := { row := convDoesUptoRow, standIns := [], harness := (true, "bbd47d4e4e1c59c677a504aa1884cdef506c76ee43770776ac519edd9e899a72"), looks := false }, kinds := [], alts := [], laidByText := true, laidKinds := [.data], laidTests := true, laidLooks := .later }
def ConvDoesUptoCardSaid : Prop := Claim7.holds Tryd.pinned (.plain (OpenSpec.upto convDoesSpec)) convDoesUptoCard

/-- THE SECOND FORM's CARD OF 'creellaw20.ConvAccess'. -/
def convAccessUptoCard : Claim7 := { stood := { row := convAccessUptoRow, standIns := [], harness := (true, "bbd47d4e4e1c59c677a504aa1884cdef506c76ee43770776ac519edd9e899a72"), looks := false }, kinds := [], alts := [], laidByText := true, laidKinds := [.data], laidTests := true, laidLooks := .later }
def ConvAccessUptoCardSaid : Prop := Claim7.holds Tryd.pinned (.plain (OpenSpec.upto convAccessSpec)) convAccessUptoCard

/-- THE SECOND FORM's CARD OF 'creellaw20.ConvBack'. -/
def convBackUptoCard : Claim7 := { stood := { row := convBackUptoRow, standIns := [], harness := (true, "bbd47d4e4e1c59c677a504aa1884cdef506c76ee43770776ac519edd9e899a72"), looks := false }, kinds := [], alts := [], laidByText := true, laidKinds := [.data], laidTests := true, laidLooks := .later }
def ConvBackUptoCardSaid : Prop := Claim7.holds Tryd.pinned (.plain (OpenSpec.upto convBackSpec)) convBackUptoCard
end Rows
end Go.Proofs.YtakklljpngeocaaDoor
