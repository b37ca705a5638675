/-
  DERIVED. GIVEN WITH THE SEED: THE CARDS: each row of YtdgokeijhgoleaaDoorRows.lean that lists a variable, with what it lists TIED to the program's text (the seventh form; the later family's looks); each row that meets fmt, with fmt's text TOLD by the authors' own Lean function (tested against real Go, not proved from fmt's source: count such statements apart). THE CARD IS WHAT COUNTS. Prove the row's statement (the work); the ties are given (YtdgokeijhgoleaaDoorTie.lean); close each card by the builder's one call (the guide's Derived/Test/ToyasCard.lean, 'card_holds'). Laid BY PROGRAM, IN A SANDBOX (cutbox-door.mjs). By AI agents, Wed Nov 11 2026. No macro, syntax, notation, axiom, sorry.
-/
import Derived.Test.YtdgokeijhgoleaaDoorRows
import GoSem.ClaimSeven
namespace Go.Proofs.YtdgokeijhgoleaaDoor
namespace Rows

/-- THE TIED CARD OF 'creellaw12.GlobalsPuts'. -/
def globalsPutsCard : Claim7 := { stood := { row := globalsPutsRow, standIns := [], harness := (true, "280b5c1c532ce08ad3f104c4652a1efb57c8e27ab9a50c0566f8da53998716f5"), looks := true }, kinds := [], alts := [], laidByText := true, laidKinds := [.data, .data, .data, .data, .data, .data], laidTests := true, laidLooks := .later }
def GlobalsPutsCardSaid : Prop := Claim7.holds Tryd.pinned (.plain (OpenSpec.ofChange globalsPutsSpec)) globalsPutsCard

/-- THE SECOND FORM's CARD OF 'creellaw12.GlobalsPuts'. -/
def globalsPutsUptoCard : Claim7 := { stood := { row := globalsPutsUptoRow, standIns := [], harness := (true, "280b5c1c532ce08ad3f104c4652a1efb57c8e27ab9a50c0566f8da53998716f5"), looks := true }, kinds := [], alts := [], laidByText := true, laidKinds := [.data, .data, .data, .data, .data, .data], laidTests := true, laidLooks := .later }
def GlobalsPutsUptoCardSaid : Prop := Claim7.holds Tryd.pinned (.plain (OpenSpec.upto globalsPutsSpec)) globalsPutsUptoCard
end Rows
end Go.Proofs.YtdgokeijhgoleaaDoor
