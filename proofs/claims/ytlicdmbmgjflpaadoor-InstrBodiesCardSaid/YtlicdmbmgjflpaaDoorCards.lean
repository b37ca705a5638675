/-
  DERIVED. GIVEN WITH THE SEED: THE CARDS: each row of YtlicdmbmgjflpaaDoorRows.lean that lists a variable, with what it lists TIED to the program's text (the seventh form; the later family's looks); each row that meets fmt, with fmt's text TOLD by the authors' own Lean function (tested against real Go, not proved from fmt's source: count such statements apart). THE CARD IS WHAT COUNTS. Prove the row's statement (the work); the ties are given (YtlicdmbmgjflpaaDoorTie.lean); close each card by the builder's one call (the guide's Derived/Test/ToyasCard.lean, 'card_holds'). Laid BY PROGRAM, IN A SANDBOX (cutbox-door.mjs). By AI agents, Wed Nov 11 2026. No macro, syntax, notation, axiom, sorry.
-/
import Derived.Test.YtlicdmbmgjflpaaDoorRows
import GoSem.ClaimSeven
namespace Go.Proofs.YtlicdmbmgjflpaaDoor
namespace Rows

/-- THE TIED CARD OF 'creellaw07.InstrPuts'. -/
def instrPutsCard : Claim7 := { stood := { row := instrPutsRow, standIns := [], harness := (true, "fd370d2450a5fcf0db8a1a2a2169b1aa4936a2e27ea6809298481750d6db6442"), looks := true }, kinds := [], alts := [], laidByText := true, laidKinds := [.data, .data, .data, .data, .data, .data], laidTests := true, laidLooks := .later }
def InstrPutsCardSaid : Prop := Claim7.holds Tryd.pinned (.plain (OpenSpec.ofChange instrPutsSpec)) instrPutsCard

/-- THE TIED CARD OF 'creellaw07.InstrBodies'. -/
def instrBodiesCard : Claim7 := { stood := { row := instrBodiesRow, standIns := [], harness := (true, "fd370d2450a5fcf0db8a1a2a2169b1aa4936a2e27ea6809298481750d6db6442"), looks := true }, kinds := [], alts := [], laidByText := true, laidKinds := [.data, .data, .data, .data, .data, .data], laidTests := true, laidLooks := .later }
def InstrBodiesCardSaid : Prop := Claim7.holds Tryd.pinned (.plain (OpenSpec.ofChange instrBodiesSpec)) instrBodiesCard

/-- THE SECOND FORM's CARD OF 'creellaw07.InstrPuts'. -/
def instrPutsUptoCard : Claim7 := { stood := { row := instrPutsUptoRow, standIns := [], harness := (true, "fd370d2450a5fcf0db8a1a2a2169b1aa4936a2e27ea6809298481750d6db6442"), looks := true }, kinds := [], alts := [], laidByText := true, laidKinds := [.data, .data, .data, .data, .data, .data], laidTests := true, laidLooks := .later }
def InstrPutsUptoCardSaid : Prop := Claim7.holds Tryd.pinned (.plain (OpenSpec.upto instrPutsSpec)) instrPutsUptoCard

/-- THE SECOND FORM's CARD OF 'creellaw07.InstrBodies'. -/
def instrBodiesUptoCard : Claim7 := { stood := { row := instrBodiesUptoRow, standIns := [], harness := (true, "fd370d2450a5fcf0db8a1a2a2169b1aa4936a2e27ea6809298481750d6db6442"), looks := true }, kinds := [], alts := [], laidByText := true, laidKinds := [.data, .data, .data, .data, .data, .data], laidTests := true, laidLooks := .later }
def InstrBodiesUptoCardSaid : Prop := Claim7.holds Tryd.pinned (.plain (OpenSpec.upto instrBodiesSpec)) instrBodiesUptoCard
end Rows
end Go.Proofs.YtlicdmbmgjflpaaDoor
