/-
  DERIVED. GIVEN WITH THE SEED: THE CARDS: each row of YtjgdfajooccalaaDoorRows.lean that lists a variable, with what it lists TIED to the program's text (the seventh form; the later family's looks); each row that meets fmt, with fmt's text TOLD by the authors' own Lean function (tested against real Go, not proved from fmt's source: count such statements apart). THE CARD IS WHAT COUNTS. Prove the row's statement (the work); the ties are given (YtjgdfajooccalaaDoorTie.lean); close each card by the builder's one call (the guide's Derived/Test/ToyasCard.lean, 'card_holds'). Laid BY PROGRAM, IN A SANDBOX (cutbox-door.mjs). By AI agents, Wed Nov 11 2026. No macro, syntax, notation, axiom, sorry.
-/
import Derived.Test.YtjgdfajooccalaaDoorRows
import GoSem.ClaimSeven
namespace Go.Proofs.YtjgdfajooccalaaDoor
namespace Rows

/-- THE TIED CARD OF 'creellaw19.WideOne'. -/
def wideOneCard : Claim7 := { stood := { row := wideOneRow, standIns := [], harness := (true, "a9b6767c55184fe5343b6276d559e5b729907f4d941b56122653bb217335be09"), looks := false }, kinds := [], alts := [], laidByText := true, laidKinds := [.data], laidTests := true, laidLooks := .later }
def WideOneCardSaid : Prop := Claim7.holds Tryd.pinned (.plain (OpenSpec.ofChange wideOneSpec)) wideOneCard

/-- THE TIED CARD OF 'creellaw18.AluOne'. -/
def aluOneCard : Claim7 := { stood := { row := aluOneRow, standIns := [], harness := (true, "a9b6767c55184fe5343b6276d559e5b729907f4d941b56122653bb217335be09"), looks := false }, kinds := [], alts := [], laidByText := true, laidKinds := [.data], laidTests := true, laidLooks := .later }
def AluOneCardSaid : Prop := Claim7.holds Tryd.pinned (.plain (OpenSpec.ofChange aluOneSpec)) aluOneCard

/-- THE SECOND FORM's CARD OF 'creellaw19.WideOne'. -/
def wideOneUptoCard : Claim7 := { stood := { row := wideOneUptoRow, standIns := [], harness := (true, "a9b6767c55184fe5343b6276d559e5b729907f4d941b56122653bb217335be09"), looks := false }, kinds := [], alts := [], laidByText := true, laidKinds := [.data], laidTests := true, laidLooks := .later }
def WideOneUptoCardSaid : Prop := Claim7.holds Tryd.pinned (.plain (OpenSpec.upto wideOneSpec)) wideOneUptoCard

/-- THE SECOND FORM's CARD OF 'creellaw18.AluOne'. -/
def aluOneUptoCard : Claim7 := { stood := { row := aluOneUptoRow, standIns := [], harness := (true, "a9b6767c55184fe5343b6276d559e5b729907f4d941b56122653bb217335be09"), looks := false }, kinds := [], alts := [], laidByText := true, laidKinds := [.data], laidTests := true, laidLooks := .later }
def AluOneUptoCardSaid : Prop := Claim7.holds Tryd.pinned (.plain (OpenSpec.upto aluOneSpec)) aluOneUptoCard
end Rows
end Go.Proofs.YtjgdfajooccalaaDoor
