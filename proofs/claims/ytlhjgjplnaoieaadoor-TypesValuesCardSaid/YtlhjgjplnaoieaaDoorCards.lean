/-
  DERIVED. GIVEN WITH THE SEED: THE CARDS: each row of YtlhjgjplnaoieaaDoorRows.lean that lists a variable, with what it lists TIED to the program's text (the seventh form; the later family's looks); each row that meets fmt, with fmt's text TOLD by the authors' own Lean function (tested against real Go, not proved from fmt's source: count such statements apart). THE CARD IS WHAT COUNTS. Prove the row's statement (the work); the ties are given (YtlhjgjplnaoieaaDoorTie.lean); close each card by the builder's one call (the guide's Derived/Test/ToyasCard.lean, 'card_holds'). Laid BY PROGRAM, IN A SANDBOX (cutbox-door.mjs). By AI agents, Wed Nov 11 2026. No macro, syntax, notation, axiom, sorry.
-/
import Derived.Test.YtlhjgjplnaoieaaDoorRows
import GoSem.ClaimSeven
namespace Go.Proofs.YtlhjgjplnaoieaaDoor
namespace Rows

/-- THE TIED CARD OF 'creellaw04.TypesFuncs'. -/
def typesFuncsCard : Claim7 := { stood := { row := typesFuncsRow, standIns := [], harness := (true, "6ce1cd88d9f760deaa2dbe1f87dbfdb68100775118fbead42b082f914498cd5a"), looks := false }, kinds := [], alts := [], laidByText := true, laidKinds := [.data], laidTests := true, laidLooks := .later }
def TypesFuncsCardSaid : Prop := Claim7.holds Tryd.pinned (.plain (OpenSpec.ofChange typesFuncsSpec)) typesFuncsCard

/-- THE TIED CARD OF 'creellaw04.TypesLimits'. -/
def typesLimitsCard : Claim7 := { stood := { row := typesLimitsRow, standIns := [], harness := (true, "6ce1cd88d9f760deaa2dbe1f87dbfdb68100775118fbead42b082f914498cd5a"), looks := false }, kinds := [], alts := [], laidByText := true, laidKinds := [.data], laidTests := true, laidLooks := .later }
def TypesLimitsCardSaid : Prop := Claim7.holds Tryd.pinned (.plain (OpenSpec.ofChange typesLimitsSpec)) typesLimitsCard

/-- THE TIED CARD OF 'creellaw04.TypesValues'. -/
def typesValuesCard : Claim7 := { stood := { row := typesValuesRow, standIns := [], harness := (true, "6ce1cd88d9f760deaa2dbe1f87dbfdb68100775118fbead42b082f914498cd5a"), looks := false }, kinds := [], alts := [], laidByText := true, laidKinds := [.data], laidTests := true, laidLooks := .later }
def TypesValuesCardSaid : Prop := Claim7.holds Tryd.pinned (.plain (OpenSpec.ofChange typesValuesSpec)) typesValuesCard

/-- THE SECOND FORM's CARD OF 'creellaw04.TypesFuncs'. -/
def typesFuncsUptoCard : Claim7 := { stood := { row := typesFuncsUptoRow, standIns := [], harness := (true, "6ce1cd88d9f760deaa2dbe1f87dbfdb68100775118fbead42b082f914498cd5a"), looks := false }, kinds := [], alts := [], laidByText := true, laidKinds := [.data], laidTests := true, laidLooks := .later }
def TypesFuncsUptoCardSaid : Prop := Claim7.holds Tryd.pinned (.plain (OpenSpec.upto typesFuncsSpec)) typesFuncsUptoCard

/-- THE SECOND FORM's CARD OF 'creellaw04.TypesLimits'. -/
def typesLimitsUptoCard : Claim7 := { stood := { row := typesLimitsUptoRow, standIns := [], harness := (true, "6ce1cd88d9f760deaa2dbe1f87dbfdb68100775118fbead42b082f914498cd5a"), looks := false }, kinds := [], alts := [], laidByText := true, laidKinds := [.data], laidTests := true, laidLooks := .later }
def TypesLimitsUptoCardSaid : Prop := Claim7.holds Tryd.pinned (.plain (OpenSpec.upto typesLimitsSpec)) typesLimitsUptoCard

/-- THE SECOND FORM's CARD OF 'creellaw04.TypesValues'. -/
def typesValuesUptoCard : Claim7 := { stood := { row := typesValuesUptoRow, standIns := [], harness := (true, "6ce1cd88d9f760deaa2dbe1f87dbfdb68100775118fbead42b082f914498cd5a"), looks := false }, kinds := [], alts := [], laidByText := true, laidKinds := [.data], laidTests := true, laidLooks := .later }
def TypesValuesUptoCardSaid : Prop := Claim7.holds Tryd.pinned (.plain (OpenSpec.upto typesValuesSpec)) typesValuesUptoCard
end Rows
end Go.Proofs.YtlhjgjplnaoieaaDoor
