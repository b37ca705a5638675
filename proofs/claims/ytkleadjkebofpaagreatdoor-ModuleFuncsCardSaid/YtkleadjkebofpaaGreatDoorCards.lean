/-
  DERIVED. GIVEN WITH THE SEED: THE CARDS: each row of YtkleadjkebofpaaGreatDoorRows.lean that lists a variable, with what it lists TIED to the program's text (the seventh form; the later family's looks); each row that meets fmt, with fmt's text TOLD by the authors' own Lean function (tested against real Go, not proved from fmt's source: count such statements apart). THE CARD IS WHAT COUNTS. Prove the row's statement (the work); the ties are given (YtkleadjkebofpaaGreatDoorTie.lean); close each card by the builder's one call (the guide's Derived/Test/ToyasCard.lean, 'card_holds'). Laid BY PROGRAM, IN A SANDBOX (cutbox-door.mjs). By AI agents, Wed Nov 11 2026. No macro, syntax, notation, axiom, sorry.
-/
import Derived.Test.YtkleadjkebofpaaGreatDoorRows
import GoSem.ClaimSeven
namespace Go.Proofs.YtkleadjkebofpaaGreatDoor
namespace Rows

/-- THE TIED CARD OF 'creellaw17.ModuleFuncs'. -/
def moduleFuncsCard : Claim7 := { stood := { row := moduleFuncsRow, standIns := [], harness := (true, "03034c46735faedc725c3c277ee76cbc8b79133bdeb2bc95063cabf7528e4c51"), looks := true }, kinds := [], alts := [], laidByText := true, laidKinds := [.data, .data, .data, .data, .data, .data, .data, .pinned], laidTests := true, laidLooks := .later }
def ModuleFuncsCardSaid : Prop := Claim7.holds Tryz.pinned (.plain (OpenSpec.ofChange moduleFuncsSpec)) moduleFuncsCard

/-- THE SECOND FORM's CARD OF 'creellaw17.ModuleFuncs'. -/
def moduleFuncsUptoCard : Claim7 := { stood := { row := moduleFuncsUptoRow, standIns := [], harness := (true, "03034c46735faedc725c3c277ee76cbc8b79133bdeb2bc95063cabf7528e4c51"), looks := true }, kinds := [], alts := [], laidByText := true, laidKinds := [.data, .data, .data, .data, .data, .data, .data, .pinned], laidTests := true, laidLooks := .later }
def ModuleFuncsUptoCardSaid : Prop := Claim7.holds Tryz.pinned (.plain (OpenSpec.upto moduleFuncsSpec)) moduleFuncsUptoCard
end Rows
end Go.Proofs.YtkleadjkebofpaaGreatDoor
