/-
  DERIVED. GIVEN WITH THE SEED: THE CARDS: each row of YtfimjjeabbbciaaDoorRows.lean that lists a variable, with what it lists TIED to the program's text (the seventh form; the later family's looks); each row that meets fmt, with fmt's text TOLD by the authors' own Lean function (tested against real Go, not proved from fmt's source: count such statements apart). THE CARD IS WHAT COUNTS. Prove the row's statement (the work); the ties are given (YtfimjjeabbbciaaDoorTie.lean); close each card by the builder's one call (the guide's Derived/Test/ToyasCard.lean, 'card_holds'). Laid BY PROGRAM, IN A SANDBOX (cutbox-door.mjs). By AI agents, Wed Nov 11 2026. No macro, syntax, notation, axiom, sorry.
-/
import Derived.Test.YtfimjjeabbbciaaDoorRows
import GoSem.ClaimSeven
namespace Go.Proofs.YtfimjjeabbbciaaDoor
namespace Rows

/-- THE TIED CARD OF 'creellaw06.OpsTell'. -/
def opsTellCard : Claim7 := { stood := { row := opsTellRow, standIns := [], harness := (true, "bf4a6c78fa8a5d82410ba306d6524566cbd0818df0d5e573100c5b91a8dea1e6"), looks := false }, kinds := [], alts := [], laidByText := true, laidKinds := [.data, .data, .data, .data, .data, .data], laidTests := true, laidLooks := .later }
def OpsTellCardSaid : Prop := Claim7.holds Tryd.pinned (.plain (OpenSpec.ofChange opsTellSpec)) opsTellCard

/-- THE TIED CARD OF 'creellaw06.OpsNames'. -/
def opsNamesCard : Claim7 := { stood := { row := opsNamesRow, standIns := [], harness := (true, "bf4a6c78fa8a5d82410ba306d6524566cbd0818df0d5e573100c5b91a8dea1e6"), looks := false }, kinds := [], alts := [], laidByText := true, laidKinds := [.data, .data, .data, .data, .data, .data], laidTests := true, laidLooks := .later }
def OpsNamesCardSaid : Prop := Claim7.holds Tryd.pinned (.plain (OpenSpec.ofChange opsNamesSpec)) opsNamesCard

/-- THE TIED CARD OF 'creellaw06.OpsAccess'. -/
def opsAccessCard : Claim7 := { stood := { row := opsAccessRow, standIns := [], harness := (true, "bf4a6c78fa8a5d82410ba306d6524566cbd0818df0d5e573100c5b91a8dea1e6"), looks := false }, kinds := [], alts := [], laidByText := true, laidKinds := [.data, .data, .data, .data, .data, .data], laidTests := true, laidLooks := .later }
def OpsAccessCardSaid : Prop := Claim7.holds Tryd.pinned (.plain (OpenSpec.ofChange opsAccessSpec)) opsAccessCard

/-- THE SECOND FORM's CARD OF 'creellaw06.OpsTell'. -/
def opsTellUptoCard : Claim7 := { stood := { row := opsTellUptoRow, standIns := [], harness := (true, "bf4a6c78fa8a5d82410ba306d6524566cbd0818df0d5e573100c5b91a8dea1e6"), looks := false }, kinds := [], alts := [], laidByText := true, laidKinds := [.data, .data, .data, .data, .data, .data], laidTests := true, laidLooks := .later }
def OpsTellUptoCardSaid : Prop := Claim7.holds Tryd.pinned (.plain (OpenSpec.upto opsTellSpec)) opsTellUptoCard

/-- THE SECOND FORM's CARD OF 'creellaw06.OpsNames'. -/
def opsNamesUptoCard : Claim7 := { stood := { row := opsNamesUptoRow, standIns := [], harness := (true, "bf4a6c78fa8a5d82410ba306d6524566cbd0818df0d5e573100c5b91a8dea1e6"), looks := false }, kinds := [], alts := [], laidByText := true, laidKinds := [.data, .data, .data, .data, .data, .data], laidTests := true, laidLooks := .later }
def OpsNamesUptoCardSaid : Prop := Claim7.holds Tryd.pinned (.plain (OpenSpec.upto opsNamesSpec)) opsNamesUptoCard

/-- THE SECOND FORM's CARD OF 'creellaw06.OpsAccess'. -/
def opsAccessUptoCard : Claim7 := { stood := { row := opsAccessUptoRow, standIns := [], harness := (true, "bf4a6c78fa8a5d82410ba306d6524566cbd0818df0d5e573100c5b91a8dea1e6"), looks := false }, kinds := [], alts := [], laidByText := true, laidKinds := [.data, .data, .data, .data, .data, .data], laidTests := true, laidLooks := .later }
def OpsAccessUptoCardSaid : Prop := Claim7.holds Tryd.pinned (.plain (OpenSpec.upto opsAccessSpec)) opsAccessUptoCard
end Rows
end Go.Proofs.YtfimjjeabbbciaaDoor
