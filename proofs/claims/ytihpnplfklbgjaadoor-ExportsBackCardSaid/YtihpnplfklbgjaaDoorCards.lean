/-
  DERIVED. GIVEN WITH THE SEED: THE CARDS: each row of YtihpnplfklbgjaaDoorRows.lean that lists a variable, with what it lists TIED to the program's text (the seventh form; the later family's looks); each row that meets fmt, with fmt's text TOLD by the authors' own Lean function (tested against real Go, not proved from fmt's source: count such statements apart). THE CARD IS WHAT COUNTS. Prove the row's statement (the work); the ties are given (YtihpnplfklbgjaaDoorTie.lean); close each card by the builder's one call (the guide's Derived/Test/ToyasCard.lean, 'card_holds'). Laid BY PROGRAM, IN A SANDBOX (cutbox-door.mjs). By AI agents, Wed Nov 11 2026. No macro, syntax, notation, axiom, sorry.
-/
import Derived.Test.YtihpnplfklbgjaaDoorRows
import GoSem.ClaimSeven
namespace Go.Proofs.YtihpnplfklbgjaaDoor
namespace Rows

/-- THE TIED CARD OF 'creellaw16.DylinkPuts'. -/
def dylinkPutsCard : Claim7 := { stood := { row := dylinkPutsRow, standIns := [], harness := (true, "a5e7c04e32de76479c80ddb705897827a8bc74edef28a3ca94d6f87e1aac218a"), looks := true }, kinds := [], alts := [], laidByText := true, laidKinds := [.data, .pinned], laidTests := true, laidLooks := .later }
def DylinkPutsCardSaid : Prop := Claim7.holds Tryd.pinned (.plain (OpenSpec.ofChange dylinkPutsSpec)) dylinkPutsCard

/-- THE TIED CARD OF 'creellaw16.DylinkTwice'. -/
def dylinkTwiceCard : Claim7 := { stood := { row := dylinkTwiceRow, standIns := [], harness := (true, "a5e7c04e32de76479c80ddb705897827a8bc74edef28a3ca94d6f87e1aac218a"), looks := true }, kinds := [], alts := [], laidByText := true, laidKinds := [.data, .pinned], laidTests := true, laidLooks := .later }
def DylinkTwiceCardSaid : Prop := Claim7.holds Tryd.pinned (.plain (OpenSpec.ofChange dylinkTwiceSpec)) dylinkTwiceCard

/-- THE TIED CARD OF 'creellaw10.ImportsBack'. -/
def importsBackCard : Claim7 := { stood := { row := importsBackRow, standIns := [], harness := (true, "a5e7c04e32de76479c80ddb705897827a8bc74edef28a3ca94d6f87e1aac218a"), looks := true }, kinds := [], alts := [], laidByText := true, laidKinds := [.data, .pinned], laidTests := true, laidLooks := .later }
def ImportsBackCardSaid : Prop := Claim7.holds Tryd.pinned (.plain (OpenSpec.ofChange importsBackSpec)) importsBackCard

/-- THE TIED CARD OF 'creellaw11.ExportsBack'. -/
def exportsBackCard : Claim7 := { stood := { row := exportsBackRow, standIns := [], harness := (true, "a5e7c04e32de76479c80ddb705897827a8bc74edef28a3ca94d6f87e1aac218a"), looks := true }, kinds := [], alts := [], laidByText := true, laidKinds := [.data, .pinned], laidTests := true, laidLooks := .later }
def ExportsBackCardSaid : Prop := Claim7.holds Tryd.pinned (.plain (OpenSpec.ofChange exportsBackSpec)) exportsBackCard

/-- THE SECOND FORM's CARD OF 'creellaw16.DylinkPuts'. -/
def dylinkPutsUptoCard : Claim7 := { stood := { row := dylinkPutsUptoRow, standIns := [], harness := (true, "a5e7c04e32de76479c80ddb705897827a8bc74edef28a3ca94d6f87e1aac218a"), looks := true }, kinds := [], alts := [], laidByText := true, laidKinds := [.data, .pinned], laidTests := true, laidLooks := .later }
def DylinkPutsUptoCardSaid : Prop := Claim7.holds Tryd.pinned (.plain (OpenSpec.upto dylinkPutsSpec)) dylinkPutsUptoCard

/-- THE SECOND FORM's CARD OF 'creellaw16.DylinkTwice'. -/
def dylinkTwiceUptoCard : Claim7 := { stood := { row := dylinkTwiceUptoRow, standIns := [], harness := (true, "a5e7c04e32de76479c80ddb705897827a8bc74edef28a3ca94d6f87e1aac218a"), looks := true }, kinds := [], alts := [], laidByText := true, laidKinds := [.data, .pinned], laidTests := true, laidLooks := .later }
def DylinkTwiceUptoCardSaid : Prop := Claim7.holds Tryd.pinned (.plain (OpenSpec.upto dylinkTwiceSpec)) dylinkTwiceUptoCard

/-- THE SECOND FORM's CARD OF 'creellaw10.ImportsBack'. -/
def importsBackUptoCard : Claim7 := { stood := { row := importsBackUptoRow, standIns := [], harness := (true, "a5e7c04e32de76479c80ddb705897827a8bc74edef28a3ca94d6f87e1aac218a"), looks := true }, kinds := [], alts := [], laidByText := true, laidKinds := [.data, .pinned], laidTests := true, laidLooks := .later }
def ImportsBackUptoCardSaid : Prop := Claim7.holds Tryd.pinned (.plain (OpenSpec.upto importsBackSpec)) importsBackUptoCard

/-- THE SECOND FORM's CARD OF 'creellaw11.ExportsBack'. -/
def exportsBackUptoCard : Claim7 := { stood := { row := exportsBackUptoRow, standIns := [], harness := (true, "a5e7c04e32de76479c80ddb705897827a8bc74edef28a3ca94d6f87e1aac218a"), looks := true }, kinds := [], alts := [], laidByText := true, laidKinds := [.data, .pinned], laidTests := true, laidLooks := .later }
def ExportsBackUptoCardSaid : Prop := Claim7.holds Tryd.pinned (.plain (OpenSpec.upto exportsBackSpec)) exportsBackUptoCard
end Rows
end Go.Proofs.YtihpnplfklbgjaaDoor
