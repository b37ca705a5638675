/-
  NARROWER THAN 'FOR EVERY INPUT', by the rows' own cells (each row's printed sentence says how): DylinkPuts: laid · DylinkTwice: laid · ImportsBack: laid · ExportsBack: laid.
  DERIVED. THE GIVEN ROWS OF THIS SEAT. 4 by the template 'for every input the law returns true; each argument reads behind the call as it read before'; 0 by the template 'total and deterministic' (their statements: YtihpnplfklbgjaaDoorTotals.lean).
  GIVEN WITH THE SEED: the statements are not yours to turn. If you find one false, say at which input.
  Laid BY PROGRAM, IN A SANDBOX (cutbox-rows.mjs): the forced cells as the released guide's own fill.sh prints them over the translation 598ec36e43c3864d… (all of the seat's roots in one cut). By AI agents, Wed Nov 11 2026. No macro, syntax, notation, axiom, sorry.
-/
import Derived.Test.YtihpnplfklbgjaaDoorChecked
import GoSem.PinnedTables
import GoSem.Claim
import GoSem.ClaimJoined
import GoSem.ClaimMapViews
import Derived.JoinedTies
import Derived.KernelRfl
namespace Go.Proofs.YtihpnplfklbgjaaDoor
/- THE CELL 'sum', in the pinned program and in every row, IS THE sha256 OF THE DUMP (.gsa) THAT YtihpnplfklbgjaaDoorProg.lean LOADS. Nothing in Lean hashes anything: it is a label: what it is worth is what the hold of that sum in a sandbox is worth. -/
noncomputable def Tryd.pinned : Pinned := { name := "ytihpnplfklbgjaadoor", sum := "598ec36e43c3864d916fc9439aa8daf08c664ac7ca28fdedf26e2f315963d65e", checked := Tryd.checked }
namespace Rows
def none {H : Type} : Left H := { results := [], args := [] }

/- WHAT THE LISTED PACKAGE-LEVEL VARIABLES READ AS WHEN THE CALL BEGINS. Each datum BY PROGRAM (the guide's laid-datum.mjs) off the statement by which the dump's own 'gosem.cut.vars' lays the variable. In a bare row this is a premise. The card (YtihpnplfklbgjaaDoorCards.lean) ties it to the program's text. -/
def laid_unicode_utf8_acceptRanges {H : Type} : DataW H := .agg [.agg [.lit (.int .u8 128), .lit (.int .u8 191)], .agg [.lit (.int .u8 160), .lit (.int .u8 191)], .agg [.lit (.int .u8 128), .lit (.int .u8 159)], .agg [.lit (.int .u8 144), .lit (.int .u8 191)], .agg [.lit (.int .u8 128), .lit (.int .u8 143)], .agg [.lit (.int .u8 0), .lit (.int .u8 0)], .agg [.lit (.int .u8 0), .lit (.int .u8 0)], .agg [.lit (.int .u8 0), .lit (.int .u8 0)], .agg [.lit (.int .u8 0), .lit (.int .u8 0)], .agg [.lit (.int .u8 0), .lit (.int .u8 0)], .agg [.lit (.int .u8 0), .lit (.int .u8 0)], .agg [.lit (.int .u8 0), .lit (.int .u8 0)], .agg [.lit (.int .u8 0), .lit (.int .u8 0)], .agg [.lit (.int .u8 0), .lit (.int .u8 0)], .agg [.lit (.int .u8 0), .lit (.int .u8 0)], .agg [.lit (.int .u8 0), .lit (.int .u8 0)]]
/-- One of Go's own tables, pinned by name: the form's constant. -/
def laid_unicode_utf8_first : DataW Unit := Go.Pinned.utf8First

/-- 'creellaw16.DylinkPuts': WHATEVER THE INPUT: true; the input reads as it did. -/
def dylinkPutsSpec : ChangeSpec := { name := "dylinkPuts", fn := fun _ => fun
  | [d] => { results := [.lit (.bool true)], args := [d] }
  | _ => none }
def dylinkPutsRow : OpenClaim := { program := "ytihpnplfklbgjaadoor", sum := "598ec36e43c3864d916fc9439aa8daf08c664ac7ca28fdedf26e2f315963d65e", func := "creel/creellaw16.DylinkPuts", spec := "dylinkPuts", unfollowed := true, recurses := true, named := ["unicode/utf8.first", "unicode/utf8.acceptRanges"], apart := false, laid := [("unicode/utf8.acceptRanges", laid_unicode_utf8_acceptRanges), ("unicode/utf8.first", laid_unicode_utf8_first)] }
def DylinkPutsSaid : Prop := dylinkPutsRow.holds Tryd.pinned (OpenSpec.ofChange dylinkPutsSpec)

/-- ITS FALSE NEIGHBOUR: 'it returns false'. Refute it at one input. -/
def dylinkPutsWrong : ChangeSpec := { name := "dylinkPuts", fn := fun _ => fun
  | [d] => { results := [.lit (.bool false)], args := [d] }
  | _ => none }
def DylinkPutsWrongFalsely : Prop := dylinkPutsRow.holds Tryd.pinned (OpenSpec.ofChange dylinkPutsWrong)

/-- 'creellaw16.DylinkTwice': WHATEVER THE INPUT: true; the input reads as it did. -/
def dylinkTwiceSpec : ChangeSpec := { name := "dylinkTwice", fn := fun _ => fun
  | [d1, d2, d3] => { results := [.lit (.bool true)], args := [d1, d2, d3] }
  | _ => none }
def dylinkTwiceRow : OpenClaim := { program := "ytihpnplfklbgjaadoor", sum := "598ec36e43c3864d916fc9439aa8daf08c664ac7ca28fdedf26e2f315963d65e", func := "creel/creellaw16.DylinkTwice", spec := "dylinkTwice", unfollowed := true, recurses := true, named := ["unicode/utf8.first", "unicode/utf8.acceptRanges"], apart := false, laid := [("unicode/utf8.acceptRanges", laid_unicode_utf8_acceptRanges), ("unicode/utf8.first", laid_unicode_utf8_first)] }
def DylinkTwiceSaid : Prop := dylinkTwiceRow.holds Tryd.pinned (OpenSpec.ofChange dylinkTwiceSpec)

/-- ITS FALSE NEIGHBOUR: 'it returns false'. Refute it at one input. -/
def dylinkTwiceWrong : ChangeSpec := { name := "dylinkTwice", fn := fun _ => fun
  | [d1, d2, d3] => { results := [.lit (.bool false)], args := [d1, d2, d3] }
  | _ => none }
def DylinkTwiceWrongFalsely : Prop := dylinkTwiceRow.holds Tryd.pinned (OpenSpec.ofChange dylinkTwiceWrong)

/-- 'creellaw10.ImportsBack': WHATEVER THE INPUT: true; the input reads as it did. -/
def importsBackSpec : ChangeSpec := { name := "importsBack", fn := fun _ => fun
  | [d] => { results := [.lit (.bool true)], args := [d] }
  | _ => none }
def importsBackRow : OpenClaim := { program := "ytihpnplfklbgjaadoor", sum := "598ec36e43c3864d916fc9439aa8daf08c664ac7ca28fdedf26e2f315963d65e", func := "creel/creellaw10.ImportsBack", spec := "importsBack", unfollowed := true, recurses := true, named := ["unicode/utf8.first", "unicode/utf8.acceptRanges"], apart := false, laid := [("unicode/utf8.acceptRanges", laid_unicode_utf8_acceptRanges), ("unicode/utf8.first", laid_unicode_utf8_first)] }
def ImportsBackSaid : Prop := importsBackRow.holds Tryd.pinned (OpenSpec.ofChange importsBackSpec)

/-- ITS FALSE NEIGHBOUR: 'it returns false'. Refute it at one input. -/
def importsBackWrong : ChangeSpec := { name := "importsBack", fn := fun _ => fun
  | [d] => { results := [.lit (.bool false)], args := [d] }
  | _ => none }
def ImportsBackWrongFalsely : Prop := importsBackRow.holds Tryd.pinned (OpenSpec.ofChange importsBackWrong)

/-- 'creellaw11.ExportsBack': WHATEVER THE INPUT: true; the input reads as it did. -/
def exportsBackSpec : ChangeSpec := { name := "exportsBack", fn := fun _ => fun
  | [d] => { results := [.lit (.bool true)], args := [d] }
  | _ => none }
def exportsBackRow : OpenClaim := { program := "ytihpnplfklbgjaadoor", sum := "598ec36e43c3864d916fc9439aa8daf08c664ac7ca28fdedf26e2f315963d65e", func := "creel/creellaw11.ExportsBack", spec := "exportsBack", unfollowed := true, recurses := true, named := ["unicode/utf8.first", "unicode/utf8.acceptRanges"], apart := false, laid := [("unicode/utf8.acceptRanges", laid_unicode_utf8_acceptRanges), ("unicode/utf8.first", laid_unicode_utf8_first)] }
def ExportsBackSaid : Prop := exportsBackRow.holds Tryd.pinned (OpenSpec.ofChange exportsBackSpec)

/-- ITS FALSE NEIGHBOUR: 'it returns false'. Refute it at one input. -/
def exportsBackWrong : ChangeSpec := { name := "exportsBack", fn := fun _ => fun
  | [d] => { results := [.lit (.bool false)], args := [d] }
  | _ => none }
def ExportsBackWrongFalsely : Prop := exportsBackRow.holds Tryd.pinned (OpenSpec.ofChange exportsBackWrong)

/- THE SECOND FORM. 'bulk': how many values and letters a reading holds, each counted each time it is reached (what is shared counts as often as it is met; a slice's spare places count too). A statement '..UptoSaid' is the law's where the arguments, and the package variables that the reading takes, are together of bulk at most 1048576: NARROWER than '..Said'. Prove '..Said' where nothing that the law and all that it calls make is longer than what came in: it says more and counts as full. Else prove '..UptoSaid'. A law counts once. -/
mutual
def uptoBulk {H : Type} : DataW H → Nat
  | .lit (.string bytes) => bytes.length + 1
  | .lit _ => 1
  | .nil => 1
  | .ptr d => uptoBulk d + 1
  | .slice elems spare => uptoBulkAll elems + uptoBulkAll spare + 1
  | .agg parts => uptoBulkAll parts + 1
  | .iface _ d => uptoBulk d + 1
  | .map entries => uptoBulkEntries entries + 1
  | .held _ => 1
def uptoBulkAll {H : Type} : List (DataW H) → Nat
  | [] => 0
  | d :: r => uptoBulk d + uptoBulkAll r
def uptoBulkEntries {H : Type} : List (Lit × DataW H) → Nat
  | [] => 0
  | x :: r => uptoBulkEntry x + uptoBulkEntries r
def uptoBulkEntry {H : Type} : Lit × DataW H → Nat
  | (.string bytes, d) => bytes.length + uptoBulk d + 1
  | (_, d) => uptoBulk d + 1
 end
def uptoSmall : (H : Type) → List (DataW H) → Bool := fun _ ds => decide (uptoBulkAll ds ≤ 1048576)
def OpenSpec.upto (s : _root_.Go.ChangeSpec) : _root_.Go.OpenSpec := { _root_.Go.OpenSpec.ofChange s with cond := some uptoSmall }

/-- 'creellaw16.DylinkPuts', WHERE WHAT IT READS IS OF BULK AT MOST 1048576: true; the input reads as it did. -/
def dylinkPutsUptoRow : OpenClaim := { program := "ytihpnplfklbgjaadoor", sum := "598ec36e43c3864d916fc9439aa8daf08c664ac7ca28fdedf26e2f315963d65e", func := "creel/creellaw16.DylinkPuts", spec := "dylinkPuts", unfollowed := true, recurses := true, named := ["unicode/utf8.first", "unicode/utf8.acceptRanges"], apart := false, laid := [("unicode/utf8.acceptRanges", laid_unicode_utf8_acceptRanges), ("unicode/utf8.first", laid_unicode_utf8_first)], narrowed := true }
def DylinkPutsUptoSaid : Prop := dylinkPutsUptoRow.holds Tryd.pinned (OpenSpec.upto dylinkPutsSpec)

/-- 'creellaw16.DylinkTwice', WHERE WHAT IT READS IS OF BULK AT MOST 1048576: true; the input reads as it did. -/
def dylinkTwiceUptoRow : OpenClaim := { program := "ytihpnplfklbgjaadoor", sum := "598ec36e43c3864d916fc9439aa8daf08c664ac7ca28fdedf26e2f315963d65e", func := "creel/creellaw16.DylinkTwice", spec := "dylinkTwice", unfollowed := true, recurses := true, named := ["unicode/utf8.first", "unicode/utf8.acceptRanges"], apart := false, laid := [("unicode/utf8.acceptRanges", laid_unicode_utf8_acceptRanges), ("unicode/utf8.first", laid_unicode_utf8_first)], narrowed := true }
def DylinkTwiceUptoSaid : Prop := dylinkTwiceUptoRow.holds Tryd.pinned (OpenSpec.upto dylinkTwiceSpec)

/-- 'creellaw10.ImportsBack', WHERE WHAT IT READS IS OF BULK AT MOST 1048576: true; the input reads as it did. -/
def importsBackUptoRow : OpenClaim := { program := "ytihpnplfklbgjaadoor", sum := "598ec36e43c3864d916fc9439aa8daf08c664ac7ca28fdedf26e2f315963d65e", func := "creel/creellaw10.ImportsBack", spec := "importsBack", unfollowed := true, recurses := true, named := ["unicode/utf8.first", "unicode/utf8.acceptRanges"], apart := false, laid := [("unicode/utf8.acceptRanges", laid_unicode_utf8_acceptRanges), ("unicode/utf8.first", laid_unicode_utf8_first)], narrowed := true }
def ImportsBackUptoSaid : Prop := importsBackUptoRow.holds Tryd.pinned (OpenSpec.upto importsBackSpec)

/-- 'creellaw11.ExportsBack', WHERE WHAT IT READS IS OF BULK AT MOST 1048576: true; the input reads as it did. -/
def exportsBackUptoRow : OpenClaim := { program := "ytihpnplfklbgjaadoor", sum := "598ec36e43c3864d916fc9439aa8daf08c664ac7ca28fdedf26e2f315963d65e", func := "creel/creellaw11.ExportsBack", spec := "exportsBack", unfollowed := true, recurses := true, named := ["unicode/utf8.first", "unicode/utf8.acceptRanges"], apart := false, laid := [("unicode/utf8.acceptRanges", laid_unicode_utf8_acceptRanges), ("unicode/utf8.first", laid_unicode_utf8_first)], narrowed := true }
def ExportsBackUptoSaid : Prop := exportsBackUptoRow.holds Tryd.pinned (OpenSpec.upto exportsBackSpec)

end Rows
end Go.Proofs.YtihpnplfklbgjaaDoor
