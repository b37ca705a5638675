/-
  NARROWER THAN 'FOR EVERY INPUT', by the rows' own cells (each row's printed sentence says how): SectJoins: laid · ImportsPuts: laid · ImportsBack: laid · ImportsFinds: laid · ExportsPuts: laid · ExportsBack: laid · ExportsFinds: laid.
  DERIVED. THE GIVEN ROWS OF THIS SEAT. 7 by the template 'for every input the law returns true; each argument reads behind the call as it read before'; 0 by the template 'total and deterministic' (their statements: YtanddfkhokcepaaDoorTotals.lean).
  GIVEN WITH THE SEED: the statements are not yours to turn. If you find one false, say at which input.
  Laid BY PROGRAM, IN A SANDBOX (cutbox-rows.mjs): the forced cells as the released guide's own fill.sh prints them over the translation b78c5079085dd992… (all of the seat's roots in one cut). By AI agents, Wed Nov 11 2026. No macro, syntax, notation, axiom, sorry.
-/
import Derived.Test.YtanddfkhokcepaaDoorChecked
import GoSem.PinnedTables
import GoSem.Claim
import GoSem.ClaimJoined
import GoSem.ClaimMapViews
import Derived.JoinedTies
import Derived.KernelRfl
namespace Go.Proofs.YtanddfkhokcepaaDoor
/- THE CELL 'sum', in the pinned program and in every row, IS THE sha256 OF THE DUMP (.gsa) THAT YtanddfkhokcepaaDoorProg.lean LOADS. Nothing in Lean hashes anything: it is a label: what it is worth is what the hold of that sum in a sandbox is worth. -/
noncomputable def Tryd.pinned : Pinned := { name := "ytanddfkhokcepaadoor", sum := "b78c5079085dd99210b28cce07c1907f7a3ad754bc78e189a9f6443359892939", checked := Tryd.checked }
namespace Rows
def none {H : Type} : Left H := { results := [], args := [] }

/- WHAT THE LISTED PACKAGE-LEVEL VARIABLES READ AS WHEN THE CALL BEGINS. Each datum BY PROGRAM (the guide's laid-datum.mjs) off the statement by which the dump's own 'gosem.cut.vars' lays the variable. In a bare row this is a premise. The card (YtanddfkhokcepaaDoorCards.lean) ties it to the program's text. -/
def laid_unicode_utf8_acceptRanges {H : Type} : DataW H := .agg [.agg [.lit (.int .u8 128), .lit (.int .u8 191)], .agg [.lit (.int .u8 160), .lit (.int .u8 191)], .agg [.lit (.int .u8 128), .lit (.int .u8 159)], .agg [.lit (.int .u8 144), .lit (.int .u8 191)], .agg [.lit (.int .u8 128), .lit (.int .u8 143)], .agg [.lit (.int .u8 0), .lit (.int .u8 0)], .agg [.lit (.int .u8 0), .lit (.int .u8 0)], .agg [.lit (.int .u8 0), .lit (.int .u8 0)], .agg [.lit (.int .u8 0), .lit (.int .u8 0)], .agg [.lit (.int .u8 0), .lit (.int .u8 0)], .agg [.lit (.int .u8 0), .lit (.int .u8 0)], .agg [.lit (.int .u8 0), .lit (.int .u8 0)], .agg [.lit (.int .u8 0), .lit (.int .u8 0)], .agg [.lit (.int .u8 0), .lit (.int .u8 0)], .agg [.lit (.int .u8 0), .lit (.int .u8 0)], .agg [.lit (.int .u8 0), .lit (.int .u8 0)]]
/-- One of Go's own tables, pinned by name: the form's constant. -/
def laid_unicode_utf8_first : DataW Unit := Go.Pinned.utf8First

/-- 'creellaw09.SectJoins': WHATEVER THE INPUT: true; the input reads as it did. -/
def sectJoinsSpec : ChangeSpec := { name := "sectJoins", fn := fun _ => fun
  | [d1, d2, d3] => { results := [.lit (.bool true)], args := [d1, d2, d3] }
  | _ => none }
def sectJoinsRow : OpenClaim := { program := "ytanddfkhokcepaadoor", sum := "b78c5079085dd99210b28cce07c1907f7a3ad754bc78e189a9f6443359892939", func := "creel/creellaw09.SectJoins", spec := "sectJoins", unfollowed := true, recurses := true, named := ["unicode/utf8.first", "unicode/utf8.acceptRanges"], apart := false, laid := [("unicode/utf8.acceptRanges", laid_unicode_utf8_acceptRanges), ("unicode/utf8.first", laid_unicode_utf8_first)] }
def SectJoinsSaid : Prop := sectJoinsRow.holds Tryd.pinned (OpenSpec.ofChange sectJoinsSpec)

/-- ITS FALSE NEIGHBOUR: 'it returns false'. Refute it at one input. -/
def sectJoinsWrong : ChangeSpec := { name := "sectJoins", fn := fun _ => fun
  | [d1, d2, d3] => { results := [.lit (.bool false)], args := [d1, d2, d3] }
  | _ => none }
def SectJoinsWrongFalsely : Prop := sectJoinsRow.holds Tryd.pinned (OpenSpec.ofChange sectJoinsWrong)

/-- 'creellaw10.ImportsPuts': WHATEVER THE INPUT: true; the input reads as it did. -/
def importsPutsSpec : ChangeSpec := { name := "importsPuts", fn := fun _ => fun
  | [d] => { results := [.lit (.bool true)], args := [d] }
  | _ => none }
def importsPutsRow : OpenClaim := { program := "ytanddfkhokcepaadoor", sum := "b78c5079085dd99210b28cce07c1907f7a3ad754bc78e189a9f6443359892939", func := "creel/creellaw10.ImportsPuts", spec := "importsPuts", unfollowed := true, recurses := true, named := ["unicode/utf8.first", "unicode/utf8.acceptRanges"], apart := false, laid := [("unicode/utf8.acceptRanges", laid_unicode_utf8_acceptRanges), ("unicode/utf8.first", laid_unicode_utf8_first)] }
def ImportsPutsSaid : Prop := importsPutsRow.holds Tryd.pinned (OpenSpec.ofChange importsPutsSpec)

/-- ITS FALSE NEIGHBOUR: 'it returns false'. Refute it at one input. -/
def importsPutsWrong : ChangeSpec := { name := "importsPuts", fn := fun _ => fun
  | [d] => { results := [.lit (.bool false)], args := [d] }
  | _ => none }
def ImportsPutsWrongFalsely : Prop := importsPutsRow.holds Tryd.pinned (OpenSpec.ofChange importsPutsWrong)

/-- 'creellaw10.ImportsBack': WHATEVER THE INPUT: true; the input reads as it did. -/
def importsBackSpec : ChangeSpec := { name := "importsBack", fn := fun _ => fun
  | [d] => { results := [.lit (.bool true)], args := [d] }
  | _ => none }
def importsBackRow : OpenClaim := { program := "ytanddfkhokcepaadoor", sum := "b78c5079085dd99210b28cce07c1907f7a3ad754bc78e189a9f6443359892939", func := "creel/creellaw10.ImportsBack", spec := "importsBack", unfollowed := true, recurses := true, named := ["unicode/utf8.first", "unicode/utf8.acceptRanges"], apart := false, laid := [("unicode/utf8.acceptRanges", laid_unicode_utf8_acceptRanges), ("unicode/utf8.first", laid_unicode_utf8_first)] }
def ImportsBackSaid : Prop := importsBackRow.holds Tryd.pinned (OpenSpec.ofChange importsBackSpec)

/-- ITS FALSE NEIGHBOUR: 'it returns false'. Refute it at one input. -/
def importsBackWrong : ChangeSpec := { name := "importsBack", fn := fun _ => fun
  | [d] => { results := [.lit (.bool false)], args := [d] }
  | _ => none }
def ImportsBackWrongFalsely : Prop := importsBackRow.holds Tryd.pinned (OpenSpec.ofChange importsBackWrong)

/-- 'creellaw10.ImportsFinds': WHATEVER THE INPUT: true; the input reads as it did. -/
def importsFindsSpec : ChangeSpec := { name := "importsFinds", fn := fun _ => fun
  | [d1, d2, d3] => { results := [.lit (.bool true)], args := [d1, d2, d3] }
  | _ => none }
def importsFindsRow : OpenClaim := { program := "ytanddfkhokcepaadoor", sum := "b78c5079085dd99210b28cce07c1907f7a3ad754bc78e189a9f6443359892939", func := "creel/creellaw10.ImportsFinds", spec := "importsFinds", named := ["unicode/utf8.first", "unicode/utf8.acceptRanges"], apart := false, laid := [("unicode/utf8.acceptRanges", laid_unicode_utf8_acceptRanges), ("unicode/utf8.first", laid_unicode_utf8_first)] }
def ImportsFindsSaid : Prop := importsFindsRow.holds Tryd.pinned (OpenSpec.ofChange importsFindsSpec)

/-- ITS FALSE NEIGHBOUR: 'it returns false'. Refute it at one input. -/
def importsFindsWrong : ChangeSpec := { name := "importsFinds", fn := fun _ => fun
  | [d1, d2, d3] => { results := [.lit (.bool false)], args := [d1, d2, d3] }
  | _ => none }
def ImportsFindsWrongFalsely : Prop := importsFindsRow.holds Tryd.pinned (OpenSpec.ofChange importsFindsWrong)

/-- 'creellaw11.ExportsPuts': WHATEVER THE INPUT: true; the input reads as it did. -/
def exportsPutsSpec : ChangeSpec := { name := "exportsPuts", fn := fun _ => fun
  | [d] => { results := [.lit (.bool true)], args := [d] }
  | _ => none }
def exportsPutsRow : OpenClaim := { program := "ytanddfkhokcepaadoor", sum := "b78c5079085dd99210b28cce07c1907f7a3ad754bc78e189a9f6443359892939", func := "creel/creellaw11.ExportsPuts", spec := "exportsPuts", unfollowed := true, recurses := true, named := ["unicode/utf8.first", "unicode/utf8.acceptRanges"], apart := false, laid := [("unicode/utf8.acceptRanges", laid_unicode_utf8_acceptRanges), ("unicode/utf8.first", laid_unicode_utf8_first)] }
def ExportsPutsSaid : Prop := exportsPutsRow.holds Tryd.pinned (OpenSpec.ofChange exportsPutsSpec)

/-- ITS FALSE NEIGHBOUR: 'it returns false'. Refute it at one input. -/
def exportsPutsWrong : ChangeSpec := { name := "exportsPuts", fn := fun _ => fun
  | [d] => { results := [.lit (.bool false)], args := [d] }
  | _ => none }
def ExportsPutsWrongFalsely : Prop := exportsPutsRow.holds Tryd.pinned (OpenSpec.ofChange exportsPutsWrong)

/-- 'creellaw11.ExportsBack': WHATEVER THE INPUT: true; the input reads as it did. -/
def exportsBackSpec : ChangeSpec := { name := "exportsBack", fn := fun _ => fun
  | [d] => { results := [.lit (.bool true)], args := [d] }
  | _ => none }
def exportsBackRow : OpenClaim := { program := "ytanddfkhokcepaadoor", sum := "b78c5079085dd99210b28cce07c1907f7a3ad754bc78e189a9f6443359892939", func := "creel/creellaw11.ExportsBack", spec := "exportsBack", unfollowed := true, recurses := true, named := ["unicode/utf8.first", "unicode/utf8.acceptRanges"], apart := false, laid := [("unicode/utf8.acceptRanges", laid_unicode_utf8_acceptRanges), ("unicode/utf8.first", laid_unicode_utf8_first)] }
def ExportsBackSaid : Prop := exportsBackRow.holds Tryd.pinned (OpenSpec.ofChange exportsBackSpec)

/-- ITS FALSE NEIGHBOUR: 'it returns false'. Refute it at one input. -/
def exportsBackWrong : ChangeSpec := { name := "exportsBack", fn := fun _ => fun
  | [d] => { results := [.lit (.bool false)], args := [d] }
  | _ => none }
def ExportsBackWrongFalsely : Prop := exportsBackRow.holds Tryd.pinned (OpenSpec.ofChange exportsBackWrong)

/-- 'creellaw11.ExportsFinds': WHATEVER THE INPUT: true; the input reads as it did. -/
def exportsFindsSpec : ChangeSpec := { name := "exportsFinds", fn := fun _ => fun
  | [d1, d2, d3] => { results := [.lit (.bool true)], args := [d1, d2, d3] }
  | _ => none }
def exportsFindsRow : OpenClaim := { program := "ytanddfkhokcepaadoor", sum := "b78c5079085dd99210b28cce07c1907f7a3ad754bc78e189a9f6443359892939", func := "creel/creellaw11.ExportsFinds", spec := "exportsFinds", named := ["unicode/utf8.first", "unicode/utf8.acceptRanges"], apart := false, laid := [("unicode/utf8.acceptRanges", laid_unicode_utf8_acceptRanges), ("unicode/utf8.first", laid_unicode_utf8_first)] }
def ExportsFindsSaid : Prop := exportsFindsRow.holds Tryd.pinned (OpenSpec.ofChange exportsFindsSpec)

/-- ITS FALSE NEIGHBOUR: 'it returns false'. Refute it at one input. -/
def exportsFindsWrong : ChangeSpec := { name := "exportsFinds", fn := fun _ => fun
  | [d1, d2, d3] => { results := [.lit (.bool false)], args := [d1, d2, d3] }
  | _ => none }
def ExportsFindsWrongFalsely : Prop := exportsFindsRow.holds Tryd.pinned (OpenSpec.ofChange exportsFindsWrong)

/- THE SECOND FORM. 'bulk': how many values and letters a reading holds, each counted each time it is reached (what is shared counts as often as it is met; a slice's spare places count too). A statement '..UptoSaid' is the law's where the arguments, and the package variables that the reading takes, are together of bulk at most 1048576: NARROWER than '..Said'. Prove '..Said' where nothing that the law and all that it calls make is longer than what came in: it says more and counts as full. Else prove '..UptoSaid'. A law counts once. -/
mutual
def uptoBulk {H : Type} : DataW H → Nat
  | .lit (.string bytes) => bytes.length + 1
  | .lit _ => 1
  | .nil => 1
  | .ptr d => uptoBulk d + 1
  | .slice elems spare => uptoBulkAll elems + uptoBulkAll spare + 1
  | .agg parts => uptoBulkAll parts + 1
  | .iface _ d => uptoBulk d + 1
  | .map entries => uptoBulkEntries entries + 1
  | .held _ => 1
def uptoBulkAll {H : Type} : List (DataW H) → Nat
  | [] => 0
  | d :: r => uptoBulk d + uptoBulkAll r
def uptoBulkEntries {H : Type} : List (Lit × DataW H) → Nat
  | [] => 0
  | x :: r => uptoBulkEntry x + uptoBulkEntries r
def uptoBulkEntry {H : Type} : Lit × DataW H → Nat
  | (.string bytes, d) => bytes.length + uptoBulk d + 1
  | (_, d) => uptoBulk d + 1
 end
def uptoSmall : (H : Type) → List (DataW H) → Bool := fun _ ds => decide (uptoBulkAll ds ≤ 1048576)
def OpenSpec.upto (s : _root_.Go.ChangeSpec) : _root_.Go.OpenSpec := { _root_.Go.OpenSpec.ofChange s with cond := some uptoSmall }

/-- 'creellaw09.SectJoins', WHERE WHAT IT READS IS OF BULK AT MOST 1048576: true; the input reads as it did. -/
def sectJoinsUptoRow : OpenClaim := { program := "ytanddfkhokcepaadoor", sum := "b78c5079085dd99210b28cce07c1907f7a3ad754bc78e189a9f6443359892939", func := "creel/creellaw09.SectJoins", spec := "sectJoins", unfollowed := true, recurses := true, named := ["unicode/utf8.first", "unicode/utf8.acceptRanges"], apart := false, laid := [("unicode/utf8.acceptRanges", laid_unicode_utf8_acceptRanges), ("unicode/utf8.first", laid_unicode_utf8_first)], narrowed := true }
def SectJoinsUptoSaid : Prop := sectJoinsUptoRow.holds Tryd.pinned (OpenSpec.upto sectJoinsSpec)

/-- 'creellaw10.ImportsPuts', WHERE WHAT IT READS IS OF BULK AT MOST 1048576: true; the input reads as it did. -/
def importsPutsUptoRow : OpenClaim := { program := "ytanddfkhokcepaadoor", sum := "b78c5079085dd99210b28cce07c1907f7a3ad754bc78e189a9f6443359892939", func := "creel/creellaw10.ImportsPuts", spec := "importsPuts", unfollowed := true, recurses := true, named := ["unicode/utf8.first", "unicode/utf8.acceptRanges"], apart := false, laid := [("unicode/utf8.acceptRanges", laid_unicode_utf8_acceptRanges), ("unicode/utf8.first", laid_unicode_utf8_first)], narrowed := true }
def ImportsPutsUptoSaid : Prop := importsPutsUptoRow.holds Tryd.pinned (OpenSpec.upto importsPutsSpec)

/-- 'creellaw10.ImportsBack', WHERE WHAT IT READS IS OF BULK AT MOST 1048576: true; the input reads as it did. -/
def importsBackUptoRow : OpenClaim := { program := "ytanddfkhokcepaadoor", sum := "b78c5079085dd99210b28cce07c1907f7a3ad754bc78e189a9f6443359892939", func := "creel/creellaw10.ImportsBack", spec := "importsBack", unfollowed := true, recurses := true, named := ["unicode/utf8.first", "unicode/utf8.acceptRanges"], apart := false, laid := [("unicode/utf8.acceptRanges", laid_unicode_utf8_acceptRanges), ("unicode/utf8.first", laid_unicode_utf8_first)], narrowed := true }
def ImportsBackUptoSaid : Prop := importsBackUptoRow.holds Tryd.pinned (OpenSpec.upto importsBackSpec)

/-- 'creellaw10.ImportsFinds', WHERE WHAT IT READS IS OF BULK AT MOST 1048576: true; the input reads as it did. -/
def importsFindsUptoRow : OpenClaim := { program := "ytanddfkhokcepaadoor", sum := "b78c5079085dd99210b28cce07c1907f7a3ad754bc78e189a9f6443359892939", func := "creel/creellaw10.ImportsFinds", spec := "importsFinds", named := ["unicode/utf8.first", "unicode/utf8.acceptRanges"], apart := false, laid := [("unicode/utf8.acceptRanges", laid_unicode_utf8_acceptRanges), ("unicode/utf8.first", laid_unicode_utf8_first)], narrowed := true }
def ImportsFindsUptoSaid : Prop := importsFindsUptoRow.holds Tryd.pinned (OpenSpec.upto importsFindsSpec)

/-- 'creellaw11.ExportsPuts', WHERE WHAT IT READS IS OF BULK AT MOST 1048576: true; the input reads as it did. -/
def exportsPutsUptoRow : OpenClaim := { program := "ytanddfkhokcepaadoor", sum := "b78c5079085dd99210b28cce07c1907f7a3ad754bc78e189a9f6443359892939", func := "creel/creellaw11.ExportsPuts", spec := "exportsPuts", unfollowed := true, recurses := true, named := ["unicode/utf8.first", "unicode/utf8.acceptRanges"], apart := false, laid := [("unicode/utf8.acceptRanges", laid_unicode_utf8_acceptRanges), ("unicode/utf8.first", laid_unicode_utf8_first)], narrowed := true }
def ExportsPutsUptoSaid : Prop := exportsPutsUptoRow.holds Tryd.pinned (OpenSpec.upto exportsPutsSpec)

/-- 'creellaw11.ExportsBack', WHERE WHAT IT READS IS OF BULK AT MOST 1048576: true; the input reads as it did. -/
def exportsBackUptoRow : OpenClaim := { program := "ytanddfkhokcepaadoor", sum := "b78c5079085dd99210b28cce07c1907f7a3ad754bc78e189a9f6443359892939", func := "creel/creellaw11.ExportsBack", spec := "exportsBack", unfollowed := true, recurses := true, named := ["unicode/utf8.first", "unicode/utf8.acceptRanges"], apart := false, laid := [("unicode/utf8.acceptRanges", laid_unicode_utf8_acceptRanges), ("unicode/utf8.first", laid_unicode_utf8_first)], narrowed := true }
def ExportsBackUptoSaid : Prop := exportsBackUptoRow.holds Tryd.pinned (OpenSpec.upto exportsBackSpec)

/-- 'creellaw11.ExportsFinds', WHERE WHAT IT READS IS OF BULK AT MOST 1048576: true; the input reads as it did. -/
def exportsFindsUptoRow : OpenClaim := { program := "ytanddfkhokcepaadoor", sum := "b78c5079085dd99210b28cce07c1907f7a3ad754bc78e189a9f6443359892939", func := "creel/creellaw11.ExportsFinds", spec := "exportsFinds", named := ["unicode/utf8.first", "unicode/utf8.acceptRanges"], apart := false, laid := [("unicode/utf8.acceptRanges", laid_unicode_utf8_acceptRanges), ("unicode/utf8.first", laid_unicode_utf8_first)], narrowed := true }
def ExportsFindsUptoSaid : Prop := exportsFindsUptoRow.holds Tryd.pinned (OpenSpec.upto exportsFindsSpec)

end Rows
end Go.Proofs.YtanddfkhokcepaaDoor
