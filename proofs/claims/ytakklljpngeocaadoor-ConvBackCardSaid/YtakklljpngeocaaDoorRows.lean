/-
  NARROWER THAN 'FOR EVERY INPUT', by the rows' own cells (each row's printed sentence says how): ConvDoes: laid · ConvAccess: laid · ConvBack: laid.
  DERIVED. THE GIVEN ROWS OF THIS SEAT. 3 by the template 'for every input the law returns true; each argument reads behind the call as it read before'; 0 by the template 'total and deterministic' (their statements: YtakklljpngeocaaDoorTotals.lean).
  GIVEN WITH THE SEED: the statements are not yours to turn. If you find one false, say at which input.
  Laid BY PROGRAM, IN A SANDBOX (cutbox-rows.mjs): the forced cells as the released guide's own fill.sh prints them over the translation 9f3b7189ab30340e… (all of the seat's roots in one cut). By AI agents, Wed Nov 11 2026. No macro, syntax, notation, axiom, sorry.
-/
import Derived.Test.YtakklljpngeocaaDoorChecked
import GoSem.Claim
import GoSem.ClaimJoined
import GoSem.ClaimMapViews
import Derived.JoinedTies
import Derived.KernelRfl
namespace Go.Proofs.YtakklljpngeocaaDoor
/- THE CELL 'sum', in the pinned program and in every row, IS THE sha256 OF THE DUMP (.gsa) THAT YtakklljpngeocaaDoorProg.lean LOADS. Nothing in Lean hashes anything: it is a label: what it is worth is what the hold of that sum in a sandbox is worth. -/
noncomputable def Tryd.pinned : Pinned := { name := "ytakklljpngeocaadoor", sum := "9f3b7189ab30340e5a17209dc97873b59da66d71ba9d6aa0cac03994fa4da7a3", checked := Tryd.checked }
namespace Rows
def none {H : Type} : Left H := { results := [], args := [] }

/- WHAT THE LISTED PACKAGE-LEVEL VARIABLES READ AS WHEN THE CALL BEGINS. Each datum BY PROGRAM (the guide's laid-datum.mjs) off the statement by which the dump's own 'gosem.cut.vars' lays the variable. In a bare row this is a premise. The card (YtakklljpngeocaaDoorCards.lean) ties it to the program's text. -/
def laid_creel_ops_accesses {H : Type} : DataW H := .agg [.agg [.lit (.int .i64 4), .lit (.int .u8 127), .lit (.bool false), .lit (.bool false)], .agg [.lit (.int .i64 8), .lit (.int .u8 126), .lit (.bool false), .lit (.bool false)], .agg [.lit (.int .i64 0), .lit (.int .u8 0), .lit (.bool false), .lit (.bool false)], .agg [.lit (.int .i64 0), .lit (.int .u8 0), .lit (.bool false), .lit (.bool false)], .agg [.lit (.int .i64 1), .lit (.int .u8 127), .lit (.bool false), .lit (.bool true)], .agg [.lit (.int .i64 1), .lit (.int .u8 127), .lit (.bool false), .lit (.bool false)], .agg [.lit (.int .i64 2), .lit (.int .u8 127), .lit (.bool false), .lit (.bool true)], .agg [.lit (.int .i64 2), .lit (.int .u8 127), .lit (.bool false), .lit (.bool false)], .agg [.lit (.int .i64 1), .lit (.int .u8 126), .lit (.bool false), .lit (.bool true)], .agg [.lit (.int .i64 1), .lit (.int .u8 126), .lit (.bool false), .lit (.bool false)], .agg [.lit (.int .i64 2), .lit (.int .u8 126), .lit (.bool false), .lit (.bool true)], .agg [.lit (.int .i64 2), .lit (.int .u8 126), .lit (.bool false), .lit (.bool false)], .agg [.lit (.int .i64 4), .lit (.int .u8 126), .lit (.bool false), .lit (.bool true)], .agg [.lit (.int .i64 4), .lit (.int .u8 126), .lit (.bool false), .lit (.bool false)], .agg [.lit (.int .i64 4), .lit (.int .u8 127), .lit (.bool true), .lit (.bool false)], .agg [.lit (.int .i64 8), .lit (.int .u8 126), .lit (.bool true), .lit (.bool false)], .agg [.lit (.int .i64 0), .lit (.int .u8 0), .lit (.bool false), .lit (.bool false)], .agg [.lit (.int .i64 0), .lit (.int .u8 0), .lit (.bool false), .lit (.bool false)], .agg [.lit (.int .i64 1), .lit (.int .u8 127), .lit (.bool true), .lit (.bool false)], .agg [.lit (.int .i64 2), .lit (.int .u8 127), .lit (.bool true), .lit (.bool false)], .agg [.lit (.int .i64 1), .lit (.int .u8 126), .lit (.bool true), .lit (.bool false)], .agg [.lit (.int .i64 2), .lit (.int .u8 126), .lit (.bool true), .lit (.bool false)], .agg [.lit (.int .i64 4), .lit (.int .u8 126), .lit (.bool true), .lit (.bool false)]]

/-- 'creellaw20.ConvDoes': WHATEVER THE INPUT: true; the input reads as it did. -/
def convDoesSpec : ChangeSpec := { name := "convDoes", fn := fun _ => fun
  | [d1, d2, d3] => { results := [.lit (.bool true)], args := [d1, d2, d3] }
  | _ => none }
def convDoesRow : OpenClaim := { program := "ytakklljpngeocaadoor", sum := "9f3b7189ab30340e5a17209dc97873b59da66d71ba9d6aa0cac03994fa4da7a3", func := "creel/creellaw20.ConvDoes", spec := "convDoes", named := ["creel/ops.accesses"], apart := false, laid := [("creel/ops.accesses", laid_creel_ops_accesses)] }
def ConvDoesSaid : Prop := convDoesRow.holds Tryd.pinned (OpenSpec.ofChange convDoesSpec)

/-- ITS FALSE NEIGHBOUR: 'it returns false'. Refute it at one input. -/
def convDoesWrong : ChangeSpec := { name := "convDoes", fn := fun _ => fun
  | [d1, d2, d3] => { results := [.lit (.bool false)], args := [d1, d2, d3] }
  | _ => none }
def ConvDoesWrongFalsely : Prop := convDoesRow.holds Tryd.pinned (OpenSpec.ofChange convDoesWrong)

/-- 'creellaw20.ConvAccess': WHATEVER THE INPUT: true; the input reads as it did. -/
def convAccessSpec : ChangeSpec := { name := "convAccess", fn := fun _ => fun
  | [d1, d2, d3] => { results := [.lit (.bool true)], args := [d1, d2, d3] }
  | _ => none }
def convAccessRow : OpenClaim := { program := "ytakklljpngeocaadoor", sum := "9f3b7189ab30340e5a17209dc97873b59da66d71ba9d6aa0cac03994fa4da7a3", func := "creel/creellaw20.ConvAccess", spec := "convAccess", named := ["creel/ops.accesses"], apart := false, laid := [("creel/ops.accesses", laid_creel_ops_accesses)] }
def ConvAccessSaid : Prop := convAccessRow.holds Tryd.pinned (OpenSpec.ofChange convAccessSpec)

/-- ITS FALSE NEIGHBOUR: 'it returns false'. Refute it at one input. -/
def convAccessWrong : ChangeSpec := { name := "convAccess", fn := fun _ => fun
  | [d1, d2, d3] => { results := [.lit (.bool false)], args := [d1, d2, d3] }
  | _ => none }
def ConvAccessWrongFalsely : Prop := convAccessRow.holds Tryd.pinned (OpenSpec.ofChange convAccessWrong)

/-- 'creellaw20.ConvBack': WHATEVER THE INPUT: true; the input reads as it did. -/
def convBackSpec : ChangeSpec := { name := "convBack", fn := fun _ => fun
  | [d1, d2] => { results := [.lit (.bool true)], args := [d1, d2] }
  | _ => none }
def convBackRow : OpenClaim := { program := "ytakklljpngeocaadoor", sum := "9f3b7189ab30340e5a17209dc97873b59da66d71ba9d6aa0cac03994fa4da7a3", func := "creel/creellaw20.ConvBack", spec := "convBack", named := ["creel/ops.accesses"], apart := false, laid := [("creel/ops.accesses", laid_creel_ops_accesses)] }
def ConvBackSaid : Prop := convBackRow.holds Tryd.pinned (OpenSpec.ofChange convBackSpec)

/-- ITS FALSE NEIGHBOUR: 'it returns false'. Refute it at one input. -/
def convBackWrong : ChangeSpec := { name := "convBack", fn := fun _ => fun
  | [d1, d2] => { results := [.lit (.bool false)], args := [d1, d2] }
  | _ => none }
def ConvBackWrongFalsely : Prop := convBackRow.holds Tryd.pinned (OpenSpec.ofChange convBackWrong)

/- THE SECOND FORM. 'bulk': how many values and letters a reading holds, each counted each time it is reached (what is shared counts as often as it is met; a slice's spare places count too). A statement '..UptoSaid' is the law's where the arguments, and the package variables that the reading takes, are together of bulk at most 1048576: NARROWER than '..Said'. Prove '..Said' where nothing that the law and all that it calls make is longer than what came in: it says more and counts as full. Else prove '..UptoSaid'. A law counts once. -/
mutual
def uptoBulk {H : Type} : DataW H → Nat
  | .lit (.string bytes) => bytes.length + 1
  | .lit _ => 1
  | .nil => 1
  | .ptr d => uptoBulk d + 1
  | .slice elems spare => uptoBulkAll elems + uptoBulkAll spare + 1
  | .agg parts => uptoBulkAll parts + 1
  | .iface _ d => uptoBulk d + 1
  | .map entries => uptoBulkEntries entries + 1
  | .held _ => 1
def uptoBulkAll {H : Type} : List (DataW H) → Nat
  | [] => 0
  | d :: r => uptoBulk d + uptoBulkAll r
def uptoBulkEntries {H : Type} : List (Lit × DataW H) → Nat
  | [] => 0
  | x :: r => uptoBulkEntry x + uptoBulkEntries r
def uptoBulkEntry {H : Type} : Lit × DataW H → Nat
  | (.string bytes, d) => bytes.length + uptoBulk d + 1
  | (_, d) => uptoBulk d + 1
 end
def uptoSmall : (H : Type) → List (DataW H) → Bool := fun _ ds => decide (uptoBulkAll ds ≤ 1048576)
def OpenSpec.upto (s : _root_.Go.ChangeSpec) : _root_.Go.OpenSpec := { _root_.Go.OpenSpec.ofChange s with cond := some uptoSmall }

/-- 'creellaw20.ConvDoes', WHERE WHAT IT READS IS OF BULK AT MOST 1048576: true; the input reads as it did. -/
def convDoesUptoRow : OpenClaim := { program := "ytakklljpngeocaadoor", sum := "9f3b7189ab30340e5a17209dc97873b59da66d71ba9d6aa0cac03994fa4da7a3", func := "creel/creellaw20.ConvDoes", spec := "convDoes", named := ["creel/ops.accesses"], apart := false, laid := [("creel/ops.accesses", laid_creel_ops_accesses)], narrowed := true }
def ConvDoesUptoSaid : Prop := convDoesUptoRow.holds Tryd.pinned (OpenSpec.upto convDoesSpec)

/-- 'creellaw20.ConvAccess', WHERE WHAT IT READS IS OF BULK AT MOST 1048576: true; the input reads as it did. -/
def convAccessUptoRow : OpenClaim := { program := "ytakklljpngeocaadoor", sum := "9f3b7189ab30340e5a17209dc97873b59da66d71ba9d6aa0cac03994fa4da7a3", func := "creel/creellaw20.ConvAccess", spec := "convAccess", named := ["creel/ops.accesses"], apart := false, laid := [("creel/ops.accesses", laid_creel_ops_accesses)], narrowed := true }
def ConvAccessUptoSaid : Prop := convAccessUptoRow.holds Tryd.pinned (OpenSpec.upto convAccessSpec)

/-- 'creellaw20.ConvBack', WHERE WHAT IT READS IS OF BULK AT MOST 1048576: true; the input reads as it did. -/
def convBackUptoRow : OpenClaim := { program := "ytakklljpngeocaadoor", sum := "9f3b7189ab30340e5a17209dc97873b59da66d71ba9d6aa0cac03994fa4da7a3", func := "creel/creellaw20.ConvBack", spec := "convBack", named := ["creel/ops.accesses"], apart := false, laid := [("creel/ops.accesses", laid_creel_ops_accesses)], narrowed := true }
def ConvBackUptoSaid : Prop := convBackUptoRow.holds Tryd.pinned (OpenSpec.upto convBackSpec)

end Rows
end Go.Proofs.YtakklljpngeocaaDoor
