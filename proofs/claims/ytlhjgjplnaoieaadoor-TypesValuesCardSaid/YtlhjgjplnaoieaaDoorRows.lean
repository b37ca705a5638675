/-
  NARROWER THAN 'FOR EVERY INPUT', by the rows' own cells (each row's printed sentence says how): TypesFuncs: laid · TypesLimits: laid · TypesValues: laid.
  DERIVED. THE GIVEN ROWS OF THIS SEAT. 3 by the template 'for every input the law returns true; each argument reads behind the call as it read before'; 0 by the template 'total and deterministic' (their statements: YtlhjgjplnaoieaaDoorTotals.lean).
  GIVEN WITH THE SEED: the statements are not yours to turn. If you find one false, say at which input.
  Laid BY PROGRAM, IN A SANDBOX (cutbox-rows.mjs): the forced cells as the released guide's own fill.sh prints them over the translation fc060bad619d6090… (all of the seat's roots in one cut). By AI agents, Wed Nov 11 2026. No macro, syntax, notation, axiom, sorry.
-/
import Derived.Test.YtlhjgjplnaoieaaDoorChecked
import GoSem.Claim
import GoSem.ClaimJoined
import GoSem.ClaimMapViews
import Derived.JoinedTies
import Derived.KernelRfl
namespace Go.Proofs.YtlhjgjplnaoieaaDoor
/- THE CELL 'sum', in the pinned program and in every row, IS THE sha256 OF THE DUMP (.gsa) THAT YtlhjgjplnaoieaaDoorProg.lean LOADS. Nothing in Lean hashes anything: it is a label: what it is worth is what the hold of that sum in a sandbox is worth. -/
noncomputable def Tryd.pinned : Pinned := { name := "ytlhjgjplnaoieaadoor", sum := "fc060bad619d60904a46fe7040caed7471c93305bb3b3b6977e944e22aea27c4", checked := Tryd.checked }
namespace Rows
def none {H : Type} : Left H := { results := [], args := [] }

/- WHAT THE LISTED PACKAGE-LEVEL VARIABLES READ AS WHEN THE CALL BEGINS. Each datum BY PROGRAM (the guide's laid-datum.mjs) off the statement by which the dump's own 'gosem.cut.vars' lays the variable. In a bare row this is a premise. The card (YtlhjgjplnaoieaaDoorCards.lean) ties it to the program's text. -/
def laid_creel_types_names {H : Type} : DataW H := .agg [.agg [.lit (.int .u8 127), .lit (.string [105, 51, 50])], .agg [.lit (.int .u8 126), .lit (.string [105, 54, 52])], .agg [.lit (.int .u8 125), .lit (.string [102, 51, 50])], .agg [.lit (.int .u8 124), .lit (.string [102, 54, 52])], .agg [.lit (.int .u8 112), .lit (.string [102, 117, 110, 99, 114, 101, 102])]]

/-- 'creellaw04.TypesFuncs': WHATEVER THE INPUT: true; the input reads as it did. -/
def typesFuncsSpec : ChangeSpec := { name := "typesFuncs", fn := fun _ => fun
  | [d1, d2, d3] => { results := [.lit (.bool true)], args := [d1, d2, d3] }
  | _ => none }
def typesFuncsRow : OpenClaim := { program := "ytlhjgjplnaoieaadoor", sum := "fc060bad619d60904a46fe7040caed7471c93305bb3b3b6977e944e22aea27c4", func := "creel/creellaw04.TypesFuncs", spec := "typesFuncs", named := ["creel/types.names"], apart := false, laid := [("creel/types.names", laid_creel_types_names)] }
def TypesFuncsSaid : Prop := typesFuncsRow.holds Tryd.pinned (OpenSpec.ofChange typesFuncsSpec)

/-- ITS FALSE NEIGHBOUR: 'it returns false'. Refute it at one input. -/
def typesFuncsWrong : ChangeSpec := { name := "typesFuncs", fn := fun _ => fun
  | [d1, d2, d3] => { results := [.lit (.bool false)], args := [d1, d2, d3] }
  | _ => none }
def TypesFuncsWrongFalsely : Prop := typesFuncsRow.holds Tryd.pinned (OpenSpec.ofChange typesFuncsWrong)

/-- 'creellaw04.TypesLimits': WHATEVER THE INPUT: true; the input reads as it did. -/
def typesLimitsSpec : ChangeSpec := { name := "typesLimits", fn := fun _ => fun
  | [d1, d2] => { results := [.lit (.bool true)], args := [d1, d2] }
  | _ => none }
def typesLimitsRow : OpenClaim := { program := "ytlhjgjplnaoieaadoor", sum := "fc060bad619d60904a46fe7040caed7471c93305bb3b3b6977e944e22aea27c4", func := "creel/creellaw04.TypesLimits", spec := "typesLimits", named := ["creel/types.names"], apart := false, laid := [("creel/types.names", laid_creel_types_names)] }
def TypesLimitsSaid : Prop := typesLimitsRow.holds Tryd.pinned (OpenSpec.ofChange typesLimitsSpec)

/-- ITS FALSE NEIGHBOUR: 'it returns false'. Refute it at one input. -/
def typesLimitsWrong : ChangeSpec := { name := "typesLimits", fn := fun _ => fun
  | [d1, d2] => { results := [.lit (.bool false)], args := [d1, d2] }
  | _ => none }
def TypesLimitsWrongFalsely : Prop := typesLimitsRow.holds Tryd.pinned (OpenSpec.ofChange typesLimitsWrong)

/-- 'creellaw04.TypesValues': WHATEVER THE INPUT: true; the input reads as it did. -/
def typesValuesSpec : ChangeSpec := { name := "typesValues", fn := fun _ => fun
  | [d1, d2, d3] => { results := [.lit (.bool true)], args := [d1, d2, d3] }
  | _ => none }
def typesValuesRow : OpenClaim := { program := "ytlhjgjplnaoieaadoor", sum := "fc060bad619d60904a46fe7040caed7471c93305bb3b3b6977e944e22aea27c4", func := "creel/creellaw04.TypesValues", spec := "typesValues", named := ["creel/types.names"], apart := false, laid := [("creel/types.names", laid_creel_types_names)] }
def TypesValuesSaid : Prop := typesValuesRow.holds Tryd.pinned (OpenSpec.ofChange typesValuesSpec)

/-- ITS FALSE NEIGHBOUR: 'it returns false'. Refute it at one input. -/
def typesValuesWrong : ChangeSpec := { name := "typesValues", fn := fun _ => fun
  | [d1, d2, d3] => { results := [.lit (.bool false)], args := [d1, d2, d3] }
  | _ => none }
def TypesValuesWrongFalsely : Prop := typesValuesRow.holds Tryd.pinned (OpenSpec.ofChange typesValuesWrong)

/- THE SECOND FORM. 'bulk': how many values and letters a reading holds, each counted each time it is reached (what is shared counts as often as it is met; a slice's spare places count too). A statement '..UptoSaid' is the law's where the arguments, and the package variables that the reading takes, are together of bulk at most 1048576: NARROWER than '..Said'. Prove '..Said' where nothing that the law and all that it calls make is longer than what came in: it says more and counts as full. Else prove '..UptoSaid'. A law counts once. -/
mutual
def uptoBulk {H : Type} : DataW H → Nat
  | .lit (.string bytes) => bytes.length + 1
  | .lit _ => 1
  | .nil => 1
  | .ptr d => uptoBulk d + 1
  | .slice elems spare => uptoBulkAll elems + uptoBulkAll spare + 1
  | .agg parts => uptoBulkAll parts + 1
  | .iface _ d => uptoBulk d + 1
  | .map entries => uptoBulkEntries entries + 1
  | .held _ => 1
def uptoBulkAll {H : Type} : List (DataW H) → Nat
  | [] => 0
  | d :: r => uptoBulk d + uptoBulkAll r
def uptoBulkEntries {H : Type} : List (Lit × DataW H) → Nat
  | [] => 0
  | x :: r => uptoBulkEntry x + uptoBulkEntries r
def uptoBulkEntry {H : Type} : Lit × DataW H → Nat
  | (.string bytes, d) => bytes.length + uptoBulk d + 1
  | (_, d) => uptoBulk d + 1
 end
def uptoSmall : (H : Type) → List (DataW H) → Bool := fun _ ds => decide (uptoBulkAll ds ≤ 1048576)
def OpenSpec.upto (s : _root_.Go.ChangeSpec) : _root_.Go.OpenSpec := { _root_.Go.OpenSpec.ofChange s with cond := some uptoSmall }

/-- 'creellaw04.TypesFuncs', WHERE WHAT IT READS IS OF BULK AT MOST 1048576: true; the input reads as it did. -/
def typesFuncsUptoRow : OpenClaim := { program := "ytlhjgjplnaoieaadoor", sum := "fc060bad619d60904a46fe7040caed7471c93305bb3b3b6977e944e22aea27c4", func := "creel/creellaw04.TypesFuncs", spec := "typesFuncs", named := ["creel/types.names"], apart := false, laid := [("creel/types.names", laid_creel_types_names)], narrowed := true }
def TypesFuncsUptoSaid : Prop := typesFuncsUptoRow.holds Tryd.pinned (OpenSpec.upto typesFuncsSpec)

/-- 'creellaw04.TypesLimits', WHERE WHAT IT READS IS OF BULK AT MOST 1048576: true; the input reads as it did. -/
def typesLimitsUptoRow : OpenClaim := { program := "ytlhjgjplnaoieaadoor", sum := "fc060bad619d60904a46fe7040caed7471c93305bb3b3b6977e944e22aea27c4", func := "creel/creellaw04.TypesLimits", spec := "typesLimits", named := ["creel/types.names"], apart := false, laid := [("creel/types.names", laid_creel_types_names)], narrowed := true }
def TypesLimitsUptoSaid : Prop := typesLimitsUptoRow.holds Tryd.pinned (OpenSpec.upto typesLimitsSpec)

/-- 'creellaw04.TypesValues', WHERE WHAT IT READS IS OF BULK AT MOST 1048576: true; the input reads as it did. -/
def typesValuesUptoRow : OpenClaim := { program := "ytlhjgjplnaoieaadoor", sum := "fc060bad619d60904a46fe7040caed7471c93305bb3b3b6977e944e22aea27c4", func := "creel/creellaw04.TypesValues", spec := "typesValues", named := ["creel/types.names"], apart := false, laid := [("creel/types.names", laid_creel_types_names)], narrowed := true }
def TypesValuesUptoSaid : Prop := typesValuesUptoRow.holds Tryd.pinned (OpenSpec.upto typesValuesSpec)

end Rows
end Go.Proofs.YtlhjgjplnaoieaaDoor
