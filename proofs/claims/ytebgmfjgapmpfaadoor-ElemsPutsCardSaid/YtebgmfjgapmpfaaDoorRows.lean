/-
  NARROWER THAN 'FOR EVERY INPUT', by the rows' own cells (each row's printed sentence says how): InstrPuts: laid · InstrBodies: laid · ConstsPuts: laid · ConstsReads: laid · ConstsValues: laid · GlobalsPuts: laid · ElemsPuts: laid.
  DERIVED. THE GIVEN ROWS OF THIS SEAT. 7 by the template 'for every input the law returns true; each argument reads behind the call as it read before'; 0 by the template 'total and deterministic' (their statements: YtebgmfjgapmpfaaDoorTotals.lean).
  GIVEN WITH THE SEED: the statements are not yours to turn. If you find one false, say at which input.
  Laid BY PROGRAM, IN A SANDBOX (cutbox-rows.mjs): the forced cells as the released guide's own fill.sh prints them over the translation 3c0c58f6d260a339… (all of the seat's roots in one cut). By AI agents, Wed Nov 11 2026. No macro, syntax, notation, axiom, sorry.
-/
import Derived.Test.YtebgmfjgapmpfaaDoorChecked
import GoSem.Claim
import GoSem.ClaimJoined
import GoSem.ClaimMapViews
import Derived.JoinedTies
import Derived.KernelRfl
namespace Go.Proofs.YtebgmfjgapmpfaaDoor
/- THE CELL 'sum', in the pinned program and in every row, IS THE sha256 OF THE DUMP (.gsa) THAT YtebgmfjgapmpfaaDoorProg.lean LOADS. Nothing in Lean hashes anything: it is a label: what it is worth is what the hold of that sum in a sandbox is worth. -/
noncomputable def Tryd.pinned : Pinned := { name := "ytebgmfjgapmpfaadoor", sum := "3c0c58f6d260a3390f6702e48a795a21083a71ab0df4f7d028283f5dba7e8538", checked := Tryd.checked }
namespace Rows
def none {H : Type} : Left H := { results := [], args := [] }

/- WHAT THE LISTED PACKAGE-LEVEL VARIABLES READ AS WHEN THE CALL BEGINS. Each datum BY PROGRAM (the guide's laid-datum.mjs) off the statement by which the dump's own 'gosem.cut.vars' lays the variable. In a bare row this is a premise. The card (YtebgmfjgapmpfaaDoorCards.lean) ties it to the program's text. -/
def laid_creel_ops_controlNames {H : Type} : DataW H := .agg [.lit (.string [117, 110, 114, 101, 97, 99, 104, 97, 98, 108, 101]), .lit (.string [110, 111, 112]), .lit (.string [98, 108, 111, 99, 107]), .lit (.string [108, 111, 111, 112]), .lit (.string [105, 102]), .lit (.string [101, 108, 115, 101]), .lit (.string []), .lit (.string []), .lit (.string []), .lit (.string []), .lit (.string []), .lit (.string [101, 110, 100]), .lit (.string [98, 114]), .lit (.string [98, 114, 95, 105, 102]), .lit (.string [98, 114, 95, 116, 97, 98, 108, 101]), .lit (.string [114, 101, 116, 117, 114, 110]), .lit (.string [99, 97, 108, 108]), .lit (.string [99, 97, 108, 108, 95, 105, 110, 100, 105, 114, 101, 99, 116]), .lit (.string []), .lit (.string []), .lit (.string []), .lit (.string []), .lit (.string []), .lit (.string []), .lit (.string []), .lit (.string []), .lit (.string [100, 114, 111, 112]), .lit (.string [115, 101, 108, 101, 99, 116]), .lit (.string []), .lit (.string []), .lit (.string []), .lit (.string []), .lit (.string [108, 111, 99, 97, 108, 46, 103, 101, 116]), .lit (.string [108, 111, 99, 97, 108, 46, 115, 101, 116]), .lit (.string [108, 111, 99, 97, 108, 46, 116, 101, 101]), .lit (.string [103, 108, 111, 98, 97, 108, 46, 103, 101, 116]), .lit (.string [103, 108, 111, 98, 97, 108, 46, 115, 101, 116])]
def laid_creel_ops_memoryNames {H : Type} : DataW H := .agg [.lit (.string [105, 51, 50, 46, 108, 111, 97, 100]), .lit (.string [105, 54, 52, 46, 108, 111, 97, 100]), .lit (.string []), .lit (.string []), .lit (.string [105, 51, 50, 46, 108, 111, 97, 100, 56, 95, 115]), .lit (.string [105, 51, 50, 46, 108, 111, 97, 100, 56, 95, 117]), .lit (.string [105, 51, 50, 46, 108, 111, 97, 100, 49, 54, 95, 115]), .lit (.string [105, 51, 50, 46, 108, 111, 97, 100, 49, 54, 95, 117]), .lit (.string [105, 54, 52, 46, 108, 111, 97, 100, 56, 95, 115]), .lit (.string [105, 54, 52, 46, 108, 111, 97, 100, 56, 95, 117]), .lit (.string [105, 54, 52, 46, 108, 111, 97, 100, 49, 54, 95, 115]), .lit (.string [105, 54, 52, 46, 108, 111, 97, 100, 49, 54, 95, 117]), .lit (.string [105, 54, 52, 46, 108, 111, 97, 100, 51, 50, 95, 115]), .lit (.string [105, 54, 52, 46, 108, 111, 97, 100, 51, 50, 95, 117]), .lit (.string [105, 51, 50, 46, 115, 116, 111, 114, 101]), .lit (.string [105, 54, 52, 46, 115, 116, 111, 114, 101]), .lit (.string []), .lit (.string []), .lit (.string [105, 51, 50, 46, 115, 116, 111, 114, 101, 56]), .lit (.string [105, 51, 50, 46, 115, 116, 111, 114, 101, 49, 54]), .lit (.string [105, 54, 52, 46, 115, 116, 111, 114, 101, 56]), .lit (.string [105, 54, 52, 46, 115, 116, 111, 114, 101, 49, 54]), .lit (.string [105, 54, 52, 46, 115, 116, 111, 114, 101, 51, 50]), .lit (.string [109, 101, 109, 111, 114, 121, 46, 115, 105, 122, 101]), .lit (.string [109, 101, 109, 111, 114, 121, 46, 103, 114, 111, 119]), .lit (.string [105, 51, 50, 46, 99, 111, 110, 115, 116]), .lit (.string [105, 54, 52, 46, 99, 111, 110, 115, 116])]
def laid_creel_ops_testNames {H : Type} : DataW H := .agg [.lit (.string [105, 51, 50, 46, 101, 113, 122]), .lit (.string [105, 51, 50, 46, 101, 113]), .lit (.string [105, 51, 50, 46, 110, 101]), .lit (.string [105, 51, 50, 46, 108, 116, 95, 115]), .lit (.string [105, 51, 50, 46, 108, 116, 95, 117]), .lit (.string [105, 51, 50, 46, 103, 116, 95, 115]), .lit (.string [105, 51, 50, 46, 103, 116, 95, 117]), .lit (.string [105, 51, 50, 46, 108, 101, 95, 115]), .lit (.string [105, 51, 50, 46, 108, 101, 95, 117]), .lit (.string [105, 51, 50, 46, 103, 101, 95, 115]), .lit (.string [105, 51, 50, 46, 103, 101, 95, 117]), .lit (.string [105, 54, 52, 46, 101, 113, 122]), .lit (.string [105, 54, 52, 46, 101, 113]), .lit (.string [105, 54, 52, 46, 110, 101]), .lit (.string [105, 54, 52, 46, 108, 116, 95, 115]), .lit (.string [105, 54, 52, 46, 108, 116, 95, 117]), .lit (.string [105, 54, 52, 46, 103, 116, 95, 115]), .lit (.string [105, 54, 52, 46, 103, 116, 95, 117]), .lit (.string [105, 54, 52, 46, 108, 101, 95, 115]), .lit (.string [105, 54, 52, 46, 108, 101, 95, 117]), .lit (.string [105, 54, 52, 46, 103, 101, 95, 115]), .lit (.string [105, 54, 52, 46, 103, 101, 95, 117])]
def laid_creel_ops_numberNames {H : Type} : DataW H := .agg [.lit (.string [105, 51, 50, 46, 99, 108, 122]), .lit (.string [105, 51, 50, 46, 99, 116, 122]), .lit (.string [105, 51, 50, 46, 112, 111, 112, 99, 110, 116]), .lit (.string [105, 51, 50, 46, 97, 100, 100]), .lit (.string [105, 51, 50, 46, 115, 117, 98]), .lit (.string [105, 51, 50, 46, 109, 117, 108]), .lit (.string [105, 51, 50, 46, 100, 105, 118, 95, 115]), .lit (.string [105, 51, 50, 46, 100, 105, 118, 95, 117]), .lit (.string [105, 51, 50, 46, 114, 101, 109, 95, 115]), .lit (.string [105, 51, 50, 46, 114, 101, 109, 95, 117]), .lit (.string [105, 51, 50, 46, 97, 110, 100]), .lit (.string [105, 51, 50, 46, 111, 114]), .lit (.string [105, 51, 50, 46, 120, 111, 114]), .lit (.string [105, 51, 50, 46, 115, 104, 108]), .lit (.string [105, 51, 50, 46, 115, 104, 114, 95, 115]), .lit (.string [105, 51, 50, 46, 115, 104, 114, 95, 117]), .lit (.string [105, 51, 50, 46, 114, 111, 116, 108]), .lit (.string [105, 51, 50, 46, 114, 111, 116, 114]), .lit (.string [105, 54, 52, 46, 99, 108, 122]), .lit (.string [105, 54, 52, 46, 99, 116, 122]), .lit (.string [105, 54, 52, 46, 112, 111, 112, 99, 110, 116]), .lit (.string [105, 54, 52, 46, 97, 100, 100]), .lit (.string [105, 54, 52, 46, 115, 117, 98]), .lit (.string [105, 54, 52, 46, 109, 117, 108]), .lit (.string [105, 54, 52, 46, 100, 105, 118, 95, 115]), .lit (.string [105, 54, 52, 46, 100, 105, 118, 95, 117]), .lit (.string [105, 54, 52, 46, 114, 101, 109, 95, 115]), .lit (.string [105, 54, 52, 46, 114, 101, 109, 95, 117]), .lit (.string [105, 54, 52, 46, 97, 110, 100]), .lit (.string [105, 54, 52, 46, 111, 114]), .lit (.string [105, 54, 52, 46, 120, 111, 114]), .lit (.string [105, 54, 52, 46, 115, 104, 108]), .lit (.string [105, 54, 52, 46, 115, 104, 114, 95, 115]), .lit (.string [105, 54, 52, 46, 115, 104, 114, 95, 117]), .lit (.string [105, 54, 52, 46, 114, 111, 116, 108]), .lit (.string [105, 54, 52, 46, 114, 111, 116, 114])]
def laid_creel_ops_convertNames {H : Type} : DataW H := .agg [.lit (.string [105, 51, 50, 46, 119, 114, 97, 112, 95, 105, 54, 52]), .lit (.string []), .lit (.string []), .lit (.string []), .lit (.string []), .lit (.string [105, 54, 52, 46, 101, 120, 116, 101, 110, 100, 95, 105, 51, 50, 95, 115]), .lit (.string [105, 54, 52, 46, 101, 120, 116, 101, 110, 100, 95, 105, 51, 50, 95, 117])]
def laid_creel_ops_accesses {H : Type} : DataW H := .agg [.agg [.lit (.int .i64 4), .lit (.int .u8 127), .lit (.bool false), .lit (.bool false)], .agg [.lit (.int .i64 8), .lit (.int .u8 126), .lit (.bool false), .lit (.bool false)], .agg [.lit (.int .i64 0), .lit (.int .u8 0), .lit (.bool false), .lit (.bool false)], .agg [.lit (.int .i64 0), .lit (.int .u8 0), .lit (.bool false), .lit (.bool false)], .agg [.lit (.int .i64 1), .lit (.int .u8 127), .lit (.bool false), .lit (.bool true)], .agg [.lit (.int .i64 1), .lit (.int .u8 127), .lit (.bool false), .lit (.bool false)], .agg [.lit (.int .i64 2), .lit (.int .u8 127), .lit (.bool false), .lit (.bool true)], .agg [.lit (.int .i64 2), .lit (.int .u8 127), .lit (.bool false), .lit (.bool false)], .agg [.lit (.int .i64 1), .lit (.int .u8 126), .lit (.bool false), .lit (.bool true)], .agg [.lit (.int .i64 1), .lit (.int .u8 126), .lit (.bool false), .lit (.bool false)], .agg [.lit (.int .i64 2), .lit (.int .u8 126), .lit (.bool false), .lit (.bool true)], .agg [.lit (.int .i64 2), .lit (.int .u8 126), .lit (.bool false), .lit (.bool false)], .agg [.lit (.int .i64 4), .lit (.int .u8 126), .lit (.bool false), .lit (.bool true)], .agg [.lit (.int .i64 4), .lit (.int .u8 126), .lit (.bool false), .lit (.bool false)], .agg [.lit (.int .i64 4), .lit (.int .u8 127), .lit (.bool true), .lit (.bool false)], .agg [.lit (.int .i64 8), .lit (.int .u8 126), .lit (.bool true), .lit (.bool false)], .agg [.lit (.int .i64 0), .lit (.int .u8 0), .lit (.bool false), .lit (.bool false)], .agg [.lit (.int .i64 0), .lit (.int .u8 0), .lit (.bool false), .lit (.bool false)], .agg [.lit (.int .i64 1), .lit (.int .u8 127), .lit (.bool true), .lit (.bool false)], .agg [.lit (.int .i64 2), .lit (.int .u8 127), .lit (.bool true), .lit (.bool false)], .agg [.lit (.int .i64 1), .lit (.int .u8 126), .lit (.bool true), .lit (.bool false)], .agg [.lit (.int .i64 2), .lit (.int .u8 126), .lit (.bool true), .lit (.bool false)], .agg [.lit (.int .i64 4), .lit (.int .u8 126), .lit (.bool true), .lit (.bool false)]]

/-- 'creellaw07.InstrPuts': WHATEVER THE INPUT: true; the input reads as it did. -/
def instrPutsSpec : ChangeSpec := { name := "instrPuts", fn := fun _ => fun
  | [d1, d2, d3] => { results := [.lit (.bool true)], args := [d1, d2, d3] }
  | _ => none }
def instrPutsRow : OpenClaim := { program := "ytebgmfjgapmpfaadoor", sum := "3c0c58f6d260a3390f6702e48a795a21083a71ab0df4f7d028283f5dba7e8538", func := "creel/creellaw07.InstrPuts", spec := "instrPuts", unfollowed := true, recurses := true, named := ["creel/ops.controlNames", "creel/ops.memoryNames", "creel/ops.testNames", "creel/ops.numberNames", "creel/ops.convertNames", "creel/ops.accesses"], apart := false, laid := [("creel/ops.controlNames", laid_creel_ops_controlNames), ("creel/ops.memoryNames", laid_creel_ops_memoryNames), ("creel/ops.testNames", laid_creel_ops_testNames), ("creel/ops.numberNames", laid_creel_ops_numberNames), ("creel/ops.convertNames", laid_creel_ops_convertNames), ("creel/ops.accesses", laid_creel_ops_accesses)] }
def InstrPutsSaid : Prop := instrPutsRow.holds Tryd.pinned (OpenSpec.ofChange instrPutsSpec)

/-- ITS FALSE NEIGHBOUR: 'it returns false'. Refute it at one input. -/
def instrPutsWrong : ChangeSpec := { name := "instrPuts", fn := fun _ => fun
  | [d1, d2, d3] => { results := [.lit (.bool false)], args := [d1, d2, d3] }
  | _ => none }
def InstrPutsWrongFalsely : Prop := instrPutsRow.holds Tryd.pinned (OpenSpec.ofChange instrPutsWrong)

/-- 'creellaw07.InstrBodies': WHATEVER THE INPUT: true; the input reads as it did. -/
def instrBodiesSpec : ChangeSpec := { name := "instrBodies", fn := fun _ => fun
  | [d1, d2] => { results := [.lit (.bool true)], args := [d1, d2] }
  | _ => none }
def instrBodiesRow : OpenClaim := { program := "ytebgmfjgapmpfaadoor", sum := "3c0c58f6d260a3390f6702e48a795a21083a71ab0df4f7d028283f5dba7e8538", func := "creel/creellaw07.InstrBodies", spec := "instrBodies", unfollowed := true, recurses := true, named := ["creel/ops.controlNames", "creel/ops.memoryNames", "creel/ops.testNames", "creel/ops.numberNames", "creel/ops.convertNames", "creel/ops.accesses"], apart := false, laid := [("creel/ops.controlNames", laid_creel_ops_controlNames), ("creel/ops.memoryNames", laid_creel_ops_memoryNames), ("creel/ops.testNames", laid_creel_ops_testNames), ("creel/ops.numberNames", laid_creel_ops_numberNames), ("creel/ops.convertNames", laid_creel_ops_convertNames), ("creel/ops.accesses", laid_creel_ops_accesses)] }
def InstrBodiesSaid : Prop := instrBodiesRow.holds Tryd.pinned (OpenSpec.ofChange instrBodiesSpec)

/-- ITS FALSE NEIGHBOUR: 'it returns false'. Refute it at one input. -/
def instrBodiesWrong : ChangeSpec := { name := "instrBodies", fn := fun _ => fun
  | [d1, d2] => { results := [.lit (.bool false)], args := [d1, d2] }
  | _ => none }
def InstrBodiesWrongFalsely : Prop := instrBodiesRow.holds Tryd.pinned (OpenSpec.ofChange instrBodiesWrong)

/-- 'creellaw08.ConstsPuts': WHATEVER THE INPUT: true; the input reads as it did. -/
def constsPutsSpec : ChangeSpec := { name := "constsPuts", fn := fun _ => fun
  | [d1, d2] => { results := [.lit (.bool true)], args := [d1, d2] }
  | _ => none }
def constsPutsRow : OpenClaim := { program := "ytebgmfjgapmpfaadoor", sum := "3c0c58f6d260a3390f6702e48a795a21083a71ab0df4f7d028283f5dba7e8538", func := "creel/creellaw08.ConstsPuts", spec := "constsPuts", unfollowed := true, recurses := true, named := ["creel/ops.controlNames", "creel/ops.memoryNames", "creel/ops.testNames", "creel/ops.numberNames", "creel/ops.convertNames", "creel/ops.accesses"], apart := false, laid := [("creel/ops.controlNames", laid_creel_ops_controlNames), ("creel/ops.memoryNames", laid_creel_ops_memoryNames), ("creel/ops.testNames", laid_creel_ops_testNames), ("creel/ops.numberNames", laid_creel_ops_numberNames), ("creel/ops.convertNames", laid_creel_ops_convertNames), ("creel/ops.accesses", laid_creel_ops_accesses)] }
def ConstsPutsSaid : Prop := constsPutsRow.holds Tryd.pinned (OpenSpec.ofChange constsPutsSpec)

/-- ITS FALSE NEIGHBOUR: 'it returns false'. Refute it at one input. -/
def constsPutsWrong : ChangeSpec := { name := "constsPuts", fn := fun _ => fun
  | [d1, d2] => { results := [.lit (.bool false)], args := [d1, d2] }
  | _ => none }
def ConstsPutsWrongFalsely : Prop := constsPutsRow.holds Tryd.pinned (OpenSpec.ofChange constsPutsWrong)

/-- 'creellaw08.ConstsReads': WHATEVER THE INPUT: true; the input reads as it did. -/
def constsReadsSpec : ChangeSpec := { name := "constsReads", fn := fun _ => fun
  | [d] => { results := [.lit (.bool true)], args := [d] }
  | _ => none }
def constsReadsRow : OpenClaim := { program := "ytebgmfjgapmpfaadoor", sum := "3c0c58f6d260a3390f6702e48a795a21083a71ab0df4f7d028283f5dba7e8538", func := "creel/creellaw08.ConstsReads", spec := "constsReads", unfollowed := true, recurses := true, named := ["creel/ops.controlNames", "creel/ops.memoryNames", "creel/ops.testNames", "creel/ops.numberNames", "creel/ops.convertNames", "creel/ops.accesses"], apart := false, laid := [("creel/ops.controlNames", laid_creel_ops_controlNames), ("creel/ops.memoryNames", laid_creel_ops_memoryNames), ("creel/ops.testNames", laid_creel_ops_testNames), ("creel/ops.numberNames", laid_creel_ops_numberNames), ("creel/ops.convertNames", laid_creel_ops_convertNames), ("creel/ops.accesses", laid_creel_ops_accesses)] }
def ConstsReadsSaid : Prop := constsReadsRow.holds Tryd.pinned (OpenSpec.ofChange constsReadsSpec)

/-- ITS FALSE NEIGHBOUR: 'it returns false'. Refute it at one input. -/
def constsReadsWrong : ChangeSpec := { name := "constsReads", fn := fun _ => fun
  | [d] => { results := [.lit (.bool false)], args := [d] }
  | _ => none }
def ConstsReadsWrongFalsely : Prop := constsReadsRow.holds Tryd.pinned (OpenSpec.ofChange constsReadsWrong)

/-- 'creellaw08.ConstsValues': WHATEVER THE INPUT: true; the input reads as it did. -/
def constsValuesSpec : ChangeSpec := { name := "constsValues", fn := fun _ => fun
  | [d1, d2, d3] => { results := [.lit (.bool true)], args := [d1, d2, d3] }
  | _ => none }
def constsValuesRow : OpenClaim := { program := "ytebgmfjgapmpfaadoor", sum := "3c0c58f6d260a3390f6702e48a795a21083a71ab0df4f7d028283f5dba7e8538", func := "creel/creellaw08.ConstsValues", spec := "constsValues", unfollowed := true, recurses := true, named := ["creel/ops.controlNames", "creel/ops.memoryNames", "creel/ops.testNames", "creel/ops.numberNames", "creel/ops.convertNames", "creel/ops.accesses"], apart := false, laid := [("creel/ops.controlNames", laid_creel_ops_controlNames), ("creel/ops.memoryNames", laid_creel_ops_memoryNames), ("creel/ops.testNames", laid_creel_ops_testNames), ("creel/ops.numberNames", laid_creel_ops_numberNames), ("creel/ops.convertNames", laid_creel_ops_convertNames), ("creel/ops.accesses", laid_creel_ops_accesses)] }
def ConstsValuesSaid : Prop := constsValuesRow.holds Tryd.pinned (OpenSpec.ofChange constsValuesSpec)

/-- ITS FALSE NEIGHBOUR: 'it returns false'. Refute it at one input. -/
def constsValuesWrong : ChangeSpec := { name := "constsValues", fn := fun _ => fun
  | [d1, d2, d3] => { results := [.lit (.bool false)], args := [d1, d2, d3] }
  | _ => none }
def ConstsValuesWrongFalsely : Prop := constsValuesRow.holds Tryd.pinned (OpenSpec.ofChange constsValuesWrong)

/-- 'creellaw12.GlobalsPuts': WHATEVER THE INPUT: true; the input reads as it did. -/
def globalsPutsSpec : ChangeSpec := { name := "globalsPuts", fn := fun _ => fun
  | [d] => { results := [.lit (.bool true)], args := [d] }
  | _ => none }
def globalsPutsRow : OpenClaim := { program := "ytebgmfjgapmpfaadoor", sum := "3c0c58f6d260a3390f6702e48a795a21083a71ab0df4f7d028283f5dba7e8538", func := "creel/creellaw12.GlobalsPuts", spec := "globalsPuts", unfollowed := true, recurses := true, named := ["creel/ops.controlNames", "creel/ops.memoryNames", "creel/ops.testNames", "creel/ops.numberNames", "creel/ops.convertNames", "creel/ops.accesses"], apart := false, laid := [("creel/ops.controlNames", laid_creel_ops_controlNames), ("creel/ops.memoryNames", laid_creel_ops_memoryNames), ("creel/ops.testNames", laid_creel_ops_testNames), ("creel/ops.numberNames", laid_creel_ops_numberNames), ("creel/ops.convertNames", laid_creel_ops_convertNames), ("creel/ops.accesses", laid_creel_ops_accesses)] }
def GlobalsPutsSaid : Prop := globalsPutsRow.holds Tryd.pinned (OpenSpec.ofChange globalsPutsSpec)

/-- ITS FALSE NEIGHBOUR: 'it returns false'. Refute it at one input. -/
def globalsPutsWrong : ChangeSpec := { name := "globalsPuts", fn := fun _ => fun
  | [d] => { results := [.lit (.bool false)], args := [d] }
  | _ => none }
def GlobalsPutsWrongFalsely : Prop := globalsPutsRow.holds Tryd.pinned (OpenSpec.ofChange globalsPutsWrong)

/-- 'creellaw13.ElemsPuts': WHATEVER THE INPUT: true; the input reads as it did. -/
def elemsPutsSpec : ChangeSpec := { name := "elemsPuts", fn := fun _ => fun
  | [d] => { results := [.lit (.bool true)], args := [d] }
  | _ => none }
def elemsPutsRow : OpenClaim := { program := "ytebgmfjgapmpfaadoor", sum := "3c0c58f6d260a3390f6702e48a795a21083a71ab0df4f7d028283f5dba7e8538", func := "creel/creellaw13.ElemsPuts", spec := "elemsPuts", unfollowed := true, recurses := true, named := ["creel/ops.controlNames", "creel/ops.memoryNames", "creel/ops.testNames", "creel/ops.numberNames", "creel/ops.convertNames", "creel/ops.accesses"], apart := false, laid := [("creel/ops.controlNames", laid_creel_ops_controlNames), ("creel/ops.memoryNames", laid_creel_ops_memoryNames), ("creel/ops.testNames", laid_creel_ops_testNames), ("creel/ops.numberNames", laid_creel_ops_numberNames), ("creel/ops.convertNames", laid_creel_ops_convertNames), ("creel/ops.accesses", laid_creel_ops_accesses)] }
def ElemsPutsSaid : Prop := elemsPutsRow.holds Tryd.pinned (OpenSpec.ofChange elemsPutsSpec)

/-- ITS FALSE NEIGHBOUR: 'it returns false'. Refute it at one input. -/
def elemsPutsWrong : ChangeSpec := { name := "elemsPuts", fn := fun _ => fun
  | [d] => { results := [.lit (.bool false)], args := [d] }
  | _ => none }
def ElemsPutsWrongFalsely : Prop := elemsPutsRow.holds Tryd.pinned (OpenSpec.ofChange elemsPutsWrong)

/- THE SECOND FORM. 'bulk': how many values and letters a reading holds, each counted each time it is reached (what is shared counts as often as it is met; a slice's spare places count too). A statement '..UptoSaid' is the law's where the arguments, and the package variables that the reading takes, are together of bulk at most 1048576: NARROWER than '..Said'. Prove '..Said' where nothing that the law and all that it calls make is longer than what came in: it says more and counts as full. Else prove '..UptoSaid'. A law counts once. -/
mutual
def uptoBulk {H : Type} : DataW H → Nat
  | .lit (.string bytes) => bytes.length + 1
  | .lit _ => 1
  | .nil => 1
  | .ptr d => uptoBulk d + 1
  | .slice elems spare => uptoBulkAll elems + uptoBulkAll spare + 1
  | .agg parts => uptoBulkAll parts + 1
  | .iface _ d => uptoBulk d + 1
  | .map entries => uptoBulkEntries entries + 1
  | .held _ => 1
def uptoBulkAll {H : Type} : List (DataW H) → Nat
  | [] => 0
  | d :: r => uptoBulk d + uptoBulkAll r
def uptoBulkEntries {H : Type} : List (Lit × DataW H) → Nat
  | [] => 0
  | x :: r => uptoBulkEntry x + uptoBulkEntries r
def uptoBulkEntry {H : Type} : Lit × DataW H → Nat
  | (.string bytes, d) => bytes.length + uptoBulk d + 1
  | (_, d) => uptoBulk d + 1
 end
def uptoSmall : (H : Type) → List (DataW H) → Bool := fun _ ds => decide (uptoBulkAll ds ≤ 1048576)
def OpenSpec.upto (s : _root_.Go.ChangeSpec) : _root_.Go.OpenSpec := { _root_.Go.OpenSpec.ofChange s with cond := some uptoSmall }

/-- 'creellaw07.InstrPuts', WHERE WHAT IT READS IS OF BULK AT MOST 1048576: true; the input reads as it did. -/
def instrPutsUptoRow : OpenClaim := { program := "ytebgmfjgapmpfaadoor", sum := "3c0c58f6d260a3390f6702e48a795a21083a71ab0df4f7d028283f5dba7e8538", func := "creel/creellaw07.InstrPuts", spec := "instrPuts", unfollowed := true, recurses := true, named := ["creel/ops.controlNames", "creel/ops.memoryNames", "creel/ops.testNames", "creel/ops.numberNames", "creel/ops.convertNames", "creel/ops.accesses"], apart := false, laid := [("creel/ops.controlNames", laid_creel_ops_controlNames), ("creel/ops.memoryNames", laid_creel_ops_memoryNames), ("creel/ops.testNames", laid_creel_ops_testNames), ("creel/ops.numberNames", laid_creel_ops_numberNames), ("creel/ops.convertNames", laid_creel_ops_convertNames), ("creel/ops.accesses", laid_creel_ops_accesses)], narrowed := true }
def InstrPutsUptoSaid : Prop := instrPutsUptoRow.holds Tryd.pinned (OpenSpec.upto instrPutsSpec)

/-- 'creellaw07.InstrBodies', WHERE WHAT IT READS IS OF BULK AT MOST 1048576: true; the input reads as it did. -/
def instrBodiesUptoRow : OpenClaim := { program := "ytebgmfjgapmpfaadoor", sum := "3c0c58f6d260a3390f6702e48a795a21083a71ab0df4f7d028283f5dba7e8538", func := "creel/creellaw07.InstrBodies", spec := "instrBodies", unfollowed := true, recurses := true, named := ["creel/ops.controlNames", "creel/ops.memoryNames", "creel/ops.testNames", "creel/ops.numberNames", "creel/ops.convertNames", "creel/ops.accesses"], apart := false, laid := [("creel/ops.controlNames", laid_creel_ops_controlNames), ("creel/ops.memoryNames", laid_creel_ops_memoryNames), ("creel/ops.testNames", laid_creel_ops_testNames), ("creel/ops.numberNames", laid_creel_ops_numberNames), ("creel/ops.convertNames", laid_creel_ops_convertNames), ("creel/ops.accesses", laid_creel_ops_accesses)], narrowed := true }
def InstrBodiesUptoSaid : Prop := instrBodiesUptoRow.holds Tryd.pinned (OpenSpec.upto instrBodiesSpec)

/-- 'creellaw08.ConstsPuts', WHERE WHAT IT READS IS OF BULK AT MOST 1048576: true; the input reads as it did. -/
def constsPutsUptoRow : OpenClaim := { program := "ytebgmfjgapmpfaadoor", sum := "3c0c58f6d260a3390f6702e48a795a21083a71ab0df4f7d028283f5dba7e8538", func := "creel/creellaw08.ConstsPuts", spec := "constsPuts", unfollowed := true, recurses := true, named := ["creel/ops.controlNames", "creel/ops.memoryNames", "creel/ops.testNames", "creel/ops.numberNames", "creel/ops.convertNames", "creel/ops.accesses"], apart := false, laid := [("creel/ops.controlNames", laid_creel_ops_controlNames), ("creel/ops.memoryNames", laid_creel_ops_memoryNames), ("creel/ops.testNames", laid_creel_ops_testNames), ("creel/ops.numberNames", laid_creel_ops_numberNames), ("creel/ops.convertNames", laid_creel_ops_convertNames), ("creel/ops.accesses", laid_creel_ops_accesses)], narrowed := true }
def ConstsPutsUptoSaid : Prop := constsPutsUptoRow.holds Tryd.pinned (OpenSpec.upto constsPutsSpec)

/-- 'creellaw08.ConstsReads', WHERE WHAT IT READS IS OF BULK AT MOST 1048576: true; the input reads as it did. -/
def constsReadsUptoRow : OpenClaim := { program := "ytebgmfjgapmpfaadoor", sum := "3c0c58f6d260a3390f6702e48a795a21083a71ab0df4f7d028283f5dba7e8538", func := "creel/creellaw08.ConstsReads", spec := "constsReads", unfollowed := true, recurses := true, named := ["creel/ops.controlNames", "creel/ops.memoryNames", "creel/ops.testNames", "creel/ops.numberNames", "creel/ops.convertNames", "creel/ops.accesses"], apart := false, laid := [("creel/ops.controlNames", laid_creel_ops_controlNames), ("creel/ops.memoryNames", laid_creel_ops_memoryNames), ("creel/ops.testNames", laid_creel_ops_testNames), ("creel/ops.numberNames", laid_creel_ops_numberNames), ("creel/ops.convertNames", laid_creel_ops_convertNames), ("creel/ops.accesses", laid_creel_ops_accesses)], narrowed := true }
def ConstsReadsUptoSaid : Prop := constsReadsUptoRow.holds Tryd.pinned (OpenSpec.upto constsReadsSpec)

/-- 'creellaw08.ConstsValues', WHERE WHAT IT READS IS OF BULK AT MOST 1048576: true; the input reads as it did. -/
def constsValuesUptoRow : OpenClaim := { program := "ytebgmfjgapmpfaadoor", sum := "3c0c58f6d260a3390f6702e48a795a21083a71ab0df4f7d028283f5dba7e8538", func := "creel/creellaw08.ConstsValues", spec := "constsValues", unfollowed := true, recurses := true, named := ["creel/ops.controlNames", "creel/ops.memoryNames", "creel/ops.testNames", "creel/ops.numberNames", "creel/ops.convertNames", "creel/ops.accesses"], apart := false, laid := [("creel/ops.controlNames", laid_creel_ops_controlNames), ("creel/ops.memoryNames", laid_creel_ops_memoryNames), ("creel/ops.testNames", laid_creel_ops_testNames), ("creel/ops.numberNames", laid_creel_ops_numberNames), ("creel/ops.convertNames", laid_creel_ops_convertNames), ("creel/ops.accesses", laid_creel_ops_accesses)], narrowed := true }
def ConstsValuesUptoSaid : Prop := constsValuesUptoRow.holds Tryd.pinned (OpenSpec.upto constsValuesSpec)

/-- 'creellaw12.GlobalsPuts', WHERE WHAT IT READS IS OF BULK AT MOST 1048576: true; the input reads as it did. -/
def globalsPutsUptoRow : OpenClaim := { program := "ytebgmfjgapmpfaadoor", sum := "3c0c58f6d260a3390f6702e48a795a21083a71ab0df4f7d028283f5dba7e8538", func := "creel/creellaw12.GlobalsPuts", spec := "globalsPuts", unfollowed := true, recurses := true, named := ["creel/ops.controlNames", "creel/ops.memoryNames", "creel/ops.testNames", "creel/ops.numberNames", "creel/ops.convertNames", "creel/ops.accesses"], apart := false, laid := [("creel/ops.controlNames", laid_creel_ops_controlNames), ("creel/ops.memoryNames", laid_creel_ops_memoryNames), ("creel/ops.testNames", laid_creel_ops_testNames), ("creel/ops.numberNames", laid_creel_ops_numberNames), ("creel/ops.convertNames", laid_creel_ops_convertNames), ("creel/ops.accesses", laid_creel_ops_accesses)], narrowed := true }
def GlobalsPutsUptoSaid : Prop := globalsPutsUptoRow.holds Tryd.pinned (OpenSpec.upto globalsPutsSpec)

/-- 'creellaw13.ElemsPuts', WHERE WHAT IT READS IS OF BULK AT MOST 1048576: true; the input reads as it did. -/
def elemsPutsUptoRow : OpenClaim := { program := "ytebgmfjgapmpfaadoor", sum := "3c0c58f6d260a3390f6702e48a795a21083a71ab0df4f7d028283f5dba7e8538", func := "creel/creellaw13.ElemsPuts", spec := "elemsPuts", unfollowed := true, recurses := true, named := ["creel/ops.controlNames", "creel/ops.memoryNames", "creel/ops.testNames", "creel/ops.numberNames", "creel/ops.convertNames", "creel/ops.accesses"], apart := false, laid := [("creel/ops.controlNames", laid_creel_ops_controlNames), ("creel/ops.memoryNames", laid_creel_ops_memoryNames), ("creel/ops.testNames", laid_creel_ops_testNames), ("creel/ops.numberNames", laid_creel_ops_numberNames), ("creel/ops.convertNames", laid_creel_ops_convertNames), ("creel/ops.accesses", laid_creel_ops_accesses)], narrowed := true }
def ElemsPutsUptoSaid : Prop := elemsPutsUptoRow.holds Tryd.pinned (OpenSpec.upto elemsPutsSpec)

end Rows
end Go.Proofs.YtebgmfjgapmpfaaDoor
