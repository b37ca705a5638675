/-
  NARROWER THAN 'FOR EVERY INPUT', by the rows' own cells (each row's printed sentence says how): BodiesLocals: laid · DatasPuts: laid.
  DERIVED. THE GIVEN ROWS OF THIS SEAT. 2 by the template 'for every input the law returns true; each argument reads behind the call as it read before'; 0 by the template 'total and deterministic' (their statements: YtebgmfjgapmpfabDoorTotals.lean).
  GIVEN WITH THE SEED: the statements are not yours to turn. If you find one false, say at which input.
  Laid BY PROGRAM, IN A SANDBOX (cutbox-rows.mjs): the forced cells as the released guide's own fill.sh prints them over the translation 61b0677f72c8b61f… (all of the seat's roots in one cut). By AI agents, Wed Nov 11 2026. No macro, syntax, notation, axiom, sorry.
-/
import Derived.Test.YtebgmfjgapmpfabDoorChecked
import GoSem.Claim
import GoSem.ClaimJoined
import GoSem.ClaimMapViews
import Derived.JoinedTies
import Derived.KernelRfl
namespace Go.Proofs.YtebgmfjgapmpfabDoor
/- THE CELL 'sum', in the pinned program and in every row, IS THE sha256 OF THE DUMP (.gsa) THAT YtebgmfjgapmpfabDoorProg.lean LOADS. Nothing in Lean hashes anything: it is a label: what it is worth is what the hold of that sum in a sandbox is worth. -/
noncomputable def Tryd.pinned : Pinned := { name := "ytebgmfjgapmpfabdoor", sum := "61b0677f72c8b61fd9cadc1c48e35b6560690d169c63938f38b8f911c95976ad", checked := Tryd.checked }
namespace Rows
def none {H : Type} : Left H := { results := [], args := [] }

/- WHAT THE LISTED PACKAGE-LEVEL VARIABLES READ AS WHEN THE CALL BEGINS. Each datum BY PROGRAM (the guide's laid-datum.mjs) off the statement by which the dump's own 'gosem.cut.vars' lays the variable. In a bare row this is a premise. The card (YtebgmfjgapmpfabDoorCards.lean) ties it to the program's text. -/
def laid_creel_ops_controlNames {H : Type} : DataW H := .agg [.lit (.string [117, 110, 114, 101, 97, 99, 104, 97, 98, 108, 101]), .lit (.string [110, 111, 112]), .lit (.string [98, 108, 111, 99, 107]), .lit (.string [108, 111, 111, 112]), .lit (.string [105, 102]), .lit (.string [101, 108, 115, 101]), .lit (.string []), .lit (.string []), .lit (.string []), .lit (.string []), .lit (.string []), .lit (.string [101, 110, 100]), .lit (.string [98, 114]), .lit (.string [98, 114, 95, 105, 102]), .lit (.string [98, 114, 95, 116, 97, 98, 108, 101]), .lit (.string [114, 101, 116, 117, 114, 110]), .lit (.string [99, 97, 108, 108]), .lit (.string [99, 97, 108, 108, 95, 105, 110, 100, 105, 114, 101, 99, 116]), .lit (.string []), .lit (.string []), .lit (.string []), .lit (.string []), .lit (.string []), .lit (.string []), .lit (.string []), .lit (.string []), .lit (.string [100, 114, 111, 112]), .lit (.string [115, 101, 108, 101, 99, 116]), .lit (.string []), .lit (.string []), .lit (.string []), .lit (.string []), .lit (.string [108, 111, 99, 97, 108, 46, 103, 101, 116]), .lit (.string [108, 111, 99, 97, 108, 46, 115, 101, 116]), .lit (.string [108, 111, 99, 97, 108, 46, 116, 101, 101]), .lit (.string [103, 108, 111, 98, 97, 108, 46, 103, 101, 116]), .lit (.string [103, 108, 111, 98, 97, 108, 46, 115, 101, 116])]
def laid_creel_ops_memoryNames {H : Type} : DataW H := .agg [.lit (.string [105, 51, 50, 46, 108, 111, 97, 100]), .lit (.string [105, 54, 52, 46, 108, 111, 97, 100]), .lit (.string []), .lit (.string []), .lit (.string [105, 51, 50, 46, 108, 111, 97, 100, 56, 95, 115]), .lit (.string [105, 51, 50, 46, 108, 111, 97, 100, 56, 95, 117]), .lit (.string [105, 51, 50, 46, 108, 111, 97, 100, 49, 54, 95, 115]), .lit (.string [105, 51, 50, 46, 108, 111, 97, 100, 49, 54, 95, 117]), .lit (.string [105, 54, 52, 46, 108, 111, 97, 100, 56, 95, 115]), .lit (.string [105, 54, 52, 46, 108, 111, 97, 100, 56, 95, 117]), .lit (.string [105, 54, 52, 46, 108, 111, 97, 100, 49, 54, 95, 115]), .lit (.string [105, 54, 52, 46, 108, 111, 97, 100, 49, 54, 95, 117]), .lit (.string [105, 54, 52, 46, 108, 111, 97, 100, 51, 50, 95, 115]), .lit (.string [105, 54, 52, 46, 108, 111, 97, 100, 51, 50, 95, 117]), .lit (.string [105, 51, 50, 46, 115, 116, 111, 114, 101]), .lit (.string [105, 54, 52, 46, 115, 116, 111, 114, 101]), .lit (.string []), .lit (.string []), .lit (.string [105, 51, 50, 46, 115, 116, 111, 114, 101, 56]), .lit (.string [105, 51, 50, 46, 115, 116, 111, 114, 101, 49, 54]), .lit (.string [105, 54, 52, 46, 115, 116, 111, 114, 101, 56]), .lit (.string [105, 54, 52, 46, 115, 116, 111, 114, 101, 49, 54]), .lit (.string [105, 54, 52, 46, 115, 116, 111, 114, 101, 51, 50]), .lit (.string [109, 101, 109, 111, 114, 121, 46, 115, 105, 122, 101]), .lit (.string [109, 101, 109, 111, 114, 121, 46, 103, 114, 111, 119]), .lit (.string [105, 51, 50, 46, 99, 111, 110, 115, 116]), .lit (.string [105, 54, 52, 46, 99, 111, 110, 115, 116])]
def laid_creel_ops_testNames {H : Type} : DataW H := .agg [.lit (.string [105, 51, 50, 46, 101, 113, 122]), .lit (.string [105, 51, 50, 46, 101, 113]), .lit (.string [105, 51, 50, 46, 110, 101]), .lit (.string [105, 51, 50, 46, 108, 116, 95, 115]), .lit (.string [105, 51, 50, 46, 108, 116, 95, 117]), .lit (.string [105, 51, 50, 46, 103, 116, 95, 115]), .lit (.string [105, 51, 50, 46, 103, 116, 95, 117]), .lit (.string [105, 51, 50, 46, 108, 101, 95, 115]), .lit (.string [105, 51, 50, 46, 108, 101, 95, 117]), .lit (.string [105, 51, 50, 46, 103, 101, 95, 115]), .lit (.string [105, 51, 50, 46, 103, 101, 95, 117]), .lit (.string [105, 54, 52, 46, 101, 113, 122]), .lit (.string [105, 54, 52, 46, 101, 113]), .lit (.string [105, 54, 52, 46, 110, 101]), .lit (.string [105, 54, 52, 46, 108, 116, 95, 115]), .lit (.string [105, 54, 52, 46, 108, 116, 95, 117]), .lit (.string [105, 54, 52, 46, 103, 116, 95, 115]), .lit (.string [105, 54, 52, 46, 103, 116, 95, 117]), .lit (.string [105, 54, 52, 46, 108, 101, 95, 115]), .lit (.string [105, 54, 52, 46, 108, 101, 95, 117]), .lit (.string [105, 54, 52, 46, 103, 101, 95, 115]), .lit (.string [105, 54, 52, 46, 103, 101, 95, 117])]
def laid_creel_ops_numberNames {H : Type} : DataW H := .agg [.lit (.string [105, 51, 50, 46, 99, 108, 122]), .lit (.string [105, 51, 50, 46, 99, 116, 122]), .lit (.string [105, 51, 50, 46, 112, 111, 112, 99, 110, 116]), .lit (.string [105, 51, 50, 46, 97, 100, 100]), .lit (.string [105, 51, 50, 46, 115, 117, 98]), .lit (.string [105, 51, 50, 46, 109, 117, 108]), .lit (.string [105, 51, 50, 46, 100, 105, 118, 95, 115]), .lit (.string [105, 51, 50, 46, 100, 105, 118, 95, 117]), .lit (.string [105, 51, 50, 46, 114, 101, 109, 95, 115]), .lit (.string [105, 51, 50, 46, 114, 101, 109, 95, 117]), .lit (.string [105, 51, 50, 46, 97, 110, 100]), .lit (.string [105, 51, 50, 46, 111, 114]), .lit (.string [105, 51, 50, 46, 120, 111, 114]), .lit (.string [105, 51, 50, 46, 115, 104, 108]), .lit (.string [105, 51, 50, 46, 115, 104, 114, 95, 115]), .lit (.string [105, 51, 50, 46, 115, 104, 114, 95, 117]), .lit (.string [105, 51, 50, 46, 114, 111, 116, 108]), .lit (.string [105, 51, 50, 46, 114, 111, 116, 114]), .lit (.string [105, 54, 52, 46, 99, 108, 122]), .lit (.string [105, 54, 52, 46, 99, 116, 122]), .lit (.string [105, 54, 52, 46, 112, 111, 112, 99, 110, 116]), .lit (.string [105, 54, 52, 46, 97, 100, 100]), .lit (.string [105, 54, 52, 46, 115, 117, 98]), .lit (.string [105, 54, 52, 46, 109, 117, 108]), .lit (.string [105, 54, 52, 46, 100, 105, 118, 95, 115]), .lit (.string [105, 54, 52, 46, 100, 105, 118, 95, 117]), .lit (.string [105, 54, 52, 46, 114, 101, 109, 95, 115]), .lit (.string [105, 54, 52, 46, 114, 101, 109, 95, 117]), .lit (.string [105, 54, 52, 46, 97, 110, 100]), .lit (.string [105, 54, 52, 46, 111, 114]), .lit (.string [105, 54, 52, 46, 120, 111, 114]), .lit (.string [105, 54, 52, 46, 115, 104, 108]), .lit (.string [105, 54, 52, 46, 115, 104, 114, 95, 115]), .lit (.string [105, 54, 52, 46, 115, 104, 114, 95, 117]), .lit (.string [105, 54, 52, 46, 114, 111, 116, 108]), .lit (.string [105, 54, 52, 46, 114, 111, 116, 114])]
def laid_creel_ops_convertNames {H : Type} : DataW H := .agg [.lit (.string [105, 51, 50, 46, 119, 114, 97, 112, 95, 105, 54, 52]), .lit (.string []), .lit (.string []), .lit (.string []), .lit (.string []), .lit (.string [105, 54, 52, 46, 101, 120, 116, 101, 110, 100, 95, 105, 51, 50, 95, 115]), .lit (.string [105, 54, 52, 46, 101, 120, 116, 101, 110, 100, 95, 105, 51, 50, 95, 117])]
def laid_creel_ops_accesses {H : Type} : DataW H := .agg [.agg [.lit (.int .i64 4), .lit (.int .u8 127), .lit (.bool false), .lit (.bool false)], .agg [.lit (.int .i64 8), .lit (.int .u8 126), .lit (.bool false), .lit (.bool false)], .agg [.lit (.int .i64 0), .lit (.int .u8 0), .lit (.bool false), .lit (.bool false)], .agg [.lit (.int .i64 0), .lit (.int .u8 0), .lit (.bool false), .lit (.bool false)], .agg [.lit (.int .i64 1), .lit (.int .u8 127), .lit (.bool false), .lit (.bool true)], .agg [.lit (.int .i64 1), .lit (.int .u8 127), .lit (.bool false), .lit (.bool false)], .agg [.lit (.int .i64 2), .lit (.int .u8 127), .lit (.bool false), .lit (.bool true)], .agg [.lit (.int .i64 2), .lit (.int .u8 127), .lit (.bool false), .lit (.bool false)], .agg [.lit (.int .i64 1), .lit (.int .u8 126), .lit (.bool false), .lit (.bool true)], .agg [.lit (.int .i64 1), .lit (.int .u8 126), .lit (.bool false), .lit (.bool false)], .agg [.lit (.int .i64 2), .lit (.int .u8 126), .lit (.bool false), .lit (.bool true)], .agg [.lit (.int .i64 2), .lit (.int .u8 126), .lit (.bool false), .lit (.bool false)], .agg [.lit (.int .i64 4), .lit (.int .u8 126), .lit (.bool false), .lit (.bool true)], .agg [.lit (.int .i64 4), .lit (.int .u8 126), .lit (.bool false), .lit (.bool false)], .agg [.lit (.int .i64 4), .lit (.int .u8 127), .lit (.bool true), .lit (.bool false)], .agg [.lit (.int .i64 8), .lit (.int .u8 126), .lit (.bool true), .lit (.bool false)], .agg [.lit (.int .i64 0), .lit (.int .u8 0), .lit (.bool false), .lit (.bool false)], .agg [.lit (.int .i64 0), .lit (.int .u8 0), .lit (.bool false), .lit (.bool false)], .agg [.lit (.int .i64 1), .lit (.int .u8 127), .lit (.bool true), .lit (.bool false)], .agg [.lit (.int .i64 2), .lit (.int .u8 127), .lit (.bool true), .lit (.bool false)], .agg [.lit (.int .i64 1), .lit (.int .u8 126), .lit (.bool true), .lit (.bool false)], .agg [.lit (.int .i64 2), .lit (.int .u8 126), .lit (.bool true), .lit (.bool false)], .agg [.lit (.int .i64 4), .lit (.int .u8 126), .lit (.bool true), .lit (.bool false)]]

/-- 'creellaw14.BodiesLocals': WHATEVER THE INPUT: true; the input reads as it did. -/
def bodiesLocalsSpec : ChangeSpec := { name := "bodiesLocals", fn := fun _ => fun
  | [d1, d2] => { results := [.lit (.bool true)], args := [d1, d2] }
  | _ => none }
def bodiesLocalsRow : OpenClaim := { program := "ytebgmfjgapmpfabdoor", sum := "61b0677f72c8b61fd9cadc1c48e35b6560690d169c63938f38b8f911c95976ad", func := "creel/creellaw14.BodiesLocals", spec := "bodiesLocals", inPlace := ["internal/bytealg.MakeNoZero"], unfollowed := true, recurses := true, named := ["creel/ops.accesses", "creel/ops.controlNames", "creel/ops.memoryNames", "creel/ops.testNames", "creel/ops.numberNames", "creel/ops.convertNames"], apart := false, laid := [("creel/ops.controlNames", laid_creel_ops_controlNames), ("creel/ops.memoryNames", laid_creel_ops_memoryNames), ("creel/ops.testNames", laid_creel_ops_testNames), ("creel/ops.numberNames", laid_creel_ops_numberNames), ("creel/ops.convertNames", laid_creel_ops_convertNames), ("creel/ops.accesses", laid_creel_ops_accesses)] }
def BodiesLocalsSaid : Prop := bodiesLocalsRow.holds Tryd.pinned (OpenSpec.ofChange bodiesLocalsSpec)

/-- ITS FALSE NEIGHBOUR: 'it returns false'. Refute it at one input. -/
def bodiesLocalsWrong : ChangeSpec := { name := "bodiesLocals", fn := fun _ => fun
  | [d1, d2] => { results := [.lit (.bool false)], args := [d1, d2] }
  | _ => none }
def BodiesLocalsWrongFalsely : Prop := bodiesLocalsRow.holds Tryd.pinned (OpenSpec.ofChange bodiesLocalsWrong)

/-- 'creellaw15.DatasPuts': WHATEVER THE INPUT: true; the input reads as it did. -/
def datasPutsSpec : ChangeSpec := { name := "datasPuts", fn := fun _ => fun
  | [d] => { results := [.lit (.bool true)], args := [d] }
  | _ => none }
def datasPutsRow : OpenClaim := { program := "ytebgmfjgapmpfabdoor", sum := "61b0677f72c8b61fd9cadc1c48e35b6560690d169c63938f38b8f911c95976ad", func := "creel/creellaw15.DatasPuts", spec := "datasPuts", unfollowed := true, recurses := true, named := ["creel/ops.controlNames", "creel/ops.memoryNames", "creel/ops.testNames", "creel/ops.numberNames", "creel/ops.convertNames", "creel/ops.accesses"], apart := false, laid := [("creel/ops.controlNames", laid_creel_ops_controlNames), ("creel/ops.memoryNames", laid_creel_ops_memoryNames), ("creel/ops.testNames", laid_creel_ops_testNames), ("creel/ops.numberNames", laid_creel_ops_numberNames), ("creel/ops.convertNames", laid_creel_ops_convertNames), ("creel/ops.accesses", laid_creel_ops_accesses)] }
def DatasPutsSaid : Prop := datasPutsRow.holds Tryd.pinned (OpenSpec.ofChange datasPutsSpec)

/-- ITS FALSE NEIGHBOUR: 'it returns false'. Refute it at one input. -/
def datasPutsWrong : ChangeSpec := { name := "datasPuts", fn := fun _ => fun
  | [d] => { results := [.lit (.bool false)], args := [d] }
  | _ => none }
def DatasPutsWrongFalsely : Prop := datasPutsRow.holds Tryd.pinned (OpenSpec.ofChange datasPutsWrong)

/- THE SECOND FORM. 'bulk': how many values and letters a reading holds, each counted each time it is reached (what is shared counts as often as it is met; a slice's spare places count too). A statement '..UptoSaid' is the law's where the arguments, and the package variables that the reading takes, are together of bulk at most 1048576: NARROWER than '..Said'. Prove '..Said' where nothing that the law and all that it calls make is longer than what came in: it says more and counts as full. Else prove '..UptoSaid'. A law counts once. -/
mutual
def uptoBulk {H : Type} : DataW H → Nat
  | .lit (.string bytes) => bytes.length + 1
  | .lit _ => 1
  | .nil => 1
  | .ptr d => uptoBulk d + 1
  | .slice elems spare => uptoBulkAll elems + uptoBulkAll spare + 1
  | .agg parts => uptoBulkAll parts + 1
  | .iface _ d => uptoBulk d + 1
  | .map entries => uptoBulkEntries entries + 1
  | .held _ => 1
def uptoBulkAll {H : Type} : List (DataW H) → Nat
  | [] => 0
  | d :: r => uptoBulk d + uptoBulkAll r
def uptoBulkEntries {H : Type} : List (Lit × DataW H) → Nat
  | [] => 0
  | x :: r => uptoBulkEntry x + uptoBulkEntries r
def uptoBulkEntry {H : Type} : Lit × DataW H → Nat
  | (.string bytes, d) => bytes.length + uptoBulk d + 1
  | (_, d) => uptoBulk d + 1
 end
def uptoSmall : (H : Type) → List (DataW H) → Bool := fun _ ds => decide (uptoBulkAll ds ≤ 1048576)
def OpenSpec.upto (s : _root_.Go.ChangeSpec) : _root_.Go.OpenSpec := { _root_.Go.OpenSpec.ofChange s with cond := some uptoSmall }

/-- 'creellaw14.BodiesLocals', WHERE WHAT IT READS IS OF BULK AT MOST 1048576: true; the input reads as it did. -/
def bodiesLocalsUptoRow : OpenClaim := { program := "ytebgmfjgapmpfabdoor", sum := "61b0677f72c8b61fd9cadc1c48e35b6560690d169c63938f38b8f911c95976ad", func := "creel/creellaw14.BodiesLocals", spec := "bodiesLocals", inPlace := ["internal/bytealg.MakeNoZero"], unfollowed := true, recurses := true, named := ["creel/ops.accesses", "creel/ops.controlNames", "creel/ops.memoryNames", "creel/ops.testNames", "creel/ops.numberNames", "creel/ops.convertNames"], apart := false, laid := [("creel/ops.controlNames", laid_creel_ops_controlNames), ("creel/ops.memoryNames", laid_creel_ops_memoryNames), ("creel/ops.testNames", laid_creel_ops_testNames), ("creel/ops.numberNames", laid_creel_ops_numberNames), ("creel/ops.convertNames", laid_creel_ops_convertNames), ("creel/ops.accesses", laid_creel_ops_accesses)], narrowed := true }
def BodiesLocalsUptoSaid : Prop := bodiesLocalsUptoRow.holds Tryd.pinned (OpenSpec.upto bodiesLocalsSpec)

/-- 'creellaw15.DatasPuts', WHERE WHAT IT READS IS OF BULK AT MOST 1048576: true; the input reads as it did. -/
def datasPutsUptoRow : OpenClaim := { program := "ytebgmfjgapmpfabdoor", sum := "61b0677f72c8b61fd9cadc1c48e35b6560690d169c63938f38b8f911c95976ad", func := "creel/creellaw15.DatasPuts", spec := "datasPuts", unfollowed := true, recurses := true, named := ["creel/ops.controlNames", "creel/ops.memoryNames", "creel/ops.testNames", "creel/ops.numberNames", "creel/ops.convertNames", "creel/ops.accesses"], apart := false, laid := [("creel/ops.controlNames", laid_creel_ops_controlNames), ("creel/ops.memoryNames", laid_creel_ops_memoryNames), ("creel/ops.testNames", laid_creel_ops_testNames), ("creel/ops.numberNames", laid_creel_ops_numberNames), ("creel/ops.convertNames", laid_creel_ops_convertNames), ("creel/ops.accesses", laid_creel_ops_accesses)], narrowed := true }
def DatasPutsUptoSaid : Prop := datasPutsUptoRow.holds Tryd.pinned (OpenSpec.upto datasPutsSpec)

end Rows
end Go.Proofs.YtebgmfjgapmpfabDoor
