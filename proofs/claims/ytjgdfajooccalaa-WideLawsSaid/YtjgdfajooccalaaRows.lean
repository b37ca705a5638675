/-
  No cell of these rows narrows 'for every input' (looked for: loops, veiled, ifaces, maps, wideKeys, modest, calm, conditions, laid).
  DERIVED. THE GIVEN ROWS OF THIS SEAT. 4 by the template 'for every input the law returns true; each argument reads behind the call as it read before'; 0 by the template 'total and deterministic' (their statements: YtjgdfajooccalaaTotals.lean).
  GIVEN WITH THE SEED: the statements are not yours to turn. If you find one false, say at which input.
  Laid BY PROGRAM, IN A SANDBOX (cutbox-rows.mjs): the forced cells as the released guide's own fill.sh prints them over the translation 551242fbeb98c3e2… (all of the seat's roots in one cut). By AI agents, Wed Nov 11 2026. No macro, syntax, notation, axiom, sorry.
-/
import Derived.Test.YtjgdfajooccalaaChecked
import GoSem.Claim
import GoSem.ClaimJoined
import GoSem.ClaimMapViews
import Derived.JoinedTies
import Derived.KernelRfl
namespace Go.Proofs.Ytjgdfajooccalaa
/- THE CELL 'sum', in the pinned program and in every row, IS THE sha256 OF THE DUMP (.gsa) THAT YtjgdfajooccalaaProg.lean LOADS. Nothing in Lean hashes anything: it is a label: what it is worth is what the hold of that sum in a sandbox is worth. -/
noncomputable def Try.pinned : Pinned := { name := "ytjgdfajooccalaa", sum := "551242fbeb98c3e26d95e6d474beef37f2321d48f8c0e7293533afad358348c3", checked := Try.checked }
namespace Rows
def none {H : Type} : Left H := { results := [], args := [] }

/-- 'creellaw19.WideTwo': WHATEVER THE INPUT: true; the input reads as it did. -/
def wideTwoSpec : ChangeSpec := { name := "wideTwo", fn := fun _ => fun
  | [d1, d2, d3] => { results := [.lit (.bool true)], args := [d1, d2, d3] }
  | _ => none }
def wideTwoRow : OpenClaim := { program := "ytjgdfajooccalaa", sum := "551242fbeb98c3e26d95e6d474beef37f2321d48f8c0e7293533afad358348c3", func := "creel/creellaw19.WideTwo", spec := "wideTwo", apart := false }
def WideTwoSaid : Prop := wideTwoRow.holds Try.pinned (OpenSpec.ofChange wideTwoSpec)

/-- ITS FALSE NEIGHBOUR: 'it returns false'. Refute it at one input. -/
def wideTwoWrong : ChangeSpec := { name := "wideTwo", fn := fun _ => fun
  | [d1, d2, d3] => { results := [.lit (.bool false)], args := [d1, d2, d3] }
  | _ => none }
def WideTwoWrongFalsely : Prop := wideTwoRow.holds Try.pinned (OpenSpec.ofChange wideTwoWrong)

/-- 'creellaw19.WideLaws': WHATEVER THE INPUT: true; the input reads as it did. -/
def wideLawsSpec : ChangeSpec := { name := "wideLaws", fn := fun _ => fun
  | [d1, d2] => { results := [.lit (.bool true)], args := [d1, d2] }
  | _ => none }
def wideLawsRow : OpenClaim := { program := "ytjgdfajooccalaa", sum := "551242fbeb98c3e26d95e6d474beef37f2321d48f8c0e7293533afad358348c3", func := "creel/creellaw19.WideLaws", spec := "wideLaws", unfollowed := true, recurses := true, apart := false }
def WideLawsSaid : Prop := wideLawsRow.holds Try.pinned (OpenSpec.ofChange wideLawsSpec)

/-- ITS FALSE NEIGHBOUR: 'it returns false'. Refute it at one input. -/
def wideLawsWrong : ChangeSpec := { name := "wideLaws", fn := fun _ => fun
  | [d1, d2] => { results := [.lit (.bool false)], args := [d1, d2] }
  | _ => none }
def WideLawsWrongFalsely : Prop := wideLawsRow.holds Try.pinned (OpenSpec.ofChange wideLawsWrong)

/-- 'creellaw18.AluTwo': WHATEVER THE INPUT: true; the input reads as it did. -/
def aluTwoSpec : ChangeSpec := { name := "aluTwo", fn := fun _ => fun
  | [d1, d2, d3] => { results := [.lit (.bool true)], args := [d1, d2, d3] }
  | _ => none }
def aluTwoRow : OpenClaim := { program := "ytjgdfajooccalaa", sum := "551242fbeb98c3e26d95e6d474beef37f2321d48f8c0e7293533afad358348c3", func := "creel/creellaw18.AluTwo", spec := "aluTwo", apart := false }
def AluTwoSaid : Prop := aluTwoRow.holds Try.pinned (OpenSpec.ofChange aluTwoSpec)

/-- ITS FALSE NEIGHBOUR: 'it returns false'. Refute it at one input. -/
def aluTwoWrong : ChangeSpec := { name := "aluTwo", fn := fun _ => fun
  | [d1, d2, d3] => { results := [.lit (.bool false)], args := [d1, d2, d3] }
  | _ => none }
def AluTwoWrongFalsely : Prop := aluTwoRow.holds Try.pinned (OpenSpec.ofChange aluTwoWrong)

/-- 'creellaw18.AluLaws': WHATEVER THE INPUT: true; the input reads as it did. -/
def aluLawsSpec : ChangeSpec := { name := "aluLaws", fn := fun _ => fun
  | [d1, d2] => { results := [.lit (.bool true)], args := [d1, d2] }
  | _ => none }
def aluLawsRow : OpenClaim := { program := "ytjgdfajooccalaa", sum := "551242fbeb98c3e26d95e6d474beef37f2321d48f8c0e7293533afad358348c3", func := "creel/creellaw18.AluLaws", spec := "aluLaws", unfollowed := true, recurses := true, apart := false }
def AluLawsSaid : Prop := aluLawsRow.holds Try.pinned (OpenSpec.ofChange aluLawsSpec)

/-- ITS FALSE NEIGHBOUR: 'it returns false'. Refute it at one input. -/
def aluLawsWrong : ChangeSpec := { name := "aluLaws", fn := fun _ => fun
  | [d1, d2] => { results := [.lit (.bool false)], args := [d1, d2] }
  | _ => none }
def AluLawsWrongFalsely : Prop := aluLawsRow.holds Try.pinned (OpenSpec.ofChange aluLawsWrong)

/- THE SECOND FORM. 'bulk': how many values and letters a reading holds, each counted each time it is reached (what is shared counts as often as it is met; a slice's spare places count too). A statement '..UptoSaid' is the law's where the arguments, and the package variables that the reading takes, are together of bulk at most 1048576: NARROWER than '..Said'. Prove '..Said' where nothing that the law and all that it calls make is longer than what came in: it says more and counts as full. Else prove '..UptoSaid'. A law counts once. -/
mutual
def uptoBulk {H : Type} : DataW H → Nat
  | .lit (.string bytes) => bytes.length + 1
  | .lit _ => 1
  | .nil => 1
  | .ptr d => uptoBulk d + 1
  | .slice elems spare => uptoBulkAll elems + uptoBulkAll spare + 1
  | .agg parts => uptoBulkAll parts + 1
  | .iface _ d => uptoBulk d + 1
  | .map entries => uptoBulkEntries entries + 1
  | .held _ => 1
def uptoBulkAll {H : Type} : List (DataW H) → Nat
  | [] => 0
  | d :: r => uptoBulk d + uptoBulkAll r
def uptoBulkEntries {H : Type} : List (Lit × DataW H) → Nat
  | [] => 0
  | x :: r => uptoBulkEntry x + uptoBulkEntries r
def uptoBulkEntry {H : Type} : Lit × DataW H → Nat
  | (.string bytes, d) => bytes.length + uptoBulk d + 1
  | (_, d) => uptoBulk d + 1
 end
def uptoSmall : (H : Type) → List (DataW H) → Bool := fun _ ds => decide (uptoBulkAll ds ≤ 1048576)
def OpenSpec.upto (s : _root_.Go.ChangeSpec) : _root_.Go.OpenSpec := { _root_.Go.OpenSpec.ofChange s with cond := some uptoSmall }

/-- 'creellaw19.WideTwo', WHERE WHAT IT READS IS OF BULK AT MOST 1048576: true; the input reads as it did. -/
def wideTwoUptoRow : OpenClaim := { program := "ytjgdfajooccalaa", sum := "551242fbeb98c3e26d95e6d474beef37f2321d48f8c0e7293533afad358348c3", func := "creel/creellaw19.WideTwo", spec := "wideTwo", apart := false, narrowed := true }
def WideTwoUptoSaid : Prop := wideTwoUptoRow.holds Try.pinned (OpenSpec.upto wideTwoSpec)

/-- 'creellaw19.WideLaws', WHERE WHAT IT READS IS OF BULK AT MOST 1048576: true; the input reads as it did. -/
def wideLawsUptoRow : OpenClaim := { program := "ytjgdfajooccalaa", sum := "551242fbeb98c3e26d95e6d474beef37f2321d48f8c0e7293533afad358348c3", func := "creel/creellaw19.WideLaws", spec := "wideLaws", unfollowed := true, recurses := true, apart := false, narrowed := true }
def WideLawsUptoSaid : Prop := wideLawsUptoRow.holds Try.pinned (OpenSpec.upto wideLawsSpec)

/-- 'creellaw18.AluTwo', WHERE WHAT IT READS IS OF BULK AT MOST 1048576: true; the input reads as it did. -/
def aluTwoUptoRow : OpenClaim := { program := "ytjgdfajooccalaa", sum := "551242fbeb98c3e26d95e6d474beef37f2321d48f8c0e7293533afad358348c3", func := "creel/creellaw18.AluTwo", spec := "aluTwo", apart := false, narrowed := true }
def AluTwoUptoSaid : Prop := aluTwoUptoRow.holds Try.pinned (OpenSpec.upto aluTwoSpec)

/-- 'creellaw18.AluLaws', WHERE WHAT IT READS IS OF BULK AT MOST 1048576: true; the input reads as it did. -/
def aluLawsUptoRow : OpenClaim := { program := "ytjgdfajooccalaa", sum := "551242fbeb98c3e26d95e6d474beef37f2321d48f8c0e7293533afad358348c3", func := "creel/creellaw18.AluLaws", spec := "aluLaws", unfollowed := true, recurses := true, apart := false, narrowed := true }
def AluLawsUptoSaid : Prop := aluLawsUptoRow.holds Try.pinned (OpenSpec.upto aluLawsSpec)

end Rows
end Go.Proofs.Ytjgdfajooccalaa
