/- The law LebReads. -/
import Derived.Test.YtmjcbliobjmmfaaBoth
namespace Go.Proofs.Ytmjcbliobjmmfaa
open Go.RowKit
set_option linter.unusedVariables false

theorem Has.below {w w' : World} {B : Nat} {A : Option Addr} {cap : Nat} {r : List Int} (h : Has w B A cap r) (hb : Below w.heap.size w w') : Has w' B A cap r :=
  ⟨h.lies.below hb h.low_, Nat.le_trans h.low_ hb.size, h.room, h.most⟩
theorem back_s {V : Int} (h0 : -9223372036854775808 ≤ V) (h1 : V ≤ 9223372036854775807) : IntKind.i64.wrap (V % 2 ^ 64) = V := by
  have e : (2 : Int) ^ 64 = 18446744073709551616 := rfl
  rw [IntKind.wrap_i64, e]
  omega

end Go.Proofs.Ytmjcbliobjmmfaa

