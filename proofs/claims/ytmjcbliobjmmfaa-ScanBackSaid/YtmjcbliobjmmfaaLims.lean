/- types.Limits, Fits, flag; creelref04.Limits. -/
import Derived.Test.YtmjcbliobjmmfaaVals
import Derived.Test.YtmjcbliobjmmfaaRefs
import Derived.Deep.QuietTactic
import Derived.BigQuiet
namespace Go.Proofs.Ytmjcbliobjmmfaa
open Go.RowKit

/-- Limits, by value. -/
abbrev lv (a b : Int) (c : Bool) : Value := .agg #[.int .u32 a, .int .u32 b, .bool c]
/-- May limits be, of at most m? -/
def limB (a b : Int) (c : Bool) (m : Int) : Bool := if c then decide (a ≤ b) && decide (b ≤ m) else decide (a ≤ m) && decide (b = 0)
/-- api.ErrLimits is 26. -/
def limZ (a b : Int) (c : Bool) (m : Int) : Int := if limB a b c m then 0 else 26
theorem limZ_no {a b : Int} {c : Bool} {m : Int} (h : limB a b c m = false) : limZ a b c m = 26 := by unfold limZ; rw [h]; rfl
theorem limZ_yes {a b : Int} {c : Bool} {m : Int} (h : limB a b c m = true) : limZ a b c m = 0 := by unfold limZ; rw [h]; rfl

/-- Do the first limits do for the second? -/
def fitB (a b : Int) (c : Bool) (a' b' : Int) (c' : Bool) : Bool := decide (a' ≤ a) && (!c' || (c && decide (b ≤ b')))
end Go.Proofs.Ytmjcbliobjmmfaa

