/- awake. -/
import Derived.Test.YtcagnlafmakebaaDoorShow
import Derived.Lib.Strings
namespace Go.Proofs.YtcagnlafmakebaaDoor
open Go.RowKit

theorem show_eg (w : World) : Calls Tryd.prog 13 #[.string { data := #[97, 10, 34] }] w fun e w' => e = .returned (.string { data := #[34, 97, 92, 48, 97, 92, 50, 50, 34] }) ∧ Below w.heap.size w w' :=
  (show_any [97, 10, 34] w (by decide)).mono fun _ _ h => ⟨h.1.trans (congrArg (fun s => Ending.returned (.string s)) (by decide : S (showL [97, 10, 34]) = _)), h.2⟩
theorem awake_any (w : World) : Calls Tryd.prog 5 #[] w fun e w' => e = .returned (.bool true) ∧ Below w.heap.size w w' := by
  go_enter Tryd.func5, Tryd.ntmps5
  go_wp2_with (first
    | (go_at_call 13; go_must (refine (show_eg _).mono ?_; rintro e w' ⟨rfl, hb⟩; have HB := Lib.hid hb; clear hb)))
  go_ret
  exact ⟨rfl, HB.out⟩
end Go.Proofs.YtcagnlafmakebaaDoor
