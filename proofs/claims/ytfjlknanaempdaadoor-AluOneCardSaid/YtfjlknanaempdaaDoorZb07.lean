/- What the row lists of the table math/bits.deBruijn32tab, as the walks want it; a world that holds it. -/
import Derived.Test.YtfjlknanaempdaaDoorZb06
import Derived.Test.YtfjlknanaempdaaDoorTie
import Derived.Lib.LaidIn
import Derived.Lib.LaidTab
import Derived.Lib.LaidU8
import Derived.LaidMore
import Derived.MakeChecks
import Derived.Stop.Joined
import Derived.OpenShut
namespace Go.Proofs.YtfjlknanaempdaaDoor
set_option linter.unusedVariables false
open Go.Shelf Go.Lib

theorem own : ownKnob Tryd.prog.godebug = none := by kernel_rfl
/-- What the row lists. -/
def listedB : List (String × DataW Unit) := [("math/bits.deBruijn32tab", Rows.laid_math_bits_deBruijn32tab)]
theorem listedB_plain (W : World) : laidMetH Tryd.prog listedB W = laidMet Tryd.prog listedB W := Go.MakeChecks.laidMetH_plain _ _ _ (by kernel_rfl)
def tabB : List Int := Lib.deBruijn32tab.map fun c => ((c : Nat) : Int)
theorem laidBN : Tryd.prog.globalNamed "math/bits.deBruijn32tab" = some 0 := by kernel_rfl
theorem laidBY : (Tryd.prog.globals[0]?).map (·.type) = some 39 := by kernel_rfl
theorem laidBD : (Rows.laid_math_bits_deBruijn32tab : DataW Unit) = tabData .u8 tabB := by kernel_rfl
theorem laidB_of {W : World} (h : laidMetH Tryd.prog listedB W) : TabB W := by
  rw [listedB_plain] at h
  obtain ⟨g, t, cs, fuel, p, hg, hty, hvar, hd⟩ := Lib.laidMet.reads h (show ("math/bits.deBruijn32tab", Rows.laid_math_bits_deBruijn32tab) ∈ listedB from .head _)
  obtain rfl := Option.some.inj (laidBN.symm.trans hg)
  obtain rfl := Option.some.inj (laidBY.symm.trans hty)
  rw [laidBD] at hd
  have hcs := cells_of_tab Tryd.underlying39 Tryd.underlying5 (by kernel_rfl) (by kernel_rfl) hd
  intro j hj
  rw [World.var?_cell laidBN hvar j, ← Array.getElem?_toList, hcs]
  unfold tabB
  rw [List.map_map, List.getElem?_map, List.getElem?_eq_getElem hj, List.getD_eq_getElem?_getD, List.getElem?_eq_getElem hj]
  rfl
/-- The settled world, the table laid. -/
noncomputable def laidWorldB (os : Os) : World :=
  let w0 := World.holding Tryd.prog os ⟨#[], #[], []⟩
  let put (h : Array Obj) (g : Nat) (cs : Array Value) : Array Obj := h.modify g fun
    | .cells _ t frozen => .cells cs t frozen
    | o => o
  { w0 with heap := put w0.heap 0 (tabB.map fun z => Value.int .u8 z).toArray }
theorem laidWorldB_met (os : Os) (args : Array Value) : laidMetH Tryd.prog listedB ((laidWorldB os).forCall (fun _ _ => 0) ⟨#[], args, []⟩).memory := by
  rw [listedB_plain]
  exact (LaidIn.of_run (l := listedB) [0] 8 (by kernel_rfl) (by kernel_rfl) (by kernel_rfl) (by kernel_rfl)).met
end Go.Proofs.YtfjlknanaempdaaDoor
