/- What the rows list of the two tables, as the contracts of unicode/utf8 want it; a world that holds them. -/
import Derived.Test.YtkleadjkebofpaaGreatDoorZs03
import Derived.Test.YtkleadjkebofpaaGreatDoorTie
import Derived.Lib.LaidIn
import Derived.Lib.LaidU8T
import Derived.MakeChecks
import Derived.Stop.Joined
import Derived.Test.YtkleadjkebofpaaGreatDoorZs08
namespace Go.Proofs.YtkleadjkebofpaaGreatDoor
set_option linter.unusedVariables false
open Go.Shelf Go.Lib

/-- What both rows list. -/
def both : List (String × DataW Unit) := [("unicode/utf8.acceptRanges", Rows.laid_unicode_utf8_acceptRanges), ("unicode/utf8.first", Rows.laid_unicode_utf8_first)]
theorem first_same : Rows.laid_unicode_utf8_first = Lib.firstData := by kernel_rfl
theorem accept_same : (Rows.laid_unicode_utf8_acceptRanges : DataW Unit) = Lib.acceptData := by kernel_rfl
theorem both_plain (W : World) : laidMetH Tryz.prog both W = laidMet Tryz.prog both W := Go.MakeChecks.laidMetH_plain _ _ _ (by kernel_rfl)
/-- The seat's numbers of the types and tables that the contracts of unicode/utf8 name. -/
def renU : Ren where
  f := fun _ => 0
  t := fun n => if n = 5 then 5 else if n = 119 then 178 else if n = 138 then 180 else 181
  g := fun n => if n = 3 then 0 else 1
theorem tabsU_of {W : World} (h : laidMetH Tryz.prog both W) : TabsU W := by
  rw [both_plain] at h
  have h3 := Lib.laidMet.reads h (.tail _ (.head _))
  have h4 := Lib.laidMet.reads h (.head _)
  rw [first_same] at h3
  rw [accept_same] at h4
  exact utf8Tabs_of_readsT (ρ := renU) ⟨by kernel_rfl, by kernel_rfl, by kernel_rfl, by kernel_rfl⟩ ⟨by kernel_rfl, by kernel_rfl, by kernel_rfl, by kernel_rfl, by kernel_rfl, by kernel_rfl, by kernel_rfl⟩ h3 h4

end Go.Proofs.YtkleadjkebofpaaGreatDoor

/- What the rows list of eight tables: the six of package ops, the two of unicode/utf8; a world that holds them. -/
namespace Go.Proofs.YtkleadjkebofpaaGreatDoor
set_option linter.unusedVariables false
open Go.Shelf Go.Lib
set_option maxRecDepth 100000

theorem laidVars_split {P : Program} {w : World} : ∀ {l l' : List (String × DataW Unit)} {ps : List MemPlace}, DataW.LaidVars P w (l ++ l') ps → ∃ p q, ps = p ++ q ∧ DataW.LaidVars P w l p ∧ DataW.LaidVars P w l' q
  | [], _, ps, h => ⟨[], ps, rfl, rfl, h⟩
  | (n, d) :: r, l', ps, h => by
    obtain ⟨g, t, cs, fuel, p, q, h1, h2, h3, h4, h5, rfl⟩ := h
    obtain ⟨a, b, rfl, h6, h7⟩ := laidVars_split h5
    exact ⟨MemPlace.row ⟨g, 0, none⟩ cs.size ++ p ++ a, b, by simp [List.append_assoc], ⟨g, t, cs, fuel, p, a, h1, h2, h3, h4, h6, rfl⟩, h7⟩
theorem laidMet_split {P : Program} {w : World} {l l' : List (String × DataW Unit)} (h : laidMet P (l ++ l') w) : laidMet P l w ∧ laidMet P l' w := by
  obtain ⟨ps, h1, h2, h3⟩ := h
  obtain ⟨p, q, rfl, h4, h5⟩ := laidVars_split h1
  obtain ⟨n1, n2, _⟩ := List.nodup_append.1 h2
  exact ⟨⟨p, h4, n1, fun b off hb => h3 b off (List.mem_append_left _ hb)⟩, ⟨q, h5, n2, fun b off hb => h3 b off (List.mem_append_right _ hb)⟩⟩
def all8 : List (String × DataW Unit) := listed ++ both
theorem all8_plain (W : World) : laidMetH Tryz.prog all8 W = laidMet Tryz.prog all8 W := Go.MakeChecks.laidMetH_plain _ _ _ (by kernel_rfl)
theorem tabs8 {W : World} (h : laidMetH Tryz.prog all8 W) : Tabs W ∧ TabsU W := by
  rw [all8_plain] at h
  obtain ⟨h1, h2⟩ := laidMet_split h
  exact ⟨tabs_of (by rw [listed_plain]; exact h1), tabsU_of (by rw [both_plain]; exact h2)⟩

/-- The settled world, the tables laid. -/
noncomputable def laidWorld8 (os : Os) : World :=
  let w0 := World.holding Tryz.prog os ⟨#[], #[], []⟩
  let put (h : Array Obj) (g : Nat) (cs : Array Value) : Array Obj := h.modify g fun
    | .cells _ t frozen => .cells cs t frozen
    | o => o
  let h0 := w0.heap
  let h1 := put h0 2 (strs tab0)
  let h2 := put h1 3 (strs tab1)
  let h3 := put h2 4 (strs tab2)
  let h4 := put h3 5 (strs tab3)
  let h5 := put h4 6 (strs tab4)
  let h6 := put h5 7 (accCells tabA)
  let h7 := put h6 0 (Lib.firstTab.map fun z => Value.int .u8 z).toArray
  let h8 := put h7 1 ((List.range 16).flatMap fun i => [Value.int .u8 (Lib.accLo i), Value.int .u8 (Lib.accHi i)]).toArray
  { w0 with heap := h8 }
theorem laidWorld8_met (os : Os) (args : Array Value) : laidMetH Tryz.prog all8 ((laidWorld8 os).forCall (fun _ _ => 0) ⟨#[], args, []⟩).memory := by
  rw [all8_plain]
  exact (LaidIn.of_run (l := all8) [2, 3, 4, 5, 6, 7, 1, 0] 8 (by kernel_rfl) (by kernel_rfl) (by kernel_rfl) (by kernel_rfl)).met
end Go.Proofs.YtkleadjkebofpaaGreatDoor
