/- creelref04.names, creelref04.Text; awake. -/
import Derived.Test.YtmjcbliobjmmfaaText
import Derived.Deep.RegionHeld3
namespace Go.Proofs.Ytmjcbliobjmmfaa
open Go.RowKit

theorem cat_comma (a b : List UInt8) : Value.string (S a ++ { data := #[44] } ++ S b) = .string (S (a ++ ([44] ++ b))) := by
  rw [show ({ data := #[44] } : ByteArray) = S [44] from rfl, S_append, S_append, List.append_assoc]
theorem cat_two (a b : List UInt8) : Value.string (S a ++ S b) = .string (S (a ++ b)) := by rw [S_append]

theorem cat_text (x y : List UInt8) : Ending.returned (.string ({ data := #[40] } ++ S x ++ { data := #[41, 45, 62, 40] } ++ S y ++ { data := #[41] })) = .returned (.string (S ([40] ++ x ++ [41, 45, 62, 40] ++ y ++ [41]))) := by
  rw [show ({ data := #[40] } : ByteArray) = S [40] from rfl, show ({ data := #[41] } : ByteArray) = S [41] from rfl, show ({ data := #[41, 45, 62, 40] } : ByteArray) = S [41, 45, 62, 40] from rfl, S_append, S_append, S_append, S_append]

/-- What is held while a box of two values lies at the end of the world w: nothing below it turns, and both stay. -/
def Boxed (w : World) (o : Obj) (w' : World) : Prop := Below (w.heap.size + 1) (w.alloc o) w'
theorem Boxed.start (w : World) (o : Obj) : Boxed w o (w.alloc o).drew := (Below.refl _ _).drew
theorem Boxed.cell {w w' : World} {o : Obj} (h : Boxed w o w') (i : Nat) : w'.cell? ⟨w.heap.size, i, none⟩ = (w.alloc o).cell? ⟨w.heap.size, i, none⟩ := Below.cell (show Below _ _ _ from h) (p := ⟨w.heap.size, i, none⟩) (Nat.lt_succ_self _)
theorem Boxed.row {w w' : World} {cs : Array Value} {t : TypeId} (h : Boxed w (.cells cs t) w') (i : Nat) : w'.cell? ⟨w.heap.size, i, none⟩ = cs[i]? := (h.cell i).trans (cell_of_row _ _ _ _ _ _ (heap_alloc_new w _))
theorem Boxed.on {w w1 w2 : World} {o : Obj} (h : Boxed w o w1) (hb : Below w1.heap.size w1 w2) : Boxed w o w2 := Below.trans h (hb.mono (by have := Below.size h; simp at this; omega))
theorem Boxed.end {w w' : World} {o : Obj} (h : Boxed w o w') : Below w.heap.size w w' := (below_box w o).trans (Below.mono h (by omega))
theorem Boxed.room {w w' : World} {o : Obj} (h : Boxed w o w') : w.heap.size + 1 ≤ w'.heap.size := by
  have := Below.size h
  simp at this
  omega
/-- A call that leaves what there was, where two cells of a box are held. -/
theorem held_two {K : Nat} {args : Array Value} {w : World} {u v : Value} {t : TypeId} {R : Ending → Prop} (hN : ∀ w, Calls Try.prog K args w fun e w' => R e ∧ Below w.heap.size w w') {W : World}
    (h : Boxed w (.cells #[u, v] t) W ∧ W.cell? ⟨w.heap.size, 0, none⟩ = some u ∧ W.cell? ⟨w.heap.size, 1, none⟩ = some v) :
    Calls Try.prog K args W fun e w' => R e ∧ Boxed w (.cells #[u, v] t) w' ∧ w'.cell? ⟨w.heap.size, 0, none⟩ = some u ∧ w'.cell? ⟨w.heap.size, 1, none⟩ = some v :=
  (hN W).mono fun _ _ ⟨h1, h2⟩ => ⟨h1, h.1.on h2, (h.1.on h2).row 0, (h.1.on h2).row 1⟩

theorem eg_text : S (textL [127, 126] [127]) = { data := #[40, 105, 51, 50, 44, 105, 54, 52, 41, 45, 62, 40, 105, 51, 50, 41] } := by decide
end Go.Proofs.Ytmjcbliobjmmfaa

