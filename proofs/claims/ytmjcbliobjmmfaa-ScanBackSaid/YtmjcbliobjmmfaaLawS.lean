/- The walk of ScanBack. -/
import Derived.Test.YtmjcbliobjmmfaaBody
import Derived.Deep.DeepCutAuto
import Derived.Laws.IdiomStrings
namespace Go.Proofs.Ytmjcbliobjmmfaa
open Go.RowKit
set_option linter.unusedVariables false

/-- The law's three arguments in their boxes. -/
def Box3 (w : World) (p r : List UInt8) (a b : Int) (c : Bool) (t : UInt8) (m : Bool) (W : World) : Prop :=
  (Whole W w.heap.size 23 #[.string (S p), .string (S r)] ∧ Whole W (w.heap.size + 1) 26 #[.int .u32 a, .int .u32 b, .bool c] ∧ Whole W (w.heap.size + 1 + 1) 28 #[.int .u8 t.toNat, .bool m]) ∧ Below w.heap.size w W
/-- .. and what they hold. -/
abbrev Cells7 (w : World) (p r : List UInt8) (a b : Int) (c : Bool) (t : UInt8) (m : Bool) (W : World) : Prop :=
  (W.cell? ⟨w.heap.size, 0, none⟩ = some (.string (S p)) ∧ W.cell? ⟨w.heap.size, 1, none⟩ = some (.string (S r))) ∧
  (W.cell? ⟨w.heap.size + 1, 0, none⟩ = some (.int .u32 a) ∧ W.cell? ⟨w.heap.size + 1, 1, none⟩ = some (.int .u32 b) ∧ W.cell? ⟨w.heap.size + 1, 2, none⟩ = some (.bool c)) ∧
  (W.cell? ⟨w.heap.size + 1 + 1, 0, none⟩ = some (.int .u8 t.toNat) ∧ W.cell? ⟨w.heap.size + 1 + 1, 1, none⟩ = some (.bool m))
section
variable {w : World} {p r : List UInt8} {a b : Int} {c : Bool} {t : UInt8} {m : Bool} {W W' : World}
theorem Box3.start (w : World) (p r : List UInt8) (a b : Int) (c : Bool) (t : UInt8) (m : Bool) :
    Box3 w p r a b c t m (((w.alloc (.cells #[.string (S p), .string (S r)] 23)).alloc (.cells #[.int .u32 a, .int .u32 b, .bool c] 26)).alloc (.cells #[.int .u8 t.toNat, .bool m] 28)) := by
  have b1 := Whole.made w 23 #[.string (S p), .string (S r)]
  have b2 := Whole.made (w.alloc (.cells #[.string (S p), .string (S r)] 23)) 26 #[.int .u32 a, .int .u32 b, .bool c]
  have b3 := Whole.made ((w.alloc (.cells #[.string (S p), .string (S r)] 23)).alloc (.cells #[.int .u32 a, .int .u32 b, .bool c] 26)) 28 #[.int .u8 t.toNat, .bool m]
  simp only [World.size_alloc] at b2 b3
  exact ⟨⟨(b1.alloc _).alloc _, b2.alloc _, b3⟩, (((Below.refl _ _).alloc (Nat.le_refl _) _).alloc (by simp) _).alloc (by simp; omega) _⟩
theorem Box3.on (h : Box3 w p r a b c t m W) (hb : Below W.heap.size W W') : Box3 w p r a b c t m W' :=
  ⟨⟨h.1.1.below hb, h.1.2.1.below hb, h.1.2.2.below hb⟩, h.2.trans (hb.mono h.2.size)⟩
theorem Box3.put (h : Box3 w p r a b c t m W) (g : Nat) (hg : w.heap.size + 1 + 1 < g) (i : Nat) (v : Value) : Box3 w p r a b c t m (W.setCell ⟨g, i, none⟩ v) :=
  ⟨⟨h.1.1.far (by show _ ≠ g; omega) v, h.1.2.1.far (by show _ ≠ g; omega) v, h.1.2.2.far (by show _ ≠ g; omega) v⟩, h.2.setCell (by show _ ≤ g; omega) v⟩
theorem Box3.cells (h : Box3 w p r a b c t m W) : Cells7 w p r a b c t m W :=
  ⟨⟨h.1.1.cell 0, h.1.1.cell 1⟩, ⟨h.1.2.1.cell 0, h.1.2.1.cell 1, h.1.2.1.cell 2⟩, ⟨h.1.2.2.cell 0, h.1.2.2.cell 1⟩⟩
end

/-- The reference's answer for any results. -/
theorem refFunc_far (p r : List UInt8) (w : World) (hp : p.length ≤ 500) (hr : 1 < r.length) : Calls Try.prog 5 #[.agg #[.string (S p), .string (S r)]] w fun e w' => e = .returned (.int .i64 29) ∧ Below w.heap.size w w' := by
  have hsp := S_size p
  have hsr := S_size r
  have a1' : decide ((1000 : Int) < ((S p).size : Int)) = false := by simp; omega
  have a2' : 1 < (S r).size := by omega
  clear hsp hsr
  go_enter Try.func5, Try.ntmps5
  go_wp2
  go_ret
  exact ⟨rfl, below_box _ _⟩
theorem refFunc_all (p r : List UInt8) (w : World) (hp : p.length ≤ 500) : Calls Try.prog 5 #[.agg #[.string (S p), .string (S r)]] w fun e w' => e = .returned (.int .i64 (funcZ p r)) ∧ Below w.heap.size w w' := by
  by_cases h : 1 < r.length
  · have e : funcZ p r = 29 := by unfold funcZ; rw [if_pos (.inr h)]
    rw [e]
    exact refFunc_far p r w hp h
  · exact refFunc_any p r w (by omega) (by omega)
end Go.Proofs.Ytmjcbliobjmmfaa

