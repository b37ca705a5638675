/- awake; what later walks keep of the world. -/
import Derived.Test.YtfimjjeabbbciaaDoorKind
import Derived.Laws.StructEq
namespace Go.Proofs.YtfimjjeabbbciaaDoor
open Go.RowKit

/-- The tables lie still, and nothing old has turned. -/
structure Good (w W : World) : Prop where
  tabs : Tabs W
  below : Below w.heap.size w W
theorem Good.start {w : World} (h : Tabs w) : Good w w := ⟨h, Below.refl _ _⟩
theorem Good.call {w W W' : World} (h : Good w W) (hb : Below W.heap.size W W') : Good w W' := ⟨h.tabs.below hb, h.below.trans (hb.mono h.below.size)⟩
theorem Good.alloc {w W : World} (h : Good w W) (o : Obj) : Good w (W.alloc o) := h.call ((Below.refl _ _).alloc (Nat.le_refl _) _)

theorem inf_add : infR 106 = ⟨[105, 51, 50, 46, 97, 100, 100], 0, [127, 127], [127], false⟩ := by decide +kernel
theorem check_add : checkR 106 = 0 := by decide +kernel
theorem of_add (w : World) (hT : Tabs w) : Calls Tryd.prog 8 #[.int .u8 106] w fun e w' => e = .returned (.agg #[.string ⟨#[105, 51, 50, 46, 97, 100, 100]⟩, .int .i64 0, .string ⟨#[127, 127]⟩, .string ⟨#[127]⟩, .bool false]) ∧ Below w.heap.size w w' := by
  have := of_any 106 w hT (by omega)
  rw [inf_add] at this
  exact this
theorem check_add' (w : World) (hT : Tabs w) : Calls Tryd.prog 9 #[.int .u8 106] w fun e w' => e = .returned (.int .i64 0) ∧ w = w' := by
  have := check_any 106 w hT (by omega)
  rw [check_add] at this
  exact this
theorem awake_any (w : World) (hT : Tabs w) : Calls Tryd.prog 6 #[] w fun e w' => e = .returned (.bool true) ∧ Below w.heap.size w w' := by
  have HT := Lib.hid hT
  clear hT
  go_enter Tryd.func6, Tryd.ntmps6
  go_wp2_with (first | (go_at_call 8; go_must (refine (of_add _ HT.out).mono ?_; rintro e w1 ⟨rfl, hb1⟩; have HB1 := Lib.hid hb1; clear hb1)) | (go_at_call 9; go_must (refine (check_add' _ (HT.out.below HB1.out)).mono ?_; rintro e w2 ⟨rfl, rfl⟩)))
  go_ret
  exact ⟨rfl, HB1.out⟩
end Go.Proofs.YtfimjjeabbbciaaDoor

