/- TypesValues for every length; an argument that is a slice of values, opened. -/
import Derived.Test.YtlhjgjplnaoieaaDoorLawV
import Derived.ProofKit
import Derived.OpenShut
import Derived.Deep.SlicePairs
namespace Go.Proofs.YtlhjgjplnaoieaaDoor
open Go.ChangeShapes Go.WideShapes Go.ChangeAt Go.RowKit

theorem values_long (l : List (Int × Int)) (s : List UInt8) (gt : Int) (gm : Bool) (A : Option Addr) (cap : Nat) (w : World) (hT : Tab w) (h : 100 < l.length ∨ 100 < s.length) :
    Calls Tryd.prog 5 #[.slice A l.length cap, .string (S s), gv gt gm] w fun e w' => e = .returned (.bool true) ∧ Below w.heap.size w w' := by
  have hs := S_size s
  have HA := Lib.hid (awake_any (w.alloc (.cells #[.int .u8 gt, .bool gm] 51)) (hT.alloc _))
  by_cases h1 : 100 < l.length
  · clear hs
    go_enter Tryd.func5, Tryd.ntmps5
    go_wp2_with (go_at_call 6; go_must (refine HA.out.mono ?_; rintro e w1 ⟨rfl, hb⟩; have HK := Lib.hid (Boxed.on (w := w) (show Boxed w _ (w.alloc _) from Below.refl _ _) hb); clear hb))
    go_ret
    exact ⟨rfl, Boxed.end HK.out⟩
  · have d1 : decide ((100 : Int) < (l.length : Int)) = false := by simp; omega
    have d2 : 100 < (S s).size := by omega
    clear hs
    go_enter Tryd.func5, Tryd.ntmps5
    go_wp2_with (go_at_call 6; go_must (refine HA.out.mono ?_; rintro e w1 ⟨rfl, hb⟩; have HK := Lib.hid (Boxed.on (w := w) (show Boxed w _ (w.alloc _) from Below.refl _ _) hb); clear hb))
    go_ret
    exact ⟨rfl, Boxed.end HK.out⟩
theorem values_all (l : List (Int × Int)) (s : ByteArray) (gt : Int) (gm : Bool) (A : Option Addr) (len cap : Nat) (w : World) (hT : Tab w) (hlen : l.length = len) (hl : LiesV w w.heap.size A l) (hn : NumsOk l) (hc : len ≤ cap) (g0 : 0 ≤ gt) (g1 : gt ≤ 255) :
    Calls Tryd.prog 5 #[.slice A len cap, .string s, .agg #[.int .u8 gt, .bool gm]] w fun e w' => e = .returned (.bool true) ∧ Below w.heap.size w w' := by
  subst hlen
  obtain ⟨s, rfl⟩ : ∃ l, s = S l := ⟨_, (S_of s).symm⟩
  by_cases h : 100 < l.length ∨ 100 < s.length
  · exact values_long l s gt gm A cap w hT h
  · exact values_law l s gt gm A cap w hT hl hn (by omega) (by omega) hc g0 g1

theorem c54 : Tryd.prog.cellsOf 54 = 2 := by kernel_rfl
theorem c52 : Tryd.prog.cellsOf 52 = 1 := by kernel_rfl
theorem c5v : Tryd.prog.cellsOf 5 = 1 := by kernel_rfl
theorem wf8 {a : Int} (h : (Lit.int .u8 a).wf = true) : 0 ≤ a ∧ a ≤ 255 := by simpa [Lit.wf, IntKind.min, IntKind.max, IntKind.signed, IntKind.bits] using h
theorem wf64 {a : Int} (h : (Lit.int .u64 a).wf = true) : 0 ≤ a ∧ a ≤ 18446744073709551615 := by simpa [Lit.wf, IntKind.min, IntKind.max, IntKind.signed, IntKind.bits] using h
theorem open_vals {H : Type} {enc : TypeId × Value → H} {W : World} {sp : Nat → Bool} {A : Option Addr} {len cap : Nat} {d : DataW H} {p : List MemPlace}
    (h : DataW.Trod enc Tryd.prog W 0 sp true 49 (.slice A len cap) d p) : ∃ l : List (Int × Int), l.length = len ∧ NumsOk l ∧ LiesV W W.heap.size A l ∧ len ≤ cap := by
  obtain ⟨fuel, hf⟩ := h
  rcases Go.Deep.open_slice_pairs Tryd.underlying49 Tryd.underlying54 c54 rfl rfl c5v c52 hf with ⟨hcs, _⟩ | ⟨a, ln, cp, m, n, V0, V1, D0, D1, P0, P1, hcs, _, hlc, _, hm, _, hx⟩
  · simp [Value.cells] at hcs
    obtain ⟨rfl, rfl, rfl⟩ := hcs
    exact ⟨[], rfl, fun _ h => by simp at h, fun i t n h => by simp at h, Nat.le_refl _⟩
  · simp [Value.cells] at hcs
    obtain ⟨rfl, rfl, rfl⟩ := hcs
    have hlm : len ≤ m := by rw [hm]; split <;> omega
    have each : ∀ i, i < len → ∃ t n, V0 i = .int .u8 t ∧ V1 i = .int .u64 n ∧ (0 ≤ t ∧ t ≤ 255) ∧ 0 ≤ n ∧ n ≤ 18446744073709551615 := by
      intro i hi
      obtain ⟨_, _, h0, h1⟩ := hx i (by omega)
      obtain ⟨t, ht, _, wt⟩ := DataW.trod_int Tryd.underlying5 h0
      obtain ⟨k, hk, _, wk⟩ := DataW.trod_int Tryd.underlying52 h1
      simp only [List.cons.injEq, and_true] at ht hk
      exact ⟨t, k, ht, hk, wf8 wt, wf64 wk⟩
    refine ⟨(List.range len).map fun i => (intOf (V0 i), intOf (V1 i)), by simp, ?_, ?_, hlc⟩
    · intro q hq
      obtain ⟨i, hi, rfl⟩ := List.mem_map.1 hq
      obtain ⟨t, k, e0, e1, wt, wk⟩ := each i (List.mem_range.1 hi)
      rw [e0, e1]
      exact ⟨wt, wk⟩
    · intro i t k hi
      have hil : i < len := by
        have := (List.getElem?_eq_some_iff.1 hi).1
        simpa using this
      obtain ⟨t', k', e0, e1, _, _⟩ := each i hil
      obtain ⟨c0, c1, _, _⟩ := hx i (by omega)
      rw [e0] at c0
      rw [e1] at c1
      simp only [List.getElem?_map, List.getElem?_range hil, Option.map_some, Option.some.injEq, Prod.mk.injEq, e0, e1] at hi
      obtain ⟨rfl, rfl⟩ := hi
      obtain ⟨b, off, spot⟩ := a
      have hsp : spot = none := by
        have := World.cell?_spot (hx 0 (by omega)).1
        simpa [Addr.add] using this
      subst hsp
      rw [Go.WideShapes.add_plain] at c0 c1
      exact ⟨b, off, rfl, block_lt_of_cell c0, c0, c1⟩
end Go.Proofs.YtlhjgjplnaoieaaDoor
