/- A list of global types, a value: opened. -/
import Derived.Test.YtebgmfjgapmpfaaDoorQg09
import Derived.Test.YtebgmfjgapmpfaaDoorQh05
import Derived.ProofKit
import Derived.OpenShut
import Derived.Deep.SlicePairs
namespace Go.Proofs.YtebgmfjgapmpfaaDoor
open Go.ChangeShapes Go.WideShapes Go.ChangeAt Go.RowKit Go.Joins
set_option linter.unusedVariables false
set_option maxRecDepth 100000

theorem wf8 {a : Int} (h : (Lit.int .u8 a).wf = true) : 0 ≤ a ∧ a ≤ 255 := by simpa [Lit.wf, IntKind.min, IntKind.max, IntKind.signed, IntKind.bits] using h
theorem wf32 {a : Int} (h : (Lit.int .u32 a).wf = true) : 0 ≤ a ∧ a ≤ 4294967295 := by simpa [Lit.wf, IntKind.min, IntKind.max, IntKind.signed, IntKind.bits] using h
theorem wf64 {a : Int} (h : (Lit.int .u64 a).wf = true) : 0 ≤ a ∧ a ≤ 18446744073709551615 := by simpa [Lit.wf, IntKind.min, IntKind.max, IntKind.signed, IntKind.bits] using h
theorem open_v {H : Type} {enc : TypeId × Value → H} {w : World} {base b0 : Nat} {r : Reach} {sp : Nat → Bool} {held : Bool} {v : Value} {d : DataW H} {p : List MemPlace} (hv : Value.okWide Tryd.prog w r b0 65 v)
    (h : DataW.Trod enc Tryd.prog w base sp held 65 v d p) : ∃ (t n : Int), v = .agg #[.int .u8 t, .int .u64 n] ∧ (0 ≤ t ∧ t ≤ 255) ∧ 0 ≤ n ∧ n ≤ 18446744073709551615 := by
  obtain ⟨v0, v1, y0, y1, n, rfl, _, _, h0, h1⟩ := open_agg2 Tryd.underlying65 (by kernel_rfl) (by kernel_rfl) hv h
  obtain ⟨x, hx, _, wx⟩ := DataW.trod_int Tryd.underlying5 h0
  obtain ⟨y, hy, _, wy⟩ := DataW.trod_int Tryd.underlying22 h1
  simp only [List.cons.injEq, and_true] at hx hy
  subst hx; subst hy
  exact ⟨x, y, rfl, wf8 wx, wf64 wy⟩
theorem open_bytesC {H : Type} {enc : TypeId × Value → H} {W : World} {sp : Nat → Bool} {A : Option Addr} {len cap : Nat} {d : DataW H} {p : List MemPlace} (h : DataW.Trod enc Tryd.prog W 0 sp true 26 (.slice A len cap) d p) :
    ∃ l : List UInt8, l.length = len ∧ Lies W W.heap.size A (cells (nums l)) ∧ (A = none → cap = 0) ∧ len ≤ cap ∧ cap ≤ maxLen := by
  obtain ⟨fuel, hf⟩ := h
  rcases open_ints Tryd.underlying26 Tryd.underlying5 cellsB hf with ⟨hcs, _⟩ | ⟨a, l, c, zs, hcs, _, hl, hm, hz, _, hcell, hwf⟩
  · simp [Value.cells] at hcs
    obtain ⟨rfl, rfl, rfl⟩ := hcs
    exact ⟨[], rfl, Lies.nil, fun _ => rfl, Nat.le_refl _, Nat.zero_le _⟩
  · simp [Value.cells] at hcs
    obtain ⟨rfl, rfl, rfl⟩ := hcs
    have hle : len ≤ zs.length := by rw [hz]; split <;> omega
    have hlen : (zs.take len).length = len := by rw [List.length_take]; omega
    obtain ⟨bs, hbs⟩ := nums_ex (zs.take len) (fun d hd => by
      have w0 := hwf d (List.mem_of_mem_take hd)
      simpa [Lit.wf, IntKind.min, IntKind.max, IntKind.signed, IntKind.bits] using w0)
    have hbl : bs.length = len := by rw [← nums_length, hbs, hlen]
    refine ⟨bs, hbl, ?_, (fun e => by cases e), by omega, hm⟩
    rw [hbs]
    exact ints_lie hle hcell
theorem cG : Tryd.prog.cellsOf 68 = 2 := by kernel_rfl
theorem cGb : Tryd.prog.cellsOf 4 = 1 := by kernel_rfl
theorem open_gs {H : Type} {enc : TypeId × Value → H} {W : World} {sp : Nat → Bool} {A : Option Addr} {len cap : Nat} {d : DataW H} {p : List MemPlace}
    (h : DataW.Trod enc Tryd.prog W 0 sp true 63 (.slice A len cap) d p) : ∃ l : List (Int × Bool), l.length = len ∧ (∀ q ∈ l, 0 ≤ q.1 ∧ q.1 ≤ 255) ∧ LiesG W A l ∧ len ≤ cap ∧ (l.length : Int) ≤ 9223372036854775807 := by
  obtain ⟨fuel, hf⟩ := h
  rcases Go.Deep.open_slice_pairs Tryd.underlying63 Tryd.underlying68 cG rfl rfl cellsB cGb hf with ⟨hcs, _⟩ | ⟨a, ln, cp, m, n, V0, V1, D0, D1, P0, P1, hcs, _, hlc, hcm, hm, _, hx⟩
  · simp [Value.cells] at hcs
    obtain ⟨rfl, rfl, rfl⟩ := hcs
    exact ⟨[], rfl, fun _ h => by simp at h, fun i t n h => by simp at h, Nat.le_refl _, by simp⟩
  · simp [Value.cells] at hcs
    obtain ⟨rfl, rfl, rfl⟩ := hcs
    have hlm : len ≤ m := by rw [hm]; split <;> omega
    have each : ∀ i, i < len → ∃ t b, V0 i = .int .u8 t ∧ V1 i = .bool b ∧ (0 ≤ t ∧ t ≤ 255) := by
      intro i hi
      obtain ⟨_, _, h0, h1⟩ := hx i (by omega)
      obtain ⟨t, ht, _, wt⟩ := DataW.trod_int Tryd.underlying5 h0
      obtain ⟨k, hk, _⟩ := DataW.trod_bool Tryd.underlying4 h1
      simp only [List.cons.injEq, and_true] at ht hk
      exact ⟨t, k, ht, hk, wf8 wt⟩
    refine ⟨(List.range len).map fun i => (intOf (V0 i), boolOf (V1 i)), by simp, ?_, ?_, hlc, ?_⟩
    · intro q hq
      obtain ⟨i, hi, rfl⟩ := List.mem_map.1 hq
      obtain ⟨t, k, e0, e1, wt⟩ := each i (List.mem_range.1 hi)
      rw [e0, e1]
      exact wt
    · intro i t k hi
      have hil : i < len := by
        have := (List.getElem?_eq_some_iff.1 hi).1
        simpa using this
      obtain ⟨t', k', e0, e1, _⟩ := each i hil
      obtain ⟨c0, c1, _, _⟩ := hx i (by omega)
      rw [e0] at c0
      rw [e1] at c1
      simp only [List.getElem?_map, List.getElem?_range hil, Option.map_some, Option.some.injEq, Prod.mk.injEq, e0, e1, intOf, boolOf] at hi
      obtain ⟨rfl, rfl⟩ := hi
      obtain ⟨b, off, spot⟩ := a
      have hsp : spot = none := by
        have := World.cell?_spot (hx 0 (by omega)).1
        simpa [Addr.add] using this
      subst hsp
      rw [Go.WideShapes.add_plain] at c0 c1
      exact ⟨b, off, rfl, block_lt_of_cell c0, c0, c1⟩
    · simp only [List.length_map, List.length_range]
      have := hcm
      unfold maxLen at this
      omega
end Go.Proofs.YtebgmfjgapmpfaaDoor
