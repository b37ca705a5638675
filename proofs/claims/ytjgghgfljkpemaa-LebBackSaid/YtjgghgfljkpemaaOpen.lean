/- An argument that is a slice of bytes, opened. -/
import Derived.Test.YtjgghgfljkpemaaLawR
import Derived.ProofKit
import Derived.OpenShut
import Derived.ShutString
import Derived.ChangeOld
import Derived.Deep.Slices
namespace Go.Proofs.Ytjgghgfljkpemaa
open Go.ChangeShapes Go.WideShapes Go.ChangeAt Go.RowKit

theorem laidOut : laidOutB Try.prog = true := by kernel_rfl
theorem own : ownKnob Try.prog.godebug = none := by kernel_rfl
theorem cellsB : Try.prog.cellsOf 5 = 1 := by kernel_rfl

theorem open_bytes {H : Type} {enc : TypeId × Value → H} {W : World} {sp : Nat → Bool} {A : Option Addr} {len cap : Nat} {d : DataW H} {p : List MemPlace}
    (h : DataW.Trod enc Try.prog W 0 sp true 24 (.slice A len cap) d p) : ∃ r : List Int, r.length = len ∧ (∀ c ∈ r, 0 ≤ c ∧ c ≤ 255) ∧ Has W W.heap.size A cap r := by
  obtain ⟨fuel, hf⟩ := h
  rcases open_ints Try.underlying24 Try.underlying5 cellsB hf with ⟨hcs, _⟩ | ⟨a, l, c, zs, hcs, _, hl, hm, hz, _, hcell, hwf⟩
  · simp [Value.cells] at hcs
    obtain ⟨rfl, rfl, rfl⟩ := hcs
    exact ⟨[], rfl, by simp, ⟨Lies.nil, Nat.le_refl _, Nat.le_refl _, Nat.zero_le _⟩⟩
  · simp [Value.cells] at hcs
    obtain ⟨rfl, rfl, rfl⟩ := hcs
    have hle : len ≤ zs.length := by rw [hz]; split <;> omega
    have hlen : (zs.take len).length = len := by rw [List.length_take]; omega
    refine ⟨zs.take len, hlen, fun n hn => ?_, ⟨?_, Nat.le_refl _, by omega, hm⟩⟩
    · have w0 := hwf n (List.mem_of_mem_take hn)
      simpa [Lit.wf, IntKind.min, IntKind.max, IntKind.signed, IntKind.bits] using w0
    · intro i v hv
      have hi : i < len := by
        have := (List.getElem?_eq_some_iff.1 hv).1
        rw [cells_length, hlen] at this; exact this
      obtain ⟨b, off, spot⟩ := a
      have hsp : spot = none := by
        have h0 := hcell 0 (by omega)
        simpa [Addr.add] using World.cell?_spot h0
      subst hsp
      have hc := hcell i (by omega)
      rw [Go.WideShapes.add_plain] at hc
      refine ⟨b, off, rfl, block_lt_of_cell hc, ?_⟩
      rw [hc, ← hv]
      unfold cells
      rw [List.getElem?_map, List.getElem?_take, if_pos hi, List.getElem?_eq_getElem (by omega : i < zs.length)]
      simp [List.getD, List.getElem?_eq_getElem (by omega : i < zs.length)]
end Go.Proofs.Ytjgghgfljkpemaa
