/- An argument that is a slice of steps, opened. -/
import Derived.Test.YtmgihoogdkpjoaaEnd
import Derived.ProofKit
import Derived.OpenShut
import Derived.ShutString
import Derived.ChangeOld
import Derived.Deep.Slices
namespace Go.Proofs.Ytmgihoogdkpjoaa
open Go.ChangeShapes Go.WideShapes Go.ChangeAt Go.RowKit

theorem laidOut : laidOutB Try.prog = true := by kernel_rfl
theorem own : ownKnob Try.prog.godebug = none := by kernel_rfl
theorem cellsSt : Try.prog.cellsOf 47 = 3 := by kernel_rfl

/-- What the slices of steps that come in read as. -/
theorem open_cells {H : Type} {enc : TypeId × Value → H} {W : World} {sp : Nat → Bool} {fuel : Nat} {cs : List Value} {x : DataW H × List MemPlace}
    (hf : DataW.trod enc Try.prog W 0 sp true fuel 22 cs = some x) : ∃ A len cap, cs = [.slice A len cap] ∧ len ≤ cap ∧ cap ≤ maxLen ∧ ∃ l : List St, l.length = len ∧ Reads W W.heap.size A l := by
  rcases Go.Deep.open_slice Try.underlying22 hf with ⟨hcs, _⟩ | ⟨a, l, c, m, n, D, Pl, hcs, _, hl, hm, hmm, _, hx⟩
  · exact ⟨none, 0, 0, hcs, Nat.le_refl _, Nat.zero_le _, [], rfl, Reads.none_ rfl⟩
  · refine ⟨some a, l, c, hcs, hl, hm, ?_⟩
    obtain ⟨len, rfl⟩ : ∃ len, len = l := ⟨_, rfl⟩
    have hlm : len ≤ m := by rw [hmm]; split <;> omega
    rw [cellsSt] at hx
    have hone : ∀ i, i < len → ∃ s : St, W.cell? (a.add (i * 3)) = some (.int .i64 s.k) ∧ W.cell? (a.add (i * 3 + 1)) = some (.int .i64 s.c) ∧ W.cell? (a.add (i * 3 + 2)) = some (.int .i64 s.a) := by
      intro i hi
      obtain ⟨cs', hc, ht⟩ := hx i (by omega)
      obtain ⟨_, hlen, hat⟩ := World.cells?_some hc
      obtain ⟨ys, n', _, _, _, hys, hf⟩ := DataW.trod_struct Try.underlying47 ht
      match cs', hlen with
      | [v0, v1, v2], _ =>
        have g0 := hf 0 _ rfl
        have g1 := hf 1 _ rfl
        have g2 := hf 2 _ rfl
        have hc1 : Try.prog.cellsOf 3 = 1 := by kernel_rfl
        simp [hc1] at g0 g1 g2
        simp at hys
        match ys, hys with
        | [y0, y1, y2], _ =>
          simp at g0 g1 g2
          obtain ⟨k, e0, _⟩ := DataW.trod_int Try.underlying3 g0
          obtain ⟨c', e1, _⟩ := DataW.trod_int Try.underlying3 g1
          obtain ⟨a', e2, _⟩ := DataW.trod_int Try.underlying3 g2
          simp at e0 e1 e2
          have h0 := hat 0 (by decide)
          have h1 := hat 1 (by decide)
          have h2 := hat 2 (by decide)
          rw [Go.Deep.add_add] at h0 h1 h2
          refine ⟨⟨k, c', a'⟩, ?_, ?_, ?_⟩
          · rw [← e0]; exact h0
          · rw [← e1]; exact h1
          · rw [← e2]; exact h2
    obtain ⟨f, hfn⟩ : ∃ f : Nat → St, ∀ i, i < len → W.cell? (a.add (i * 3)) = some (.int .i64 (f i).k) ∧ W.cell? (a.add (i * 3 + 1)) = some (.int .i64 (f i).c) ∧ W.cell? (a.add (i * 3 + 2)) = some (.int .i64 (f i).a) := by
      refine ⟨fun i => if h : i < len then (hone i h).choose else ⟨0, 0, 0⟩, fun i hi => ?_⟩
      simp only [dif_pos hi]
      exact (hone i hi).choose_spec
    refine ⟨(List.range len).map f, by simp, ?_⟩
    intro i hi
    simp at hi
    obtain ⟨b, off, spot⟩ := a
    have hsp : spot = none := by
      have h0 := (hfn 0 (by omega)).1
      simpa [Addr.add] using World.cell?_spot h0
    subst hsp
    obtain ⟨h0, h1, h2⟩ := hfn i hi
    rw [Go.WideShapes.add_plain] at h0 h1 h2
    exact ⟨b, off, rfl, block_lt_of_cell h0, f i, by simp [hi], h0, by rw [Nat.add_assoc]; exact h1, by rw [Nat.add_assoc]; exact h2⟩

theorem open_steps {H : Type} {enc : TypeId × Value → H} {W : World} {sp : Nat → Bool} {A : Option Addr} {len cap : Nat} {d : DataW H} {p : List MemPlace}
    (h : DataW.Trod enc Try.prog W 0 sp true 22 (.slice A len cap) d p) : len ≤ cap ∧ cap ≤ maxLen ∧ ∃ l : List St, l.length = len ∧ Reads W W.heap.size A l := by
  obtain ⟨fuel, hf⟩ := h
  obtain ⟨A', len', cap', e, h1, h2, h3⟩ := open_cells hf
  simp [Value.cells] at e
  obtain ⟨rfl, rfl, rfl⟩ := e
  exact ⟨h1, h2, h3⟩
end Go.Proofs.Ytmgihoogdkpjoaa
