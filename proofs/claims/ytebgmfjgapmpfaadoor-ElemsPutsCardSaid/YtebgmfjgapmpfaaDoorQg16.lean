/- An element segment by value and a slice of segments, opened. -/
import Derived.Test.YtebgmfjgapmpfaaDoorQg15
import Derived.Test.YtebgmfjgapmpfaaDoorQg09
import Derived.ProofKit
import Derived.OpenShut
import Derived.ShutString
import Derived.ChangeOld
import Derived.ChangeSame
import Derived.Deep.Slices
import Derived.Deep.Fields
import Derived.Lib.SmallJoins
namespace Go.Proofs.YtebgmfjgapmpfaaDoor
open Go.ChangeShapes Go.WideShapes Go.ChangeAt Go.RowKit Go.Joins Go.Deep
set_option linter.unusedVariables false
set_option maxRecDepth 100000

theorem cellsElem : Tryd.prog.cellsOf 94 = 5 := by kernel_rfl
/-- Its numbers are what their kinds hold. -/
def OkE (x : SlotEl) : Prop := x.1.i.Ok ∧ (x.1.i.l.length : Int) ≤ 9223372036854775807 ∧ ∀ c ∈ x.1.fs, 0 ≤ c ∧ c ≤ 4294967295
section
variable {H : Type} {enc : TypeId × Value → H} {W : World} {sp : Nat → Bool}
/-- The four cells of an instruction. -/
theorem open_four {n : Nat} {c0 c1 c2 c3 : Value} {x : DataW H × List MemPlace} (h : DataW.trod enc Tryd.prog W 0 sp true n 25 [c0, c1, c2, c3] = some x) :
    ∃ (i : I) (B : Option Addr) (c : Nat), c0 = .int .u8 i.op.toNat ∧ c1 = .int .u64 i.a ∧ c2 = .int .u64 i.b ∧ c3 = .slice B i.l.length c ∧ i.Ok ∧ (i.l.length : Int) ≤ 9223372036854775807 := by
  obtain ⟨ys, m, _, hy, hlen, hyl, hf⟩ := DataW.trod_struct Tryd.underlying25 h
  match ys, hyl with
  | [y0, y1, y2, y3], _ =>
    have e1 : Tryd.prog.cellsOf 5 = 1 := by kernel_rfl
    have e2 : Tryd.prog.cellsOf 22 = 1 := by kernel_rfl
    have e3 : Tryd.prog.cellsOf 23 = 1 := by kernel_rfl
    have h0 : DataW.trod enc Tryd.prog W 0 sp true m 5 (([c0, c1, c2, c3].drop 0).take (Tryd.prog.cellsOf 5)) = some y0 := hf 0 _ rfl
    have h1 : DataW.trod enc Tryd.prog W 0 sp true m 22 (([c0, c1, c2, c3].drop 1).take (Tryd.prog.cellsOf 22)) = some y1 := hf 1 _ rfl
    have h2 : DataW.trod enc Tryd.prog W 0 sp true m 22 (([c0, c1, c2, c3].drop 2).take (Tryd.prog.cellsOf 22)) = some y2 := hf 2 _ rfl
    have h3 : DataW.trod enc Tryd.prog W 0 sp true m 23 (([c0, c1, c2, c3].drop 3).take (Tryd.prog.cellsOf 23)) = some y3 := hf 3 _ rfl
    rw [e1] at h0
    rw [e2] at h1 h2
    rw [e3] at h3
    obtain ⟨i, B, c, rfl, rfl, rfl, rfl, ho, _, hn⟩ := open_parts h0 h1 h2 h3
    exact ⟨i, B, c, rfl, rfl, rfl, rfl, ho, hn⟩
/-- Five cells of a segment. -/
theorem open_five {n : Nat} {cs : List Value} {x : DataW H × List MemPlace} (h : DataW.trod enc Tryd.prog W 0 sp true n 94 cs = some x) (hc : cs.length = 5) : ∃ s : SlotEl, cs = qL s ∧ OkE s ∧ LiesL W s.2.2.1 s.1.fs := by
  obtain ⟨ys, m, _, hy, hlen, hyl, hf⟩ := DataW.trod_struct Tryd.underlying94 h
  match cs, hc with
  | [c0, c1, c2, c3, c4], _ =>
    match ys, hyl with
    | [y0, y1], _ =>
      have e1 : Tryd.prog.cellsOf 25 = 4 := by kernel_rfl
      have e2 : Tryd.prog.cellsOf 23 = 1 := by kernel_rfl
      have h0 : DataW.trod enc Tryd.prog W 0 sp true m 25 (([c0, c1, c2, c3, c4].drop 0).take (Tryd.prog.cellsOf 25)) = some y0 := hf 0 _ rfl
      have h1 : DataW.trod enc Tryd.prog W 0 sp true m 23 (([c0, c1, c2, c3, c4].drop 4).take (Tryd.prog.cellsOf 23)) = some y1 := hf 1 _ rfl
      rw [e1] at h0
      rw [e2] at h1
      obtain ⟨i, B, c, r0, r1, r2, r3, ho, hn⟩ := open_four h0
      obtain ⟨F, f, fs, r4, hl, hb, _⟩ := open_labels h1
      exact ⟨(⟨i, fs⟩, (B, c), (F, f)), by unfold qL qC elC; rw [r0, r1, r2, r3, r4], ⟨ho, hn, hb⟩, hl⟩
theorem open_eseg {b0 : Nat} {r : Reach} {v : Value} {d : DataW H} {p : List MemPlace} (hv : Value.okWide Tryd.prog W r b0 94 v) (h : DataW.Trod enc Tryd.prog W 0 sp true 94 v d p) :
    ∃ x : SlotEl, v = qV x ∧ OkE x ∧ LiesL W x.2.2.1 x.1.fs := by
  obtain ⟨cs, rfl, hsz⟩ := okWide_struct Tryd.underlying94 hv
  rw [cellsElem] at hsz
  obtain ⟨fuel, hf⟩ := h
  obtain ⟨i, hi, h1, h2⟩ := open_five (cs := cs.toList) (by simpa [Value.cells] using hf) (by simpa using hsz)
  exact ⟨i, by show Value.agg cs = .agg (qC i); congr 1; apply Array.toList_inj.1; exact hi, h1, h2⟩
end
end Go.Proofs.YtebgmfjgapmpfaaDoor
