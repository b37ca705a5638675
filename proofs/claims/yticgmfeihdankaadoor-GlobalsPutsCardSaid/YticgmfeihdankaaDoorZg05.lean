/- An instruction by value, its labels, a slice of bytes: opened. -/
import Derived.Test.YticgmfeihdankaaDoorZg02
import Derived.Test.YticgmfeihdankaaDoorZg04
import Derived.ProofKit
import Derived.OpenShut
import Derived.ShutString
import Derived.ChangeOld
import Derived.Deep.Slices
import Derived.Lib.SmallJoins
import Derived.Test.YticgmfeihdankaaDoorZm01
import Derived.Test.YticgmfeihdankaaDoorZg01
import Derived.ChangeSame
import Derived.Deep.Fields
namespace Go.Proofs.YticgmfeihdankaaDoor
open Go.ChangeShapes Go.WideShapes Go.ChangeAt Go.RowKit Go.Joins
set_option linter.unusedVariables false
set_option maxRecDepth 100000

theorem cellsB : Tryd.prog.cellsOf 5 = 1 := by kernel_rfl
theorem cells4 : Tryd.prog.cellsOf 76 = 1 := by kernel_rfl
section
variable {H : Type} {enc : TypeId × Value → H} {W : World} {sp : Nat → Bool}
theorem ints_lie {k : IntKind} {a : Addr} {len : Nat} {zs : List Int} (hle : len ≤ zs.length) (hcell : ∀ i, i < zs.length → W.cell? (a.add i) = some (.int k (zs.getD i 0))) :
    ∀ j v, ((zs.take len).map (Value.int k))[j]? = some v → ∃ b off, some a = some (⟨b, off, none⟩ : Addr) ∧ b < W.heap.size ∧ W.cell? ⟨b, off + j, none⟩ = some v := by
  intro i v hv
  have hi : i < len := by
    have := (List.getElem?_eq_some_iff.1 hv).1
    rw [List.length_map, List.length_take] at this
    omega
  obtain ⟨b, off, spot⟩ := a
  have hsp : spot = none := by
    have h0 := hcell 0 (by omega)
    simpa [Addr.add] using World.cell?_spot h0
  subst hsp
  have hc := hcell i (by omega)
  rw [Go.WideShapes.add_plain] at hc
  refine ⟨b, off, rfl, block_lt_of_cell hc, ?_⟩
  rw [hc, ← hv, List.getElem?_map, List.getElem?_take, if_pos hi, List.getElem?_eq_getElem (by omega : i < zs.length)]
  simp [List.getD, List.getElem?_eq_getElem (by omega : i < zs.length)]
theorem open_labels {n : Nat} {v : Value} {y : DataW H × List MemPlace} (h : DataW.trod enc Tryd.prog W 0 sp true n 23 [v] = some y) :
    ∃ A c l, v = .slice A l.length c ∧ LiesL W A l ∧ (∀ d ∈ l, 0 ≤ d ∧ d ≤ 4294967295) ∧ (l.length : Int) ≤ 9223372036854775807 := by
  rcases open_ints Tryd.underlying23 Tryd.underlying76 cells4 h with ⟨hcs, _⟩ | ⟨a, l, c, zs, hcs, _, hl, hm, hz, _, hcell, hwf⟩
  · simp at hcs
    exact ⟨none, 0, [], hcs, fun j v hv => by simp [cells32] at hv, by simp, by simp⟩
  · simp at hcs
    subst hcs
    have hle : l ≤ zs.length := by rw [hz]; split <;> omega
    have hlen : (zs.take l).length = l := by rw [List.length_take]; omega
    unfold maxLen at hm
    refine ⟨some a, c, zs.take l, by rw [hlen], ints_lie hle hcell, fun d hd => ?_, by rw [hlen]; omega⟩
    have w0 := hwf d (List.mem_of_mem_take hd)
    simpa [Lit.wf, IntKind.min, IntKind.max, IntKind.signed, IntKind.bits] using w0
theorem nums_ex : ∀ r : List Int, (∀ c ∈ r, 0 ≤ c ∧ c ≤ 255) → ∃ l : List UInt8, nums l = r
  | [], _ => ⟨[], rfl⟩
  | c :: r, h => by
    obtain ⟨l, hl⟩ := nums_ex r (fun d hd => h d (List.mem_cons_of_mem _ hd))
    have hc := h c (by simp)
    refine ⟨UInt8.ofNat c.toNat :: l, ?_⟩
    unfold nums at hl ⊢
    rw [List.map_cons, hl, u8_of hc.1 hc.2]
theorem open_bytes {A : Option Addr} {len cap : Nat} {d : DataW H} {p : List MemPlace} (h : DataW.Trod enc Tryd.prog W 0 sp true 30 (.slice A len cap) d p) :
    ∃ l : List UInt8, l.length = len ∧ Lies W W.heap.size A (cells (nums l)) ∧ (A = none → cap = 0) ∧ (l.length : Int) ≤ 9223372036854775807 := by
  obtain ⟨fuel, hf⟩ := h
  rcases open_ints Tryd.underlying30 Tryd.underlying5 cellsB hf with ⟨hcs, _⟩ | ⟨a, l, c, zs, hcs, _, hl, hm, hz, _, hcell, hwf⟩
  · simp [Value.cells] at hcs
    obtain ⟨rfl, rfl, rfl⟩ := hcs
    exact ⟨[], rfl, Lies.nil, fun _ => rfl, by simp⟩
  · simp [Value.cells] at hcs
    obtain ⟨rfl, rfl, rfl⟩ := hcs
    have hle : len ≤ zs.length := by rw [hz]; split <;> omega
    have hlen : (zs.take len).length = len := by rw [List.length_take]; omega
    obtain ⟨bs, hbs⟩ := nums_ex (zs.take len) (fun d hd => by
      have w0 := hwf d (List.mem_of_mem_take hd)
      simpa [Lit.wf, IntKind.min, IntKind.max, IntKind.signed, IntKind.bits] using w0)
    have hbl : bs.length = len := by rw [← nums_length, hbs, hlen]
    unfold maxLen at hm
    refine ⟨bs, hbl, ?_, (fun e => by cases e), by rw [hbl]; omega⟩
    rw [hbs]
    exact ints_lie hle hcell
/-- The parts of an instruction. -/
theorem open_parts {n : Nat} {v0 v1 v2 v3 : Value} {y0 y1 y2 y3 : DataW H × List MemPlace}
    (h0 : DataW.trod enc Tryd.prog W 0 sp true n 5 [v0] = some y0) (h1 : DataW.trod enc Tryd.prog W 0 sp true n 22 [v1] = some y1) (h2 : DataW.trod enc Tryd.prog W 0 sp true n 22 [v2] = some y2) (h3 : DataW.trod enc Tryd.prog W 0 sp true n 23 [v3] = some y3) :
    ∃ (i : I) (A : Option Addr) (c : Nat), v0 = .int .u8 i.op.toNat ∧ v1 = .int .u64 i.a ∧ v2 = .int .u64 i.b ∧ v3 = .slice A i.l.length c ∧ i.Ok ∧ LiesL W A i.l ∧ (i.l.length : Int) ≤ 9223372036854775807 := by
  obtain ⟨x0, e0, _, w0⟩ := DataW.trod_int Tryd.underlying5 h0
  obtain ⟨x1, e1, _, w1⟩ := DataW.trod_int Tryd.underlying22 h1
  obtain ⟨x2, e2, _, w2⟩ := DataW.trod_int Tryd.underlying22 h2
  obtain ⟨A, c, l, e3, hl, hn, hm⟩ := open_labels h3
  simp only [List.cons.injEq, and_true] at e0 e1 e2
  have b0 : 0 ≤ x0 ∧ x0 ≤ 255 := by simpa [Lit.wf, IntKind.min, IntKind.max, IntKind.signed, IntKind.bits] using w0
  have b1 : 0 ≤ x1 ∧ x1 ≤ 18446744073709551615 := by simpa [Lit.wf, IntKind.min, IntKind.max, IntKind.signed, IntKind.bits] using w1
  have b2 : 0 ≤ x2 ∧ x2 ≤ 18446744073709551615 := by simpa [Lit.wf, IntKind.min, IntKind.max, IntKind.signed, IntKind.bits] using w2
  exact ⟨⟨UInt8.ofNat x0.toNat, x1, x2, l⟩, A, c, by rw [e0, u8_of b0.1 b0.2], e1, e2, e3, ⟨b1.1, b1.2, b2.1, b2.2, hn⟩, hl, hm⟩
theorem open_ins {b0 : Nat} {r : Reach} {v : Value} {d : DataW H} {p : List MemPlace} (hv : Value.okWide Tryd.prog W r b0 25 v) (h : DataW.Trod enc Tryd.prog W 0 sp true 25 v d p) :
    ∃ (i : I) (A : Option Addr) (c : Nat), v = insV i A c ∧ i.Ok ∧ LiesL W A i.l ∧ (i.l.length : Int) ≤ 9223372036854775807 := by
  obtain ⟨v0, v1, v2, v3, y0, y1, y2, y3, n, rfl, _, _, h0, h1, h2, h3⟩ := open_agg4 Tryd.underlying25 (by kernel_rfl) (by kernel_rfl) hv h
  obtain ⟨i, A, c, rfl, rfl, rfl, rfl, ho, hl, hn⟩ := open_parts h0 h1 h2 h3
  exact ⟨i, A, c, rfl, ho, hl, hn⟩
end
end Go.Proofs.YticgmfeihdankaaDoor

/- Numbers of eight and of thirty-two bits, opened. -/
namespace Go.Proofs.YticgmfeihdankaaDoor
set_option linter.unusedVariables false

theorem u8_ex {x : Int} (h : Lit.wf (.int .u8 x) = true) : ∃ a : UInt8, x = a.toNat := by
  have b : 0 ≤ x ∧ x ≤ 255 := by simpa [Lit.wf, IntKind.min, IntKind.max, IntKind.signed, IntKind.bits] using h
  exact ⟨UInt8.ofNat x.toNat, by rw [UInt8.toNat_ofNat']; omega⟩
theorem u32_ex {x : Int} (h : Lit.wf (.int .u32 x) = true) : ∃ a : UInt32, x = a.toNat := by
  have b : 0 ≤ x ∧ x ≤ 4294967295 := by simpa [Lit.wf, IntKind.min, IntKind.max, IntKind.signed, IntKind.bits] using h
  exact ⟨UInt32.ofNat x.toNat, by rw [UInt32.toNat_ofNat']; omega⟩
end Go.Proofs.YticgmfeihdankaaDoor

/- A global by value and a slice of globals, opened. -/
namespace Go.Proofs.YticgmfeihdankaaDoor
open Go.ChangeShapes Go.WideShapes Go.ChangeAt Go.RowKit Go.Joins Go.Deep
set_option linter.unusedVariables false
set_option maxRecDepth 100000

theorem cellsGl : Tryd.prog.cellsOf 103 = 6 := by kernel_rfl
/-- Its numbers are what their kinds hold. -/
def OkS (x : SlotG) : Prop := x.1.i.Ok ∧ (x.1.i.l.length : Int) ≤ 9223372036854775807
section
variable {H : Type} {enc : TypeId × Value → H} {W : World} {sp : Nat → Bool}
theorem open_gty {n : Nat} {c0 c1 : Value} {y : DataW H × List MemPlace} (h : DataW.trod enc Tryd.prog W 0 sp true n 89 [c0, c1] = some y) :
    ∃ (a : UInt8) (q : Bool), c0 = .int .u8 a.toNat ∧ c1 = .bool q := by
  obtain ⟨ys, m, _, hy, hlen, hyl, hf⟩ := DataW.trod_struct Tryd.underlying89 h
  match ys, hyl with
  | [y0, y1], _ =>
    have e1 : Tryd.prog.cellsOf 5 = 1 := by kernel_rfl
    have e2 : Tryd.prog.cellsOf 4 = 1 := by kernel_rfl
    have h0 : DataW.trod enc Tryd.prog W 0 sp true m 5 (([c0, c1].drop 0).take (Tryd.prog.cellsOf 5)) = some y0 := hf 0 _ rfl
    have h1 : DataW.trod enc Tryd.prog W 0 sp true m 4 (([c0, c1].drop 1).take (Tryd.prog.cellsOf 4)) = some y1 := hf 1 _ rfl
    rw [e1] at h0
    rw [e2] at h1
    obtain ⟨x0, q0, _, w0⟩ := DataW.trod_int Tryd.underlying5 h0
    obtain ⟨x1, q1, _⟩ := DataW.trod_bool Tryd.underlying4 h1
    obtain ⟨a, rfl⟩ := u8_ex w0
    exact ⟨a, x1, by simpa using q0, by simpa using q1⟩
/-- The four cells of an instruction. -/
theorem open_el {n : Nat} {c0 c1 c2 c3 : Value} {x : DataW H × List MemPlace} (h : DataW.trod enc Tryd.prog W 0 sp true n 25 [c0, c1, c2, c3] = some x) :
    ∃ (i : I) (B : Option Addr) (c : Nat), c0 = .int .u8 i.op.toNat ∧ c1 = .int .u64 i.a ∧ c2 = .int .u64 i.b ∧ c3 = .slice B i.l.length c ∧ i.Ok ∧ (i.l.length : Int) ≤ 9223372036854775807 := by
  obtain ⟨ys, m, _, hy, hlen, hyl, hf⟩ := DataW.trod_struct Tryd.underlying25 h
  match ys, hyl with
  | [y0, y1, y2, y3], _ =>
    have e1 : Tryd.prog.cellsOf 5 = 1 := by kernel_rfl
    have e2 : Tryd.prog.cellsOf 22 = 1 := by kernel_rfl
    have e3 : Tryd.prog.cellsOf 23 = 1 := by kernel_rfl
    have h0 : DataW.trod enc Tryd.prog W 0 sp true m 5 (([c0, c1, c2, c3].drop 0).take (Tryd.prog.cellsOf 5)) = some y0 := hf 0 _ rfl
    have h1 : DataW.trod enc Tryd.prog W 0 sp true m 22 (([c0, c1, c2, c3].drop 1).take (Tryd.prog.cellsOf 22)) = some y1 := hf 1 _ rfl
    have h2 : DataW.trod enc Tryd.prog W 0 sp true m 22 (([c0, c1, c2, c3].drop 2).take (Tryd.prog.cellsOf 22)) = some y2 := hf 2 _ rfl
    have h3 : DataW.trod enc Tryd.prog W 0 sp true m 23 (([c0, c1, c2, c3].drop 3).take (Tryd.prog.cellsOf 23)) = some y3 := hf 3 _ rfl
    rw [e1] at h0
    rw [e2] at h1 h2
    rw [e3] at h3
    obtain ⟨i, B, c, rfl, rfl, rfl, rfl, ho, _, hn⟩ := open_parts h0 h1 h2 h3
    exact ⟨i, B, c, rfl, rfl, rfl, rfl, ho, hn⟩
/-- Six cells of a global. -/
theorem open_six {n : Nat} {cs : List Value} {x : DataW H × List MemPlace} (h : DataW.trod enc Tryd.prog W 0 sp true n 103 cs = some x) (hc : cs.length = 6) : ∃ s : SlotG, cs = sL s ∧ OkS s := by
  obtain ⟨ys, m, _, hy, hlen, hyl, hf⟩ := DataW.trod_struct Tryd.underlying103 h
  match cs, hc with
  | [c0, c1, c2, c3, c4, c5], _ =>
    match ys, hyl with
    | [y0, y1], _ =>
      have e1 : Tryd.prog.cellsOf 89 = 2 := by kernel_rfl
      have e2 : Tryd.prog.cellsOf 25 = 4 := by kernel_rfl
      have h0 : DataW.trod enc Tryd.prog W 0 sp true m 89 (([c0, c1, c2, c3, c4, c5].drop 0).take (Tryd.prog.cellsOf 89)) = some y0 := hf 0 _ rfl
      have h1 : DataW.trod enc Tryd.prog W 0 sp true m 25 (([c0, c1, c2, c3, c4, c5].drop 2).take (Tryd.prog.cellsOf 25)) = some y1 := hf 1 _ rfl
      rw [e1] at h0
      rw [e2] at h1
      obtain ⟨t, g, r0, r1⟩ := open_gty h0
      obtain ⟨i, B, c, r2, r3, r4, r5, ho, hn⟩ := open_el h1
      exact ⟨(⟨t, g, i⟩, B, c), by unfold sL sC glC; rw [r0, r1, r2, r3, r4, r5], ho, hn⟩
theorem open_gl {b0 : Nat} {r : Reach} {v : Value} {d : DataW H} {p : List MemPlace} (hv : Value.okWide Tryd.prog W r b0 103 v) (h : DataW.Trod enc Tryd.prog W 0 sp true 103 v d p) :
    ∃ x : SlotG, v = sV x ∧ x.1.i.Ok ∧ (x.1.i.l.length : Int) ≤ 9223372036854775807 := by
  obtain ⟨cs, rfl, hsz⟩ := okWide_struct Tryd.underlying103 hv
  rw [cellsGl] at hsz
  obtain ⟨fuel, hf⟩ := h
  obtain ⟨i, hi, h1, h2⟩ := open_six (cs := cs.toList) (by simpa [Value.cells] using hf) (by simpa using hsz)
  exact ⟨i, by show Value.agg cs = .agg (sC i); congr 1; apply Array.toList_inj.1; exact hi, h1, h2⟩
end
end Go.Proofs.YticgmfeihdankaaDoor
