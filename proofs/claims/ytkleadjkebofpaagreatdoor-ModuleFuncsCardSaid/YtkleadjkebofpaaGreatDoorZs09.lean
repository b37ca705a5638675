/- An instruction by value, its labels, a slice of bytes: opened. -/
import Derived.Test.YtkleadjkebofpaaGreatDoorZs04
import Derived.Test.YtkleadjkebofpaaGreatDoorZs08
import Derived.ProofKit
import Derived.OpenShut
import Derived.ShutString
import Derived.ChangeOld
import Derived.Deep.Slices
import Derived.Lib.SmallJoins
import Derived.Test.YtkleadjkebofpaaGreatDoorZs01
import Derived.ChangeSame
import Derived.Deep.Fields
import Derived.Test.YtkleadjkebofpaaGreatDoorZs05
namespace Go.Proofs.YtkleadjkebofpaaGreatDoor
open Go.ChangeShapes Go.WideShapes Go.ChangeAt Go.RowKit Go.Joins
set_option linter.unusedVariables false
set_option maxRecDepth 100000

theorem cells4 : Tryz.prog.cellsOf 31 = 1 := by kernel_rfl
section
variable {H : Type} {enc : TypeId × Value → H} {W : World} {sp : Nat → Bool}
theorem ints_lie {k : IntKind} {a : Addr} {len : Nat} {zs : List Int} (hle : len ≤ zs.length) (hcell : ∀ i, i < zs.length → W.cell? (a.add i) = some (.int k (zs.getD i 0))) :
    ∀ j v, ((zs.take len).map (Value.int k))[j]? = some v → ∃ b off, some a = some (⟨b, off, none⟩ : Addr) ∧ b < W.heap.size ∧ W.cell? ⟨b, off + j, none⟩ = some v := by
  intro i v hv
  have hi : i < len := by
    have := (List.getElem?_eq_some_iff.1 hv).1
    rw [List.length_map, List.length_take] at this
    omega
  obtain ⟨b, off, spot⟩ := a
  have hsp : spot = none := by
    have h0 := hcell 0 (by omega)
    simpa [Addr.add] using World.cell?_spot h0
  subst hsp
  have hc := hcell i (by omega)
  rw [Go.WideShapes.add_plain] at hc
  refine ⟨b, off, rfl, block_lt_of_cell hc, ?_⟩
  rw [hc, ← hv, List.getElem?_map, List.getElem?_take, if_pos hi, List.getElem?_eq_getElem (by omega : i < zs.length)]
  simp [List.getD, List.getElem?_eq_getElem (by omega : i < zs.length)]
theorem open_labels {n : Nat} {v : Value} {y : DataW H × List MemPlace} (h : DataW.trod enc Tryz.prog W 0 sp true n 24 [v] = some y) :
    ∃ A c l, v = .slice A l.length c ∧ LiesL W A l ∧ (∀ d ∈ l, 0 ≤ d ∧ d ≤ 4294967295) ∧ (l.length : Int) ≤ 9223372036854775807 := by
  rcases open_ints Tryz.underlying24 Tryz.underlying31 cells4 h with ⟨hcs, _⟩ | ⟨a, l, c, zs, hcs, _, hl, hm, hz, _, hcell, hwf⟩
  · simp at hcs
    exact ⟨none, 0, [], hcs, fun j v hv => by simp [cells32] at hv, by simp, by simp⟩
  · simp at hcs
    subst hcs
    have hle : l ≤ zs.length := by rw [hz]; split <;> omega
    have hlen : (zs.take l).length = l := by rw [List.length_take]; omega
    unfold maxLen at hm
    refine ⟨some a, c, zs.take l, by rw [hlen], ints_lie hle hcell, fun d hd => ?_, by rw [hlen]; omega⟩
    have w0 := hwf d (List.mem_of_mem_take hd)
    simpa [Lit.wf, IntKind.min, IntKind.max, IntKind.signed, IntKind.bits] using w0
/-- The parts of an instruction. -/
theorem open_parts {n : Nat} {v0 v1 v2 v3 : Value} {y0 y1 y2 y3 : DataW H × List MemPlace}
    (h0 : DataW.trod enc Tryz.prog W 0 sp true n 5 [v0] = some y0) (h1 : DataW.trod enc Tryz.prog W 0 sp true n 43 [v1] = some y1) (h2 : DataW.trod enc Tryz.prog W 0 sp true n 43 [v2] = some y2) (h3 : DataW.trod enc Tryz.prog W 0 sp true n 24 [v3] = some y3) :
    ∃ (i : I) (A : Option Addr) (c : Nat), v0 = .int .u8 i.op.toNat ∧ v1 = .int .u64 i.a ∧ v2 = .int .u64 i.b ∧ v3 = .slice A i.l.length c ∧ i.Ok ∧ LiesL W A i.l ∧ (i.l.length : Int) ≤ 9223372036854775807 := by
  obtain ⟨x0, e0, _, w0⟩ := DataW.trod_int Tryz.underlying5 h0
  obtain ⟨x1, e1, _, w1⟩ := DataW.trod_int Tryz.underlying43 h1
  obtain ⟨x2, e2, _, w2⟩ := DataW.trod_int Tryz.underlying43 h2
  obtain ⟨A, c, l, e3, hl, hn, hm⟩ := open_labels h3
  simp only [List.cons.injEq, and_true] at e0 e1 e2
  have b0 : 0 ≤ x0 ∧ x0 ≤ 255 := by simpa [Lit.wf, IntKind.min, IntKind.max, IntKind.signed, IntKind.bits] using w0
  have b1 : 0 ≤ x1 ∧ x1 ≤ 18446744073709551615 := by simpa [Lit.wf, IntKind.min, IntKind.max, IntKind.signed, IntKind.bits] using w1
  have b2 : 0 ≤ x2 ∧ x2 ≤ 18446744073709551615 := by simpa [Lit.wf, IntKind.min, IntKind.max, IntKind.signed, IntKind.bits] using w2
  exact ⟨⟨UInt8.ofNat x0.toNat, x1, x2, l⟩, A, c, by rw [e0, u8_of b0.1 b0.2], e1, e2, e3, ⟨b1.1, b1.2, b2.1, b2.2, hn⟩, hl, hm⟩
end
end Go.Proofs.YtkleadjkebofpaaGreatDoor

/- Numbers of eight and of thirty-two bits, opened. -/
namespace Go.Proofs.YtkleadjkebofpaaGreatDoor
set_option linter.unusedVariables false

theorem u8_ex {x : Int} (h : Lit.wf (.int .u8 x) = true) : ∃ a : UInt8, x = a.toNat := by
  have b : 0 ≤ x ∧ x ≤ 255 := by simpa [Lit.wf, IntKind.min, IntKind.max, IntKind.signed, IntKind.bits] using h
  exact ⟨UInt8.ofNat x.toNat, by rw [UInt8.toNat_ofNat']; omega⟩
theorem u32_ex {x : Int} (h : Lit.wf (.int .u32 x) = true) : ∃ a : UInt32, x = a.toNat := by
  have b : 0 ≤ x ∧ x ≤ 4294967295 := by simpa [Lit.wf, IntKind.min, IntKind.max, IntKind.signed, IntKind.bits] using h
  exact ⟨UInt32.ofNat x.toNat, by rw [UInt32.toNat_ofNat']; omega⟩
end Go.Proofs.YtkleadjkebofpaaGreatDoor

/- An import by value and a slice of imports, opened. (By gen/genCards.py.) -/
namespace Go.Proofs.YtkleadjkebofpaaGreatDoor
open Go.ChangeShapes Go.WideShapes Go.ChangeAt Go.RowKit Go.Joins Go.Deep
set_option linter.unusedVariables false
set_option maxRecDepth 100000

theorem cellsImp : Tryz.prog.cellsOf 55 = 9 := by kernel_rfl
section
variable {H : Type} {enc : TypeId × Value → H} {W : World} {sp : Nat → Bool}
theorem open_lims {n : Nat} {c0 c1 c2 : Value} {y : DataW H × List MemPlace} (h : DataW.trod enc Tryz.prog W 0 sp true n 51 [c0, c1, c2] = some y) :
    ∃ (a b : UInt32) (q : Bool), c0 = .int .u32 a.toNat ∧ c1 = .int .u32 b.toNat ∧ c2 = .bool q := by
  obtain ⟨ys, m, _, hy, hlen, hyl, hf⟩ := DataW.trod_struct Tryz.underlying51 h
  match ys, hyl with
  | [y0, y1, y2], _ =>
    have e1 : Tryz.prog.cellsOf 31 = 1 := by kernel_rfl
    have e2 : Tryz.prog.cellsOf 4 = 1 := by kernel_rfl
    have h0 : DataW.trod enc Tryz.prog W 0 sp true m 31 (([c0, c1, c2].drop 0).take (Tryz.prog.cellsOf 31)) = some y0 := hf 0 _ rfl
    have h1 : DataW.trod enc Tryz.prog W 0 sp true m 31 (([c0, c1, c2].drop 1).take (Tryz.prog.cellsOf 31)) = some y1 := hf 1 _ rfl
    have h2 : DataW.trod enc Tryz.prog W 0 sp true m 4 (([c0, c1, c2].drop 2).take (Tryz.prog.cellsOf 4)) = some y2 := hf 2 _ rfl
    rw [e1] at h0 h1
    rw [e2] at h2
    obtain ⟨x0, q0, _, w0⟩ := DataW.trod_int Tryz.underlying31 h0
    obtain ⟨x1, q1, _, w1⟩ := DataW.trod_int Tryz.underlying31 h1
    obtain ⟨x2, q2, _⟩ := DataW.trod_bool Tryz.underlying4 h2
    obtain ⟨a, rfl⟩ := u32_ex w0
    obtain ⟨b, rfl⟩ := u32_ex w1
    exact ⟨a, b, x2, by simpa using q0, by simpa using q1, by simpa using q2⟩
theorem open_glob {n : Nat} {c0 c1 : Value} {y : DataW H × List MemPlace} (h : DataW.trod enc Tryz.prog W 0 sp true n 53 [c0, c1] = some y) :
    ∃ (a : UInt8) (q : Bool), c0 = .int .u8 a.toNat ∧ c1 = .bool q := by
  obtain ⟨ys, m, _, hy, hlen, hyl, hf⟩ := DataW.trod_struct Tryz.underlying53 h
  match ys, hyl with
  | [y0, y1], _ =>
    have e1 : Tryz.prog.cellsOf 5 = 1 := by kernel_rfl
    have e2 : Tryz.prog.cellsOf 4 = 1 := by kernel_rfl
    have h0 : DataW.trod enc Tryz.prog W 0 sp true m 5 (([c0, c1].drop 0).take (Tryz.prog.cellsOf 5)) = some y0 := hf 0 _ rfl
    have h1 : DataW.trod enc Tryz.prog W 0 sp true m 4 (([c0, c1].drop 1).take (Tryz.prog.cellsOf 4)) = some y1 := hf 1 _ rfl
    rw [e1] at h0
    rw [e2] at h1
    obtain ⟨x0, q0, _, w0⟩ := DataW.trod_int Tryz.underlying5 h0
    obtain ⟨x1, q1, _⟩ := DataW.trod_bool Tryz.underlying4 h1
    obtain ⟨a, rfl⟩ := u8_ex w0
    exact ⟨a, x1, by simpa using q0, by simpa using q1⟩
/-- Nine cells of an import. -/
theorem open_imp {n : Nat} {cs : List Value} {x : DataW H × List MemPlace} (h : DataW.trod enc Tryz.prog W 0 sp true n 55 cs = some x) (hc : cs.length = 9) : ∃ i : Im, cs = imL i := by
  obtain ⟨ys, m, _, hy, hlen, hyl, hf⟩ := DataW.trod_struct Tryz.underlying55 h
  match cs, hc with
  | [c0, c1, c2, c3, c4, c5, c6, c7, c8], _ =>
    match ys, hyl with
    | [y0, y1, y2, y3, y4, y5], _ =>
      have e1 : Tryz.prog.cellsOf 9 = 1 := by kernel_rfl
      have e2 : Tryz.prog.cellsOf 5 = 1 := by kernel_rfl
      have e3 : Tryz.prog.cellsOf 31 = 1 := by kernel_rfl
      have e4 : Tryz.prog.cellsOf 51 = 3 := by kernel_rfl
      have e5 : Tryz.prog.cellsOf 53 = 2 := by kernel_rfl
      have h0 : DataW.trod enc Tryz.prog W 0 sp true m 9 (([c0, c1, c2, c3, c4, c5, c6, c7, c8].drop 0).take (Tryz.prog.cellsOf 9)) = some y0 := hf 0 _ rfl
      have h1 : DataW.trod enc Tryz.prog W 0 sp true m 9 (([c0, c1, c2, c3, c4, c5, c6, c7, c8].drop 1).take (Tryz.prog.cellsOf 9)) = some y1 := hf 1 _ rfl
      have h2 : DataW.trod enc Tryz.prog W 0 sp true m 5 (([c0, c1, c2, c3, c4, c5, c6, c7, c8].drop 2).take (Tryz.prog.cellsOf 5)) = some y2 := hf 2 _ rfl
      have h3 : DataW.trod enc Tryz.prog W 0 sp true m 31 (([c0, c1, c2, c3, c4, c5, c6, c7, c8].drop 3).take (Tryz.prog.cellsOf 31)) = some y3 := hf 3 _ rfl
      have h4 : DataW.trod enc Tryz.prog W 0 sp true m 51 (([c0, c1, c2, c3, c4, c5, c6, c7, c8].drop 4).take (Tryz.prog.cellsOf 51)) = some y4 := hf 4 _ rfl
      have h5 : DataW.trod enc Tryz.prog W 0 sp true m 53 (([c0, c1, c2, c3, c4, c5, c6, c7, c8].drop 7).take (Tryz.prog.cellsOf 53)) = some y5 := hf 5 _ rfl
      rw [e1] at h0 h1
      rw [e2] at h2
      rw [e3] at h3
      rw [e4] at h4
      rw [e5] at h5
      obtain ⟨s0, q0, _, _⟩ := DataW.trod_string Tryz.underlying9 h0
      obtain ⟨s1, q1, _, _⟩ := DataW.trod_string Tryz.underlying9 h1
      obtain ⟨x2, q2, _, w2⟩ := DataW.trod_int Tryz.underlying5 h2
      obtain ⟨x3, q3, _, w3⟩ := DataW.trod_int Tryz.underlying31 h3
      obtain ⟨k, rfl⟩ := u8_ex w2
      obtain ⟨t, rfl⟩ := u32_ex w3
      obtain ⟨a, b, bd, r4, r5, r6⟩ := open_lims h4
      obtain ⟨g, gm, r7, r8⟩ := open_glob h5
      have q0' : c0 = .string s0 := by simpa using q0
      have q1' : c1 = .string s1 := by simpa using q1
      have q2' : c2 = .int .u8 k.toNat := by simpa using q2
      have q3' : c3 = .int .u32 t.toNat := by simpa using q3
      exact ⟨⟨s0.data.toList, s1.data.toList, k, t, a, b, bd, g, gm⟩, by unfold imL imC; rw [S_of, S_of, q0', q1', q2', q3', r4, r5, r6, r7, r8]⟩
end
end Go.Proofs.YtkleadjkebofpaaGreatDoor

/- An export by value and a slice of exports, opened. -/
namespace Go.Proofs.YtkleadjkebofpaaGreatDoor
open Go.ChangeShapes Go.WideShapes Go.ChangeAt Go.RowKit Go.Joins Go.Deep
set_option linter.unusedVariables false
set_option maxRecDepth 100000

theorem cellsExp : Tryz.prog.cellsOf 91 = 3 := by kernel_rfl
section
variable {H : Type} {enc : TypeId × Value → H} {W : World} {sp : Nat → Bool}
/-- Three cells of an export. -/
theorem open_exp {n : Nat} {cs : List Value} {x : DataW H × List MemPlace} (h : DataW.trod enc Tryz.prog W 0 sp true n 91 cs = some x) (hc : cs.length = 3) : ∃ i : Ex, cs = exL i ∧ i.nam.length ≤ maxLen := by
  obtain ⟨ys, m, _, hy, hlen, hyl, hf⟩ := DataW.trod_struct Tryz.underlying91 h
  match cs, hc with
  | [c0, c1, c2], _ =>
    match ys, hyl with
    | [y0, y1, y2], _ =>
      have e1 : Tryz.prog.cellsOf 9 = 1 := by kernel_rfl
      have e2 : Tryz.prog.cellsOf 5 = 1 := by kernel_rfl
      have e3 : Tryz.prog.cellsOf 31 = 1 := by kernel_rfl
      have h0 : DataW.trod enc Tryz.prog W 0 sp true m 9 (([c0, c1, c2].drop 0).take (Tryz.prog.cellsOf 9)) = some y0 := hf 0 _ rfl
      have h1 : DataW.trod enc Tryz.prog W 0 sp true m 5 (([c0, c1, c2].drop 1).take (Tryz.prog.cellsOf 5)) = some y1 := hf 1 _ rfl
      have h2 : DataW.trod enc Tryz.prog W 0 sp true m 31 (([c0, c1, c2].drop 2).take (Tryz.prog.cellsOf 31)) = some y2 := hf 2 _ rfl
      rw [e1] at h0
      rw [e2] at h1
      rw [e3] at h2
      obtain ⟨s0, q0, _, ws0⟩ := DataW.trod_string Tryz.underlying9 h0
      obtain ⟨x1, q1, _, w1⟩ := DataW.trod_int Tryz.underlying5 h1
      obtain ⟨x2, q2, _, w2⟩ := DataW.trod_int Tryz.underlying31 h2
      obtain ⟨k, rfl⟩ := u8_ex w1
      obtain ⟨t, rfl⟩ := u32_ex w2
      have q0' : c0 = .string s0 := by simpa using q0
      have q1' : c1 = .int .u8 k.toNat := by simpa using q1
      have q2' : c2 = .int .u32 t.toNat := by simpa using q2
      exact ⟨⟨s0.data.toList, k, t⟩, by unfold exL exC; rw [S_of, q0', q1', q2'], by show s0.data.toList.length ≤ maxLen; rw [Array.length_toList]; exact ws0⟩
end
end Go.Proofs.YtkleadjkebofpaaGreatDoor

/- globals.PutAll. -/
namespace Go.Proofs.YtkleadjkebofpaaGreatDoor
open Go.RowKit
set_option linter.unusedVariables false
set_option maxRecDepth 100000

end Go.Proofs.YtkleadjkebofpaaGreatDoor

/- A global by value and a slice of globals, opened. -/
namespace Go.Proofs.YtkleadjkebofpaaGreatDoor
open Go.ChangeShapes Go.WideShapes Go.ChangeAt Go.RowKit Go.Joins Go.Deep
set_option linter.unusedVariables false
set_option maxRecDepth 100000

theorem cellsGl : Tryz.prog.cellsOf 87 = 6 := by kernel_rfl
/-- Its numbers are what their kinds hold. -/
def OkS (x : SlotG) : Prop := x.1.i.Ok ∧ (x.1.i.l.length : Int) ≤ 9223372036854775807
section
variable {H : Type} {enc : TypeId × Value → H} {W : World} {sp : Nat → Bool}
theorem open_gty {n : Nat} {c0 c1 : Value} {y : DataW H × List MemPlace} (h : DataW.trod enc Tryz.prog W 0 sp true n 53 [c0, c1] = some y) :
    ∃ (a : UInt8) (q : Bool), c0 = .int .u8 a.toNat ∧ c1 = .bool q := by
  obtain ⟨ys, m, _, hy, hlen, hyl, hf⟩ := DataW.trod_struct Tryz.underlying53 h
  match ys, hyl with
  | [y0, y1], _ =>
    have e1 : Tryz.prog.cellsOf 5 = 1 := by kernel_rfl
    have e2 : Tryz.prog.cellsOf 4 = 1 := by kernel_rfl
    have h0 : DataW.trod enc Tryz.prog W 0 sp true m 5 (([c0, c1].drop 0).take (Tryz.prog.cellsOf 5)) = some y0 := hf 0 _ rfl
    have h1 : DataW.trod enc Tryz.prog W 0 sp true m 4 (([c0, c1].drop 1).take (Tryz.prog.cellsOf 4)) = some y1 := hf 1 _ rfl
    rw [e1] at h0
    rw [e2] at h1
    obtain ⟨x0, q0, _, w0⟩ := DataW.trod_int Tryz.underlying5 h0
    obtain ⟨x1, q1, _⟩ := DataW.trod_bool Tryz.underlying4 h1
    obtain ⟨a, rfl⟩ := u8_ex w0
    exact ⟨a, x1, by simpa using q0, by simpa using q1⟩
/-- The four cells of an instruction. -/
theorem open_el {n : Nat} {c0 c1 c2 c3 : Value} {x : DataW H × List MemPlace} (h : DataW.trod enc Tryz.prog W 0 sp true n 85 [c0, c1, c2, c3] = some x) :
    ∃ (i : I) (B : Option Addr) (c : Nat), c0 = .int .u8 i.op.toNat ∧ c1 = .int .u64 i.a ∧ c2 = .int .u64 i.b ∧ c3 = .slice B i.l.length c ∧ i.Ok ∧ (i.l.length : Int) ≤ 9223372036854775807 := by
  obtain ⟨ys, m, _, hy, hlen, hyl, hf⟩ := DataW.trod_struct Tryz.underlying85 h
  match ys, hyl with
  | [y0, y1, y2, y3], _ =>
    have e1 : Tryz.prog.cellsOf 5 = 1 := by kernel_rfl
    have e2 : Tryz.prog.cellsOf 43 = 1 := by kernel_rfl
    have e3 : Tryz.prog.cellsOf 24 = 1 := by kernel_rfl
    have h0 : DataW.trod enc Tryz.prog W 0 sp true m 5 (([c0, c1, c2, c3].drop 0).take (Tryz.prog.cellsOf 5)) = some y0 := hf 0 _ rfl
    have h1 : DataW.trod enc Tryz.prog W 0 sp true m 43 (([c0, c1, c2, c3].drop 1).take (Tryz.prog.cellsOf 43)) = some y1 := hf 1 _ rfl
    have h2 : DataW.trod enc Tryz.prog W 0 sp true m 43 (([c0, c1, c2, c3].drop 2).take (Tryz.prog.cellsOf 43)) = some y2 := hf 2 _ rfl
    have h3 : DataW.trod enc Tryz.prog W 0 sp true m 24 (([c0, c1, c2, c3].drop 3).take (Tryz.prog.cellsOf 24)) = some y3 := hf 3 _ rfl
    rw [e1] at h0
    rw [e2] at h1 h2
    rw [e3] at h3
    obtain ⟨i, B, c, rfl, rfl, rfl, rfl, ho, _, hn⟩ := open_parts h0 h1 h2 h3
    exact ⟨i, B, c, rfl, rfl, rfl, rfl, ho, hn⟩
/-- Six cells of a global. -/
theorem open_six {n : Nat} {cs : List Value} {x : DataW H × List MemPlace} (h : DataW.trod enc Tryz.prog W 0 sp true n 87 cs = some x) (hc : cs.length = 6) : ∃ s : SlotG, cs = sL s ∧ OkS s := by
  obtain ⟨ys, m, _, hy, hlen, hyl, hf⟩ := DataW.trod_struct Tryz.underlying87 h
  match cs, hc with
  | [c0, c1, c2, c3, c4, c5], _ =>
    match ys, hyl with
    | [y0, y1], _ =>
      have e1 : Tryz.prog.cellsOf 53 = 2 := by kernel_rfl
      have e2 : Tryz.prog.cellsOf 85 = 4 := by kernel_rfl
      have h0 : DataW.trod enc Tryz.prog W 0 sp true m 53 (([c0, c1, c2, c3, c4, c5].drop 0).take (Tryz.prog.cellsOf 53)) = some y0 := hf 0 _ rfl
      have h1 : DataW.trod enc Tryz.prog W 0 sp true m 85 (([c0, c1, c2, c3, c4, c5].drop 2).take (Tryz.prog.cellsOf 85)) = some y1 := hf 1 _ rfl
      rw [e1] at h0
      rw [e2] at h1
      obtain ⟨t, g, r0, r1⟩ := open_gty h0
      obtain ⟨i, B, c, r2, r3, r4, r5, ho, hn⟩ := open_el h1
      exact ⟨(⟨t, g, i⟩, B, c), by unfold sL sC glC; rw [r0, r1, r2, r3, r4, r5], ho, hn⟩
end
end Go.Proofs.YtkleadjkebofpaaGreatDoor

/- elems.PutAll. -/
namespace Go.Proofs.YtkleadjkebofpaaGreatDoor
open Go.RowKit
set_option linter.unusedVariables false
set_option maxRecDepth 100000

end Go.Proofs.YtkleadjkebofpaaGreatDoor

/- An element segment by value and a slice of segments, opened. -/
namespace Go.Proofs.YtkleadjkebofpaaGreatDoor
open Go.ChangeShapes Go.WideShapes Go.ChangeAt Go.RowKit Go.Joins Go.Deep
set_option linter.unusedVariables false
set_option maxRecDepth 100000

theorem cellsElem : Tryz.prog.cellsOf 96 = 5 := by kernel_rfl
/-- Its numbers are what their kinds hold. -/
def OkE (x : SlotEl) : Prop := x.1.i.Ok ∧ (x.1.i.l.length : Int) ≤ 9223372036854775807 ∧ ∀ c ∈ x.1.fs, 0 ≤ c ∧ c ≤ 4294967295
section
variable {H : Type} {enc : TypeId × Value → H} {W : World} {sp : Nat → Bool}
/-- The four cells of an instruction. -/
theorem open_four {n : Nat} {c0 c1 c2 c3 : Value} {x : DataW H × List MemPlace} (h : DataW.trod enc Tryz.prog W 0 sp true n 85 [c0, c1, c2, c3] = some x) :
    ∃ (i : I) (B : Option Addr) (c : Nat), c0 = .int .u8 i.op.toNat ∧ c1 = .int .u64 i.a ∧ c2 = .int .u64 i.b ∧ c3 = .slice B i.l.length c ∧ i.Ok ∧ (i.l.length : Int) ≤ 9223372036854775807 := by
  obtain ⟨ys, m, _, hy, hlen, hyl, hf⟩ := DataW.trod_struct Tryz.underlying85 h
  match ys, hyl with
  | [y0, y1, y2, y3], _ =>
    have e1 : Tryz.prog.cellsOf 5 = 1 := by kernel_rfl
    have e2 : Tryz.prog.cellsOf 43 = 1 := by kernel_rfl
    have e3 : Tryz.prog.cellsOf 24 = 1 := by kernel_rfl
    have h0 : DataW.trod enc Tryz.prog W 0 sp true m 5 (([c0, c1, c2, c3].drop 0).take (Tryz.prog.cellsOf 5)) = some y0 := hf 0 _ rfl
    have h1 : DataW.trod enc Tryz.prog W 0 sp true m 43 (([c0, c1, c2, c3].drop 1).take (Tryz.prog.cellsOf 43)) = some y1 := hf 1 _ rfl
    have h2 : DataW.trod enc Tryz.prog W 0 sp true m 43 (([c0, c1, c2, c3].drop 2).take (Tryz.prog.cellsOf 43)) = some y2 := hf 2 _ rfl
    have h3 : DataW.trod enc Tryz.prog W 0 sp true m 24 (([c0, c1, c2, c3].drop 3).take (Tryz.prog.cellsOf 24)) = some y3 := hf 3 _ rfl
    rw [e1] at h0
    rw [e2] at h1 h2
    rw [e3] at h3
    obtain ⟨i, B, c, rfl, rfl, rfl, rfl, ho, _, hn⟩ := open_parts h0 h1 h2 h3
    exact ⟨i, B, c, rfl, rfl, rfl, rfl, ho, hn⟩
/-- Five cells of a segment. -/
theorem open_five {n : Nat} {cs : List Value} {x : DataW H × List MemPlace} (h : DataW.trod enc Tryz.prog W 0 sp true n 96 cs = some x) (hc : cs.length = 5) : ∃ s : SlotEl, cs = qL s ∧ OkE s ∧ LiesL W s.2.2.1 s.1.fs := by
  obtain ⟨ys, m, _, hy, hlen, hyl, hf⟩ := DataW.trod_struct Tryz.underlying96 h
  match cs, hc with
  | [c0, c1, c2, c3, c4], _ =>
    match ys, hyl with
    | [y0, y1], _ =>
      have e1 : Tryz.prog.cellsOf 85 = 4 := by kernel_rfl
      have e2 : Tryz.prog.cellsOf 24 = 1 := by kernel_rfl
      have h0 : DataW.trod enc Tryz.prog W 0 sp true m 85 (([c0, c1, c2, c3, c4].drop 0).take (Tryz.prog.cellsOf 85)) = some y0 := hf 0 _ rfl
      have h1 : DataW.trod enc Tryz.prog W 0 sp true m 24 (([c0, c1, c2, c3, c4].drop 4).take (Tryz.prog.cellsOf 24)) = some y1 := hf 1 _ rfl
      rw [e1] at h0
      rw [e2] at h1
      obtain ⟨i, B, c, r0, r1, r2, r3, ho, hn⟩ := open_four h0
      obtain ⟨F, f, fs, r4, hl, hb, _⟩ := open_labels h1
      exact ⟨(⟨i, fs⟩, (B, c), (F, f)), by unfold qL qC elC; rw [r0, r1, r2, r3, r4], ⟨ho, hn, hb⟩, hl⟩
end
end Go.Proofs.YtkleadjkebofpaaGreatDoor

/- A slice of instructions, opened. -/
namespace Go.Proofs.YtkleadjkebofpaaGreatDoor
open Go.ChangeShapes Go.WideShapes Go.ChangeAt Go.RowKit Go.Joins Go.Deep
set_option linter.unusedVariables false
set_option maxRecDepth 100000

theorem cellsI : Tryz.prog.cellsOf 85 = 4 := by kernel_rfl
section
variable {H : Type} {enc : TypeId × Value → H} {W : World} {sp : Nat → Bool}
/-- One element: its four cells, each with its reading. -/
theorem open_elem {n : Nat} {cs : List Value} {x : DataW H × List MemPlace} (h : DataW.trod enc Tryz.prog W 0 sp true n 85 cs = some x) (hc : cs.length = 4) :
    ∃ (i : I) (B : Option Addr) (c : Nat), cs = [.int .u8 i.op.toNat, .int .u64 i.a, .int .u64 i.b, .slice B i.l.length c] ∧ i.Ok ∧ LiesL W B i.l ∧ (i.l.length : Int) ≤ 9223372036854775807 := by
  obtain ⟨ys, m, _, hy, hlen, hyl, hf⟩ := DataW.trod_struct Tryz.underlying85 h
  match cs, hc with
  | [c0, c1, c2, c3], _ =>
    match ys, hyl with
    | [y0, y1, y2, y3], _ =>
      have e1 : Tryz.prog.cellsOf 5 = 1 := by kernel_rfl
      have e2 : Tryz.prog.cellsOf 43 = 1 := by kernel_rfl
      have e3 : Tryz.prog.cellsOf 24 = 1 := by kernel_rfl
      have h0 : DataW.trod enc Tryz.prog W 0 sp true m 5 (([c0, c1, c2, c3].drop 0).take (Tryz.prog.cellsOf 5)) = some y0 := hf 0 _ rfl
      have h1 : DataW.trod enc Tryz.prog W 0 sp true m 43 (([c0, c1, c2, c3].drop 1).take (Tryz.prog.cellsOf 43)) = some y1 := hf 1 _ rfl
      have h2 : DataW.trod enc Tryz.prog W 0 sp true m 43 (([c0, c1, c2, c3].drop 2).take (Tryz.prog.cellsOf 43)) = some y2 := hf 2 _ rfl
      have h3 : DataW.trod enc Tryz.prog W 0 sp true m 24 (([c0, c1, c2, c3].drop 3).take (Tryz.prog.cellsOf 24)) = some y3 := hf 3 _ rfl
      rw [e1] at h0
      rw [e2] at h1 h2
      rw [e3] at h3
      obtain ⟨i, B, c, rfl, rfl, rfl, rfl, ho, hl, hn⟩ := open_parts h0 h1 h2 h3
      exact ⟨i, B, c, rfl, ho, hl, hn⟩
theorem open_list {A : Option Addr} {len cap : Nat} {d : DataW H} {p : List MemPlace} (h : DataW.Trod enc Tryz.prog W 0 sp true 100 (.slice A len cap) d p) :
    ∃ l : List I, l.length = len ∧ (Ins W A l ∧ ∀ i ∈ l, i.Ok ∧ (i.l.length : Int) ≤ 9223372036854775807) ∧ (l.length : Int) ≤ 9223372036854775807 := by
  obtain ⟨fuel, hf⟩ := h
  rcases open_slice Tryz.underlying100 hf with ⟨hcs, _⟩ | ⟨a, ln, cp, m, n, D, Pl, hcs, hb, hl, hm, hmm, hx, hi⟩
  · simp [Value.cells] at hcs
    obtain ⟨rfl, rfl, rfl⟩ := hcs
    exact ⟨[], rfl, ⟨(fun j i hi => by cases hi), (fun i hi => by cases hi)⟩, by simp⟩
  · simp [Value.cells] at hcs
    obtain ⟨rfl, rfl, rfl⟩ := hcs
    have hlm : len ≤ m := by rw [hmm]; split <;> omega
    have each : ∀ j, j < len → ∃ (i : I) (B : Option Addr) (c : Nat), (W.cell? (a.add (j * 4)) = some (.int .u8 i.op.toNat) ∧ W.cell? ((a.add (j * 4)).add 1) = some (.int .u64 i.a) ∧ W.cell? ((a.add (j * 4)).add 2) = some (.int .u64 i.b) ∧ W.cell? ((a.add (j * 4)).add 3) = some (.slice B i.l.length c)) ∧ i.Ok ∧ LiesL W B i.l ∧ (i.l.length : Int) ≤ 9223372036854775807 := by
      intro j hj
      obtain ⟨cs', hc, ht'⟩ := hi j (by omega)
      rw [cellsI] at hc
      obtain ⟨_, hcl, hat⟩ := World.cells?_some hc
      obtain ⟨i, B, c, rfl, ho, hli, hn⟩ := open_elem ht' hcl
      have q0 := hat 0 (by omega)
      have q1 := hat 1 (by omega)
      have q2 := hat 2 (by omega)
      have q3 := hat 3 (by omega)
      exact ⟨i, B, c, ⟨by simpa [Addr.add] using q0, q1, q2, q3⟩, ho, hli, hn⟩
    have pick : ∀ k, k ≤ len → ∃ l : List I, l.length = k ∧ ∀ j i, l[j]? = some i → ∃ (B : Option Addr) (c : Nat), (W.cell? (a.add (j * 4)) = some (.int .u8 i.op.toNat) ∧ W.cell? ((a.add (j * 4)).add 1) = some (.int .u64 i.a) ∧ W.cell? ((a.add (j * 4)).add 2) = some (.int .u64 i.b) ∧ W.cell? ((a.add (j * 4)).add 3) = some (.slice B i.l.length c)) ∧ i.Ok ∧ LiesL W B i.l ∧ (i.l.length : Int) ≤ 9223372036854775807 := by
      intro k
      induction k with
      | zero => intro _; exact ⟨[], rfl, fun j i hi => by cases hi⟩
      | succ k ih =>
        intro hk
        obtain ⟨l, hl1, hl2⟩ := ih (by omega)
        obtain ⟨i, B, c, hq⟩ := each k (by omega)
        refine ⟨l ++ [i], by simp [hl1], fun j i' hi' => ?_⟩
        rcases Nat.lt_or_ge j k with g | g
        · rw [List.getElem?_append_left (by omega)] at hi'
          exact hl2 j i' hi'
        · have hj : j < (l ++ [i]).length := (List.getElem?_eq_some_iff.1 hi').1
          rw [List.length_append, List.length_singleton] at hj
          obtain rfl : j = k := by omega
          rw [List.getElem?_append_right (by omega), hl1, Nat.sub_self] at hi'
          injection hi' with hi'
          subst hi'
          exact ⟨B, c, hq⟩
    obtain ⟨l, hl1, hl2⟩ := pick len (Nat.le_refl _)
    unfold maxLen at hm
    refine ⟨l, hl1, ⟨fun j i hij => ?_, fun i him => ?_⟩, by omega⟩
    · obtain ⟨B, c, ⟨q0, q1, q2, q3⟩, _, hli, _⟩ := hl2 j i hij
      have hj0 := (List.getElem?_eq_some_iff.1 hij).1
      obtain ⟨_, _, ⟨q00, _, _, _⟩, _⟩ := hl2 0 _ (List.getElem?_eq_getElem (by omega : 0 < l.length))
      obtain ⟨b, off, spot⟩ := a
      have hsp : spot = none := by simpa [Addr.add] using World.cell?_spot q00
      subst hsp
      rw [Go.WideShapes.add_plain] at q0 q1 q2 q3
      rw [Go.WideShapes.add_plain] at q1 q2 q3
      exact ⟨b, off, B, c, rfl, block_lt_of_cell q0, ⟨q0, q1, q2, q3⟩, hli⟩
    · obtain ⟨j, hj⟩ := List.getElem?_of_mem him
      obtain ⟨B, c, _, ho, _, hn⟩ := hl2 j i hj
      exact ⟨ho, hn⟩
end
end Go.Proofs.YtkleadjkebofpaaGreatDoor

/- Groups of locals, a body by value, a slice of bodies: opened. (By gen/genOpen.py.) -/
namespace Go.Proofs.YtkleadjkebofpaaGreatDoor
open Go.ChangeShapes Go.WideShapes Go.ChangeAt Go.RowKit Go.Joins Go.Deep
set_option linter.unusedVariables false
set_option maxRecDepth 100000

theorem cellsLoc : Tryz.prog.cellsOf 160 = 2 := by kernel_rfl
theorem cellsCode : Tryz.prog.cellsOf 102 = 2 := by kernel_rfl
/-- The numbers of its instructions are what their kinds hold. -/
def OkB (x : SlotBd) : Prop := (∀ i ∈ x.1.b, i.Ok ∧ (i.l.length : Int) ≤ 9223372036854775807) ∧ (x.1.b.length : Int) ≤ 9223372036854775807 ∧ (x.1.ls.length : Int) ≤ 9223372036854775807
section
variable {H : Type} {enc : TypeId × Value → H} {W : World} {sp : Nat → Bool}
theorem open_lo {n : Nat} {cs : List Value} {y : DataW H × List MemPlace} (h : DataW.trod enc Tryz.prog W 0 sp true n 160 cs = some y) (hc : cs.length = 2) : ∃ x : Lo, cs = loL x := by
  obtain ⟨ys, m, _, hy, hlen, hyl, hf⟩ := DataW.trod_struct Tryz.underlying160 h
  match cs, hc with
  | [c0, c1], _ =>
    match ys, hyl with
    | [y0, y1], _ =>
      have e1 : Tryz.prog.cellsOf 31 = 1 := by kernel_rfl
      have e2 : Tryz.prog.cellsOf 5 = 1 := by kernel_rfl
      have h0 : DataW.trod enc Tryz.prog W 0 sp true m 31 (([c0, c1].drop 0).take (Tryz.prog.cellsOf 31)) = some y0 := hf 0 _ rfl
      have h1 : DataW.trod enc Tryz.prog W 0 sp true m 5 (([c0, c1].drop 1).take (Tryz.prog.cellsOf 5)) = some y1 := hf 1 _ rfl
      rw [e1] at h0
      rw [e2] at h1
      obtain ⟨x0, q0, _, w0⟩ := DataW.trod_int Tryz.underlying31 h0
      obtain ⟨x1, q1, _, w1⟩ := DataW.trod_int Tryz.underlying5 h1
      obtain ⟨a, rfl⟩ := u32_ex w0
      obtain ⟨b, rfl⟩ := u8_ex w1
      have q0' : c0 = .int .u32 a.toNat := by simpa using q0
      have q1' : c1 = .int .u8 b.toNat := by simpa using q1
      exact ⟨⟨a, b⟩, by unfold loL; rw [q0', q1']⟩
theorem open_locs {A : Option Addr} {len cap : Nat} {d : DataW H} {p : List MemPlace} (h : DataW.Trod enc Tryz.prog W 0 sp true 99 (.slice A len cap) d p) :
    ∃ l : List Lo, l.length = len ∧ Los W A l ∧ (l.length : Int) ≤ 9223372036854775807 := by
  obtain ⟨fuel, hf⟩ := h
  rcases open_slice Tryz.underlying99 hf with ⟨hcs, _⟩ | ⟨a, ln, cp, m, n, D, Pl, hcs, hb, hl, hm, hmm, hx, hi⟩
  · simp [Value.cells] at hcs
    obtain ⟨rfl, rfl, rfl⟩ := hcs
    exact ⟨[], rfl, (fun j i hi => by cases hi), by simp⟩
  · simp [Value.cells] at hcs
    obtain ⟨rfl, rfl, rfl⟩ := hcs
    have hlm : len ≤ m := by rw [hmm]; split <;> omega
    have each : ∀ j, j < len → ∃ i : Lo, ∀ u, u < 2 → W.cell? ((a.add (j * 2)).add u) = (loL i)[u]? := by
      intro j hj
      obtain ⟨cs', hc, ht'⟩ := hi j (by omega)
      rw [cellsLoc] at hc
      obtain ⟨_, hcl, hat⟩ := World.cells?_some hc
      obtain ⟨i, rfl⟩ := open_lo ht' hcl
      exact ⟨i, fun u hu => hat u (by omega)⟩
    have pick : ∀ k, k ≤ len → ∃ l : List Lo, l.length = k ∧ (∀ (j : Nat) (i : Lo), l[j]? = some i → ∀ u, u < 2 → W.cell? ((a.add (j * 2)).add u) = (loL i)[u]?) := by
      intro k
      induction k with
      | zero => intro _; exact ⟨[], rfl, (fun j i hi => by cases hi)⟩
      | succ k ih =>
        intro hk
        obtain ⟨l, hl1, hl2⟩ := ih (by omega)
        obtain ⟨i, hq⟩ := each k (by omega)
        refine ⟨l ++ [i], by simp [hl1], fun j i' hi' => ?_⟩
        rcases Nat.lt_or_ge j k with g | g
        · rw [List.getElem?_append_left (by omega)] at hi'
          exact hl2 j i' hi'
        · have hj : j < (l ++ [i]).length := (List.getElem?_eq_some_iff.1 hi').1
          rw [List.length_append, List.length_singleton] at hj
          obtain rfl : j = k := by omega
          rw [List.getElem?_append_right (by omega), hl1, Nat.sub_self] at hi'
          injection hi' with hi'
          subst hi'
          exact hq
    obtain ⟨l, hl1, hl2⟩ := pick len (Nat.le_refl _)
    unfold maxLen at hm
    refine ⟨l, hl1, fun j i hij => ?_, by omega⟩
    have q := hl2 j i hij
    have hj0 := (List.getElem?_eq_some_iff.1 hij).1
    have q00 : W.cell? ((a.add (0 * 2)).add 0) = some (.int .u32 (l[0]'(by omega)).n.toNat) := hl2 0 _ (List.getElem?_eq_getElem (by omega : 0 < l.length)) 0 (by omega)
    obtain ⟨b, off, spot⟩ := a
    have hsp : spot = none := by simpa [Addr.add] using World.cell?_spot q00
    subst hsp
    have q2 : ∀ u, u < 2 → W.cell? ⟨b, off + j * 2 + u, none⟩ = (loL i)[u]? := fun u hu => by
      have := q u hu
      rw [Go.WideShapes.add_plain, Go.WideShapes.add_plain] at this
      exact this
    have q0 : W.cell? ⟨b, off + j * 2 + 0, none⟩ = some (.int .u32 i.n.toNat) := q2 0 (by omega)
    exact ⟨b, off, rfl, block_lt_of_cell q0, q0, q2 1 (by omega)⟩
/-- One cell that holds a slice of groups, of instructions. -/
theorem open_locsV {n : Nat} {v : Value} {y : DataW H × List MemPlace} (h : DataW.trod enc Tryz.prog W 0 sp true n 99 [v] = some y) : ∃ A c l, v = .slice A l.length c ∧ Los W A l ∧ (l.length : Int) ≤ 9223372036854775807 := by
  obtain ⟨A, len, cap, rfl⟩ : ∃ A len cap, v = .slice A len cap := by
    rcases open_slice Tryz.underlying99 h with ⟨hcs, _⟩ | ⟨a, ln, cp, m, n, D, Pl, hcs, _⟩
    · exact ⟨none, 0, 0, by simpa using hcs⟩
    · exact ⟨some a, ln, cp, by simpa using hcs⟩
  obtain ⟨l, hl, h1, h2⟩ := open_locs (enc := enc) (sp := sp) (d := y.1) (p := y.2) ⟨n, by simpa [Value.cells] using h⟩
  subst hl
  exact ⟨A, cap, l, rfl, h1, h2⟩
theorem open_insV {n : Nat} {v : Value} {y : DataW H × List MemPlace} (h : DataW.trod enc Tryz.prog W 0 sp true n 100 [v] = some y) : ∃ A c l, v = .slice A l.length c ∧ (Ins W A l ∧ ∀ i ∈ l, i.Ok ∧ (i.l.length : Int) ≤ 9223372036854775807) ∧ (l.length : Int) ≤ 9223372036854775807 := by
  obtain ⟨A, len, cap, rfl⟩ : ∃ A len cap, v = .slice A len cap := by
    rcases open_slice Tryz.underlying100 h with ⟨hcs, _⟩ | ⟨a, ln, cp, m, n, D, Pl, hcs, _⟩
    · exact ⟨none, 0, 0, by simpa using hcs⟩
    · exact ⟨some a, ln, cp, by simpa using hcs⟩
  obtain ⟨l, hl, h1, h2⟩ := open_list (enc := enc) (sp := sp) (d := y.1) (p := y.2) ⟨n, by simpa [Value.cells] using h⟩
  subst hl
  exact ⟨A, cap, l, rfl, h1, h2⟩
/-- Two cells of a body. -/
theorem open_two {n : Nat} {cs : List Value} {x : DataW H × List MemPlace} (h : DataW.trod enc Tryz.prog W 0 sp true n 102 cs = some x) (hc : cs.length = 2) : ∃ s : SlotBd, cs = cL s ∧ OkB s ∧ (Los W s.2.1.1 s.1.ls ∧ Ins W s.2.2.1 s.1.b) := by
  obtain ⟨ys, m, _, hy, hlen, hyl, hf⟩ := DataW.trod_struct Tryz.underlying102 h
  match cs, hc with
  | [c0, c1], _ =>
    match ys, hyl with
    | [y0, y1], _ =>
      have e1 : Tryz.prog.cellsOf 99 = 1 := by kernel_rfl
      have e2 : Tryz.prog.cellsOf 100 = 1 := by kernel_rfl
      have h0 : DataW.trod enc Tryz.prog W 0 sp true m 99 (([c0, c1].drop 0).take (Tryz.prog.cellsOf 99)) = some y0 := hf 0 _ rfl
      have h1 : DataW.trod enc Tryz.prog W 0 sp true m 100 (([c0, c1].drop 1).take (Tryz.prog.cellsOf 100)) = some y1 := hf 1 _ rfl
      rw [e1] at h0
      rw [e2] at h1
      obtain ⟨L, l, ls, r0, hl, nl⟩ := open_locsV h0
      obtain ⟨B, c, b, r1, ⟨hi, ho⟩, nb⟩ := open_insV h1
      exact ⟨(⟨ls, b⟩, (L, l), (B, c)), by unfold cL cC bdC; rw [r0, r1], ⟨ho, nb, nl⟩, hl, hi⟩
end
end Go.Proofs.YtkleadjkebofpaaGreatDoor

/- datas.PutAll. -/
namespace Go.Proofs.YtkleadjkebofpaaGreatDoor
open Go.RowKit
set_option linter.unusedVariables false
set_option maxRecDepth 100000

end Go.Proofs.YtkleadjkebofpaaGreatDoor

/- A data segment by value and a slice of segments, opened. -/
namespace Go.Proofs.YtkleadjkebofpaaGreatDoor
open Go.ChangeShapes Go.WideShapes Go.ChangeAt Go.RowKit Go.Joins Go.Deep
set_option linter.unusedVariables false
set_option maxRecDepth 100000

theorem cellsData : Tryz.prog.cellsOf 106 = 5 := by kernel_rfl
/-- Its numbers are what their kinds hold. -/
def OkH (x : SlotDa) : Prop := x.1.i.Ok ∧ (x.1.i.l.length : Int) ≤ 9223372036854775807
section
variable {H : Type} {enc : TypeId × Value → H} {W : World} {sp : Nat → Bool}
/-- The four cells of an instruction. -/
theorem open_fourD {n : Nat} {c0 c1 c2 c3 : Value} {x : DataW H × List MemPlace} (h : DataW.trod enc Tryz.prog W 0 sp true n 85 [c0, c1, c2, c3] = some x) :
    ∃ (i : I) (B : Option Addr) (c : Nat), c0 = .int .u8 i.op.toNat ∧ c1 = .int .u64 i.a ∧ c2 = .int .u64 i.b ∧ c3 = .slice B i.l.length c ∧ i.Ok ∧ (i.l.length : Int) ≤ 9223372036854775807 := by
  obtain ⟨ys, m, _, hy, hlen, hyl, hf⟩ := DataW.trod_struct Tryz.underlying85 h
  match ys, hyl with
  | [y0, y1, y2, y3], _ =>
    have e1 : Tryz.prog.cellsOf 5 = 1 := by kernel_rfl
    have e2 : Tryz.prog.cellsOf 43 = 1 := by kernel_rfl
    have e3 : Tryz.prog.cellsOf 24 = 1 := by kernel_rfl
    have h0 : DataW.trod enc Tryz.prog W 0 sp true m 5 (([c0, c1, c2, c3].drop 0).take (Tryz.prog.cellsOf 5)) = some y0 := hf 0 _ rfl
    have h1 : DataW.trod enc Tryz.prog W 0 sp true m 43 (([c0, c1, c2, c3].drop 1).take (Tryz.prog.cellsOf 43)) = some y1 := hf 1 _ rfl
    have h2 : DataW.trod enc Tryz.prog W 0 sp true m 43 (([c0, c1, c2, c3].drop 2).take (Tryz.prog.cellsOf 43)) = some y2 := hf 2 _ rfl
    have h3 : DataW.trod enc Tryz.prog W 0 sp true m 24 (([c0, c1, c2, c3].drop 3).take (Tryz.prog.cellsOf 24)) = some y3 := hf 3 _ rfl
    rw [e1] at h0
    rw [e2] at h1 h2
    rw [e3] at h3
    obtain ⟨i, B, c, rfl, rfl, rfl, rfl, ho, _, hn⟩ := open_parts h0 h1 h2 h3
    exact ⟨i, B, c, rfl, rfl, rfl, rfl, ho, hn⟩
/-- Five cells of a segment. -/
theorem open_fived {n : Nat} {cs : List Value} {x : DataW H × List MemPlace} (h : DataW.trod enc Tryz.prog W 0 sp true n 106 cs = some x) (hc : cs.length = 5) : ∃ s : SlotDa, cs = hL9 s ∧ OkH s := by
  obtain ⟨ys, m, _, hy, hlen, hyl, hf⟩ := DataW.trod_struct Tryz.underlying106 h
  match cs, hc with
  | [c0, c1, c2, c3, c4], _ =>
    match ys, hyl with
    | [y0, y1], _ =>
      have e1 : Tryz.prog.cellsOf 85 = 4 := by kernel_rfl
      have e2 : Tryz.prog.cellsOf 9 = 1 := by kernel_rfl
      have h0 : DataW.trod enc Tryz.prog W 0 sp true m 85 (([c0, c1, c2, c3, c4].drop 0).take (Tryz.prog.cellsOf 85)) = some y0 := hf 0 _ rfl
      have h1 : DataW.trod enc Tryz.prog W 0 sp true m 9 (([c0, c1, c2, c3, c4].drop 4).take (Tryz.prog.cellsOf 9)) = some y1 := hf 1 _ rfl
      rw [e1] at h0
      rw [e2] at h1
      obtain ⟨i, B, c, r0, r1, r2, r3, ho, hn⟩ := open_fourD h0
      obtain ⟨s0, q0, _, ws0⟩ := DataW.trod_string Tryz.underlying9 h1
      have r4 : c4 = .string s0 := by simpa using q0
      exact ⟨(⟨i, s0.data.toList⟩, B, c), by unfold hL9 hC daC; rw [S_of, r0, r1, r2, r3, r4], ho, hn⟩
end
end Go.Proofs.YtkleadjkebofpaaGreatDoor
