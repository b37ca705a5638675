/- A slice of instructions, opened. -/
import Derived.Test.YtebgmfjgapmpfabGreatDoorQf12
import Derived.Test.YtebgmfjgapmpfabGreatDoorQf03
import Derived.Deep.Fields
import Derived.ChangeSame
import Derived.ProofKit
import Derived.Test.YtebgmfjgapmpfabGreatDoorQe01
import Derived.Test.YtebgmfjgapmpfabGreatDoorQf09
import Derived.OpenShut
import Derived.ShutString
import Derived.ChangeOld
import Derived.Deep.Slices
import Derived.Lib.SmallJoins
import Derived.Test.YtebgmfjgapmpfabGreatDoorQf08
import Derived.Deep.CutBlock
import Derived.Deep.DeepCutAuto
namespace Go.Proofs.YtebgmfjgapmpfabGreatDoor
open Go.ChangeShapes Go.WideShapes Go.ChangeAt Go.RowKit Go.Joins Go.Deep
set_option linter.unusedVariables false
set_option maxRecDepth 100000

theorem cellsI : Tryz.prog.cellsOf 59 = 4 := by kernel_rfl
section
variable {H : Type} {enc : TypeId × Value → H} {W : World} {sp : Nat → Bool}
/-- One element: its four cells, each with its reading. -/
theorem open_elem {n : Nat} {cs : List Value} {x : DataW H × List MemPlace} (h : DataW.trod enc Tryz.prog W 0 sp true n 59 cs = some x) (hc : cs.length = 4) :
    ∃ (i : I) (B : Option Addr) (c : Nat), cs = [.int .u8 i.op.toNat, .int .u64 i.a, .int .u64 i.b, .slice B i.l.length c] ∧ i.Ok ∧ LiesL W B i.l ∧ (i.l.length : Int) ≤ 9223372036854775807 := by
  obtain ⟨ys, m, _, hy, hlen, hyl, hf⟩ := DataW.trod_struct Tryz.underlying59 h
  match cs, hc with
  | [c0, c1, c2, c3], _ =>
    match ys, hyl with
    | [y0, y1, y2, y3], _ =>
      have e1 : Tryz.prog.cellsOf 5 = 1 := by kernel_rfl
      have e2 : Tryz.prog.cellsOf 56 = 1 := by kernel_rfl
      have e3 : Tryz.prog.cellsOf 57 = 1 := by kernel_rfl
      have h0 : DataW.trod enc Tryz.prog W 0 sp true m 5 (([c0, c1, c2, c3].drop 0).take (Tryz.prog.cellsOf 5)) = some y0 := hf 0 _ rfl
      have h1 : DataW.trod enc Tryz.prog W 0 sp true m 56 (([c0, c1, c2, c3].drop 1).take (Tryz.prog.cellsOf 56)) = some y1 := hf 1 _ rfl
      have h2 : DataW.trod enc Tryz.prog W 0 sp true m 56 (([c0, c1, c2, c3].drop 2).take (Tryz.prog.cellsOf 56)) = some y2 := hf 2 _ rfl
      have h3 : DataW.trod enc Tryz.prog W 0 sp true m 57 (([c0, c1, c2, c3].drop 3).take (Tryz.prog.cellsOf 57)) = some y3 := hf 3 _ rfl
      rw [e1] at h0
      rw [e2] at h1 h2
      rw [e3] at h3
      obtain ⟨i, B, c, rfl, rfl, rfl, rfl, ho, hl, hn⟩ := open_parts h0 h1 h2 h3
      exact ⟨i, B, c, rfl, ho, hl, hn⟩
theorem open_list {A : Option Addr} {len cap : Nat} {d : DataW H} {p : List MemPlace} (h : DataW.Trod enc Tryz.prog W 0 sp true 26 (.slice A len cap) d p) :
    ∃ l : List I, l.length = len ∧ (Ins W A l ∧ ∀ i ∈ l, i.Ok ∧ (i.l.length : Int) ≤ 9223372036854775807) ∧ (l.length : Int) ≤ 9223372036854775807 := by
  obtain ⟨fuel, hf⟩ := h
  rcases open_slice Tryz.underlying26 hf with ⟨hcs, _⟩ | ⟨a, ln, cp, m, n, D, Pl, hcs, hb, hl, hm, hmm, hx, hi⟩
  · simp [Value.cells] at hcs
    obtain ⟨rfl, rfl, rfl⟩ := hcs
    exact ⟨[], rfl, ⟨(fun j i hi => by cases hi), (fun i hi => by cases hi)⟩, by simp⟩
  · simp [Value.cells] at hcs
    obtain ⟨rfl, rfl, rfl⟩ := hcs
    have hlm : len ≤ m := by rw [hmm]; split <;> omega
    have each : ∀ j, j < len → ∃ (i : I) (B : Option Addr) (c : Nat), (W.cell? (a.add (j * 4)) = some (.int .u8 i.op.toNat) ∧ W.cell? ((a.add (j * 4)).add 1) = some (.int .u64 i.a) ∧ W.cell? ((a.add (j * 4)).add 2) = some (.int .u64 i.b) ∧ W.cell? ((a.add (j * 4)).add 3) = some (.slice B i.l.length c)) ∧ i.Ok ∧ LiesL W B i.l ∧ (i.l.length : Int) ≤ 9223372036854775807 := by
      intro j hj
      obtain ⟨cs', hc, ht'⟩ := hi j (by omega)
      rw [cellsI] at hc
      obtain ⟨_, hcl, hat⟩ := World.cells?_some hc
      obtain ⟨i, B, c, rfl, ho, hli, hn⟩ := open_elem ht' hcl
      have q0 := hat 0 (by omega)
      have q1 := hat 1 (by omega)
      have q2 := hat 2 (by omega)
      have q3 := hat 3 (by omega)
      exact ⟨i, B, c, ⟨by simpa [Addr.add] using q0, q1, q2, q3⟩, ho, hli, hn⟩
    have pick : ∀ k, k ≤ len → ∃ l : List I, l.length = k ∧ ∀ j i, l[j]? = some i → ∃ (B : Option Addr) (c : Nat), (W.cell? (a.add (j * 4)) = some (.int .u8 i.op.toNat) ∧ W.cell? ((a.add (j * 4)).add 1) = some (.int .u64 i.a) ∧ W.cell? ((a.add (j * 4)).add 2) = some (.int .u64 i.b) ∧ W.cell? ((a.add (j * 4)).add 3) = some (.slice B i.l.length c)) ∧ i.Ok ∧ LiesL W B i.l ∧ (i.l.length : Int) ≤ 9223372036854775807 := by
      intro k
      induction k with
      | zero => intro _; exact ⟨[], rfl, fun j i hi => by cases hi⟩
      | succ k ih =>
        intro hk
        obtain ⟨l, hl1, hl2⟩ := ih (by omega)
        obtain ⟨i, B, c, hq⟩ := each k (by omega)
        refine ⟨l ++ [i], by simp [hl1], fun j i' hi' => ?_⟩
        rcases Nat.lt_or_ge j k with g | g
        · rw [List.getElem?_append_left (by omega)] at hi'
          exact hl2 j i' hi'
        · have hj : j < (l ++ [i]).length := (List.getElem?_eq_some_iff.1 hi').1
          rw [List.length_append, List.length_singleton] at hj
          obtain rfl : j = k := by omega
          rw [List.getElem?_append_right (by omega), hl1, Nat.sub_self] at hi'
          injection hi' with hi'
          subst hi'
          exact ⟨B, c, hq⟩
    obtain ⟨l, hl1, hl2⟩ := pick len (Nat.le_refl _)
    unfold maxLen at hm
    refine ⟨l, hl1, ⟨fun j i hij => ?_, fun i him => ?_⟩, by omega⟩
    · obtain ⟨B, c, ⟨q0, q1, q2, q3⟩, _, hli, _⟩ := hl2 j i hij
      have hj0 := (List.getElem?_eq_some_iff.1 hij).1
      obtain ⟨_, _, ⟨q00, _, _, _⟩, _⟩ := hl2 0 _ (List.getElem?_eq_getElem (by omega : 0 < l.length))
      obtain ⟨b, off, spot⟩ := a
      have hsp : spot = none := by simpa [Addr.add] using World.cell?_spot q00
      subst hsp
      rw [Go.WideShapes.add_plain] at q0 q1 q2 q3
      rw [Go.WideShapes.add_plain] at q1 q2 q3
      exact ⟨b, off, B, c, rfl, block_lt_of_cell q0, ⟨q0, q1, q2, q3⟩, hli⟩
    · obtain ⟨j, hj⟩ := List.getElem?_of_mem him
      obtain ⟨B, c, _, ho, _, hn⟩ := hl2 j i hj
      exact ⟨ho, hn⟩
end
end Go.Proofs.YtebgmfjgapmpfabGreatDoor

/- Numbers of eight and of thirty-two bits, opened. -/
namespace Go.Proofs.YtebgmfjgapmpfabGreatDoor
set_option linter.unusedVariables false

theorem u8_ex {x : Int} (h : Lit.wf (.int .u8 x) = true) : ∃ a : UInt8, x = a.toNat := by
  have b : 0 ≤ x ∧ x ≤ 255 := by simpa [Lit.wf, IntKind.min, IntKind.max, IntKind.signed, IntKind.bits] using h
  exact ⟨UInt8.ofNat x.toNat, by rw [UInt8.toNat_ofNat']; omega⟩
theorem u32_ex {x : Int} (h : Lit.wf (.int .u32 x) = true) : ∃ a : UInt32, x = a.toNat := by
  have b : 0 ≤ x ∧ x ≤ 4294967295 := by simpa [Lit.wf, IntKind.min, IntKind.max, IntKind.signed, IntKind.bits] using h
  exact ⟨UInt32.ofNat x.toNat, by rw [UInt32.toNat_ofNat']; omega⟩
end Go.Proofs.YtebgmfjgapmpfabGreatDoor

/- Groups of locals, a body by value, a slice of bodies: opened. (By gen/genOpen.py.) -/
namespace Go.Proofs.YtebgmfjgapmpfabGreatDoor
open Go.ChangeShapes Go.WideShapes Go.ChangeAt Go.RowKit Go.Joins Go.Deep
set_option linter.unusedVariables false
set_option maxRecDepth 100000

theorem cellsLoc : Tryz.prog.cellsOf 71 = 2 := by kernel_rfl
theorem cellsCode : Tryz.prog.cellsOf 28 = 2 := by kernel_rfl
/-- The numbers of its instructions are what their kinds hold. -/
def OkB (x : SlotBd) : Prop := (∀ i ∈ x.1.b, i.Ok ∧ (i.l.length : Int) ≤ 9223372036854775807) ∧ (x.1.b.length : Int) ≤ 9223372036854775807 ∧ (x.1.ls.length : Int) ≤ 9223372036854775807
section
variable {H : Type} {enc : TypeId × Value → H} {W : World} {sp : Nat → Bool}
theorem open_lo {n : Nat} {cs : List Value} {y : DataW H × List MemPlace} (h : DataW.trod enc Tryz.prog W 0 sp true n 71 cs = some y) (hc : cs.length = 2) : ∃ x : Lo, cs = loL x := by
  obtain ⟨ys, m, _, hy, hlen, hyl, hf⟩ := DataW.trod_struct Tryz.underlying71 h
  match cs, hc with
  | [c0, c1], _ =>
    match ys, hyl with
    | [y0, y1], _ =>
      have e1 : Tryz.prog.cellsOf 69 = 1 := by kernel_rfl
      have e2 : Tryz.prog.cellsOf 5 = 1 := by kernel_rfl
      have h0 : DataW.trod enc Tryz.prog W 0 sp true m 69 (([c0, c1].drop 0).take (Tryz.prog.cellsOf 69)) = some y0 := hf 0 _ rfl
      have h1 : DataW.trod enc Tryz.prog W 0 sp true m 5 (([c0, c1].drop 1).take (Tryz.prog.cellsOf 5)) = some y1 := hf 1 _ rfl
      rw [e1] at h0
      rw [e2] at h1
      obtain ⟨x0, q0, _, w0⟩ := DataW.trod_int Tryz.underlying69 h0
      obtain ⟨x1, q1, _, w1⟩ := DataW.trod_int Tryz.underlying5 h1
      obtain ⟨a, rfl⟩ := u32_ex w0
      obtain ⟨b, rfl⟩ := u8_ex w1
      have q0' : c0 = .int .u32 a.toNat := by simpa using q0
      have q1' : c1 = .int .u8 b.toNat := by simpa using q1
      exact ⟨⟨a, b⟩, by unfold loL; rw [q0', q1']⟩
theorem open_locs {A : Option Addr} {len cap : Nat} {d : DataW H} {p : List MemPlace} (h : DataW.Trod enc Tryz.prog W 0 sp true 25 (.slice A len cap) d p) :
    ∃ l : List Lo, l.length = len ∧ Los W A l ∧ (l.length : Int) ≤ 9223372036854775807 := by
  obtain ⟨fuel, hf⟩ := h
  rcases open_slice Tryz.underlying25 hf with ⟨hcs, _⟩ | ⟨a, ln, cp, m, n, D, Pl, hcs, hb, hl, hm, hmm, hx, hi⟩
  · simp [Value.cells] at hcs
    obtain ⟨rfl, rfl, rfl⟩ := hcs
    exact ⟨[], rfl, (fun j i hi => by cases hi), by simp⟩
  · simp [Value.cells] at hcs
    obtain ⟨rfl, rfl, rfl⟩ := hcs
    have hlm : len ≤ m := by rw [hmm]; split <;> omega
    have each : ∀ j, j < len → ∃ i : Lo, ∀ u, u < 2 → W.cell? ((a.add (j * 2)).add u) = (loL i)[u]? := by
      intro j hj
      obtain ⟨cs', hc, ht'⟩ := hi j (by omega)
      rw [cellsLoc] at hc
      obtain ⟨_, hcl, hat⟩ := World.cells?_some hc
      obtain ⟨i, rfl⟩ := open_lo ht' hcl
      exact ⟨i, fun u hu => hat u (by omega)⟩
    have pick : ∀ k, k ≤ len → ∃ l : List Lo, l.length = k ∧ (∀ (j : Nat) (i : Lo), l[j]? = some i → ∀ u, u < 2 → W.cell? ((a.add (j * 2)).add u) = (loL i)[u]?) := by
      intro k
      induction k with
      | zero => intro _; exact ⟨[], rfl, (fun j i hi => by cases hi)⟩
      | succ k ih =>
        intro hk
        obtain ⟨l, hl1, hl2⟩ := ih (by omega)
        obtain ⟨i, hq⟩ := each k (by omega)
        refine ⟨l ++ [i], by simp [hl1], fun j i' hi' => ?_⟩
        rcases Nat.lt_or_ge j k with g | g
        · rw [List.getElem?_append_left (by omega)] at hi'
          exact hl2 j i' hi'
        · have hj : j < (l ++ [i]).length := (List.getElem?_eq_some_iff.1 hi').1
          rw [List.length_append, List.length_singleton] at hj
          obtain rfl : j = k := by omega
          rw [List.getElem?_append_right (by omega), hl1, Nat.sub_self] at hi'
          injection hi' with hi'
          subst hi'
          exact hq
    obtain ⟨l, hl1, hl2⟩ := pick len (Nat.le_refl _)
    unfold maxLen at hm
    refine ⟨l, hl1, fun j i hij => ?_, by omega⟩
    have q := hl2 j i hij
    have hj0 := (List.getElem?_eq_some_iff.1 hij).1
    have q00 : W.cell? ((a.add (0 * 2)).add 0) = some (.int .u32 (l[0]'(by omega)).n.toNat) := hl2 0 _ (List.getElem?_eq_getElem (by omega : 0 < l.length)) 0 (by omega)
    obtain ⟨b, off, spot⟩ := a
    have hsp : spot = none := by simpa [Addr.add] using World.cell?_spot q00
    subst hsp
    have q2 : ∀ u, u < 2 → W.cell? ⟨b, off + j * 2 + u, none⟩ = (loL i)[u]? := fun u hu => by
      have := q u hu
      rw [Go.WideShapes.add_plain, Go.WideShapes.add_plain] at this
      exact this
    have q0 : W.cell? ⟨b, off + j * 2 + 0, none⟩ = some (.int .u32 i.n.toNat) := q2 0 (by omega)
    exact ⟨b, off, rfl, block_lt_of_cell q0, q0, q2 1 (by omega)⟩
/-- One cell that holds a slice of groups, of instructions. -/
theorem open_locsV {n : Nat} {v : Value} {y : DataW H × List MemPlace} (h : DataW.trod enc Tryz.prog W 0 sp true n 25 [v] = some y) : ∃ A c l, v = .slice A l.length c ∧ Los W A l ∧ (l.length : Int) ≤ 9223372036854775807 := by
  obtain ⟨A, len, cap, rfl⟩ : ∃ A len cap, v = .slice A len cap := by
    rcases open_slice Tryz.underlying25 h with ⟨hcs, _⟩ | ⟨a, ln, cp, m, n, D, Pl, hcs, _⟩
    · exact ⟨none, 0, 0, by simpa using hcs⟩
    · exact ⟨some a, ln, cp, by simpa using hcs⟩
  obtain ⟨l, hl, h1, h2⟩ := open_locs (enc := enc) (sp := sp) (d := y.1) (p := y.2) ⟨n, by simpa [Value.cells] using h⟩
  subst hl
  exact ⟨A, cap, l, rfl, h1, h2⟩
theorem open_insV {n : Nat} {v : Value} {y : DataW H × List MemPlace} (h : DataW.trod enc Tryz.prog W 0 sp true n 26 [v] = some y) : ∃ A c l, v = .slice A l.length c ∧ (Ins W A l ∧ ∀ i ∈ l, i.Ok ∧ (i.l.length : Int) ≤ 9223372036854775807) ∧ (l.length : Int) ≤ 9223372036854775807 := by
  obtain ⟨A, len, cap, rfl⟩ : ∃ A len cap, v = .slice A len cap := by
    rcases open_slice Tryz.underlying26 h with ⟨hcs, _⟩ | ⟨a, ln, cp, m, n, D, Pl, hcs, _⟩
    · exact ⟨none, 0, 0, by simpa using hcs⟩
    · exact ⟨some a, ln, cp, by simpa using hcs⟩
  obtain ⟨l, hl, h1, h2⟩ := open_list (enc := enc) (sp := sp) (d := y.1) (p := y.2) ⟨n, by simpa [Value.cells] using h⟩
  subst hl
  exact ⟨A, cap, l, rfl, h1, h2⟩
/-- Two cells of a body. -/
theorem open_two {n : Nat} {cs : List Value} {x : DataW H × List MemPlace} (h : DataW.trod enc Tryz.prog W 0 sp true n 28 cs = some x) (hc : cs.length = 2) : ∃ s : SlotBd, cs = cL s ∧ OkB s ∧ (Los W s.2.1.1 s.1.ls ∧ Ins W s.2.2.1 s.1.b) := by
  obtain ⟨ys, m, _, hy, hlen, hyl, hf⟩ := DataW.trod_struct Tryz.underlying28 h
  match cs, hc with
  | [c0, c1], _ =>
    match ys, hyl with
    | [y0, y1], _ =>
      have e1 : Tryz.prog.cellsOf 25 = 1 := by kernel_rfl
      have e2 : Tryz.prog.cellsOf 26 = 1 := by kernel_rfl
      have h0 : DataW.trod enc Tryz.prog W 0 sp true m 25 (([c0, c1].drop 0).take (Tryz.prog.cellsOf 25)) = some y0 := hf 0 _ rfl
      have h1 : DataW.trod enc Tryz.prog W 0 sp true m 26 (([c0, c1].drop 1).take (Tryz.prog.cellsOf 26)) = some y1 := hf 1 _ rfl
      rw [e1] at h0
      rw [e2] at h1
      obtain ⟨L, l, ls, r0, hl, nl⟩ := open_locsV h0
      obtain ⟨B, c, b, r1, ⟨hi, ho⟩, nb⟩ := open_insV h1
      exact ⟨(⟨ls, b⟩, (L, l), (B, c)), by unfold cL cC bdC; rw [r0, r1], ⟨ho, nb, nl⟩, hl, hi⟩
theorem open_code {b0 : Nat} {r : Reach} {v : Value} {d : DataW H} {p : List MemPlace} (hv : Value.okWide Tryz.prog W r b0 28 v) (h : DataW.Trod enc Tryz.prog W 0 sp true 28 v d p) :
    ∃ x : SlotBd, v = cV x ∧ OkB x ∧ (Los W x.2.1.1 x.1.ls ∧ Ins W x.2.2.1 x.1.b) := by
  obtain ⟨cs, rfl, hsz⟩ := okWide_struct Tryz.underlying28 hv
  rw [cellsCode] at hsz
  obtain ⟨fuel, hf⟩ := h
  obtain ⟨i, hi, h1, h2⟩ := open_two (cs := cs.toList) (by simpa [Value.cells] using hf) (by simpa using hsz)
  exact ⟨i, by show Value.agg cs = .agg (cC i); congr 1; apply Array.toList_inj.1; exact hi, h1, h2⟩
theorem open_codes {A : Option Addr} {len cap : Nat} {d : DataW H} {p : List MemPlace} (h : DataW.Trod enc Tryz.prog W 0 sp true 22 (.slice A len cap) d p) :
    ∃ l : List SlotBd, l.length = len ∧ Bds W A l ∧ (l.length : Int) ≤ 9223372036854775807 ∧ ∀ x ∈ l, OkB x := by
  obtain ⟨fuel, hf⟩ := h
  rcases open_slice Tryz.underlying22 hf with ⟨hcs, _⟩ | ⟨a, ln, cp, m, n, D, Pl, hcs, hb, hl, hm, hmm, hx, hi⟩
  · simp [Value.cells] at hcs
    obtain ⟨rfl, rfl, rfl⟩ := hcs
    exact ⟨[], rfl, (fun j i hi => by cases hi), by simp, fun x hx => by cases hx⟩
  · simp [Value.cells] at hcs
    obtain ⟨rfl, rfl, rfl⟩ := hcs
    have hlm : len ≤ m := by rw [hmm]; split <;> omega
    have each : ∀ j, j < len → ∃ i : SlotBd, ((∀ u, u < 2 → W.cell? ((a.add (j * 2)).add u) = (cL i)[u]?) ∧ (Los W i.2.1.1 i.1.ls ∧ Ins W i.2.2.1 i.1.b)) ∧ OkB i := by
      intro j hj
      obtain ⟨cs', hc, ht'⟩ := hi j (by omega)
      rw [cellsCode] at hc
      obtain ⟨_, hcl, hat⟩ := World.cells?_some hc
      obtain ⟨i, rfl, hw, hl⟩ := open_two ht' hcl
      exact ⟨i, ⟨fun u hu => hat u (by omega), hl⟩, hw⟩
    have pick : ∀ k, k ≤ len → ∃ l : List SlotBd, l.length = k ∧ (∀ (j : Nat) (i : SlotBd), l[j]? = some i → (∀ u, u < 2 → W.cell? ((a.add (j * 2)).add u) = (cL i)[u]?) ∧ (Los W i.2.1.1 i.1.ls ∧ Ins W i.2.2.1 i.1.b)) ∧ ∀ x ∈ l, OkB x := by
      intro k
      induction k with
      | zero => intro _; exact ⟨[], rfl, (fun j i hi => by cases hi), fun x hx => by cases hx⟩
      | succ k ih =>
        intro hk
        obtain ⟨l, hl1, hl2, hl3⟩ := ih (by omega)
        obtain ⟨i, hq, hw⟩ := each k (by omega)
        refine ⟨l ++ [i], by simp [hl1], fun j i' hi' => ?_, fun x hx => (List.mem_append.1 hx).elim (hl3 x) (fun h => by rw [List.mem_singleton] at h; subst h; exact hw)⟩
        rcases Nat.lt_or_ge j k with g | g
        · rw [List.getElem?_append_left (by omega)] at hi'
          exact hl2 j i' hi'
        · have hj : j < (l ++ [i]).length := (List.getElem?_eq_some_iff.1 hi').1
          rw [List.length_append, List.length_singleton] at hj
          obtain rfl : j = k := by omega
          rw [List.getElem?_append_right (by omega), hl1, Nat.sub_self] at hi'
          injection hi' with hi'
          subst hi'
          exact hq
    obtain ⟨l, hl1, hl2, hl3⟩ := pick len (Nat.le_refl _)
    unfold maxLen at hm
    refine ⟨l, hl1, fun j i hij => ?_, by omega, hl3⟩
    obtain ⟨q, hfu⟩ := hl2 j i hij
    have hj0 := (List.getElem?_eq_some_iff.1 hij).1
    have q00 : W.cell? ((a.add (0 * 2)).add 0) = some (.slice (l[0]'(by omega)).2.1.1 (l[0]'(by omega)).1.ls.length (l[0]'(by omega)).2.1.2) := (hl2 0 _ (List.getElem?_eq_getElem (by omega : 0 < l.length))).1 0 (by omega)
    obtain ⟨b, off, spot⟩ := a
    have hsp : spot = none := by simpa [Addr.add] using World.cell?_spot q00
    subst hsp
    have q2 : ∀ u, u < 2 → W.cell? ⟨b, off + j * 2 + u, none⟩ = (cL i)[u]? := fun u hu => by
      have := q u hu
      rw [Go.WideShapes.add_plain, Go.WideShapes.add_plain] at this
      exact this
    have q0 : W.cell? ⟨b, off + j * 2 + 0, none⟩ = some (.slice i.2.1.1 i.1.ls.length i.2.1.2) := q2 0 (by omega)
    exact ⟨⟨b, off, rfl, block_lt_of_cell q0, q2⟩, hfu⟩
end
end Go.Proofs.YtebgmfjgapmpfabGreatDoor

/- The walk of BodiesBack. -/
namespace Go.Proofs.YtebgmfjgapmpfabGreatDoor
open Go.RowKit
set_option linter.unusedVariables false
set_option maxRecDepth 100000

theorem takeBd_one {l : List SlotBd} {k : Nat} {x : SlotBd} (h : l[k]? = some x) : l.take (k + 1) = l.take k ++ [x] := by rw [List.take_add_one, h]; rfl
/-- What the law keeps once the list is read. -/
structure BKBd (w : World) (N base : Nat) (xs : List Bd) (A2 : Option Addr) (c2 : Nat) (B : Nat) (Ab : Option Addr) (y : List UInt8) (W : World) : Prop where
  bel : Below w.heap.size w W
  r : ∃ rows, RowBd W base (.slice A2 N c2) rows ∧ rows.map (·.1) = xs
  ly : Lies W B Ab (cells (nums y))
  o : B ≤ W.heap.size
theorem BKBd.grown {w W W' : World} {N base B c2 q : Nat} {xs : List Bd} {A2 Ab : Option Addr} {y : List UInt8} (h : BKBd w N base xs A2 c2 B Ab y W) (hg : W.grownBy W' (some q)) (h1 : w.heap.size ≤ q) (h2 : q < base) (h3 : B ≤ q) : BKBd w N base xs A2 c2 B Ab y W' :=
  ⟨below_new h.bel hg h1, (by obtain ⟨rows, r1, r2⟩ := h.r; exact ⟨rows, r1.past hg h2, r2⟩), h.ly.grown hg h.o (fun g e => by injection e with e; omega), Nat.le_trans h.o hg.size⟩
theorem BKBd.below {w W W' : World} {N base B c2 : Nat} {xs : List Bd} {A2 Ab : Option Addr} {y : List UInt8} (h : BKBd w N base xs A2 c2 B Ab y W) (hb : Below W.heap.size W W') : BKBd w N base xs A2 c2 B Ab y W' :=
  ⟨h.bel.trans (hb.mono h.bel.size), (by obtain ⟨rows, r1, r2⟩ := h.r; exact ⟨rows, r1.later hb, r2⟩), h.ly.below hb h.o, Nat.le_trans h.o hb.size⟩
set_option maxHeartbeats 8000000 in
theorem lawBdB {w : World} {A : Option Addr} {c : Nat} {l : List SlotBd} (hl : Bds w A l) (ho : ∀ x ∈ l, OkB x) (hT : Tabs w) (nl : (l.length : Int) ≤ 9223372036854775807) :
    Calls Tryz.prog 3 #[.slice A l.length c] w fun e w' => e = .returned (.bool true) ∧ Below w.heap.size w w' := by
  have HAW := Lib.hid (bdawake_any w hT)
  have HL := Lib.hid hl
  have HTw := Lib.hid hT
  have HO := Lib.hid ho
  clear hl hT ho
  by_cases g1 : 20 < l.length
  · have t1 : decide ((20 : Int) < (l.length : Int)) = true := decide_eq_true (by omega)
    clear g1
    go_enter Tryz.func3, Tryz.ntmps3
    go_wp2_with (go_at_call 6; go_must ((with_reducible refine HAW.out.mono ?_); rintro e w1 ⟨rfl, hb⟩; have H1 := Lib.hid hb; clear hb))
    go_ret
    exact ⟨rfl, H1.out⟩
  have t1 : decide ((20 : Int) < (l.length : Int)) = false := decide_eq_false (by omega)
  have HRC := Lib.hid (fun W => rbcount_any l.length W (by omega))
  have hlb := lebL_len (l.length : Int) (by omega)
  obtain ⟨hd, hhd⟩ : ∃ hd, hd = lebL (l.length : Int) := ⟨_, rfl⟩
  rw [← hhd] at HRC hlb
  have HAL := Lib.hid (show allBd l = hd ++ bdsL l by rw [hhd]; rfl)
  obtain ⟨n, hn⟩ : ∃ n, n = l.length := ⟨_, rfl⟩
  have HN := Lib.hid hn
  have HE := Lib.hid (show l.take n = l by rw [hn, List.take_length])
  have h20 : n ≤ 20 := by omega
  rw [← hn] at t1 HRC ⊢
  clear hn hhd g1 nl
  go_enter Tryz.func3, Tryz.ntmps3
  go_wp2_with (first
    | (go_at_call 6; go_must ((with_reducible refine HAW.out.mono ?_); rintro e w1 ⟨rfl, hb⟩; have H1 := Lib.hid hb; clear hb))
    | (go_at_call 7; go_must ((with_reducible refine (HRC.out _).mono ?_); rintro e w2 ⟨rfl, hb⟩; have H2 := Lib.hid (H1.out.trans (hb.mono H1.out.size)); clear hb)))
  go_loopw [3, 4, 5] (fun code want i wr => ∃ (k : Nat) (t : List UInt8), k ≤ n ∧ i = .int .i64 k ∧ code = .int .i64 (errBd (l.take k)) ∧ want = .string (S t) ∧ t.length ≤ 10 + k * 36600 ∧ (errBd (l.take k) = 0 → t = hd ++ bdsL (l.take k)) ∧ OkBds (l.take k) ∧ Below w.heap.size w wr) (fun _ _ i _ => n - (intOf i).toNat)
  case atStart => exact ⟨0, hd, Nat.zero_le _, rfl, rfl, rfl, by omega, (fun _ => by simp [bdsL]), (fun x hx => by simp at hx), H2.out⟩
  case round =>
    obtain ⟨k, t, hk, rfl, rfl, rfl, htl, htb, hsm, hb⟩ := hrel
    have hz1 := hb.size
    by_cases hlt : k < n
    · obtain ⟨x, hx⟩ : ∃ x, l[k]? = some x := ⟨_, List.getElem?_eq_getElem (by rw [← HN.out]; exact hlt)⟩
      obtain ⟨b, off, rfl, hbl, m0, m1⟩ := (HL.out.below hb).two hx
      obtain ⟨_, hfl, hfi⟩ := (HL.out.below hb) k x hx
      have hxo := HO.out x (List.mem_of_getElem? hx)
      have HBA := Lib.hid (hb.alloc hz1 (.cells (cC x) 28))
      have HBX := Lib.hid (bxBd_start wr x.1 x.2.1.1 x.2.1.2 x.2.2.1 x.2.2.2)
      have HFL := Lib.hid (hfl.below (below_box wr (.cells (cC x) 28)))
      have HFI := Lib.hid (hfi.below (below_box wr (.cells (cC x) 28)))
      have hstep := errBd_snoc hx
      have hpsn := bdsL_snoc hx
      by_cases b0 : 60 < x.1.b.length
      · have t4 : decide ((60 : Int) < (x.1.b.length : Int)) = true := decide_eq_true (by omega)
        clear b0 htb hb hx hstep hpsn htl hxo hsm hfl hfi
        go_wp2
        go_ret
        exact ⟨rfl, HBA.out⟩
      have t4 : decide ((60 : Int) < (x.1.b.length : Int)) = false := decide_eq_false (by omega)
      have h60 : x.1.b.length ≤ 60 := by omega
      clear b0
      by_cases b1 : 50 < x.1.ls.length
      · have t5 : decide ((50 : Int) < (x.1.ls.length : Int)) = true := decide_eq_true (by omega)
        clear b1 htb hb hx hstep hpsn htl hxo hsm hfl hfi
        go_wp2
        go_ret
        exact ⟨rfl, HBA.out⟩
      have t5 : decide ((50 : Int) < (x.1.ls.length : Int)) = false := decide_eq_false (by omega)
      have h50 : x.1.ls.length ≤ 50 := by omega
      clear b1
      have HMu := Lib.hid (rmuch_any (w := wr.alloc (.cells (cC x) 28)) (x := x.1) (L := x.2.1.1) (l := x.2.1.2) (c := x.2.2.2) HFI.out hxo.2.1)
      by_cases b2 : muchZ x.1.b = true
      · rw [b2] at HMu
        clear b2 htb hb hx hstep hpsn htl hxo hsm hfl hfi
        go_wp2_with (go_at_call 8; go_must ((with_reducible refine HMu.out.mono ?_); rintro e w3 ⟨rfl, hb⟩; have H3 := Lib.hid (HBA.out.trans (hb.mono HBA.out.size)); clear hb))
        go_ret
        exact ⟨rfl, H3.out⟩
      have b3 : muchZ x.1.b = false := by simpa using b2
      rw [b3] at HMu
      have hm := much_no b3
      have hok : BdOk x.1 := ⟨fun i h => ⟨(hxo.1 i h).1, hm i h⟩, h50, h60⟩
      have HSMN := Lib.hid (show OkBds (l.take (k + 1)) from fun y hy => by
        rw [takeBd_one hx] at hy
        rcases List.mem_append.1 hy with hy | hy
        · exact hsm y hy
        · rw [List.mem_singleton] at hy; subst hy; exact hok)
      have HOK := Lib.hid hok
      clear b2 b3 hsm hm hok
      by_cases e0 : errBd (l.take k) = 0
      · rw [if_neg (by simpa using e0)] at hstep
        have ht := htb e0
        have d0 : (errBd (l.take k) == 0) = true := by simpa using e0
        have HRR := Lib.hid (fun W (hb : Below (wr.alloc (.cells (cC x) 28)).heap.size (wr.alloc (.cells (cC x) 28)) W) => rbright_any (x := x.1) (L := x.2.1.1) (l := x.2.1.2) (B := x.2.2.1) (c := x.2.2.2) (HFL.out.below hb) (HFI.out.below hb) hxo.2.2 (by omega) hxo.1)
        obtain ⟨q, hq⟩ : ∃ q, q = errBd (l.take k) := ⟨_, rfl⟩
        rw [← hq] at d0 ⊢
        by_cases z0 : rBd x = 0
        · have hrz := (brZ_zero (show brZ x.1 = 0 from z0)).2.2.2
          have HRP := Lib.hid (fun W (hb : Below (wr.alloc (.cells (cC x) 28)).heap.size (wr.alloc (.cells (cC x) 28)) W) => rbput_any (x := x.1) (L := x.2.1.1) (l := x.2.1.2) (B := x.2.2.1) (c := x.2.2.2) (HFL.out.below hb) (HFI.out.below hb) h50 h60 HOK.out.ok100 hrz)
          have hil : (cputB x).length ≤ 36600 := codeL_len HOK.out
          rw [show brZ x.1 = 0 from z0] at HRR
          rw [z0] at hstep
          have HSTEP := Lib.hid hstep
          have HTT := Lib.hid ht
          have HPS := Lib.hid hpsn
          obtain ⟨y, hy⟩ : ∃ y, y = cputB x := ⟨_, rfl⟩
          rw [show codeL x.1 = y from hy.symm] at HRP
          rw [← hy] at hil HPS
          have st := S_size t
          have sy := S_size y
          have q1 : ¬ 9223372036854775807 < (S t).size + (S y).size := by omega
          clear htb hb hx hstep hpsn e0 hq ht hy z0 st sy hxo hfl hfi hrz
          go_wp2_with (first
            | (go_at_call 8; go_must ((with_reducible refine HMu.out.mono ?_); rintro e w3 ⟨rfl, hb⟩; have H3 := Lib.hid (HBA.out.trans (hb.mono HBA.out.size)); have HBW3 := Lib.hid hb; obtain ⟨c0, c1⟩ := (bxBd_on HBX.out hb).2; clear hb))
            | (go_at_call 9; go_must ((with_reducible refine (HRR.out _ HBW3.out).mono ?_); rintro e w4 ⟨rfl, hb⟩; clear c0 c1; have H4 := Lib.hid (H3.out.trans (hb.mono H3.out.size)); have HBW4 := Lib.hid (HBW3.out.trans (hb.mono HBW3.out.size)); obtain ⟨c0, c1⟩ := (bxBd_on HBX.out HBW4.out).2; clear hb))
            | (go_at_call 10; go_must ((with_reducible refine (HRP.out _ HBW4.out).mono ?_); rintro e w5 ⟨rfl, hb⟩; have H5 := Lib.hid (H4.out.trans (hb.mono H4.out.size)); clear hb)))
          go_roundw
          case rel => exact ⟨k + 1, t ++ y, by omega, by go_num, by rw [HSTEP.out], by rw [S_append], by rw [List.length_append]; omega, (fun _ => by rw [HPS.out, HTT.out, List.append_assoc]), HSMN.out, H5.out⟩
          case measure => simp [intOf]; omega
        · have HSTEP := Lib.hid hstep
          have HZN := Lib.hid z0
          have d1 : (rBd x == 0) = false := by simpa using z0
          obtain ⟨z, hz⟩ : ∃ z, z = rBd x := ⟨_, rfl⟩
          rw [show brZ x.1 = z from hz.symm] at HRR
          rw [← hz] at HSTEP HZN d1
          clear htb hb hx hstep hpsn e0 hq ht z0 hz hxo hfl hfi
          go_wp2_with (first
            | (go_at_call 8; go_must ((with_reducible refine HMu.out.mono ?_); rintro e w3 ⟨rfl, hb⟩; have H3 := Lib.hid (HBA.out.trans (hb.mono HBA.out.size)); have HBW3 := Lib.hid hb; obtain ⟨c0, c1⟩ := (bxBd_on HBX.out hb).2; clear hb))
            | (go_at_call 9; go_must ((with_reducible refine (HRR.out _ HBW3.out).mono ?_); rintro e w4 ⟨rfl, hb⟩; have H4 := Lib.hid (H3.out.trans (hb.mono H3.out.size)); clear hb)))
          go_roundw
          case rel => exact ⟨k + 1, t, by omega, by go_num, by rw [HSTEP.out], rfl, by omega, (fun e => absurd (HSTEP.out.symm.trans e) HZN.out), HSMN.out, H4.out⟩
          case measure => simp [intOf]; omega
      · rw [if_pos e0] at hstep
        have HSTEP := Lib.hid hstep
        have HCN := Lib.hid e0
        have d0 : (errBd (l.take k) == 0) = false := by simpa using e0
        obtain ⟨q, hq⟩ : ∃ q, q = errBd (l.take k) := ⟨_, rfl⟩
        rw [← hq] at d0 HSTEP HCN ⊢
        clear htb hb hx hstep hpsn e0 hq hxo hfl hfi
        go_wp2_with (go_at_call 8; go_must ((with_reducible refine HMu.out.mono ?_); rintro e w3 ⟨rfl, hb⟩; have H3 := Lib.hid (HBA.out.trans (hb.mono HBA.out.size)); clear hb))
        go_roundw
        case rel => exact ⟨k + 1, t, by omega, by go_num, by rw [HSTEP.out], rfl, by omega, (fun e => absurd (HSTEP.out.symm.trans e) HCN.out), HSMN.out, H3.out⟩
        case measure => simp [intOf]; omega
    · obtain rfl : k = n := by omega
      rw [HE.out] at htb hsm ⊢
      have HOk := Lib.hid hsm
      clear hsm
      have HB := Lib.hid hb
      have hpa := putall_bd (c := c) (HL.out.below hb) (HTw.out.below hb) HOk.out (by rw [← HN.out]; omega)
      rw [← HN.out] at hpa
      unfold PuttedAllBd at hpa
      by_cases e0 : errBd l = 0
      · have ht := (htb e0).trans HAL.out.symm
        rw [if_pos e0, e0] at hpa
        have HGC := Lib.hid (fun W p b (h1 : Whole W b 36 #[.pointer (some ⟨p, 0, none⟩)]) (h2 : Sc W p (allBd l) 0) (h3 : TbP p W) => closBd2 h1 h2 h3 HOk.out e0 (by rw [← HN.out]; omega))
        rw [e0]
        have htl2 : (allBd l).length ≤ 1000000 := by rw [← ht]; omega
        have hy0 : 0 < (allBd l).length := by have := lebL_len (l.length : Int) (by have := HN.out; omega); unfold allBd; rw [List.length_append]; omega
        rw [ht]
        obtain ⟨y, hy⟩ : ∃ y, y = allBd l := ⟨_, rfl⟩
        rw [← hy] at hpa HGC htl2 hy0 ⊢
        have HPA := Lib.hid hpa
        clear hpa htb hb e0 ht hy htl hlt
        go_upto_region 20 with (first
          | (go_at_call 11; go_must ((with_reducible refine HPA.out.mono ?_); intro e w3 hq; obtain ⟨v, rfl, hr, hb⟩ := hq; obtain ⟨Ab, cb, rfl, hpc⟩ := hr.pc; have H3 := Lib.hid (HB.out.trans (hb.mono HB.out.size)); have HP3 := Lib.hid hpc; clear hb hr hpc))
          | (go_at_call 12; go_must ((with_reducible refine (over_ok HP3.out.lies hy0 htl2).mono ?_); intro e w7 hq; obtain ⟨p, rfl, hpp, hs, hb⟩ := hq; have HS7 := Lib.hid hs; have HB37 := Lib.hid hb; have HB7 := Lib.hid (H3.out.trans (hb.mono H3.out.size)); clear hs hb)))
        have h7p := HS7.out.lt
        have h3z := H3.out.size
        have HS8 := Lib.hid (HS7.out.alloc (.cells #[.pointer (some ⟨p, 0, none⟩)] 36))
        have HPT := Lib.hid (Whole.made w7 36 #[.pointer (some ⟨p, 0, none⟩)])
        have HB8 := Lib.hid (HB7.out.trans ((below_box w7 (.cells #[.pointer (some ⟨p, 0, none⟩)] 36)).mono HB7.out.size))
        have HL8 := Lib.hid (HP3.out.lies.below (HB37.out.trans ((below_box w7 (.cells #[.pointer (some ⟨p, 0, none⟩)] 36)).mono HB37.out.size)) (Nat.le_refl _))
        have h8 : w3.heap.size ≤ (w7.alloc (.cells #[.pointer (some ⟨p, 0, none⟩)] 36)).heap.size := Nat.le_trans HB37.out.size (below_box w7 _).size
        have h87 : w7.heap.size < (w7.alloc (.cells #[.pointer (some ⟨p, 0, none⟩)] 36)).heap.size := HPT.out.lt
        clear HAW H1 H2 HB HPA H3 HP3 HB37 HB7 HS7
        generalize w7.alloc (.cells #[.pointer (some ⟨p, 0, none⟩)] 36) = W8 at *
        generalize w7.heap.size = b6 at *
        have HV := Lib.hid (valueBds_ok (T := fun v W => v.2.1 = l.length ∧ BKBd w l.length (W8.heap.size + 4) (l.map (fun x : SlotBd => x.1)) v.1 v.2.2 w3.heap.size Ab y W) (cfBd2 #[.pointer (some ⟨b6, 0, none⟩)]) (q := p) (w := W8) (by omega)
          (fun q W W' b h1 h2 h3 hg => ⟨h3.1, h3.2.grown hg (by omega) (by omega) (by omega)⟩)
          (fun W hb hsz => by
            have hS := HS8.out.below hb
            have hB := HB8.out.trans (hb.mono HB8.out.size)
            refine (HGC.out W p b6 (HPT.out.below hb) hS (show TbP p W from ⟨w, HTw.out, by omega, hB⟩)).mono ?_
            rintro e w' ⟨v, rows, rfl, hr, hm, hg⟩
            obtain ⟨A2, c2, rfl⟩ := hr.slice
            have hrl : rows.length = l.length := by have := congrArg List.length hm; rwa [List.length_map, List.length_map] at this
            rw [hrl] at hr ⊢
            exact ⟨(A2, l.length, c2), rfl, ⟨rfl, below_new hB hg (by omega), ⟨rows, hr.mono hsz, hm⟩, (HL8.out.below hb h8).grown hg (Nat.le_trans h8 hb.size) (fun g e => by injection e with e; omega), Nat.le_trans h8 (Nat.le_trans hb.size hg.size)⟩, hg⟩))
        clear HGC HS8 HPT HL8
        go_upto_region 21 with (go_at_call 13; go_must ((with_reducible refine HV.out.mono ?_); rintro e w9 ⟨⟨A2, n2, c2⟩, rfl, ⟨hn2, hbk⟩, hg⟩; have HN2 := Lib.hid hn2; clear hn2; have HBK := Lib.hid (hbk.below (below_box w9 (.cells #[.int .i64 0, .int .i64 0] 39))); have k0 := (Whole.made w9 39 #[.int .i64 0, .int .i64 0]).cell 0; clear hbk hg))
        simp only [List.getElem?_toArray, List.getElem?_cons_zero] at k0
        have hn3 : n2 = k := HN2.out.trans HN.out.symm
        clear HN2
        subst hn3
        generalize w9.alloc (.cells #[.int .i64 0, .int .i64 0] 39) = W10 at *
        have hcv := str_any HBK.out.ly cb 9 Tryz.underlying9
        have HI := Lib.hid (HL.out.below HBK.out.bel)
        obtain ⟨rows, hrr, hrm⟩ := HBK.out.r
        have HJ := Lib.hid (show Bds W10 A2 rows from hrr.bds)
        have HRM := Lib.hid hrm
        have HGN := Lib.hid (fun g (hg : g ∈ l.map (·.1)) => show BdOk g ∧ (g.ls.length : Int) ≤ 9223372036854775807 from by
          obtain ⟨x, hx, rfl⟩ := List.mem_map.1 hg
          exact ⟨HOk.out x hx, (HO.out x hx).2.2⟩)
        have HSM := Lib.hid (fun W (g : Bd) (a1 a2 c1 c2 : Option Addr × Nat) (h : BdOk g ∧ (g.ls.length : Int) ≤ 9223372036854775807) (h1 : Los W a1.1 g.ls ∧ Ins W c1.1 g.b) (h2 : Los W a2.1 g.ls ∧ Ins W c2.1 g.b) => rsame_bd (w := W) (x := g) (L := a1.1) (l := a1.2) (M := a2.1) (m := a2.2) (B := c1.1) (c := c1.2) (D := c2.1) (d := c2.2) h1.1 h2.1 h1.2 h2.2 h.2 (by have := h.1.h60; omega) (fun i hi => (h.1.ok100 i hi).2))
        clear hrr hrm
        clear HV HB8
        go_wp2
        clear hcv k0
        go_loopw [12] (fun i wr => ∃ j : Nat, j ≤ n2 ∧ i = .int .i64 j ∧ Below w.heap.size w wr ∧ Bds wr A l ∧ Bds wr A2 rows) (fun i _ => n2 - (intOf i).toNat)
        case atStart => exact ⟨0, Nat.zero_le _, rfl, HBK.out.bel, HI.out, HJ.out⟩
        case round =>
          obtain ⟨j, hj, rfl, hb, hi, hjj⟩ := hrel
          by_cases hlt : j < n2
          · obtain ⟨g, a1, a2, d1, d2, hx, hy⟩ := bothBd_at HRM.out.symm (by rw [← HN.out]; exact hlt : j < l.length)
            have hgn := HGN.out g (List.mem_map.2 ⟨_, List.mem_of_getElem? hx, rfl⟩)
            obtain ⟨b, off, hA, _⟩ := hi.two hx
            obtain ⟨b2, off2, hA2, _⟩ := hjj.two hy
            have hS0 := twoBd_of hb hi hjj hA hA2 hx hy
            have HS0 := Lib.hid (twoBd_on hS0 hA hA2 hx hy (Below.refl _ _).drew)
            have HON := Lib.hid (fun W W' (h : TwoBd w A A2 l rows b off b2 off2 j g a1 a2 d1 d2 W) (hb : Below W.heap.size W W') => twoBd_on h hA hA2 hx hy hb)
            have HSg := Lib.hid (fun W (h : TwoBd w A A2 l rows b off b2 off2 j g a1 a2 d1 d2 W) => HSM.out W g a2 a1 d2 d1 hgn (h.1.2.2 j _ hy).2 (h.1.2.1 j _ hx).2)
            subst hA; subst hA2
            clear hx hy hb hi hjj hS0 hgn
            go_upto_region 26 with fail
            refine wp_region_noPanic ?_
            refine wp_region_held_drew (S := fun W => TwoBd w (some ⟨b, off, none⟩) (some ⟨b2, off2, none⟩) l rows b off b2 off2 j g a1 a2 d1 d2 W) (by kernel_rfl) HS0.out (fun hHeld => ?_)
            (refine heldTake (i := 0) (oi := { dst := some 103, op := Op.move (Operand.tmp 10), type := 22, pos := "law.go:96", after := #[], guard := none }) (v := ?_) rfl (by kernel_rfl) (by kernel_rfl) (by kernel_rfl) (by assumption) ?_ ?_; rotate_left; focus (refine .inl ⟨by kernel_rfl, ?_⟩; intro w hSw; (try dsimp only at hSw); go_simp; (try with_reducible rfl)); (try simp only [Act.put, List.setIfInBounds_toArray, List.set_cons_zero, List.set_cons_succ]))
            (refine heldTake (i := 1) (oi := { dst := some 104, op := Op.move (Operand.tmp 12), type := 3, pos := "law.go:96", after := #[], guard := none }) (v := ?_) rfl (by kernel_rfl) (by kernel_rfl) (by kernel_rfl) (by assumption) ?_ ?_; rotate_left; focus (refine .inl ⟨by kernel_rfl, ?_⟩; intro w hSw; (try dsimp only at hSw); go_simp; (try with_reducible rfl)); (try simp only [Act.put, List.setIfInBounds_toArray, List.set_cons_zero, List.set_cons_succ]))
            (refine heldTake (i := 2) (oi := { dst := some 105, op := Op.indexAddr 22 (Operand.tmp 103) (Operand.tmp 104), type := 0, pos := "law.go:96", after := #[{ on := 0, ground := Ground.data }, { on := 1, ground := Ground.data }], guard := none }) (v := ?_) rfl (by kernel_rfl) (by kernel_rfl) (by kernel_rfl) (by assumption) ?_ ?_; rotate_left; focus (refine .inl ⟨by kernel_rfl, ?_⟩; intro w hSw; (try dsimp only at hSw); go_simp; (try with_reducible rfl)); (try simp only [Act.put, List.setIfInBounds_toArray, List.set_cons_zero, List.set_cons_succ]))
            (refine heldTake (i := 3) (oi := { dst := some 106, op := Op.load 28 (Operand.tmp 105), type := 28, pos := "law.go:96", after := #[{ on := 2, ground := Ground.data }], guard := none }) (v := ?_) rfl (by kernel_rfl) (by kernel_rfl) (by kernel_rfl) (by assumption) ?_ ?_; rotate_left; focus (refine .inl ⟨by kernel_rfl, ?_⟩; intro w hSw; (try dsimp only at hSw); go_simp; (try with_reducible rfl)); (try simp only [Act.put, List.setIfInBounds_toArray, List.set_cons_zero, List.set_cons_succ]))
            (refine heldTake (i := 4) (oi := { dst := some 107, op := Op.move (Operand.tmp 0), type := 22, pos := "law.go:96", after := #[], guard := none }) (v := ?_) rfl (by kernel_rfl) (by kernel_rfl) (by kernel_rfl) (by assumption) ?_ ?_; rotate_left; focus (refine .inl ⟨by kernel_rfl, ?_⟩; intro w hSw; (try dsimp only at hSw); go_simp; (try with_reducible rfl)); (try simp only [Act.put, List.setIfInBounds_toArray, List.set_cons_zero, List.set_cons_succ]))
            (refine heldTake (i := 5) (oi := { dst := some 108, op := Op.move (Operand.tmp 12), type := 3, pos := "law.go:96", after := #[], guard := none }) (v := ?_) rfl (by kernel_rfl) (by kernel_rfl) (by kernel_rfl) (by assumption) ?_ ?_; rotate_left; focus (refine .inl ⟨by kernel_rfl, ?_⟩; intro w hSw; (try dsimp only at hSw); go_simp; (try with_reducible rfl)); (try simp only [Act.put, List.setIfInBounds_toArray, List.set_cons_zero, List.set_cons_succ]))
            (refine heldTake (i := 6) (oi := { dst := some 109, op := Op.indexAddr 22 (Operand.tmp 107) (Operand.tmp 108), type := 0, pos := "law.go:96", after := #[{ on := 4, ground := Ground.data }, { on := 5, ground := Ground.data }], guard := none }) (v := ?_) rfl (by kernel_rfl) (by kernel_rfl) (by kernel_rfl) (by assumption) ?_ ?_; rotate_left; focus (refine .inl ⟨by kernel_rfl, ?_⟩; intro w hSw; (try dsimp only at hSw); go_simp; (try with_reducible rfl)); (try simp only [Act.put, List.setIfInBounds_toArray, List.set_cons_zero, List.set_cons_succ]))
            (refine heldTake (i := 7) (oi := { dst := some 110, op := Op.load 28 (Operand.tmp 109), type := 28, pos := "law.go:96", after := #[{ on := 6, ground := Ground.data }], guard := none }) (v := ?_) rfl (by kernel_rfl) (by kernel_rfl) (by kernel_rfl) (by assumption) ?_ ?_; rotate_left; focus (refine .inl ⟨by kernel_rfl, ?_⟩; intro w hSw; (try dsimp only at hSw); go_simp; (try with_reducible rfl)); (try simp only [Act.put, List.setIfInBounds_toArray, List.set_cons_zero, List.set_cons_succ]))
            refine wpAnyH_ready (rs := [8]) (by kernel_rfl) (by simp) ?_
            refine AllReadyH.cons (o := { dst := some 111, op := Op.call { callee := Callee.value (Operand.func 16), args := #[Operand.tmp 106, Operand.tmp 110], argTypes := #[28, 28] }, type := 4, pos := "law.go:96", after := #[{ on := 3, ground := Ground.data }, { on := 7, ground := Ground.data }], guard := none }) rfl (fun K hK => ?_) AllReadyH.nil
            go_simp
            (go_at_call 16; (with_reducible refine (HSg.out _ hHeld).mono ?_); rintro e w11 ⟨rfl, hb⟩; have hk11 := HON.out _ _ hHeld hb; clear hb)
            refine hK.out _ _ hk11 (fun hHeld8 => ?_)
            clear hK K hHeld
            (try simp only [Act.put, List.setIfInBounds_toArray, List.set_cons_zero, List.set_cons_succ])
            (refine heldTake (i := 9) (oi := { dst := some 112, op := Op.unOp UnOp.not 4 (Operand.tmp 111), type := 4, pos := "law.go:96", after := #[{ on := 8, ground := Ground.data }], guard := none }) (v := ?_) rfl (by kernel_rfl) (by kernel_rfl) (by kernel_rfl) (by assumption) ?_ ?_; rotate_left; focus (refine .inl ⟨by kernel_rfl, ?_⟩; intro w hSw; (try dsimp only at hSw); go_simp; (try with_reducible rfl)); (try simp only [Act.put, List.setIfInBounds_toArray, List.set_cons_zero, List.set_cons_succ]))
            refine wpAnyH_done (by kernel_rfl) ?_ _
            refine NoPanic.normal ?_
            have hLast := hHeld8
            clear hHeld8
            obtain ⟨⟨hb3, hi3, hj3⟩, _⟩ := hLast
            have HB3 := Lib.hid hb3
            have HI3 := Lib.hid hi3
            have HJ3 := Lib.hid hj3
            clear hb3 hi3 hj3
            go_wp2
            go_roundw
            case rel => exact ⟨j + 1, by omega, by go_num, HB3.out, HI3.out, HJ3.out⟩
            case measure => simp [intOf]; omega
          · obtain rfl : j = n2 := by omega
            have HB3 := Lib.hid hb
            clear hb hi hjj
            go_wp2
            go_ret
            exact ⟨rfl, HB3.out⟩
      · rw [if_neg e0] at hpa
        have d0 : (errBd l != 0) = true := zb_of (by simpa using e0)
        obtain ⟨z, hz⟩ : ∃ z, z = errBd l := ⟨_, rfl⟩
        rw [← hz] at hpa d0 ⊢
        have HPA := Lib.hid hpa
        clear hpa htb hb e0 hz hlt
        go_wp2_with (go_at_call 11; go_must ((with_reducible refine HPA.out.mono ?_); intro e w3 hq; obtain ⟨v, rfl, hr, hb⟩ := hq; obtain ⟨Ab, cb, rfl, _⟩ := hr.pc; have H3 := Lib.hid (HB.out.trans (hb.mono HB.out.size)); clear hb hr))
        go_ret
        exact ⟨rfl, H3.out⟩
end Go.Proofs.YtebgmfjgapmpfabGreatDoor
