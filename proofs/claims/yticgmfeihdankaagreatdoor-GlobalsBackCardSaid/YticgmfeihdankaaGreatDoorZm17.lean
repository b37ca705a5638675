/- Numbers of eight and of thirty-two bits, opened. -/
import Derived.ProofKit
import Derived.Test.YticgmfeihdankaaGreatDoorZm01
import Derived.Test.YticgmfeihdankaaGreatDoorZm14
import Derived.Test.YticgmfeihdankaaGreatDoorZm16
import Derived.OpenShut
import Derived.ShutString
import Derived.ChangeOld
import Derived.ChangeSame
import Derived.Deep.Slices
import Derived.Deep.Fields
import Derived.Lib.SmallJoins
namespace Go.Proofs.YticgmfeihdankaaGreatDoor
set_option linter.unusedVariables false

theorem u8_ex {x : Int} (h : Lit.wf (.int .u8 x) = true) : ∃ a : UInt8, x = a.toNat := by
  have b : 0 ≤ x ∧ x ≤ 255 := by simpa [Lit.wf, IntKind.min, IntKind.max, IntKind.signed, IntKind.bits] using h
  exact ⟨UInt8.ofNat x.toNat, by rw [UInt8.toNat_ofNat']; omega⟩
theorem u32_ex {x : Int} (h : Lit.wf (.int .u32 x) = true) : ∃ a : UInt32, x = a.toNat := by
  have b : 0 ≤ x ∧ x ≤ 4294967295 := by simpa [Lit.wf, IntKind.min, IntKind.max, IntKind.signed, IntKind.bits] using h
  exact ⟨UInt32.ofNat x.toNat, by rw [UInt32.toNat_ofNat']; omega⟩
end Go.Proofs.YticgmfeihdankaaGreatDoor

/- A global by value and a slice of globals, opened. -/
namespace Go.Proofs.YticgmfeihdankaaGreatDoor
open Go.ChangeShapes Go.WideShapes Go.ChangeAt Go.RowKit Go.Joins Go.Deep
set_option linter.unusedVariables false
set_option maxRecDepth 100000

theorem cellsGl : Tryz.prog.cellsOf 46 = 6 := by kernel_rfl
/-- Its numbers are what their kinds hold. -/
def OkS (x : SlotG) : Prop := x.1.i.Ok ∧ (x.1.i.l.length : Int) ≤ 9223372036854775807
section
variable {H : Type} {enc : TypeId × Value → H} {W : World} {sp : Nat → Bool}
theorem open_gty {n : Nat} {c0 c1 : Value} {y : DataW H × List MemPlace} (h : DataW.trod enc Tryz.prog W 0 sp true n 40 [c0, c1] = some y) :
    ∃ (a : UInt8) (q : Bool), c0 = .int .u8 a.toNat ∧ c1 = .bool q := by
  obtain ⟨ys, m, _, hy, hlen, hyl, hf⟩ := DataW.trod_struct Tryz.underlying40 h
  match ys, hyl with
  | [y0, y1], _ =>
    have e1 : Tryz.prog.cellsOf 5 = 1 := by kernel_rfl
    have e2 : Tryz.prog.cellsOf 4 = 1 := by kernel_rfl
    have h0 : DataW.trod enc Tryz.prog W 0 sp true m 5 (([c0, c1].drop 0).take (Tryz.prog.cellsOf 5)) = some y0 := hf 0 _ rfl
    have h1 : DataW.trod enc Tryz.prog W 0 sp true m 4 (([c0, c1].drop 1).take (Tryz.prog.cellsOf 4)) = some y1 := hf 1 _ rfl
    rw [e1] at h0
    rw [e2] at h1
    obtain ⟨x0, q0, _, w0⟩ := DataW.trod_int Tryz.underlying5 h0
    obtain ⟨x1, q1, _⟩ := DataW.trod_bool Tryz.underlying4 h1
    obtain ⟨a, rfl⟩ := u8_ex w0
    exact ⟨a, x1, by simpa using q0, by simpa using q1⟩
/-- The four cells of an instruction. -/
theorem open_el {n : Nat} {c0 c1 c2 c3 : Value} {x : DataW H × List MemPlace} (h : DataW.trod enc Tryz.prog W 0 sp true n 44 [c0, c1, c2, c3] = some x) :
    ∃ (i : I) (B : Option Addr) (c : Nat), c0 = .int .u8 i.op.toNat ∧ c1 = .int .u64 i.a ∧ c2 = .int .u64 i.b ∧ c3 = .slice B i.l.length c ∧ i.Ok ∧ (i.l.length : Int) ≤ 9223372036854775807 := by
  obtain ⟨ys, m, _, hy, hlen, hyl, hf⟩ := DataW.trod_struct Tryz.underlying44 h
  match ys, hyl with
  | [y0, y1, y2, y3], _ =>
    have e1 : Tryz.prog.cellsOf 5 = 1 := by kernel_rfl
    have e2 : Tryz.prog.cellsOf 41 = 1 := by kernel_rfl
    have e3 : Tryz.prog.cellsOf 42 = 1 := by kernel_rfl
    have h0 : DataW.trod enc Tryz.prog W 0 sp true m 5 (([c0, c1, c2, c3].drop 0).take (Tryz.prog.cellsOf 5)) = some y0 := hf 0 _ rfl
    have h1 : DataW.trod enc Tryz.prog W 0 sp true m 41 (([c0, c1, c2, c3].drop 1).take (Tryz.prog.cellsOf 41)) = some y1 := hf 1 _ rfl
    have h2 : DataW.trod enc Tryz.prog W 0 sp true m 41 (([c0, c1, c2, c3].drop 2).take (Tryz.prog.cellsOf 41)) = some y2 := hf 2 _ rfl
    have h3 : DataW.trod enc Tryz.prog W 0 sp true m 42 (([c0, c1, c2, c3].drop 3).take (Tryz.prog.cellsOf 42)) = some y3 := hf 3 _ rfl
    rw [e1] at h0
    rw [e2] at h1 h2
    rw [e3] at h3
    obtain ⟨i, B, c, rfl, rfl, rfl, rfl, ho, _, hn⟩ := open_parts h0 h1 h2 h3
    exact ⟨i, B, c, rfl, rfl, rfl, rfl, ho, hn⟩
/-- Six cells of a global. -/
theorem open_six {n : Nat} {cs : List Value} {x : DataW H × List MemPlace} (h : DataW.trod enc Tryz.prog W 0 sp true n 46 cs = some x) (hc : cs.length = 6) : ∃ s : SlotG, cs = sL s ∧ OkS s := by
  obtain ⟨ys, m, _, hy, hlen, hyl, hf⟩ := DataW.trod_struct Tryz.underlying46 h
  match cs, hc with
  | [c0, c1, c2, c3, c4, c5], _ =>
    match ys, hyl with
    | [y0, y1], _ =>
      have e1 : Tryz.prog.cellsOf 40 = 2 := by kernel_rfl
      have e2 : Tryz.prog.cellsOf 44 = 4 := by kernel_rfl
      have h0 : DataW.trod enc Tryz.prog W 0 sp true m 40 (([c0, c1, c2, c3, c4, c5].drop 0).take (Tryz.prog.cellsOf 40)) = some y0 := hf 0 _ rfl
      have h1 : DataW.trod enc Tryz.prog W 0 sp true m 44 (([c0, c1, c2, c3, c4, c5].drop 2).take (Tryz.prog.cellsOf 44)) = some y1 := hf 1 _ rfl
      rw [e1] at h0
      rw [e2] at h1
      obtain ⟨t, g, r0, r1⟩ := open_gty h0
      obtain ⟨i, B, c, r2, r3, r4, r5, ho, hn⟩ := open_el h1
      exact ⟨(⟨t, g, i⟩, B, c), by unfold sL sC glC; rw [r0, r1, r2, r3, r4, r5], ho, hn⟩
theorem open_gl {b0 : Nat} {r : Reach} {v : Value} {d : DataW H} {p : List MemPlace} (hv : Value.okWide Tryz.prog W r b0 46 v) (h : DataW.Trod enc Tryz.prog W 0 sp true 46 v d p) :
    ∃ x : SlotG, v = sV x ∧ x.1.i.Ok ∧ (x.1.i.l.length : Int) ≤ 9223372036854775807 := by
  obtain ⟨cs, rfl, hsz⟩ := okWide_struct Tryz.underlying46 hv
  rw [cellsGl] at hsz
  obtain ⟨fuel, hf⟩ := h
  obtain ⟨i, hi, h1, h2⟩ := open_six (cs := cs.toList) (by simpa [Value.cells] using hf) (by simpa using hsz)
  exact ⟨i, by show Value.agg cs = .agg (sC i); congr 1; apply Array.toList_inj.1; exact hi, h1, h2⟩
theorem open_glist {A : Option Addr} {len cap : Nat} {d : DataW H} {p : List MemPlace} (h : DataW.Trod enc Tryz.prog W 0 sp true 29 (.slice A len cap) d p) :
    ∃ l : List SlotG, l.length = len ∧ Gs W A l ∧ (l.length : Int) ≤ 9223372036854775807 ∧ ∀ x ∈ l, OkS x := by
  obtain ⟨fuel, hf⟩ := h
  rcases open_slice Tryz.underlying29 hf with ⟨hcs, _⟩ | ⟨a, ln, cp, m, n, D, Pl, hcs, hb, hl, hm, hmm, hx, hi⟩
  · simp [Value.cells] at hcs
    obtain ⟨rfl, rfl, rfl⟩ := hcs
    exact ⟨[], rfl, (fun j i hi => by cases hi), by simp, fun x hx => by cases hx⟩
  · simp [Value.cells] at hcs
    obtain ⟨rfl, rfl, rfl⟩ := hcs
    have hlm : len ≤ m := by rw [hmm]; split <;> omega
    have each : ∀ j, j < len → ∃ i : SlotG, (∀ u, u < 6 → W.cell? ((a.add (j * 6)).add u) = (sL i)[u]?) ∧ OkS i := by
      intro j hj
      obtain ⟨cs', hc, ht'⟩ := hi j (by omega)
      rw [cellsGl] at hc
      obtain ⟨_, hcl, hat⟩ := World.cells?_some hc
      obtain ⟨i, rfl, hw⟩ := open_six ht' hcl
      exact ⟨i, fun u hu => hat u (by omega), hw⟩
    have pick : ∀ k, k ≤ len → ∃ l : List SlotG, l.length = k ∧ (∀ (j : Nat) (i : SlotG), l[j]? = some i → ∀ u, u < 6 → W.cell? ((a.add (j * 6)).add u) = (sL i)[u]?) ∧ ∀ x ∈ l, OkS x := by
      intro k
      induction k with
      | zero => intro _; exact ⟨[], rfl, (fun j i hi => by cases hi), fun x hx => by cases hx⟩
      | succ k ih =>
        intro hk
        obtain ⟨l, hl1, hl2, hl3⟩ := ih (by omega)
        obtain ⟨i, hq, hw⟩ := each k (by omega)
        refine ⟨l ++ [i], by simp [hl1], fun j i' hi' => ?_, fun x hx => (List.mem_append.1 hx).elim (hl3 x) (fun h => by rw [List.mem_singleton] at h; subst h; exact hw)⟩
        rcases Nat.lt_or_ge j k with g | g
        · rw [List.getElem?_append_left (by omega)] at hi'
          exact hl2 j i' hi'
        · have hj : j < (l ++ [i]).length := (List.getElem?_eq_some_iff.1 hi').1
          rw [List.length_append, List.length_singleton] at hj
          obtain rfl : j = k := by omega
          rw [List.getElem?_append_right (by omega), hl1, Nat.sub_self] at hi'
          injection hi' with hi'
          subst hi'
          exact hq
    obtain ⟨l, hl1, hl2, hl3⟩ := pick len (Nat.le_refl _)
    unfold maxLen at hm
    refine ⟨l, hl1, fun j i hij => ?_, by omega, hl3⟩
    have q := hl2 j i hij
    have hj0 := (List.getElem?_eq_some_iff.1 hij).1
    have q00 : W.cell? ((a.add (0 * 6)).add 0) = some (.int .u8 (l[0]'(by omega)).1.t.toNat) := hl2 0 _ (List.getElem?_eq_getElem (by omega : 0 < l.length)) 0 (by omega)
    obtain ⟨b, off, spot⟩ := a
    have hsp : spot = none := by simpa [Addr.add] using World.cell?_spot q00
    subst hsp
    have q2 : ∀ u, u < 6 → W.cell? ⟨b, off + j * 6 + u, none⟩ = (sL i)[u]? := fun u hu => by
      have := q u hu
      rw [Go.WideShapes.add_plain, Go.WideShapes.add_plain] at this
      exact this
    have q0 : W.cell? ⟨b, off + j * 6 + 0, none⟩ = some (.int .u8 i.1.t.toNat) := q2 0 (by omega)
    exact ⟨b, off, rfl, block_lt_of_cell q0, q2⟩
end
end Go.Proofs.YticgmfeihdankaaGreatDoor
