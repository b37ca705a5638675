/- An import by value and a slice of imports, opened. (By gen/genCards.py.) -/
import Derived.Test.YtihpnplfklbgjaaDoorQd15
import Derived.Test.YtihpnplfklbgjaaDoorQd13
import Derived.ProofKit
import Derived.OpenShut
import Derived.ShutString
import Derived.ChangeOld
import Derived.ChangeSame
import Derived.Deep.Slices
import Derived.Deep.Fields
import Derived.Lib.SmallJoins
namespace Go.Proofs.YtihpnplfklbgjaaDoor
open Go.ChangeShapes Go.WideShapes Go.ChangeAt Go.RowKit Go.Joins Go.Deep
set_option linter.unusedVariables false
set_option maxRecDepth 100000

theorem cellsImp : Tryd.prog.cellsOf 52 = 9 := by kernel_rfl
section
variable {H : Type} {enc : TypeId × Value → H} {W : World} {sp : Nat → Bool}
theorem open_lims {n : Nat} {c0 c1 c2 : Value} {y : DataW H × List MemPlace} (h : DataW.trod enc Tryd.prog W 0 sp true n 48 [c0, c1, c2] = some y) :
    ∃ (a b : UInt32) (q : Bool), c0 = .int .u32 a.toNat ∧ c1 = .int .u32 b.toNat ∧ c2 = .bool q := by
  obtain ⟨ys, m, _, hy, hlen, hyl, hf⟩ := DataW.trod_struct Tryd.underlying48 h
  match ys, hyl with
  | [y0, y1, y2], _ =>
    have e1 : Tryd.prog.cellsOf 22 = 1 := by kernel_rfl
    have e2 : Tryd.prog.cellsOf 4 = 1 := by kernel_rfl
    have h0 : DataW.trod enc Tryd.prog W 0 sp true m 22 (([c0, c1, c2].drop 0).take (Tryd.prog.cellsOf 22)) = some y0 := hf 0 _ rfl
    have h1 : DataW.trod enc Tryd.prog W 0 sp true m 22 (([c0, c1, c2].drop 1).take (Tryd.prog.cellsOf 22)) = some y1 := hf 1 _ rfl
    have h2 : DataW.trod enc Tryd.prog W 0 sp true m 4 (([c0, c1, c2].drop 2).take (Tryd.prog.cellsOf 4)) = some y2 := hf 2 _ rfl
    rw [e1] at h0 h1
    rw [e2] at h2
    obtain ⟨x0, q0, _, w0⟩ := DataW.trod_int Tryd.underlying22 h0
    obtain ⟨x1, q1, _, w1⟩ := DataW.trod_int Tryd.underlying22 h1
    obtain ⟨x2, q2, _⟩ := DataW.trod_bool Tryd.underlying4 h2
    obtain ⟨a, rfl⟩ := u32_ex w0
    obtain ⟨b, rfl⟩ := u32_ex w1
    exact ⟨a, b, x2, by simpa using q0, by simpa using q1, by simpa using q2⟩
theorem open_glob {n : Nat} {c0 c1 : Value} {y : DataW H × List MemPlace} (h : DataW.trod enc Tryd.prog W 0 sp true n 50 [c0, c1] = some y) :
    ∃ (a : UInt8) (q : Bool), c0 = .int .u8 a.toNat ∧ c1 = .bool q := by
  obtain ⟨ys, m, _, hy, hlen, hyl, hf⟩ := DataW.trod_struct Tryd.underlying50 h
  match ys, hyl with
  | [y0, y1], _ =>
    have e1 : Tryd.prog.cellsOf 5 = 1 := by kernel_rfl
    have e2 : Tryd.prog.cellsOf 4 = 1 := by kernel_rfl
    have h0 : DataW.trod enc Tryd.prog W 0 sp true m 5 (([c0, c1].drop 0).take (Tryd.prog.cellsOf 5)) = some y0 := hf 0 _ rfl
    have h1 : DataW.trod enc Tryd.prog W 0 sp true m 4 (([c0, c1].drop 1).take (Tryd.prog.cellsOf 4)) = some y1 := hf 1 _ rfl
    rw [e1] at h0
    rw [e2] at h1
    obtain ⟨x0, q0, _, w0⟩ := DataW.trod_int Tryd.underlying5 h0
    obtain ⟨x1, q1, _⟩ := DataW.trod_bool Tryd.underlying4 h1
    obtain ⟨a, rfl⟩ := u8_ex w0
    exact ⟨a, x1, by simpa using q0, by simpa using q1⟩
/-- Nine cells of an import. -/
theorem open_imp {n : Nat} {cs : List Value} {x : DataW H × List MemPlace} (h : DataW.trod enc Tryd.prog W 0 sp true n 52 cs = some x) (hc : cs.length = 9) : ∃ i : Im, cs = imL i := by
  obtain ⟨ys, m, _, hy, hlen, hyl, hf⟩ := DataW.trod_struct Tryd.underlying52 h
  match cs, hc with
  | [c0, c1, c2, c3, c4, c5, c6, c7, c8], _ =>
    match ys, hyl with
    | [y0, y1, y2, y3, y4, y5], _ =>
      have e1 : Tryd.prog.cellsOf 9 = 1 := by kernel_rfl
      have e2 : Tryd.prog.cellsOf 5 = 1 := by kernel_rfl
      have e3 : Tryd.prog.cellsOf 22 = 1 := by kernel_rfl
      have e4 : Tryd.prog.cellsOf 48 = 3 := by kernel_rfl
      have e5 : Tryd.prog.cellsOf 50 = 2 := by kernel_rfl
      have h0 : DataW.trod enc Tryd.prog W 0 sp true m 9 (([c0, c1, c2, c3, c4, c5, c6, c7, c8].drop 0).take (Tryd.prog.cellsOf 9)) = some y0 := hf 0 _ rfl
      have h1 : DataW.trod enc Tryd.prog W 0 sp true m 9 (([c0, c1, c2, c3, c4, c5, c6, c7, c8].drop 1).take (Tryd.prog.cellsOf 9)) = some y1 := hf 1 _ rfl
      have h2 : DataW.trod enc Tryd.prog W 0 sp true m 5 (([c0, c1, c2, c3, c4, c5, c6, c7, c8].drop 2).take (Tryd.prog.cellsOf 5)) = some y2 := hf 2 _ rfl
      have h3 : DataW.trod enc Tryd.prog W 0 sp true m 22 (([c0, c1, c2, c3, c4, c5, c6, c7, c8].drop 3).take (Tryd.prog.cellsOf 22)) = some y3 := hf 3 _ rfl
      have h4 : DataW.trod enc Tryd.prog W 0 sp true m 48 (([c0, c1, c2, c3, c4, c5, c6, c7, c8].drop 4).take (Tryd.prog.cellsOf 48)) = some y4 := hf 4 _ rfl
      have h5 : DataW.trod enc Tryd.prog W 0 sp true m 50 (([c0, c1, c2, c3, c4, c5, c6, c7, c8].drop 7).take (Tryd.prog.cellsOf 50)) = some y5 := hf 5 _ rfl
      rw [e1] at h0 h1
      rw [e2] at h2
      rw [e3] at h3
      rw [e4] at h4
      rw [e5] at h5
      obtain ⟨s0, q0, _, _⟩ := DataW.trod_string Tryd.underlying9 h0
      obtain ⟨s1, q1, _, _⟩ := DataW.trod_string Tryd.underlying9 h1
      obtain ⟨x2, q2, _, w2⟩ := DataW.trod_int Tryd.underlying5 h2
      obtain ⟨x3, q3, _, w3⟩ := DataW.trod_int Tryd.underlying22 h3
      obtain ⟨k, rfl⟩ := u8_ex w2
      obtain ⟨t, rfl⟩ := u32_ex w3
      obtain ⟨a, b, bd, r4, r5, r6⟩ := open_lims h4
      obtain ⟨g, gm, r7, r8⟩ := open_glob h5
      have q0' : c0 = .string s0 := by simpa using q0
      have q1' : c1 = .string s1 := by simpa using q1
      have q2' : c2 = .int .u8 k.toNat := by simpa using q2
      have q3' : c3 = .int .u32 t.toNat := by simpa using q3
      exact ⟨⟨s0.data.toList, s1.data.toList, k, t, a, b, bd, g, gm⟩, by unfold imL imC; rw [S_of, S_of, q0', q1', q2', q3', r4, r5, r6, r7, r8]⟩
theorem open_im {b0 : Nat} {r : Reach} {v : Value} {d : DataW H} {p : List MemPlace} (hv : Value.okWide Tryd.prog W r b0 52 v) (h : DataW.Trod enc Tryd.prog W 0 sp true 52 v d p) : ∃ i : Im, v = imV i := by
  obtain ⟨cs, rfl, hsz⟩ := okWide_struct Tryd.underlying52 hv
  rw [cellsImp] at hsz
  obtain ⟨fuel, hf⟩ := h
  obtain ⟨i, hi⟩ := open_imp (cs := cs.toList) (by simpa [Value.cells] using hf) (by simpa using hsz)
  exact ⟨i, by show Value.agg cs = .agg (imC i); congr 1; apply Array.toList_inj.1; exact hi⟩
theorem open_ims {A : Option Addr} {len cap : Nat} {d : DataW H} {p : List MemPlace} (h : DataW.Trod enc Tryd.prog W 0 sp true 45 (.slice A len cap) d p) :
    ∃ l : List Im, l.length = len ∧ Ims W A l ∧ (l.length : Int) ≤ 9223372036854775807 := by
  obtain ⟨fuel, hf⟩ := h
  rcases open_slice Tryd.underlying45 hf with ⟨hcs, _⟩ | ⟨a, ln, cp, m, n, D, Pl, hcs, hb, hl, hm, hmm, hx, hi⟩
  · simp [Value.cells] at hcs
    obtain ⟨rfl, rfl, rfl⟩ := hcs
    exact ⟨[], rfl, (fun j i hi => by cases hi), by simp⟩
  · simp [Value.cells] at hcs
    obtain ⟨rfl, rfl, rfl⟩ := hcs
    have hlm : len ≤ m := by rw [hmm]; split <;> omega
    have each : ∀ j, j < len → ∃ i : Im, ∀ u, u < 9 → W.cell? ((a.add (j * 9)).add u) = (imL i)[u]? := by
      intro j hj
      obtain ⟨cs', hc, ht'⟩ := hi j (by omega)
      rw [cellsImp] at hc
      obtain ⟨_, hcl, hat⟩ := World.cells?_some hc
      obtain ⟨i, rfl⟩ := open_imp ht' hcl
      exact ⟨i, fun u hu => hat u (by omega)⟩
    have pick : ∀ k, k ≤ len → ∃ l : List Im, l.length = k ∧ ∀ (j : Nat) (i : Im), l[j]? = some i → ∀ u, u < 9 → W.cell? ((a.add (j * 9)).add u) = (imL i)[u]? := by
      intro k
      induction k with
      | zero => intro _; exact ⟨[], rfl, fun j i hi => by cases hi⟩
      | succ k ih =>
        intro hk
        obtain ⟨l, hl1, hl2⟩ := ih (by omega)
        obtain ⟨i, hq⟩ := each k (by omega)
        refine ⟨l ++ [i], by simp [hl1], fun j i' hi' => ?_⟩
        rcases Nat.lt_or_ge j k with g | g
        · rw [List.getElem?_append_left (by omega)] at hi'
          exact hl2 j i' hi'
        · have hj : j < (l ++ [i]).length := (List.getElem?_eq_some_iff.1 hi').1
          rw [List.length_append, List.length_singleton] at hj
          obtain rfl : j = k := by omega
          rw [List.getElem?_append_right (by omega), hl1, Nat.sub_self] at hi'
          injection hi' with hi'
          subst hi'
          exact hq
    obtain ⟨l, hl1, hl2⟩ := pick len (Nat.le_refl _)
    unfold maxLen at hm
    refine ⟨l, hl1, fun j i hij => ?_, by omega⟩
    have q := hl2 j i hij
    have hj0 := (List.getElem?_eq_some_iff.1 hij).1
    have q00 : W.cell? ((a.add (0 * 9)).add 0) = some (.string (S (l[0]'(by omega)).mod)) := hl2 0 _ (List.getElem?_eq_getElem (by omega : 0 < l.length)) 0 (by omega)
    obtain ⟨b, off, spot⟩ := a
    have hsp : spot = none := by simpa [Addr.add] using World.cell?_spot q00
    subst hsp
    have q2 : ∀ u, u < 9 → W.cell? ⟨b, off + j * 9 + u, none⟩ = (imL i)[u]? := fun u hu => by
      have := q u hu
      rw [Go.WideShapes.add_plain, Go.WideShapes.add_plain] at this
      exact this
    have q0 : W.cell? ⟨b, off + j * 9 + 0, none⟩ = some (.string (S i.mod)) := q2 0 (by omega)
    exact ⟨b, off, rfl, block_lt_of_cell q0, q2⟩
end
end Go.Proofs.YtihpnplfklbgjaaDoor
