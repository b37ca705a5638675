/- A module by value, opened: its seventeen cells, and that its lists lie. -/
import Derived.Test.YtkleadjkebofpaaGreatDoorZs06
import Derived.Test.YtkleadjkebofpaaGreatDoorZs09
import Derived.ProofKit
import Derived.OpenShut
import Derived.ShutString
import Derived.ChangeOld
import Derived.ChangeSame
import Derived.Deep.Slices
import Derived.Deep.Fields
import Derived.Lib.SmallJoins
import Derived.Test.YtkleadjkebofpaaGreatDoorZs08
import Derived.Test.YtkleadjkebofpaaGreatDoorZs01
import Derived.Deep.QuietTactic
import Derived.BigQuiet
import Derived.Deep.CutBlock
import Derived.Deep.DeepCutAuto
namespace Go.Proofs.YtkleadjkebofpaaGreatDoor
open Go.ChangeShapes Go.WideShapes Go.ChangeAt Go.RowKit Go.Joins Go.Deep
set_option linter.unusedVariables false
set_option maxRecDepth 100000

section
variable {H : Type} {enc : TypeId × Value → H} {W : World} {sp : Nat → Bool}
/-- A slice whose elements have z cells, each opened by oe. -/
theorem open_rows {α : Type} {T E : TypeId} (z : Nat) (f : α → List Value) (Q : α → Prop) (hT : Tryz.prog.underlying T = some (.slice E)) (hz : Tryz.prog.cellsOf E = z) (hz0 : 0 < z)
    (oe : ∀ n cs x, DataW.trod enc Tryz.prog W 0 sp true n E cs = some x → cs.length = z → ∃ i, cs = f i ∧ Q i)
    {fuel : Nat} {v : Value} {x : DataW H × List MemPlace} (h : DataW.trod enc Tryz.prog W 0 sp true fuel T [v] = some x) :
    ∃ (A : Option Addr) (c : Nat) (l : List α), v = .slice A l.length c ∧ (∀ (j : Nat) (i : α), l[j]? = some i → ∃ b off, A = some ⟨b, off, none⟩ ∧ b < W.heap.size ∧ ∀ u, u < z → W.cell? ⟨b, off + j * z + u, none⟩ = (f i)[u]?) ∧
      (∀ i ∈ l, Q i) ∧ (l.length : Int) ≤ 9223372036854775807 ∧ (A = none → c = 0) := by
  rcases open_slice hT h with ⟨hcs, _⟩ | ⟨a, len, cap, m, n, D, Pl, hcs, hb, hl, hm, hmm, hx, hi⟩
  · simp at hcs
    exact ⟨none, 0, [], hcs, (fun j i hi => by cases hi), (fun i hi => by cases hi), by simp, fun _ => rfl⟩
  · simp at hcs
    subst hcs
    have hlm : len ≤ m := by rw [hmm]; split <;> omega
    have each : ∀ j, j < len → ∃ i : α, (∀ u, u < z → W.cell? ((a.add (j * z)).add u) = (f i)[u]?) ∧ Q i ∧ (f i).length = z := by
      intro j hj
      obtain ⟨cs', hc, ht'⟩ := hi j (by omega)
      rw [hz] at hc
      obtain ⟨_, hcl, hat⟩ := World.cells?_some hc
      obtain ⟨i, rfl, hq⟩ := oe _ _ _ ht' hcl
      exact ⟨i, fun u hu => hat u (by omega), hq, hcl⟩
    have pick : ∀ k, k ≤ len → ∃ l : List α, l.length = k ∧ (∀ (j : Nat) (i : α), l[j]? = some i → ∀ u, u < z → W.cell? ((a.add (j * z)).add u) = (f i)[u]?) ∧ ∀ x ∈ l, Q x ∧ (f x).length = z := by
      intro k
      induction k with
      | zero => intro _; exact ⟨[], rfl, (fun j i hi => by cases hi), fun x hx => by cases hx⟩
      | succ k ih =>
        intro hk
        obtain ⟨l, hl1, hl2, hl3⟩ := ih (by omega)
        obtain ⟨i, hq, hw⟩ := each k (by omega)
        refine ⟨l ++ [i], by simp [hl1], fun j i' hi' => ?_, fun x hx => (List.mem_append.1 hx).elim (hl3 x) (fun h => by rw [List.mem_singleton] at h; subst h; exact hw)⟩
        rcases Nat.lt_or_ge j k with g | g
        · rw [List.getElem?_append_left (by omega)] at hi'
          exact hl2 j i' hi'
        · have hj : j < (l ++ [i]).length := (List.getElem?_eq_some_iff.1 hi').1
          rw [List.length_append, List.length_singleton] at hj
          obtain rfl : j = k := by omega
          rw [List.getElem?_append_right (by omega), hl1, Nat.sub_self] at hi'
          injection hi' with hi'
          subst hi'
          exact hq
    obtain ⟨l, hl1, hl2, hl3⟩ := pick len (Nat.le_refl _)
    unfold maxLen at hm
    subst hl1
    refine ⟨some a, cap, l, rfl, fun j i hij => ?_, fun i hi => (hl3 i hi).1, by omega, fun e => by cases e⟩
    have q := hl2 j i hij
    have hj0 := (List.getElem?_eq_some_iff.1 hij).1
    obtain ⟨i0, hi0⟩ : ∃ i0, l[0]? = some i0 := ⟨_, List.getElem?_eq_getElem (by omega)⟩
    obtain ⟨v0, hv0⟩ : ∃ v0, (f i0)[0]? = some v0 := ⟨_, List.getElem?_eq_getElem (by rw [(hl3 i0 (List.mem_of_getElem? hi0)).2]; exact hz0)⟩
    have q00 := hl2 0 i0 hi0 0 hz0
    rw [hv0] at q00
    obtain ⟨b, off, spot⟩ := a
    have hsp : spot = none := by simpa [Addr.add] using World.cell?_spot q00
    subst hsp
    obtain ⟨v1, hv1⟩ : ∃ v1, (f i)[0]? = some v1 := ⟨_, List.getElem?_eq_getElem (by rw [(hl3 i (List.mem_of_getElem? hij)).2]; exact hz0)⟩
    have q1 := q 0 hz0
    rw [hv1, Go.WideShapes.add_plain, Go.WideShapes.add_plain] at q1
    have q2 : ∀ u, u < z → W.cell? ⟨b, off + j * z + u, none⟩ = (f i)[u]? := fun u hu => by
      have := q u hu
      rw [Go.WideShapes.add_plain, Go.WideShapes.add_plain] at this
      exact this
    exact ⟨b, off, rfl, block_lt_of_cell q1, q2⟩
theorem open_str1 {n : Nat} {cs : List Value} {x : DataW H × List MemPlace} (h : DataW.trod enc Tryz.prog W 0 sp true n 9 cs = some x) : ∃ s : List UInt8, cs = [.string (S s)] := by
  obtain ⟨s0, q0, _, _⟩ := DataW.trod_string Tryz.underlying9 h
  exact ⟨s0.data.toList, by rw [S_of]; exact q0⟩
theorem open_u32 {n : Nat} {v : Value} {x : DataW H × List MemPlace} (h : DataW.trod enc Tryz.prog W 0 sp true n 31 [v] = some x) : ∃ a : UInt32, v = .int .u32 a.toNat := by
  obtain ⟨x0, q0, _, w0⟩ := DataW.trod_int Tryz.underlying31 h
  obtain ⟨a, rfl⟩ := u32_ex w0
  exact ⟨a, by simpa using q0⟩
abbrev ftyC (x : Ft) : List Value := [.string (S x.p), .string (S x.r)]
abbrev limC (x : Lm) : List Value := [.int .u32 x.lo.toNat, .int .u32 x.hi.toNat, .bool x.bd]
theorem open_ft {n : Nat} {cs : List Value} {x : DataW H × List MemPlace} (h : DataW.trod enc Tryz.prog W 0 sp true n 40 cs = some x) (hc : cs.length = 2) : ∃ i : Ft, cs = ftyC i := by
  obtain ⟨ys, m, _, hy, hlen, hyl, hf⟩ := DataW.trod_struct Tryz.underlying40 h
  match cs, hc with
  | [c0, c1], _ =>
    match ys, hyl with
    | [y0, y1], _ =>
      have e1 : Tryz.prog.cellsOf 9 = 1 := by kernel_rfl
      have h0 : DataW.trod enc Tryz.prog W 0 sp true m 9 (([c0, c1].drop 0).take (Tryz.prog.cellsOf 9)) = some y0 := hf 0 _ rfl
      have h1 : DataW.trod enc Tryz.prog W 0 sp true m 9 (([c0, c1].drop 1).take (Tryz.prog.cellsOf 9)) = some y1 := hf 1 _ rfl
      rw [e1] at h0 h1
      obtain ⟨s0, q0⟩ := open_str1 h0
      obtain ⟨s1, q1⟩ := open_str1 h1
      have q0' : c0 = .string (S s0) := by simpa using q0
      have q1' : c1 = .string (S s1) := by simpa using q1
      exact ⟨⟨s0, s1⟩, by rw [q0', q1']⟩
theorem open_lm {n : Nat} {cs : List Value} {x : DataW H × List MemPlace} (h : DataW.trod enc Tryz.prog W 0 sp true n 51 cs = some x) (hc : cs.length = 3) : ∃ i : Lm, cs = limC i := by
  match cs, hc with
  | [c0, c1, c2], _ =>
    obtain ⟨a, b, q, r0, r1, r2⟩ := open_lims h
    exact ⟨⟨a, b, q⟩, by rw [r0, r1, r2]⟩
theorem open_nums {n : Nat} {v : Value} {y : DataW H × List MemPlace} (h : DataW.trod enc Tryz.prog W 0 sp true n 24 [v] = some y) :
    ∃ A c l, v = .slice A l.length c ∧ LiesL W A l ∧ (∀ d ∈ l, 0 ≤ d ∧ d ≤ 4294967295) ∧ (l.length : Int) ≤ 9223372036854775807 ∧ (A = none → c = 0) := by
  rcases open_ints Tryz.underlying24 Tryz.underlying31 cells4 h with ⟨hcs, _⟩ | ⟨a, l, c, zs, hcs, _, hl, hm, hz, _, hcell, hwf⟩
  · simp at hcs
    exact ⟨none, 0, [], hcs, fun j v hv => by simp [cells32] at hv, by simp, by simp, fun _ => rfl⟩
  · simp at hcs
    subst hcs
    have hle : l ≤ zs.length := by rw [hz]; split <;> omega
    have hlen : (zs.take l).length = l := by rw [List.length_take]; omega
    unfold maxLen at hm
    refine ⟨some a, c, zs.take l, by rw [hlen], ints_lie hle hcell, fun d hd => ?_, by rw [hlen]; omega, fun e => by cases e⟩
    have w0 := hwf d (List.mem_of_mem_take hd)
    simpa [Lit.wf, IntKind.min, IntKind.max, IntKind.signed, IntKind.bits] using w0
theorem open_dlM {n : Nat} {cs : List Value} {x : DataW H × List MemPlace} (h : DataW.trod enc Tryz.prog W 0 sp true n 34 cs = some x) (hc : cs.length = 6) :
    ∃ (i : Dl) (A : Option Addr) (c : Nat), cs = (dlC i A c).toList ∧ SlT W A i.nd ∧ (i.nd.length : Int) ≤ 9223372036854775807 := by
  obtain ⟨ys, m, _, hy, hlen, hyl, hf⟩ := DataW.trod_struct Tryz.underlying34 h
  match cs, hc with
  | [c0, c1, c2, c3, c4, c5], _ =>
    match ys, hyl with
    | [y0, y1, y2, y3, y4, y5], _ =>
      have e1 : Tryz.prog.cellsOf 4 = 1 := by kernel_rfl
      have e2 : Tryz.prog.cellsOf 31 = 1 := by kernel_rfl
      have e3 : Tryz.prog.cellsOf 32 = 1 := by kernel_rfl
      have h0 : DataW.trod enc Tryz.prog W 0 sp true m 4 (([c0, c1, c2, c3, c4, c5].drop 0).take (Tryz.prog.cellsOf 4)) = some y0 := hf 0 _ rfl
      have h1 : DataW.trod enc Tryz.prog W 0 sp true m 31 (([c0, c1, c2, c3, c4, c5].drop 1).take (Tryz.prog.cellsOf 31)) = some y1 := hf 1 _ rfl
      have h2 : DataW.trod enc Tryz.prog W 0 sp true m 31 (([c0, c1, c2, c3, c4, c5].drop 2).take (Tryz.prog.cellsOf 31)) = some y2 := hf 2 _ rfl
      have h3 : DataW.trod enc Tryz.prog W 0 sp true m 31 (([c0, c1, c2, c3, c4, c5].drop 3).take (Tryz.prog.cellsOf 31)) = some y3 := hf 3 _ rfl
      have h4 : DataW.trod enc Tryz.prog W 0 sp true m 31 (([c0, c1, c2, c3, c4, c5].drop 4).take (Tryz.prog.cellsOf 31)) = some y4 := hf 4 _ rfl
      have h5 : DataW.trod enc Tryz.prog W 0 sp true m 32 (([c0, c1, c2, c3, c4, c5].drop 5).take (Tryz.prog.cellsOf 32)) = some y5 := hf 5 _ rfl
      rw [e1] at h0
      rw [e2] at h1 h2 h3 h4
      rw [e3] at h5
      obtain ⟨x0, q0, _⟩ := DataW.trod_bool Tryz.underlying4 h0
      obtain ⟨a1, rfl⟩ := open_u32 h1
      obtain ⟨a2, rfl⟩ := open_u32 h2
      obtain ⟨a3, rfl⟩ := open_u32 h3
      obtain ⟨a4, rfl⟩ := open_u32 h4
      obtain ⟨A, c, l, rfl, hs, _, hlc, _⟩ := open_rows 1 (fun s : List UInt8 => [Value.string (S s)]) (fun _ => True) Tryz.underlying32 (by kernel_rfl) (by omega) (fun n cs x h hc => (open_str1 h).imp fun i e => ⟨e, trivial⟩) h5
      have q0' : c0 = .bool x0 := by simpa using q0
      subst q0'
      exact ⟨⟨x0, a1, a2, a3, a4, l⟩, A, c, rfl, (fun j s hj => by obtain ⟨b, off, e, hb, q⟩ := hs j s hj; have q0 := q 0 (by omega); rw [Nat.mul_one, Nat.add_zero] at q0; exact ⟨b, off, e, hb, q0⟩), hlc⟩
/-- What the kinds of its numbers hold, and lengths are numbers. -/
structure MdOk (m : Md) (a : MdA) : Prop where
  ln : (m.ty.length : Int) ≤ 9223372036854775807 ∧ (m.im.length : Int) ≤ 9223372036854775807 ∧ (m.fn.length : Int) ≤ 9223372036854775807 ∧ (m.tb.length : Int) ≤ 9223372036854775807 ∧ (m.me.length : Int) ≤ 9223372036854775807
  ln2 : (m.gl.length : Int) ≤ 9223372036854775807 ∧ (m.ex.length : Int) ≤ 9223372036854775807 ∧ (m.el.length : Int) ≤ 9223372036854775807 ∧ (m.co.length : Int) ≤ 9223372036854775807 ∧ (m.da.length : Int) ≤ 9223372036854775807 ∧ (m.dy.nd.length : Int) ≤ 9223372036854775807
  st : -9223372036854775808 ≤ m.st ∧ m.st ≤ 9223372036854775807
  gl : ∀ x ∈ m.gl, OkS x
  el : ∀ x ∈ m.el, OkE x
  co : ∀ x ∈ m.co, OkB x
  da : ∀ x ∈ m.da, OkH x
  fn : a.fn.1 = none → a.fn.2 = 0
theorem cellsFt : Tryz.prog.cellsOf 40 = 2 := by kernel_rfl
theorem cellsLm : Tryz.prog.cellsOf 51 = 3 := by kernel_rfl
theorem cellsMd : Tryz.prog.cellsOf 36 = 17 := by kernel_rfl
set_option maxHeartbeats 4000000 in
theorem open_mdL {n : Nat} {cs : List Value} {x : DataW H × List MemPlace} (h : DataW.trod enc Tryz.prog W 0 sp true n 36 cs = some x) (hc : cs.length = 17) :
    ∃ (m : Md) (a : MdA), cs = (mdC m a).toList ∧ MdIn W m a ∧ MdOk m a := by
  obtain ⟨ys, k, _, hy, hlen, hyl, hf⟩ := DataW.trod_struct Tryz.underlying36 h
  match cs, hc with
  | [c0, c1, c2, c3, c4, c5, c6, c7, c8, c9, c10, c11, c12, c13, c14, c15, c16], _ =>
    match ys, hyl with
    | [y0, y1, y2, y3, y4, y5, y6, y7, y8, y9, y10, y11], _ =>
      have h0 : DataW.trod enc Tryz.prog W 0 sp true k 22 (([c0, c1, c2, c3, c4, c5, c6, c7, c8, c9, c10, c11, c12, c13, c14, c15, c16].drop 0).take (Tryz.prog.cellsOf 22)) = some y0 := hf 0 _ rfl
      have h1 : DataW.trod enc Tryz.prog W 0 sp true k 23 (([c0, c1, c2, c3, c4, c5, c6, c7, c8, c9, c10, c11, c12, c13, c14, c15, c16].drop 1).take (Tryz.prog.cellsOf 23)) = some y1 := hf 1 _ rfl
      have h2 : DataW.trod enc Tryz.prog W 0 sp true k 24 (([c0, c1, c2, c3, c4, c5, c6, c7, c8, c9, c10, c11, c12, c13, c14, c15, c16].drop 2).take (Tryz.prog.cellsOf 24)) = some y2 := hf 2 _ rfl
      have h3 : DataW.trod enc Tryz.prog W 0 sp true k 25 (([c0, c1, c2, c3, c4, c5, c6, c7, c8, c9, c10, c11, c12, c13, c14, c15, c16].drop 3).take (Tryz.prog.cellsOf 25)) = some y3 := hf 3 _ rfl
      have h4 : DataW.trod enc Tryz.prog W 0 sp true k 25 (([c0, c1, c2, c3, c4, c5, c6, c7, c8, c9, c10, c11, c12, c13, c14, c15, c16].drop 4).take (Tryz.prog.cellsOf 25)) = some y4 := hf 4 _ rfl
      have h5 : DataW.trod enc Tryz.prog W 0 sp true k 26 (([c0, c1, c2, c3, c4, c5, c6, c7, c8, c9, c10, c11, c12, c13, c14, c15, c16].drop 5).take (Tryz.prog.cellsOf 26)) = some y5 := hf 5 _ rfl
      have h6 : DataW.trod enc Tryz.prog W 0 sp true k 27 (([c0, c1, c2, c3, c4, c5, c6, c7, c8, c9, c10, c11, c12, c13, c14, c15, c16].drop 6).take (Tryz.prog.cellsOf 27)) = some y6 := hf 6 _ rfl
      have h7 : DataW.trod enc Tryz.prog W 0 sp true k 3 (([c0, c1, c2, c3, c4, c5, c6, c7, c8, c9, c10, c11, c12, c13, c14, c15, c16].drop 7).take (Tryz.prog.cellsOf 3)) = some y7 := hf 7 _ rfl
      have h8 : DataW.trod enc Tryz.prog W 0 sp true k 28 (([c0, c1, c2, c3, c4, c5, c6, c7, c8, c9, c10, c11, c12, c13, c14, c15, c16].drop 8).take (Tryz.prog.cellsOf 28)) = some y8 := hf 8 _ rfl
      have h9 : DataW.trod enc Tryz.prog W 0 sp true k 29 (([c0, c1, c2, c3, c4, c5, c6, c7, c8, c9, c10, c11, c12, c13, c14, c15, c16].drop 9).take (Tryz.prog.cellsOf 29)) = some y9 := hf 9 _ rfl
      have h10 : DataW.trod enc Tryz.prog W 0 sp true k 30 (([c0, c1, c2, c3, c4, c5, c6, c7, c8, c9, c10, c11, c12, c13, c14, c15, c16].drop 10).take (Tryz.prog.cellsOf 30)) = some y10 := hf 10 _ rfl
      have h11 : DataW.trod enc Tryz.prog W 0 sp true k 34 (([c0, c1, c2, c3, c4, c5, c6, c7, c8, c9, c10, c11, c12, c13, c14, c15, c16].drop 11).take (Tryz.prog.cellsOf 34)) = some y11 := hf 11 _ rfl
      rw [show Tryz.prog.cellsOf 22 = 1 by kernel_rfl] at h0
      rw [show Tryz.prog.cellsOf 23 = 1 by kernel_rfl] at h1
      rw [show Tryz.prog.cellsOf 24 = 1 by kernel_rfl] at h2
      rw [show Tryz.prog.cellsOf 25 = 1 by kernel_rfl] at h3 h4
      rw [show Tryz.prog.cellsOf 26 = 1 by kernel_rfl] at h5
      rw [show Tryz.prog.cellsOf 27 = 1 by kernel_rfl] at h6
      rw [show Tryz.prog.cellsOf 3 = 1 by kernel_rfl] at h7
      rw [show Tryz.prog.cellsOf 28 = 1 by kernel_rfl] at h8
      rw [show Tryz.prog.cellsOf 29 = 1 by kernel_rfl] at h9
      rw [show Tryz.prog.cellsOf 30 = 1 by kernel_rfl] at h10
      rw [show Tryz.prog.cellsOf 34 = 6 by kernel_rfl] at h11
      obtain ⟨A0, p0, l0, rfl, i0, _, n0, _⟩ := open_rows 2 ftyC (fun _ => True) Tryz.underlying22 cellsFt (by omega) (fun n cs x h hc => (open_ft h hc).imp fun i e => ⟨e, trivial⟩) h0
      obtain ⟨A1, p1, l1, rfl, i1, _, n1, _⟩ := open_rows 9 imL (fun _ => True) Tryz.underlying23 cellsImp (by omega) (fun n cs x h hc => (open_imp h hc).imp fun i e => ⟨e, trivial⟩) h1
      obtain ⟨A2, p2, l2, rfl, i2, w2, n2, z2⟩ := open_nums h2
      obtain ⟨A3, p3, l3, rfl, i3, _, n3, _⟩ := open_rows 3 limC (fun _ => True) Tryz.underlying25 cellsLm (by omega) (fun n cs x h hc => (open_lm h hc).imp fun i e => ⟨e, trivial⟩) h3
      obtain ⟨A4, p4, l4, rfl, i4, _, n4, _⟩ := open_rows 3 limC (fun _ => True) Tryz.underlying25 cellsLm (by omega) (fun n cs x h hc => (open_lm h hc).imp fun i e => ⟨e, trivial⟩) h4
      obtain ⟨A5, p5, l5, rfl, i5, w5, n5, _⟩ := open_rows 6 sL OkS Tryz.underlying26 cellsGl (by omega) (fun n cs x h hc => open_six h hc) h5
      obtain ⟨A6, p6, l6, rfl, i6, _, n6, _⟩ := open_rows 3 exL (fun _ => True) Tryz.underlying27 cellsExp (by omega) (fun n cs x h hc => (open_exp h hc).imp fun i e => ⟨e.1, trivial⟩) h6
      obtain ⟨x7, q7, _, w7⟩ := DataW.trod_int Tryz.underlying3 h7
      obtain ⟨A8, p8, l8, rfl, i8, w8, n8, _⟩ := open_rows 5 qL (fun s => OkE s ∧ LiesL W s.2.2.1 s.1.fs) Tryz.underlying28 cellsElem (by omega) (fun n cs x h hc => open_five h hc) h8
      obtain ⟨A9, p9, l9, rfl, i9, w9, n9, _⟩ := open_rows 2 cL (fun s => OkB s ∧ (Los W s.2.1.1 s.1.ls ∧ Ins W s.2.2.1 s.1.b)) Tryz.underlying29 cellsCode (by omega) (fun n cs x h hc => open_two h hc) h9
      obtain ⟨A10, p10, l10, rfl, i10, w10, n10, _⟩ := open_rows 5 hL9 OkH Tryz.underlying30 cellsData (by omega) (fun n cs x h hc => open_fived h hc) h10
      have q7' : c7 = .int .i64 x7 := by simpa using q7
      subst q7'
      have hb7 : -9223372036854775808 ≤ x7 ∧ x7 ≤ 9223372036854775807 := by simpa [Lit.wf, IntKind.min, IntKind.max, IntKind.signed, IntKind.bits] using w7
      obtain ⟨d, A11, p11, e11, i11, n11⟩ := open_dlM h11 rfl
      simp only [List.drop_succ_cons, List.drop_zero, List.take_succ_cons, List.take_zero, dlC, List.cons.injEq, and_true] at e11
      obtain ⟨rfl, rfl, rfl, rfl, rfl, rfl⟩ := e11
      exact ⟨⟨l0, l1, l2, l3, l4, l5, l6, x7, l8, l9, l10, d⟩, ⟨(A0, p0), (A1, p1), (A2, p2), (A3, p3), (A4, p4), (A5, p5), (A6, p6), (A8, p8), (A9, p9), (A10, p10), (A11, p11)⟩, rfl,
        ⟨(fun j i hi => by obtain ⟨b, off, e, hb, q⟩ := i0 j i hi; exact ⟨b, off, e, hb, q 0 (by omega), q 1 (by omega)⟩), i1, i2,
         (fun j i hi => by obtain ⟨b, off, e, hb, q⟩ := i3 j i hi; exact ⟨b, off, e, hb, q 0 (by omega), q 1 (by omega), q 2 (by omega)⟩),
         (fun j i hi => by obtain ⟨b, off, e, hb, q⟩ := i4 j i hi; exact ⟨b, off, e, hb, q 0 (by omega), q 1 (by omega), q 2 (by omega)⟩), i5, i6,
         (fun j i hi => ⟨i8 j i hi, (w8 i (List.mem_of_getElem? hi)).2⟩), (fun j i hi => ⟨i9 j i hi, (w9 i (List.mem_of_getElem? hi)).2⟩), i10, i11, w2⟩,
        ⟨⟨n0, n1, n2, n3, n4⟩, ⟨n5, n6, n8, n9, n10, n11⟩, hb7, w5, fun x hx => (w8 x hx).1, fun x hx => (w9 x hx).1, w10, z2⟩⟩
theorem open_md {b0 : Nat} {r : Reach} {v : Value} {d : DataW H} {p : List MemPlace} (hv : Value.okWide Tryz.prog W r b0 36 v) (h : DataW.Trod enc Tryz.prog W 0 sp true 36 v d p) : ∃ (m : Md) (a : MdA), v = mdV m a ∧ MdIn W m a ∧ MdOk m a := by
  obtain ⟨cs, rfl, hsz⟩ := okWide_struct Tryz.underlying36 hv
  rw [cellsMd] at hsz
  obtain ⟨fuel, hf⟩ := h
  obtain ⟨m, a, hi, h1, h2⟩ := open_mdL (cs := cs.toList) (by simpa [Value.cells] using hf) (by simpa using hsz)
  exact ⟨m, a, by show Value.agg cs = .agg (mdC m a); congr 1; apply Array.toList_inj.1; exact hi, h1, h2⟩
end
end Go.Proofs.YtkleadjkebofpaaGreatDoor

/- The walk of ModuleFuncs. (By gen/genMdH.py.) -/
namespace Go.Proofs.YtkleadjkebofpaaGreatDoor
open Go.RowKit
set_option linter.unusedVariables false
set_option maxRecDepth 100000

theorem eq_fty (x : Ft) (w : World) : (binOp BinOp.eql 40 (ftyV x) (ftyV x)).run Tryz.prog w = .ok (.bool true) w := by
  go_simp
theorem eq_ftyZ (w : World) : (binOp BinOp.eql 40 ftyZ ftyZ).run Tryz.prog w = .ok (.bool true) w := by
  go_simp
/-- What the law's loop keeps. -/
abbrev LpF (w : World) (m : Md) (a : MdA) (fs : List Int) (A1 A2 : Option Addr) (W : World) : Prop := (LiesL W A1 fs ∧ LiesL W A2 fs) ∧ BxM w w.heap.size m a W
theorem lpF_on {w W W' : World} {m : Md} {a : MdA} {fs : List Int} {A1 A2 : Option Addr} (h : LpF w m a fs A1 A2 W) (hb : Below W.heap.size W W') : LpF w m a fs A1 A2 W' := ⟨⟨h.1.1.below hb, h.1.2.below hb⟩, bxM_on h.2 hb⟩
set_option maxHeartbeats 8000000 in
theorem lawMF {w : World} {m : Md} {a : MdA} (f : Int) (hi : MdIn w m a) (ho : MdOk m a) (hT : TabsU w) (f0 : 0 ≤ f) (f1 : f ≤ 4294967295) :
    Calls Tryz.prog 3 #[mdV m a, .int .u32 f] w fun e w' => e = .returned (.bool true) ∧ Below w.heap.size w w' := by
  have H0 := Lib.hid (bxM_start w m a)
  obtain ⟨c0, c1, c2, c3, c4, c5, c6, c7, c8, c9, c10, c11, c12, c13, c14, c15, c16⟩ := H0.out.2
  have HAW := Lib.hid (awake_md (hT.below (below_box w (.cells (mdC m a) 36))))
  clear hT
  by_cases g1 : 100 < m.im.length
  · as_aux_lemma =>
      have d1 : decide ((100 : Int) < (m.im.length : Int)) = true := decide_eq_true (by omega)
      clear g1 hi ho
      go_enter Tryz.func3, Tryz.ntmps3
      go_wp2_with (go_at_call 4; go_must ((with_reducible refine HAW.out.mono ?_); rintro e w1 ⟨rfl, hb1⟩; have H1 := Lib.hid (bxM_on H0.out hb1); clear c0 c1 c2 c3 c4 c5 c6 c7 c8 c9 c10 c11 c12 c13 c14 c15 c16 hb1; obtain ⟨c0, c1, c2, c3, c4, c5, c6, c7, c8, c9, c10, c11, c12, c13, c14, c15, c16⟩ := H1.out.2))
      go_ret
      exact ⟨rfl, bxM_bel H1.out⟩
  have d1 : decide ((100 : Int) < (m.im.length : Int)) = false := decide_eq_false (by omega)
  by_cases g2 : 100 < m.fn.length
  · as_aux_lemma =>
      have d2 : decide ((100 : Int) < (m.fn.length : Int)) = true := decide_eq_true (by omega)
      clear g1 g2 hi ho
      go_enter Tryz.func3, Tryz.ntmps3
      go_wp2_with (go_at_call 4; go_must ((with_reducible refine HAW.out.mono ?_); rintro e w1 ⟨rfl, hb1⟩; have H1 := Lib.hid (bxM_on H0.out hb1); clear c0 c1 c2 c3 c4 c5 c6 c7 c8 c9 c10 c11 c12 c13 c14 c15 c16 hb1; obtain ⟨c0, c1, c2, c3, c4, c5, c6, c7, c8, c9, c10, c11, c12, c13, c14, c15, c16⟩ := H1.out.2))
      go_ret
      exact ⟨rfl, bxM_bel H1.out⟩
  have d2 : decide ((100 : Int) < (m.fn.length : Int)) = false := decide_eq_false (by omega)
  have HFn := Lib.hid ho.fn
  have HI := Lib.hid hi
  have HP := Lib.hid (fun W (hb : Below w.heap.size w W) => funcs_md (hi.below hb) ho.fn (by omega) (by omega))
  have HQ := Lib.hid (fun W (hb : Below w.heap.size w W) => rfuncs_md (hi.below hb) ho.fn (by omega) (by omega))
  have HTy := Lib.hid (fun W (hb : Below w.heap.size w W) => typeOf_md f (hi.below hb) ho.fn (by omega) (by omega) f0 f1 ho.ln.1)
  have hlen := fnOf_len m.im m.im.length
  rw [List.take_length] at hlen
  have hfl : (fnOf m.im ++ m.fn).length ≤ 200 := by rw [List.length_append]; omega
  have htl := ho.ln.1
  have HRng := Lib.hid (show ∀ c ∈ fnOf m.im ++ m.fn, 0 ≤ c ∧ c ≤ 4294967295 from fun c hc => by
    rcases List.mem_append.1 hc with h | h
    · unfold fnOf at h
      obtain ⟨x, _, rfl⟩ := List.mem_map.1 h
      have := x.typ.toNat_lt
      omega
    · exact hi.fb c h)
  obtain ⟨fs, hfs⟩ : ∃ fs, fs = fnOf m.im ++ m.fn := ⟨_, rfl⟩
  rw [← hfs] at HP HQ HTy hfl HRng
  clear g1 g2 hi ho hlen hfs
  go_enter Tryz.func3, Tryz.ntmps3
  go_upto_region 5 with (go_at_call 4; go_must ((with_reducible refine HAW.out.mono ?_); rintro e w1 ⟨rfl, hb1⟩; have H1 := Lib.hid (bxM_on H0.out hb1); clear c0 c1 c2 c3 c4 c5 c6 c7 c8 c9 c10 c11 c12 c13 c14 c15 c16 hb1; obtain ⟨c0, c1, c2, c3, c4, c5, c6, c7, c8, c9, c10, c11, c12, c13, c14, c15, c16⟩ := H1.out.2))
  go_cut [5, 6] (fun p q W => ∃ A1 k1 A2 k2, p = .slice A1 fs.length k1 ∧ q = .slice A2 fs.length k2 ∧ LpF w m a fs A1 A2 W)
  case first =>
    as_aux_lemma =>
      have hB := bxM_on H1.out (Below.refl _ _).drew
      clear c0 c1 c2 c3 c4 c5 c6 c7 c8 c9 c10 c11 c12 c13 c14 c15 c16
      refine wp_region_noPanic ?_
      refine wp_region_held_drew (S := fun W => BxM w w.heap.size m a W) (by kernel_rfl) hB (fun hHeld => ?_)
      clear hB
      (refine heldTake (i := 0) (oi := { dst := some 22, op := Op.load 36 (Operand.tmp 2), type := 36, pos := "law.go:198", after := #[], guard := none }) (v := ?_) rfl (by kernel_rfl) (by kernel_rfl) (by kernel_rfl) (by assumption) ?_ ?_; rotate_left; focus (refine .inl ⟨by kernel_rfl, ?_⟩; intro w hSw; (try dsimp only at hSw); go_simp; (try with_reducible rfl)); skip)
      (try simp only [Act.put, List.setIfInBounds_toArray, List.set_cons_zero, List.set_cons_succ])
      (refine heldTake (i := 2) (oi := { dst := some 24, op := Op.load 36 (Operand.tmp 2), type := 36, pos := "law.go:198", after := #[], guard := none }) (v := ?_) rfl (by kernel_rfl) (by kernel_rfl) (by kernel_rfl) (by assumption) ?_ ?_; rotate_left; focus (refine .inl ⟨by kernel_rfl, ?_⟩; intro w hSw; (try dsimp only at hSw); go_simp; (try with_reducible rfl)); skip)
      (try simp only [Act.put, List.setIfInBounds_toArray, List.set_cons_zero, List.set_cons_succ])
      refine wpAnyH_ready (rs := [1]) (by kernel_rfl) (by simp) ?_
      refine (AllReadyH.cons (o := { dst := some 23, op := Op.call { callee := Callee.value (Operand.func 5), args := #[Operand.tmp 22], argTypes := #[36] }, type := 24, pos := "law.go:198", after := #[{ on := 0, ground := Ground.data }], guard := none }) rfl (fun K hK => ?_) AllReadyH.nil)
      go_simp
      (go_at_call 5; (with_reducible refine (HP.out _ (bxM_bel hHeld)).mono ?_); rintro e w2 ⟨v2, rfl, hr2, hb2⟩; obtain ⟨A2, k2, rfl⟩ := hr2.slice; have HB1 := Lib.hid hb2; have HL1 := Lib.hid hr2.lies.1; clear hr2 hb2)
      refine hK.out _ _ (bxM_on hHeld HB1.out) (fun hHeld1 => ?_)
      clear hK K hHeld
      (try simp only [Act.put, List.setIfInBounds_toArray, List.set_cons_zero, List.set_cons_succ])
      refine wpAnyH_ready (rs := [3]) (by kernel_rfl) (by simp) ?_
      refine (AllReadyH.cons (o := { dst := some 25, op := Op.call { callee := Callee.value (Operand.func 6), args := #[Operand.tmp 24], argTypes := #[36] }, type := 24, pos := "law.go:198", after := #[{ on := 2, ground := Ground.data }, { on := 1, ground := Ground.chain }], guard := none }) rfl (fun K hK => ?_) AllReadyH.nil)
      go_simp
      (go_at_call 6; (with_reducible refine (HQ.out _ (bxM_bel hHeld1)).mono ?_); rintro e w3 ⟨v3, rfl, hr3, hb3⟩; obtain ⟨A3, k3, rfl⟩ := hr3.slice; have HB3 := Lib.hid hb3; have HL3 := Lib.hid hr3.lies.1; clear hr3 hb3)
      refine hK.out _ _ (bxM_on hHeld1 HB3.out) (fun hHeld3 => ?_)
      clear hK K hHeld1
      (try simp only [Act.put, List.setIfInBounds_toArray, List.set_cons_zero, List.set_cons_succ])
      (refine heldTake (i := 4) (oi := { dst := some 5, op := Op.assign (Operand.tmp 23), type := 24, pos := "law.go:198", after := #[{ on := 1, ground := Ground.data }, { on := 3, ground := Ground.chain }, { on := 0, ground := Ground.phase }, { on := 1, ground := Ground.phase }, { on := 2, ground := Ground.textOnly Departure.lateStores }, { on := 3, ground := Ground.textOnly Departure.lateStoresUnsure }], guard := none }) (v := ?_) rfl (by kernel_rfl) (by kernel_rfl) (by kernel_rfl) (by assumption) ?_ ?_; rotate_left; focus (refine .inl ⟨by kernel_rfl, ?_⟩; intro w hSw; (try dsimp only at hSw); go_simp; (try with_reducible rfl)); skip)
      (try simp only [Act.put, List.setIfInBounds_toArray, List.set_cons_zero, List.set_cons_succ])
      (refine heldTake (i := 5) (oi := { dst := some 6, op := Op.assign (Operand.tmp 25), type := 24, pos := "law.go:198", after := #[{ on := 3, ground := Ground.data }, { on := 4, ground := Ground.chain }, { on := 0, ground := Ground.phase }, { on := 1, ground := Ground.phase }, { on := 2, ground := Ground.phase }, { on := 3, ground := Ground.phase }, { on := 4, ground := Ground.phase }], guard := none }) (v := ?_) rfl (by kernel_rfl) (by kernel_rfl) (by kernel_rfl) (by assumption) ?_ ?_; rotate_left; focus (refine .inl ⟨by kernel_rfl, ?_⟩; intro w hSw; (try dsimp only at hSw); go_simp; (try with_reducible rfl)); skip)
      (try simp only [Act.put, List.setIfInBounds_toArray, List.set_cons_zero, List.set_cons_succ])
      refine wpAnyH_done (by kernel_rfl) ?_ _
      refine NoPanic.normal ?_
      have hLast := hHeld3
      clear hHeld3
      go_wp2
      go_meet
      exact ⟨_, _, _, _, rfl, rfl, ⟨(((HL1.out).below HB3.out)), HL3.out⟩, hLast⟩
  case rest =>
    obtain ⟨A1, k1, A2, k2, rfl, rfl, hlp⟩ := hcut
    have HLP := Lib.hid hlp
    clear c0 c1 c2 c3 c4 c5 c6 c7 c8 c9 c10 c11 c12 c13 c14 c15 c16 HP HQ hlp
    obtain ⟨c0, c1, c2, c3, c4, c5, c6, c7, c8, c9, c10, c11, c12, c13, c14, c15, c16⟩ := HLP.out.2.2
    go_wp2
    go_loopw [7] (fun i wr => ∃ k : Nat, k ≤ fs.length ∧ i = .int .i64 k ∧ LpF w m a fs A1 A2 wr) (fun i _ => fs.length - (intOf i).toNat)
    case atStart => exact ⟨0, Nat.zero_le _, rfl, HLP.out⟩
    case round =>
      obtain ⟨k, hk, rfl, hr⟩ := hrel
      clear c0 c1 c2 c3 c4 c5 c6 c7 c8 c9 c10 c11 c12 c13 c14 c15 c16 HLP
      have HR := Lib.hid hr
      obtain ⟨c0, c1, c2, c3, c4, c5, c6, c7, c8, c9, c10, c11, c12, c13, c14, c15, c16⟩ := hr.2.2
      by_cases hlt : k < fs.length
      · as_aux_lemma =>
            obtain ⟨x, hx⟩ : ∃ x, fs[k]? = some x := ⟨_, List.getElem?_eq_getElem hlt⟩
            obtain ⟨b1, o1, e1, _, q1⟩ := hr.1.1.at hx
            obtain ⟨b2, o2, e2, _, q2⟩ := hr.1.2.at hx
            subst e1; subst e2
            clear hr hx
            go_upto_region 11 with fail
            go_quiet (fail)
            go_wp2
            go_roundw
            case rel => exact ⟨k + 1, by omega, by go_num, lpF_on HR.out (below_drewN (Below.refl _ _) _)⟩
            case measure => simp [intOf]; omega
      · obtain rfl : k = fs.length := by omega
        have HTW := Lib.hid (HTy.out wr (bxM_bel hr.2))
        have e1 : IntKind.u64.wrap f = f := by simp [IntKind.wrap, IntKind.bits, IntKind.signed]; omega
        have e2 : IntKind.u64.wrap (fs.length : Int) = fs.length := by simp [IntKind.wrap, IntKind.bits, IntKind.signed]; omega
        have e3 : IntKind.u64.wrap (m.ty.length : Int) = m.ty.length := by simp [IntKind.wrap, IntKind.bits, IntKind.signed]; omega
        obtain ⟨n, rfl⟩ : ∃ n : Nat, f = n := ⟨f.toNat, by omega⟩
        by_cases hf : fs.length ≤ n
        · as_aux_lemma =>
            have d4 : decide ((fs.length : Int) ≤ (n : Int)) = true := decide_eq_true (by omega)
            rw [show tyV (tyOf fs m.ty (n : Int)) = .tuple #[ftyZ, .bool false] by unfold tyOf; rw [Int.toNat_natCast, List.getElem?_eq_none hf]; rfl] at HTW
            have he := eq_ftyZ
            clear hr hlt HTy HRng
            go_upto_region 14 with (go_at_call 7; go_must ((with_reducible refine HTW.out.mono ?_); rintro e w5 ⟨rfl, hb5⟩; have HB5 := Lib.hid (lpF_on HR.out hb5); clear hb5))
            have HBX := Lib.hid (lpF_on HB5.out (below_box w5 (.cells #[.string { data := #[] }, .string { data := #[] }] 40)))
            have hwf := Whole.made w5 40 #[.string { data := #[] }, .string { data := #[] }]
            have z0 := hwf.cell 0
            have z1 := hwf.cell 1
            simp only [List.getElem?_toArray, List.getElem?_cons_zero, List.getElem?_cons_succ] at z0 z1
            have HWF := Lib.hid hwf
            clear c0 c1 c2 c3 c4 c5 c6 c7 c8 c9 c10 c11 c12 c13 c14 c15 c16 hwf
            obtain ⟨c0, c1, c2, c3, c4, c5, c6, c7, c8, c9, c10, c11, c12, c13, c14, c15, c16⟩ := HBX.out.2.2
            go_quiet (fail)
            go_wp2
            go_ret
            exact ⟨rfl, below_drewN (bxM_bel HBX.out.2) _⟩
        · obtain ⟨y, hy⟩ : ∃ y, fs[n]? = some y := ⟨_, List.getElem?_eq_getElem (by omega)⟩
          have d4 : decide ((fs.length : Int) ≤ (n : Int)) = false := decide_eq_false (by omega)
          have hyb := HRng.out y (List.mem_of_getElem? hy)
          have e4 : IntKind.u64.wrap y = y := by simp [IntKind.wrap, IntKind.bits, IntKind.signed]; omega
          obtain ⟨t, rfl⟩ : ∃ t : Nat, y = t := ⟨y.toNat, by omega⟩
          by_cases hg : m.ty.length ≤ t
          · as_aux_lemma =>
              have d5 : decide ((m.ty.length : Int) ≤ (t : Int)) = true := decide_eq_true (by omega)
              rw [show tyV (tyOf fs m.ty (n : Int)) = .tuple #[ftyZ, .bool false] by unfold tyOf; rw [Int.toNat_natCast, hy]; show tyV (m.ty[t]?) = _; rw [List.getElem?_eq_none hg]; rfl] at HTW
              have he := eq_ftyZ
              have HY := Lib.hid hy
              clear hr hlt HTy HRng hy
              go_upto_region 14 with (go_at_call 7; go_must ((with_reducible refine HTW.out.mono ?_); rintro e w5 ⟨rfl, hb5⟩; have HB5 := Lib.hid (lpF_on HR.out hb5); clear hb5))
              have HBX := Lib.hid (lpF_on HB5.out (below_box w5 (.cells #[.string { data := #[] }, .string { data := #[] }] 40)))
              have hwf := Whole.made w5 40 #[.string { data := #[] }, .string { data := #[] }]
              have z0 := hwf.cell 0
              have z1 := hwf.cell 1
              simp only [List.getElem?_toArray, List.getElem?_cons_zero, List.getElem?_cons_succ] at z0 z1
              have HWF := Lib.hid hwf
              clear c0 c1 c2 c3 c4 c5 c6 c7 c8 c9 c10 c11 c12 c13 c14 c15 c16 hwf
              obtain ⟨c0, c1, c2, c3, c4, c5, c6, c7, c8, c9, c10, c11, c12, c13, c14, c15, c16⟩ := HBX.out.2.2
              obtain ⟨b2, o2, hA2, _, q2⟩ := HBX.out.1.2.at HY.out
              subst hA2
              go_quiet (fail)
              go_wp2
              go_ret
              exact ⟨rfl, below_drewN (bxM_bel HBX.out.2) _⟩
          · as_aux_lemma =>
              obtain ⟨x, hx⟩ : ∃ x, m.ty[t]? = some x := ⟨_, List.getElem?_eq_getElem (by omega)⟩
              have d5 : decide ((m.ty.length : Int) ≤ (t : Int)) = false := decide_eq_false (by omega)
              rw [show tyV (tyOf fs m.ty (n : Int)) = .tuple #[ftyV x, .bool true] by unfold tyOf; rw [Int.toNat_natCast, hy]; show tyV (m.ty[t]?) = _; rw [hx]; rfl] at HTW
              have he := eq_fty x
              have HY := Lib.hid hy
              have HX := Lib.hid hx
              clear hr hlt HTy HRng hy hx
              go_upto_region 14 with (go_at_call 7; go_must ((with_reducible refine HTW.out.mono ?_); rintro e w5 ⟨rfl, hb5⟩; have HB5 := Lib.hid (lpF_on HR.out hb5); clear hb5))
              have HBX := Lib.hid (lpF_on HB5.out (below_box w5 (.cells #[.string (S x.p), .string (S x.r)] 40)))
              have hwf := Whole.made w5 40 #[.string (S x.p), .string (S x.r)]
              have z0 := hwf.cell 0
              have z1 := hwf.cell 1
              simp only [List.getElem?_toArray, List.getElem?_cons_zero, List.getElem?_cons_succ] at z0 z1
              have HWF := Lib.hid hwf
              clear c0 c1 c2 c3 c4 c5 c6 c7 c8 c9 c10 c11 c12 c13 c14 c15 c16 hwf
              obtain ⟨c0, c1, c2, c3, c4, c5, c6, c7, c8, c9, c10, c11, c12, c13, c14, c15, c16⟩ := HBX.out.2.2
              obtain ⟨b2, o2, hA2, _, q2⟩ := HBX.out.1.2.at HY.out
              subst hA2
              obtain ⟨b3, o3, hA3, _, p0, p1⟩ := (HI.out.ty.below (bxM_bel HBX.out.2)) t x HX.out
              rw [hA3] at c0
              go_quiet (fail)
              go_wp2
              have HLX := Lib.hid (bxM_bel HBX.out.2)
              generalize hW6 : (w5.alloc (.cells #[.string (S x.p), .string (S x.r)] 40)).drewN nq = W6 at *
              have HB6 : Hid (Below w.heap.size w W6) := by rw [← hW6]; exact Lib.hid (below_drewN HLX.out _)
              have z0' : W6.cell? ⟨w5.heap.size, 0, none⟩ = some (.string (S x.p)) := by rw [← hW6]; exact z0
              have z1' : W6.cell? ⟨w5.heap.size, 1, none⟩ = some (.string (S x.r)) := by rw [← hW6]; exact z1
              have q2' : W6.cell? ⟨b2, o2 + n, none⟩ = some (.int .u32 t) := by rw [← hW6]; exact q2
              have c0' : W6.cell? ⟨w.heap.size, 0, none⟩ = some (.slice (some ⟨b3, o3, none⟩) m.ty.length a.ty.2) := by rw [← hW6]; exact c0
              have p0' : W6.cell? ⟨b3, o3 + t * 2, none⟩ = some (.string (S x.p)) := by rw [← hW6]; exact p0
              have p1' : W6.cell? ⟨b3, o3 + t * 2 + 1, none⟩ = some (.string (S x.r)) := by rw [← hW6]; exact p1
              clear hW6
              go_quiet (fail)
              go_wp2
              go_ret
              exact ⟨rfl, below_drewN HB6.out _⟩
end Go.Proofs.YtkleadjkebofpaaGreatDoor
