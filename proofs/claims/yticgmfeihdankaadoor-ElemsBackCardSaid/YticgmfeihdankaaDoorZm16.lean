/- An element segment by value and a slice of segments, opened. -/
import Derived.Test.YticgmfeihdankaaDoorZm13
import Derived.Test.YticgmfeihdankaaDoorZm15
import Derived.ProofKit
import Derived.OpenShut
import Derived.ShutString
import Derived.ChangeOld
import Derived.ChangeSame
import Derived.Deep.Slices
import Derived.Deep.Fields
import Derived.Lib.SmallJoins
import Derived.Deep.CutBlock
import Derived.Deep.DeepCutAuto
import Derived.Test.YticgmfeihdankaaDoorZm08
import Derived.Test.YticgmfeihdankaaDoorZm12
import Derived.OwnWalk
import Derived.Laws.AppendOwn
import Derived.Deep.SlicePairs
import Derived.Test.YticgmfeihdankaaDoorZm14
import Derived.Test.YticgmfeihdankaaDoorZm10
import Derived.Test.YticgmfeihdankaaDoorZm07
namespace Go.Proofs.YticgmfeihdankaaDoor
open Go.ChangeShapes Go.WideShapes Go.ChangeAt Go.RowKit Go.Joins Go.Deep
set_option linter.unusedVariables false
set_option maxRecDepth 100000

theorem cellsElem : Tryd.prog.cellsOf 27 = 5 := by kernel_rfl
/-- Its numbers are what their kinds hold. -/
def OkE (x : SlotEl) : Prop := x.1.i.Ok ∧ (x.1.i.l.length : Int) ≤ 9223372036854775807 ∧ ∀ c ∈ x.1.fs, 0 ≤ c ∧ c ≤ 4294967295
section
variable {H : Type} {enc : TypeId × Value → H} {W : World} {sp : Nat → Bool}
/-- The four cells of an instruction. -/
theorem open_four {n : Nat} {c0 c1 c2 c3 : Value} {x : DataW H × List MemPlace} (h : DataW.trod enc Tryd.prog W 0 sp true n 25 [c0, c1, c2, c3] = some x) :
    ∃ (i : I) (B : Option Addr) (c : Nat), c0 = .int .u8 i.op.toNat ∧ c1 = .int .u64 i.a ∧ c2 = .int .u64 i.b ∧ c3 = .slice B i.l.length c ∧ i.Ok ∧ (i.l.length : Int) ≤ 9223372036854775807 := by
  obtain ⟨ys, m, _, hy, hlen, hyl, hf⟩ := DataW.trod_struct Tryd.underlying25 h
  match ys, hyl with
  | [y0, y1, y2, y3], _ =>
    have e1 : Tryd.prog.cellsOf 5 = 1 := by kernel_rfl
    have e2 : Tryd.prog.cellsOf 22 = 1 := by kernel_rfl
    have e3 : Tryd.prog.cellsOf 23 = 1 := by kernel_rfl
    have h0 : DataW.trod enc Tryd.prog W 0 sp true m 5 (([c0, c1, c2, c3].drop 0).take (Tryd.prog.cellsOf 5)) = some y0 := hf 0 _ rfl
    have h1 : DataW.trod enc Tryd.prog W 0 sp true m 22 (([c0, c1, c2, c3].drop 1).take (Tryd.prog.cellsOf 22)) = some y1 := hf 1 _ rfl
    have h2 : DataW.trod enc Tryd.prog W 0 sp true m 22 (([c0, c1, c2, c3].drop 2).take (Tryd.prog.cellsOf 22)) = some y2 := hf 2 _ rfl
    have h3 : DataW.trod enc Tryd.prog W 0 sp true m 23 (([c0, c1, c2, c3].drop 3).take (Tryd.prog.cellsOf 23)) = some y3 := hf 3 _ rfl
    rw [e1] at h0
    rw [e2] at h1 h2
    rw [e3] at h3
    obtain ⟨i, B, c, rfl, rfl, rfl, rfl, ho, _, hn⟩ := open_parts h0 h1 h2 h3
    exact ⟨i, B, c, rfl, rfl, rfl, rfl, ho, hn⟩
/-- Five cells of a segment. -/
theorem open_five {n : Nat} {cs : List Value} {x : DataW H × List MemPlace} (h : DataW.trod enc Tryd.prog W 0 sp true n 27 cs = some x) (hc : cs.length = 5) : ∃ s : SlotEl, cs = qL s ∧ OkE s ∧ LiesL W s.2.2.1 s.1.fs := by
  obtain ⟨ys, m, _, hy, hlen, hyl, hf⟩ := DataW.trod_struct Tryd.underlying27 h
  match cs, hc with
  | [c0, c1, c2, c3, c4], _ =>
    match ys, hyl with
    | [y0, y1], _ =>
      have e1 : Tryd.prog.cellsOf 25 = 4 := by kernel_rfl
      have e2 : Tryd.prog.cellsOf 23 = 1 := by kernel_rfl
      have h0 : DataW.trod enc Tryd.prog W 0 sp true m 25 (([c0, c1, c2, c3, c4].drop 0).take (Tryd.prog.cellsOf 25)) = some y0 := hf 0 _ rfl
      have h1 : DataW.trod enc Tryd.prog W 0 sp true m 23 (([c0, c1, c2, c3, c4].drop 4).take (Tryd.prog.cellsOf 23)) = some y1 := hf 1 _ rfl
      rw [e1] at h0
      rw [e2] at h1
      obtain ⟨i, B, c, r0, r1, r2, r3, ho, hn⟩ := open_four h0
      obtain ⟨F, f, fs, r4, hl, hb, _⟩ := open_labels h1
      exact ⟨(⟨i, fs⟩, (B, c), (F, f)), by unfold qL qC elC; rw [r0, r1, r2, r3, r4], ⟨ho, hn, hb⟩, hl⟩
theorem open_eseg {b0 : Nat} {r : Reach} {v : Value} {d : DataW H} {p : List MemPlace} (hv : Value.okWide Tryd.prog W r b0 27 v) (h : DataW.Trod enc Tryd.prog W 0 sp true 27 v d p) :
    ∃ x : SlotEl, v = qV x ∧ OkE x ∧ LiesL W x.2.2.1 x.1.fs := by
  obtain ⟨cs, rfl, hsz⟩ := okWide_struct Tryd.underlying27 hv
  rw [cellsElem] at hsz
  obtain ⟨fuel, hf⟩ := h
  obtain ⟨i, hi, h1, h2⟩ := open_five (cs := cs.toList) (by simpa [Value.cells] using hf) (by simpa using hsz)
  exact ⟨i, by show Value.agg cs = .agg (qC i); congr 1; apply Array.toList_inj.1; exact hi, h1, h2⟩
theorem open_elist {A : Option Addr} {len cap : Nat} {d : DataW H} {p : List MemPlace} (h : DataW.Trod enc Tryd.prog W 0 sp true 50 (.slice A len cap) d p) :
    ∃ l : List SlotEl, l.length = len ∧ Es W A l ∧ (l.length : Int) ≤ 9223372036854775807 ∧ ∀ x ∈ l, OkE x := by
  obtain ⟨fuel, hf⟩ := h
  rcases open_slice Tryd.underlying50 hf with ⟨hcs, _⟩ | ⟨a, ln, cp, m, n, D, Pl, hcs, hb, hl, hm, hmm, hx, hi⟩
  · simp [Value.cells] at hcs
    obtain ⟨rfl, rfl, rfl⟩ := hcs
    exact ⟨[], rfl, (fun j i hi => by cases hi), by simp, fun x hx => by cases hx⟩
  · simp [Value.cells] at hcs
    obtain ⟨rfl, rfl, rfl⟩ := hcs
    have hlm : len ≤ m := by rw [hmm]; split <;> omega
    have each : ∀ j, j < len → ∃ i : SlotEl, ((∀ u, u < 5 → W.cell? ((a.add (j * 5)).add u) = (qL i)[u]?) ∧ LiesL W i.2.2.1 i.1.fs) ∧ OkE i := by
      intro j hj
      obtain ⟨cs', hc, ht'⟩ := hi j (by omega)
      rw [cellsElem] at hc
      obtain ⟨_, hcl, hat⟩ := World.cells?_some hc
      obtain ⟨i, rfl, hw, hl⟩ := open_five ht' hcl
      exact ⟨i, ⟨fun u hu => hat u (by omega), hl⟩, hw⟩
    have pick : ∀ k, k ≤ len → ∃ l : List SlotEl, l.length = k ∧ (∀ (j : Nat) (i : SlotEl), l[j]? = some i → (∀ u, u < 5 → W.cell? ((a.add (j * 5)).add u) = (qL i)[u]?) ∧ LiesL W i.2.2.1 i.1.fs) ∧ ∀ x ∈ l, OkE x := by
      intro k
      induction k with
      | zero => intro _; exact ⟨[], rfl, (fun j i hi => by cases hi), fun x hx => by cases hx⟩
      | succ k ih =>
        intro hk
        obtain ⟨l, hl1, hl2, hl3⟩ := ih (by omega)
        obtain ⟨i, hq, hw⟩ := each k (by omega)
        refine ⟨l ++ [i], by simp [hl1], fun j i' hi' => ?_, fun x hx => (List.mem_append.1 hx).elim (hl3 x) (fun h => by rw [List.mem_singleton] at h; subst h; exact hw)⟩
        rcases Nat.lt_or_ge j k with g | g
        · rw [List.getElem?_append_left (by omega)] at hi'
          exact hl2 j i' hi'
        · have hj : j < (l ++ [i]).length := (List.getElem?_eq_some_iff.1 hi').1
          rw [List.length_append, List.length_singleton] at hj
          obtain rfl : j = k := by omega
          rw [List.getElem?_append_right (by omega), hl1, Nat.sub_self] at hi'
          injection hi' with hi'
          subst hi'
          exact hq
    obtain ⟨l, hl1, hl2, hl3⟩ := pick len (Nat.le_refl _)
    unfold maxLen at hm
    refine ⟨l, hl1, fun j i hij => ?_, by omega, hl3⟩
    obtain ⟨q, hfu⟩ := hl2 j i hij
    have hj0 := (List.getElem?_eq_some_iff.1 hij).1
    have q00 : W.cell? ((a.add (0 * 5)).add 0) = some (.int .u8 (l[0]'(by omega)).1.i.op.toNat) := (hl2 0 _ (List.getElem?_eq_getElem (by omega : 0 < l.length))).1 0 (by omega)
    obtain ⟨b, off, spot⟩ := a
    have hsp : spot = none := by simpa [Addr.add] using World.cell?_spot q00
    subst hsp
    have q2 : ∀ u, u < 5 → W.cell? ⟨b, off + j * 5 + u, none⟩ = (qL i)[u]? := fun u hu => by
      have := q u hu
      rw [Go.WideShapes.add_plain, Go.WideShapes.add_plain] at this
      exact this
    have q0 : W.cell? ⟨b, off + j * 5 + 0, none⟩ = some (.int .u8 i.1.i.op.toNat) := q2 0 (by omega)
    exact ⟨⟨b, off, rfl, block_lt_of_cell q0, q2⟩, hfu⟩
end
end Go.Proofs.YticgmfeihdankaaDoor

/- The walk of ElemsReads. -/
namespace Go.Proofs.YticgmfeihdankaaDoor
open Go.RowKit
set_option linter.unusedVariables false
set_option maxRecDepth 100000

theorem valueElR_err {w : World} {p q : Nat} {ms : List UInt8} {M : Option Addr} {cm : Nat} {W : World} {c a : Int} (h : LR w p q ms M cm W) (hc : ¬ c = 0) (hr : elsR ms 0 = .err c a) :
    Calls Tryd.prog 23 #[.func (.func 24) #[] #[.pointer (some ⟨q + 1, 0, none⟩)]] W fun e w' => e = .returned (.tuple #[.slice none 0 0, .agg #[.int .i64 c, .int .i64 a]]) ∧ W.grownBy w' (some p) := by
  have h1 := h.pq
  have h2 := h.qz
  exact valueElsE_any hc (cfEl3 _) (by omega) (fun W' hW hz => by
    have := closEl3 (h.vr.below hW) (h.sc.below hW) (h.tb.below hW (by omega))
    rw [hr] at this
    exact this)
/-- What is kept of the list that was read. -/
def KeepEl (base N : Nat) (xs : List El) (v : Option Addr × Nat × Nat) (W : World) : Prop := v.2.1 = N ∧ ∃ rows, RowEl W base (.slice v.1 N v.2.2) rows ∧ rows.map (·.1) = xs
theorem valueElR_ok {w : World} {p q : Nat} {ms : List UInt8} {M : Option Addr} {cm : Nat} {W : World} {xs : List El} {k N : Nat} (h : LR w p q ms M cm W) (hr : elsR ms 0 = .ok xs k) (hN : xs.length = N) :
    Calls Tryd.prog 23 #[.func (.func 24) #[] #[.pointer (some ⟨q + 1, 0, none⟩)]] W fun e w' => ∃ v : Option Addr × Nat × Nat, e = .returned (.tuple #[.slice v.1 v.2.1 v.2.2, .agg #[.int .i64 0, .int .i64 0]]) ∧ KeepEl (W.heap.size + 4) N xs v w' ∧ W.grownBy w' (some p) := by
  have h1 := h.pq
  have h2 := h.qz
  refine valueEls_ok (cfEl3 _) (by omega) (fun v W1 W2 b g1 g2 hx hg => ?_) (fun W' hW hz => ?_)
  · obtain ⟨e1, rows, e2, e3⟩ := hx
    exact ⟨e1, rows, e2.past hg (by omega), e3⟩
  · have := closEl3 (h.vr.below hW) (h.sc.below hW) (h.tb.below hW (by omega))
    rw [hr] at this
    refine this.mono ?_
    rintro e w' ⟨v, rows, rfl, hr, hm, hs, hg⟩
    obtain ⟨A, c, rfl⟩ := hr.slice
    have hl : rows.length = N := by rw [← hN, ← hm, List.length_map]
    rw [hl] at hr ⊢
    exact ⟨(A, N, c), rfl, ⟨rfl, rows, hr.mono hz, hm⟩, hg⟩
theorem elsR_err {l : List UInt8} {k : Nat} {c a : Int} (h : elsR l k = .err c a) : ¬ c = 0 := by
  have hg : ∀ (n q : Nat) (acc : List El) (c a : Int), elsK l n q acc = .err c a → c ≠ 0 := by
    intro n
    induction n with
    | zero => intro q acc c a h; cases h
    | succ n ih =>
      intro q acc c a h
      unfold elsK at h
      exact bind_nz h (fun c a h => elR_nz h) (fun x k2 c a h => ih _ _ c a h)
  unfold elsR at h
  refine bind_nz h (fun c a h => ?_) (fun n k1 c a h => bind_nz h (fun c a h => hg _ _ _ c a h) (fun xs k2 c a h => ?_))
  · unfold countR atMostR at h
    refine bind_nz h (fun _ _ => indexR_nz) (fun v k2 c a h => ?_)
    split at h
    · cases h
    · injection h with h1 h2; omega
  · split at h
    · injection h with h1 h2; omega
    · cases h
/-- What was read has no labels, and not too many functions. -/
theorem elsR_nil {l : List UInt8} {k : Nat} {xs : List El} {k' : Nat} (h : elsR l k = .ok xs k') : ∀ x ∈ xs, x.i.l = [] ∧ x.fs.length ≤ 100000 := by
  have hg : ∀ (n q : Nat) (acc xs : List El) (k' : Nat), (∀ x ∈ acc, x.i.l = [] ∧ x.fs.length ≤ 100000) → elsK l n q acc = .ok xs k' → ∀ x ∈ xs, x.i.l = [] ∧ x.fs.length ≤ 100000 := by
    intro n
    induction n with
    | zero => intro q acc xs k' ha h; injection h with h1 h2; subst h1; exact ha
    | succ n ih =>
      intro q acc xs k' ha h
      unfold elsK at h
      cases hx : elR l q with
      | err c a => rw [hx, Res.bind_err] at h; cases h
      | ok x q2 =>
        rw [hx, Res.bind_ok] at h
        refine ih _ _ xs k' (fun y hy => ?_) h
        rcases List.mem_append.1 hy with hy | hy
        · exact ha y hy
        · rw [List.mem_singleton] at hy
          subst hy
          exact elR_nil hx
  unfold elsR at h
  cases hc : countR l k with
  | err c a => rw [hc, Res.bind_err] at h; cases h
  | ok n k1 =>
    rw [hc, Res.bind_ok] at h
    cases hs : elsK l n.toNat k1 [] with
    | err c a => rw [hs, Res.bind_err] at h; cases h
    | ok ys k2 =>
      rw [hs, Res.bind_ok] at h
      split at h
      · cases h
      · injection h with h1 h2
        subst h1
        exact hg _ _ _ _ _ (fun x hx => by cases hx) hs

theorem elsR_len {l : List UInt8} {k : Nat} {xs : List El} {k' : Nat} (h : elsR l k = .ok xs k') : xs.length ≤ 10000 := by
  have hg : ∀ (n q : Nat) (acc xs : List El) (k' : Nat), elsK l n q acc = .ok xs k' → xs.length = acc.length + n := by
    intro n
    induction n with
    | zero => intro q acc xs k' h; injection h with h1 h2; subst h1; rfl
    | succ n ih =>
      intro q acc xs k' h
      unfold elsK at h
      cases hx : elR l q with
      | err c a => rw [hx, Res.bind_err] at h; cases h
      | ok x q2 =>
        rw [hx, Res.bind_ok] at h
        have := ih _ _ xs k' h
        rw [List.length_append, List.length_singleton] at this
        omega
  unfold elsR at h
  cases hc : countR l k with
  | err c a => rw [hc, Res.bind_err] at h; cases h
  | ok n k1 =>
    obtain ⟨v0, v1⟩ := countR_ok hc
    rw [hc, Res.bind_ok] at h
    cases hs : elsK l n.toNat k1 [] with
    | err c a => rw [hs, Res.bind_err] at h; cases h
    | ok ys k2 =>
      rw [hs, Res.bind_ok] at h
      split at h
      · cases h
      · injection h with h1 h2
        subst h1
        have := hg _ _ _ _ _ hs
        simp at this
        omega
set_option maxHeartbeats 8000000 in
theorem lawElR {w : World} {M : Option Addr} {cm : Nat} {ms : List UInt8} (hT : Tabs w) (hm : Lies w w.heap.size M (cells (nums ms))) (hM : M = none → cm = 0) (hc : ms.length ≤ cm) (hx : cm ≤ maxLen) :
    Calls Tryd.prog 4 #[.slice M ms.length cm] w (BoolPost true w) := by
  have nm : (ms.length : Int) ≤ 9223372036854775807 := by unfold maxLen at hx; omega
  have HAW := Lib.hid (elawake_any w hT)
  by_cases g1 : 600 < ms.length
  · have t1 : decide (600 < (ms.length : Int)) = true := decide_eq_true (by omega)
    clear hm hT hx
    go_enter Tryd.func4, Tryd.ntmps4
    go_wp2_with (go_at_call 12; go_must ((with_reducible refine HAW.out.mono ?_); rintro e w1 ⟨rfl, hb⟩; have HB1 := Lib.hid hb; clear hb))
    go_ret
    exact ⟨rfl, HB1.out⟩
  have t1 : decide (600 < (ms.length : Int)) = false := decide_eq_false (by omega)
  have hmf : ∀ (fn : Fn) (first cap : Array Value) (w : World), (Instr.makeFunc fn first cap).run Tryd.prog w = .ok (.func fn first cap) w := fun _ _ _ _ => rfl
  have HO := Lib.hid (fun W (hb : Below w.heap.size w W) => over_any (cap := cm) ((hm.below hb (Nat.le_refl _)).more hb.size) hM (by omega))
  have HT := Lib.hid hT
  have HM := Lib.hid hm
  have HC := Lib.hid hc
  have HX := Lib.hid hx
  clear hT hm hM hc hx g1
  cases hr : elsR ms 0 with
  | err c a =>
    have HRF := Lib.hid (fun W q (h : Rs W q ms (.at 0)) => show Calls Tryd.prog 26 #[.pointer (some ⟨q, 0, none⟩)] W fun e w' => e = .returned (.slice none 0 0) ∧ Rs w' q ms (.bad c a) ∧ W.grownBy w' (some q) from by have := rgetall_el h; rw [hr] at this; exact this)
    have hne : ¬ c = 0 := elsR_err hr
    have dw : (c != 0) = true := by simpa using hne
    have HNE := Lib.hid hne
    have HRR := Lib.hid hr
    clear hr hne
    go_enter Tryd.func4, Tryd.ntmps4
    go_wp2_with (first
      | (go_at_call 12; go_must ((with_reducible refine HAW.out.mono ?_); rintro e w1 ⟨rfl, hb⟩; have HB1 := Lib.hid hb; clear hb))
      | (go_at_call 16; go_must ((with_reducible refine (HO.out _ HB1.out).mono ?_); intro e w2 hq; obtain ⟨p, rfl, hp, hs, hb⟩ := hq; have H3 := Lib.hid (LR.of (M := M) (cm := cm) (HT.out.below HB1.out) HB1.out hb hp hs); clear hp hs hb))
      | (go_at_call 23; go_must ((with_reducible refine (valueElR_err H3.out HNE.out HRR.out).mono ?_); rintro e w4 ⟨rfl, hg⟩; have H4 := Lib.hid hg; have H5 := Lib.hid (H3.out.ref1 hg HM.out HC.out HX.out (.cells #[.int .i64 c, .int .i64 a] 38)); clear hg))
      | (go_at_call 26; go_must ((with_reducible refine (HRF.out _ _ H5.out.1).mono ?_); rintro e w6 ⟨rfl, hs, hg⟩; have hst := (Whole.made w4 38 #[.int .i64 c, .int .i64 a]).grown hg (by have := H3.out.pq; have := H3.out.qz; have := H4.out.size; simp only [ne_eq, Option.some.injEq]; omega); have s0 := hst.cell 0; have s1 := hst.cell 1; simp only [List.getElem?_toArray, List.getElem?_cons_zero, List.getElem?_cons_succ] at s0 s1; have r2 := hs.cells.1; have r3 : w6.cell? ⟨w2.heap.size, 3, none⟩ = some (.int .i64 a) := (by obtain ⟨_, _, _, hw, _⟩ := hs; exact hw.cell 3); rw [show (RSt.bad c a).why = c from rfl] at r2; have hb6 : Below w.heap.size w w6 := Below.grown H5.out.2 hg H5.out.2.size (fun g e => by have := H3.out.pq; have := H3.out.lo; injection e with e; omega); have HB6 := Lib.hid hb6; clear hs hg hst hb6)))
    go_quiet (fail)
    go_wp2
    go_ret
    exact ⟨rfl, below_drewN HB6.out _⟩
  | ok xs k =>
    obtain ⟨N, hN⟩ : ∃ N, N = xs.length := ⟨_, rfl⟩
    have HRF := Lib.hid (fun W q (h : Rs W q ms (.at 0)) => show Calls Tryd.prog 26 #[.pointer (some ⟨q, 0, none⟩)] W fun e w' => ∃ A c rows, e = .returned (.slice A N c) ∧ RowEl w' W.heap.size (.slice A N c) rows ∧ rows.map (·.1) = xs ∧ Rs w' q ms (.at k) ∧ W.grownBy w' (some q) from by
      have := rgetall_el h
      rw [hr] at this
      refine this.mono ?_
      rintro e w' ⟨v, rows, rfl, h1, h2, h3, h4⟩
      obtain ⟨A, c, rfl⟩ := h1.slice
      have hl : rows.length = N := by rw [hN, ← h2, List.length_map]
      rw [hl] at h1 ⊢
      exact ⟨A, c, rows, rfl, h1, h2, h3, h4⟩)
    have HNL := Lib.hid (elsR_nil hr)
    have HSM := Lib.hid (fun W (g : El) (a1 a2 c1 c2 : Option Addr × Nat) (h : g.i.l = [] ∧ g.fs.length ≤ 100000) (h1 : LiesL W c1.1 g.fs) (h2 : LiesL W c2.1 g.fs) => rsame_el (w := W) (x := g) (A := a1.1) (B := a2.1) (c := a1.2) (d := a2.2) (F := c1.1) (G := c2.1) (f := c1.2) (g := c2.2) h.1 h1 h2 h.2)
    have HRR := Lib.hid hr
    have HN := Lib.hid hN
    have n63 : N ≤ 10000 := by rw [hN]; exact elsR_len hr
    clear hr hN
    go_enter Tryd.func4, Tryd.ntmps4
    go_wp2_with (first
      | (go_at_call 12; go_must ((with_reducible refine HAW.out.mono ?_); rintro e w1 ⟨rfl, hb⟩; have HB1 := Lib.hid hb; clear hb))
      | (go_at_call 16; go_must ((with_reducible refine (HO.out _ HB1.out).mono ?_); intro e w2 hq; obtain ⟨p, rfl, hp, hs, hb⟩ := hq; have H3 := Lib.hid (LR.of (M := M) (cm := cm) (HT.out.below HB1.out) HB1.out hb hp hs); clear hp hs hb))
      | (go_at_call 23; go_must ((with_reducible refine (valueElR_ok H3.out HRR.out HN.out.symm).mono ?_); rintro e w4 ⟨⟨A2, n2, c2⟩, rfl, ⟨hn, rows, hr, hm⟩, hg⟩; obtain rfl : n2 = N := hn; have H4 := Lib.hid hg; have HR4 := Lib.hid hr; have HM4 := Lib.hid hm; have H5 := Lib.hid (H3.out.ref1 hg HM.out HC.out HX.out (.cells #[.int .i64 0, .int .i64 0] 38)); clear hg hr hm))
      | (go_at_call 26; go_must ((with_reducible refine (HRF.out _ _ H5.out.1).mono ?_); rintro e w6 ⟨A3, c3, rows3, rfl, hr3, hm3, hs, hg⟩; have hst := (Whole.made w4 38 #[.int .i64 0, .int .i64 0]).grown hg (by have := H3.out.pq; have := H3.out.qz; have := H4.out.size; simp only [ne_eq, Option.some.injEq]; omega); have s0 := hst.cell 0; simp only [List.getElem?_toArray, List.getElem?_cons_zero] at s0; have x2 := why_at hs; have HB6 := Lib.hid (show Below w.heap.size w w6 from Below.grown H5.out.2 hg H5.out.2.size (fun g e => by have := H3.out.pq; have := H3.out.lo; injection e with e; omega)); have HI := Lib.hid ((HR4.out.alloc (.cells #[.int .i64 0, .int .i64 0] 38)).past hg (by have := H3.out.qz; omega)).es; have HJ := Lib.hid hr3.es; have HM3 := Lib.hid hm3; clear hs hg hst hr3 hm3)))
    go_loopw [8] (fun i wr => ∃ j : Nat, j ≤ n2 ∧ i = .int .i64 j ∧ Below w.heap.size w wr ∧ Es wr A2 rows ∧ Es wr A3 rows3) (fun i _ => n2 - (intOf i).toNat)
    case atStart => exact ⟨0, Nat.zero_le _, rfl, HB6.out, HI.out, HJ.out⟩
    case round =>
      obtain ⟨j, hj, rfl, hb, hi, hjj⟩ := hrel
      by_cases hlt : j < n2
      · have hlen : rows.length = n2 := by rw [HN.out, ← HM4.out, List.length_map]
        obtain ⟨g, a1, a2, d1, d2, hx, hy⟩ := bothEl_at (HM4.out.trans HM3.out.symm) (by omega : j < rows.length)
        have hgn : g.i.l = [] ∧ g.fs.length ≤ 100000 := HNL.out g (by rw [← HM4.out]; exact List.mem_map.2 ⟨_, List.mem_of_getElem? hx, rfl⟩)
        obtain ⟨b, off, hA, _⟩ := hi.five hx
        obtain ⟨b2, off2, hA2, _⟩ := hjj.five hy
        have hS0 := twoEl_of hb hi hjj hA hA2 hx hy
        have HS0 := Lib.hid (twoEl_on hS0 hA hA2 hx hy (Below.refl _ _).drew)
        have HON := Lib.hid (fun W W' (h : TwoEl w A2 A3 rows rows3 b off b2 off2 j g a1 a2 d1 d2 W) (hb : Below W.heap.size W W') => twoEl_on h hA hA2 hx hy hb)
        have HSg := Lib.hid (fun W (h : TwoEl w A2 A3 rows rows3 b off b2 off2 j g a1 a2 d1 d2 W) => HSM.out W g a1 a2 d1 d2 hgn (h.1.2.1.funs hx) (h.1.2.2.funs hy))
        subst hA; subst hA2
        clear hx hy hb hi hjj hS0 hgn hlen
        go_upto_region 15 with fail
        refine wp_region_noPanic ?_
        refine wp_region_held_drew (S := fun W => TwoEl w (some ⟨b, off, none⟩) (some ⟨b2, off2, none⟩) rows rows3 b off b2 off2 j g a1 a2 d1 d2 W) (by kernel_rfl) HS0.out (fun hHeld => ?_)
        (refine heldTake (i := 0) (oi := { dst := some 68, op := Op.move (Operand.tmp 5), type := 50, pos := "law.go:59", after := #[], guard := none }) (v := ?_) rfl (by kernel_rfl) (by kernel_rfl) (by kernel_rfl) (by assumption) ?_ ?_; rotate_left; focus (refine .inl ⟨by kernel_rfl, ?_⟩; intro w hSw; (try dsimp only at hSw); go_simp; (try with_reducible rfl)); (try simp only [Act.put, List.setIfInBounds_toArray, List.set_cons_zero, List.set_cons_succ]))
        (refine heldTake (i := 1) (oi := { dst := some 69, op := Op.move (Operand.tmp 8), type := 3, pos := "law.go:59", after := #[], guard := none }) (v := ?_) rfl (by kernel_rfl) (by kernel_rfl) (by kernel_rfl) (by assumption) ?_ ?_; rotate_left; focus (refine .inl ⟨by kernel_rfl, ?_⟩; intro w hSw; (try dsimp only at hSw); go_simp; (try with_reducible rfl)); (try simp only [Act.put, List.setIfInBounds_toArray, List.set_cons_zero, List.set_cons_succ]))
        (refine heldTake (i := 2) (oi := { dst := some 70, op := Op.indexAddr 50 (Operand.tmp 68) (Operand.tmp 69), type := 0, pos := "law.go:59", after := #[{ on := 0, ground := Ground.data }, { on := 1, ground := Ground.data }], guard := none }) (v := ?_) rfl (by kernel_rfl) (by kernel_rfl) (by kernel_rfl) (by assumption) ?_ ?_; rotate_left; focus (refine .inl ⟨by kernel_rfl, ?_⟩; intro w hSw; (try dsimp only at hSw); go_simp; (try with_reducible rfl)); (try simp only [Act.put, List.setIfInBounds_toArray, List.set_cons_zero, List.set_cons_succ]))
        (refine heldTake (i := 3) (oi := { dst := some 71, op := Op.load 27 (Operand.tmp 70), type := 27, pos := "law.go:59", after := #[{ on := 2, ground := Ground.data }], guard := none }) (v := ?_) rfl (by kernel_rfl) (by kernel_rfl) (by kernel_rfl) (by assumption) ?_ ?_; rotate_left; focus (refine .inl ⟨by kernel_rfl, ?_⟩; intro w hSw; (try dsimp only at hSw); go_simp; (try with_reducible rfl)); (try simp only [Act.put, List.setIfInBounds_toArray, List.set_cons_zero, List.set_cons_succ]))
        (refine heldTake (i := 4) (oi := { dst := some 72, op := Op.move (Operand.tmp 7), type := 50, pos := "law.go:59", after := #[], guard := none }) (v := ?_) rfl (by kernel_rfl) (by kernel_rfl) (by kernel_rfl) (by assumption) ?_ ?_; rotate_left; focus (refine .inl ⟨by kernel_rfl, ?_⟩; intro w hSw; (try dsimp only at hSw); go_simp; (try with_reducible rfl)); (try simp only [Act.put, List.setIfInBounds_toArray, List.set_cons_zero, List.set_cons_succ]))
        (refine heldTake (i := 5) (oi := { dst := some 73, op := Op.move (Operand.tmp 8), type := 3, pos := "law.go:59", after := #[], guard := none }) (v := ?_) rfl (by kernel_rfl) (by kernel_rfl) (by kernel_rfl) (by assumption) ?_ ?_; rotate_left; focus (refine .inl ⟨by kernel_rfl, ?_⟩; intro w hSw; (try dsimp only at hSw); go_simp; (try with_reducible rfl)); (try simp only [Act.put, List.setIfInBounds_toArray, List.set_cons_zero, List.set_cons_succ]))
        (refine heldTake (i := 6) (oi := { dst := some 74, op := Op.indexAddr 50 (Operand.tmp 72) (Operand.tmp 73), type := 0, pos := "law.go:59", after := #[{ on := 4, ground := Ground.data }, { on := 5, ground := Ground.data }], guard := none }) (v := ?_) rfl (by kernel_rfl) (by kernel_rfl) (by kernel_rfl) (by assumption) ?_ ?_; rotate_left; focus (refine .inl ⟨by kernel_rfl, ?_⟩; intro w hSw; (try dsimp only at hSw); go_simp; (try with_reducible rfl)); (try simp only [Act.put, List.setIfInBounds_toArray, List.set_cons_zero, List.set_cons_succ]))
        (refine heldTake (i := 7) (oi := { dst := some 75, op := Op.load 27 (Operand.tmp 74), type := 27, pos := "law.go:59", after := #[{ on := 6, ground := Ground.data }], guard := none }) (v := ?_) rfl (by kernel_rfl) (by kernel_rfl) (by kernel_rfl) (by assumption) ?_ ?_; rotate_left; focus (refine .inl ⟨by kernel_rfl, ?_⟩; intro w hSw; (try dsimp only at hSw); go_simp; (try with_reducible rfl)); (try simp only [Act.put, List.setIfInBounds_toArray, List.set_cons_zero, List.set_cons_succ]))
        refine wpAnyH_ready (rs := [8]) (by kernel_rfl) (by simp) ?_
        refine AllReadyH.cons (o := { dst := some 76, op := Op.call { callee := Callee.value (Operand.func 21), args := #[Operand.tmp 71, Operand.tmp 75], argTypes := #[27, 27] }, type := 4, pos := "law.go:59", after := #[{ on := 3, ground := Ground.data }, { on := 7, ground := Ground.data }], guard := none }) rfl (fun K hK => ?_) AllReadyH.nil
        go_simp
        (go_at_call 21; (with_reducible refine (HSg.out _ hHeld).mono ?_); rintro e w11 ⟨rfl, hb⟩; have hk11 := HON.out _ _ hHeld hb; clear hb)
        refine hK.out _ _ hk11 (fun hHeld8 => ?_)
        clear hK K hHeld
        (try simp only [Act.put, List.setIfInBounds_toArray, List.set_cons_zero, List.set_cons_succ])
        (refine heldTake (i := 9) (oi := { dst := some 77, op := Op.unOp UnOp.not 4 (Operand.tmp 76), type := 4, pos := "law.go:59", after := #[{ on := 8, ground := Ground.data }], guard := none }) (v := ?_) rfl (by kernel_rfl) (by kernel_rfl) (by kernel_rfl) (by assumption) ?_ ?_; rotate_left; focus (refine .inl ⟨by kernel_rfl, ?_⟩; intro w hSw; (try dsimp only at hSw); go_simp; (try with_reducible rfl)); (try simp only [Act.put, List.setIfInBounds_toArray, List.set_cons_zero, List.set_cons_succ]))
        refine wpAnyH_done (by kernel_rfl) ?_ _
        refine NoPanic.normal ?_
        have hLast := hHeld8
        clear hHeld8
        obtain ⟨⟨hb3, hi3, hj3⟩, _⟩ := hLast
        have HB3 := Lib.hid hb3
        have HI3 := Lib.hid hi3
        have HJ3 := Lib.hid hj3
        clear hb3 hi3 hj3
        go_wp2
        go_roundw
        case rel => exact ⟨j + 1, by omega, by go_num, HB3.out, HI3.out, HJ3.out⟩
        case measure => simp [intOf]; omega
      · obtain rfl : j = n2 := by omega
        have HB3 := Lib.hid hb
        clear hb hi hjj
        go_wp2
        go_ret
        exact ⟨rfl, HB3.out⟩
end Go.Proofs.YticgmfeihdankaaDoor

/- Lists of global types and of values in memory; values in a row of the call's own. -/
namespace Go.Proofs.YticgmfeihdankaaDoor
open Go.RowKit
set_option linter.unusedVariables false
set_option maxRecDepth 100000

def boolOf : Value → Bool
  | .bool b => b
  | _ => false
/-- A list of global types. -/
def LiesG (w : World) (A : Option Addr) (l : List (Int × Bool)) : Prop :=
  ∀ i t m, l[i]? = some (t, m) → ∃ b off, A = some ⟨b, off, none⟩ ∧ b < w.heap.size ∧ w.cell? ⟨b, off + i * 2, none⟩ = some (.int .u8 t) ∧ w.cell? ⟨b, off + i * 2 + 1, none⟩ = some (.bool m)
theorem LiesG.below {w w' : World} {A : Option Addr} {l : List (Int × Bool)} (h : LiesG w A l) (hb : Below w.heap.size w w') : LiesG w' A l := fun i t m hi => by
  obtain ⟨b, off, e, h1, h2, h3⟩ := h i t m hi
  exact ⟨b, off, e, Nat.lt_of_lt_of_le h1 hb.size, (hb.cell (p := ⟨b, off + i * 2, none⟩) (by show b < _; omega)).trans h2, (hb.cell (p := ⟨b, off + i * 2 + 1, none⟩) (by show b < _; omega)).trans h3⟩
/-- A list of values. -/
def LiesP (w : World) (A : Option Addr) (l : List (Int × Int)) : Prop :=
  ∀ i t n, l[i]? = some (t, n) → ∃ b off, A = some ⟨b, off, none⟩ ∧ b < w.heap.size ∧ w.cell? ⟨b, off + i * 2, none⟩ = some (.int .u8 t) ∧ w.cell? ⟨b, off + i * 2 + 1, none⟩ = some (.int .u64 n)
theorem LiesP.below {w w' : World} {A : Option Addr} {l : List (Int × Int)} (h : LiesP w A l) (hb : Below w.heap.size w w') : LiesP w' A l := fun i t m hi => by
  obtain ⟨b, off, e, h1, h2, h3⟩ := h i t m hi
  exact ⟨b, off, e, Nat.lt_of_lt_of_le h1 hb.size, (hb.cell (p := ⟨b, off + i * 2, none⟩) (by show b < _; omega)).trans h2, (hb.cell (p := ⟨b, off + i * 2 + 1, none⟩) (by show b < _; omega)).trans h3⟩
theorem LiesP.nil (w : World) : LiesP w none [] := fun i t n h => by cases h

theorem infoVal : (Tryd.prog.info? 86).map (fun i => (i.zero, i.size, i.bytes)) = some (some (.agg #[.int .u8 0, .int .u64 0]), 2, 16) := by kernel_rfl
def valC (x : Int × Int) : List Value := [.int .u8 x.1, .int .u64 x.2]
/-- Values in a row of the call's own. -/
def RowV (W : World) (base : Nat) (v : Value) (l : List (Int × Int)) : Prop := W.ownsRow base 86 2 v l.length (l.flatMap valC)
theorem RowV.nil (w : World) (base : Nat) : RowV w base (.slice none 0 0) [] := World.ownsRow_nil w base _ 2
theorem RowV.later {w w' : World} {base : Nat} {v : Value} {l : List (Int × Int)} (h : RowV w base v l) (hb : Below w.heap.size w w') : RowV w' base v l :=
  World.ownsRow.kept h (gb_of_below none hb) (by cases v.ownBlock with
    | none => exact .inl rfl
    | some k => exact .inr (by simp))
theorem RowV.alloc {w : World} {base : Nat} {v : Value} {l : List (Int × Int)} (h : RowV w base v l) (o : Obj) : RowV (w.alloc o) base v l := World.ownsRow.alloc h o
theorem flatV_get : ∀ (l : List (Int × Int)) (j : Nat) (x : Int × Int) (u : Nat), l[j]? = some x → u < 2 → (l.flatMap valC)[j * 2 + u]? = (valC x)[u]?
  | [], j, x, u, h, _ => by cases h
  | y :: l, 0, x, u, h, hu => by
    injection h with h
    subst h
    rw [List.flatMap_cons, Nat.zero_mul, Nat.zero_add, List.getElem?_append_left (by show u < 2; exact hu)]
  | y :: l, j + 1, x, u, h, hu => by
    rw [List.flatMap_cons, List.getElem?_append_right (by show 2 ≤ _; omega)]
    have e : (j + 1) * 2 + u - (valC y).length = j * 2 + u := by show (j + 1) * 2 + u - 2 = _; omega
    rw [e]
    exact flatV_get l j x u h hu
/-- What such a row reads as. -/
theorem RowV.lies {W : World} {base : Nat} {v : Value} {l : List (Int × Int)} (h : RowV W base v l) : ∃ A c, v = .slice A l.length c ∧ LiesP W A l := by
  rcases h.2 with ⟨rfl, h0⟩ | ⟨g, cap, cur, rfl, hb, hg, _, _, _, ht⟩
  · have : l = [] := List.eq_nil_of_length_eq_zero h0
    subst this
    exact ⟨none, 0, rfl, fun i t n h => by cases h⟩
  · refine ⟨some ⟨g, 0, none⟩, cap, rfl, fun j t n hj => ?_⟩
    have hjl := (List.getElem?_eq_some_iff.1 hj).1
    have key : ∀ u, u < 2 → W.cell? ⟨g, 0 + j * 2 + u, none⟩ = (valC (t, n))[u]? := fun u hu => by
      rw [cell_of_row W g (0 + j * 2 + u) cur _ _ hg, ← flatV_get l j _ u hj hu, ← ht, List.getElem?_take, if_pos (by omega)]
      simp
    exact ⟨g, 0, rfl, (show Whole W g 86 cur from hg).lt, key 0 (by omega), key 1 (by omega)⟩
/-- append of a new block of one value. -/
theorem rowsV_new {w : World} {ops : Array Oper} {rest : List Oper} {o : Oper} {a : Act} {Q : Exit → Act → World → Prop} (hgd : o.guard = none) (s x : Operand)
    (ho : o.op = .call { callee := .builtin .append, args := #[s, x], argTypes := #[87, 87] })
    (B : Nat) (v : Value) (l : List (Int × Int)) (hs : a.eval s = v) (hr : RowV w B v l) (g : Nat) (r : Int × Int) (hx : a.eval x = .slice (some ⟨g, 0, none⟩) 1 1)
    (hg : Whole w g 86 #[.int .u8 r.1, .int .u64 r.2]) (hb : l.length ≤ 1000) (hB : B ≤ w.heap.size)
    (h : ∀ v' w', RowV w' B v' (l ++ [r]) → Below B w w' → wpList Tryd.prog ops Q rest (a.put o.dst v') w') : wpList Tryd.prog ops Q (o :: rest) a w := by
  obtain ⟨i0, hi0, hz0, hz1, hz2⟩ := info_parts infoVal
  refine wpList_append_own _ hgd s x _ ho B 86 i0 _ 2 16 Tryd.underlying87 hi0 hz0 hz1 hz2 rfl (by omega) v _ _ hs hr ⟨g, 0, none⟩ 1 1 (valC r) hx rfl ?_ ?_ (by unfold maxLen; omega) (by omega) hB (fun v' w' h2 h3 _ => h v' w' ?_ ?_)
  · intro j u hu
    rw [Go.WideShapes.add_plain, Nat.zero_add, hg.cell]
    unfold valC at hu
    simpa using hu
  · intro u hu
    unfold valC at hu
    simp only [List.mem_cons, List.not_mem_nil, or_false] at hu
    rcases hu with rfl | rfl <;> rfl
  · unfold RowV
    rw [List.length_append, List.flatMap_append]
    simpa using h2
  · exact Below.grown (Below.refl _ _) h3 hB (fun k hk => (World.ownsRow.lt hr k hk).1)
end Go.Proofs.YticgmfeihdankaaDoor

/- A list of global types, a value: opened. -/
namespace Go.Proofs.YticgmfeihdankaaDoor
open Go.ChangeShapes Go.WideShapes Go.ChangeAt Go.RowKit Go.Joins
set_option linter.unusedVariables false
set_option maxRecDepth 100000

theorem wf8 {a : Int} (h : (Lit.int .u8 a).wf = true) : 0 ≤ a ∧ a ≤ 255 := by simpa [Lit.wf, IntKind.min, IntKind.max, IntKind.signed, IntKind.bits] using h
theorem wf32 {a : Int} (h : (Lit.int .u32 a).wf = true) : 0 ≤ a ∧ a ≤ 4294967295 := by simpa [Lit.wf, IntKind.min, IntKind.max, IntKind.signed, IntKind.bits] using h
theorem wf64 {a : Int} (h : (Lit.int .u64 a).wf = true) : 0 ≤ a ∧ a ≤ 18446744073709551615 := by simpa [Lit.wf, IntKind.min, IntKind.max, IntKind.signed, IntKind.bits] using h
theorem open_v {H : Type} {enc : TypeId × Value → H} {w : World} {base b0 : Nat} {r : Reach} {sp : Nat → Bool} {held : Bool} {v : Value} {d : DataW H} {p : List MemPlace} (hv : Value.okWide Tryd.prog w r b0 86 v)
    (h : DataW.Trod enc Tryd.prog w base sp held 86 v d p) : ∃ (t n : Int), v = .agg #[.int .u8 t, .int .u64 n] ∧ (0 ≤ t ∧ t ≤ 255) ∧ 0 ≤ n ∧ n ≤ 18446744073709551615 := by
  obtain ⟨v0, v1, y0, y1, n, rfl, _, _, h0, h1⟩ := open_agg2 Tryd.underlying86 (by kernel_rfl) (by kernel_rfl) hv h
  obtain ⟨x, hx, _, wx⟩ := DataW.trod_int Tryd.underlying5 h0
  obtain ⟨y, hy, _, wy⟩ := DataW.trod_int Tryd.underlying22 h1
  simp only [List.cons.injEq, and_true] at hx hy
  subst hx; subst hy
  exact ⟨x, y, rfl, wf8 wx, wf64 wy⟩
theorem open_bytesC {H : Type} {enc : TypeId × Value → H} {W : World} {sp : Nat → Bool} {A : Option Addr} {len cap : Nat} {d : DataW H} {p : List MemPlace} (h : DataW.Trod enc Tryd.prog W 0 sp true 30 (.slice A len cap) d p) :
    ∃ l : List UInt8, l.length = len ∧ Lies W W.heap.size A (cells (nums l)) ∧ (A = none → cap = 0) ∧ len ≤ cap ∧ cap ≤ maxLen := by
  obtain ⟨fuel, hf⟩ := h
  rcases open_ints Tryd.underlying30 Tryd.underlying5 cellsB hf with ⟨hcs, _⟩ | ⟨a, l, c, zs, hcs, _, hl, hm, hz, _, hcell, hwf⟩
  · simp [Value.cells] at hcs
    obtain ⟨rfl, rfl, rfl⟩ := hcs
    exact ⟨[], rfl, Lies.nil, fun _ => rfl, Nat.le_refl _, Nat.zero_le _⟩
  · simp [Value.cells] at hcs
    obtain ⟨rfl, rfl, rfl⟩ := hcs
    have hle : len ≤ zs.length := by rw [hz]; split <;> omega
    have hlen : (zs.take len).length = len := by rw [List.length_take]; omega
    obtain ⟨bs, hbs⟩ := nums_ex (zs.take len) (fun d hd => by
      have w0 := hwf d (List.mem_of_mem_take hd)
      simpa [Lit.wf, IntKind.min, IntKind.max, IntKind.signed, IntKind.bits] using w0)
    have hbl : bs.length = len := by rw [← nums_length, hbs, hlen]
    refine ⟨bs, hbl, ?_, (fun e => by cases e), by omega, hm⟩
    rw [hbs]
    exact ints_lie hle hcell
theorem cG : Tryd.prog.cellsOf 89 = 2 := by kernel_rfl
theorem cGb : Tryd.prog.cellsOf 4 = 1 := by kernel_rfl
theorem open_gs {H : Type} {enc : TypeId × Value → H} {W : World} {sp : Nat → Bool} {A : Option Addr} {len cap : Nat} {d : DataW H} {p : List MemPlace}
    (h : DataW.Trod enc Tryd.prog W 0 sp true 84 (.slice A len cap) d p) : ∃ l : List (Int × Bool), l.length = len ∧ (∀ q ∈ l, 0 ≤ q.1 ∧ q.1 ≤ 255) ∧ LiesG W A l ∧ len ≤ cap ∧ (l.length : Int) ≤ 9223372036854775807 := by
  obtain ⟨fuel, hf⟩ := h
  rcases Go.Deep.open_slice_pairs Tryd.underlying84 Tryd.underlying89 cG rfl rfl cellsB cGb hf with ⟨hcs, _⟩ | ⟨a, ln, cp, m, n, V0, V1, D0, D1, P0, P1, hcs, _, hlc, hcm, hm, _, hx⟩
  · simp [Value.cells] at hcs
    obtain ⟨rfl, rfl, rfl⟩ := hcs
    exact ⟨[], rfl, fun _ h => by simp at h, fun i t n h => by simp at h, Nat.le_refl _, by simp⟩
  · simp [Value.cells] at hcs
    obtain ⟨rfl, rfl, rfl⟩ := hcs
    have hlm : len ≤ m := by rw [hm]; split <;> omega
    have each : ∀ i, i < len → ∃ t b, V0 i = .int .u8 t ∧ V1 i = .bool b ∧ (0 ≤ t ∧ t ≤ 255) := by
      intro i hi
      obtain ⟨_, _, h0, h1⟩ := hx i (by omega)
      obtain ⟨t, ht, _, wt⟩ := DataW.trod_int Tryd.underlying5 h0
      obtain ⟨k, hk, _⟩ := DataW.trod_bool Tryd.underlying4 h1
      simp only [List.cons.injEq, and_true] at ht hk
      exact ⟨t, k, ht, hk, wf8 wt⟩
    refine ⟨(List.range len).map fun i => (intOf (V0 i), boolOf (V1 i)), by simp, ?_, ?_, hlc, ?_⟩
    · intro q hq
      obtain ⟨i, hi, rfl⟩ := List.mem_map.1 hq
      obtain ⟨t, k, e0, e1, wt⟩ := each i (List.mem_range.1 hi)
      rw [e0, e1]
      exact wt
    · intro i t k hi
      have hil : i < len := by
        have := (List.getElem?_eq_some_iff.1 hi).1
        simpa using this
      obtain ⟨t', k', e0, e1, _⟩ := each i hil
      obtain ⟨c0, c1, _, _⟩ := hx i (by omega)
      rw [e0] at c0
      rw [e1] at c1
      simp only [List.getElem?_map, List.getElem?_range hil, Option.map_some, Option.some.injEq, Prod.mk.injEq, e0, e1, intOf, boolOf] at hi
      obtain ⟨rfl, rfl⟩ := hi
      obtain ⟨b, off, spot⟩ := a
      have hsp : spot = none := by
        have := World.cell?_spot (hx 0 (by omega)).1
        simpa [Addr.add] using this
      subst hsp
      rw [Go.WideShapes.add_plain] at c0 c1
      exact ⟨b, off, rfl, block_lt_of_cell c0, c0, c1⟩
    · simp only [List.length_map, List.length_range]
      have := hcm
      unfold maxLen at this
      omega
end Go.Proofs.YticgmfeihdankaaDoor

/- The walk of ElemsBack. -/
namespace Go.Proofs.YticgmfeihdankaaDoor
open Go.RowKit
set_option linter.unusedVariables false
set_option maxRecDepth 100000

theorem takeEl_one {l : List SlotEl} {k : Nat} {x : SlotEl} (h : l[k]? = some x) : l.take (k + 1) = l.take k ++ [x] := by rw [List.take_add_one, h]; rfl
theorem elsK_at {l : List UInt8} : ∀ (rows : List SlotEl) (k : Nat) (acc : List El) (r : List UInt8), OkEl rows → errEl rows = 0 → l.drop k = elputsL rows ++ r → elsK l rows.length k acc = .ok (acc ++ rows.map (·.1)) (k + (elputsL rows).length)
  | [], k, acc, r, _, _, _ => by simp [elsK, elputsL]
  | x :: rows, k, acc, r, ho, h0, h => by
    have z := errEl_mem h0 x (by simp)
    have h5 : errEl rows = 0 := by simpa [errEl, z] using h0
    have hd : l.drop k = qputL x ++ (elputsL rows ++ r) := by rw [h]; unfold elputsL; rw [List.flatMap_cons, List.append_assoc]
    have hq := ho x (by simp)
    have hg := elR_at hq.1 z hq.2.2.1 hq.2.2.2 hd
    have hd2 := drop_past hd
    have ih := elsK_at rows _ (acc ++ [x.1]) r (fun y hy => ho y (List.mem_cons_of_mem _ hy)) h5 hd2
    rw [List.length_cons]
    show (elR l k).bind (fun x q2 => elsK l rows.length q2 (acc ++ [x])) = _
    rw [hg, Res.bind_ok]
    have e : k + (eputL x.1).length = k + (qputL x).length := rfl
    rw [e, ih]
    unfold elputsL
    rw [List.flatMap_cons, List.length_append, List.map_cons, List.append_assoc, List.singleton_append, Nat.add_assoc]
/-- What PutAll wrote is read. -/
theorem elsR_at {rows : List SlotEl} (ho : OkEl rows) (h0 : errEl rows = 0) (hn : rows.length ≤ 10000) : elsR (allEl rows) 0 = .ok (rows.map (·.1)) (allEl rows).length := by
  have hd : (allEl rows).drop 0 = lebL (rows.length : Int) ++ elputsL rows := rfl
  have h1 := countR_at hd (by omega) (by omega)
  rw [Nat.zero_add] at h1
  have h2 := drop_past hd
  rw [Nat.zero_add] at h2
  unfold elsR
  rw [h1, Res.bind_ok, Int.toNat_natCast, elsK_at rows _ [] [] ho h0 (by rw [List.append_nil]; exact h2), Res.bind_ok, List.nil_append]
  have e : (lebL (rows.length : Int)).length + (elputsL rows).length = (allEl rows).length := by unfold allEl; rw [List.length_append]
  rw [e, if_neg (by omega)]
/-- What the law keeps once the list is read. -/
structure BKEl (w : World) (N base : Nat) (xs : List El) (A2 : Option Addr) (c2 : Nat) (B : Nat) (Ab : Option Addr) (y : List UInt8) (W : World) : Prop where
  bel : Below w.heap.size w W
  r : ∃ rows, RowEl W base (.slice A2 N c2) rows ∧ rows.map (·.1) = xs
  ly : Lies W B Ab (cells (nums y))
  o : B ≤ W.heap.size
theorem BKEl.grown {w W W' : World} {N base B c2 q : Nat} {xs : List El} {A2 Ab : Option Addr} {y : List UInt8} (h : BKEl w N base xs A2 c2 B Ab y W) (hg : W.grownBy W' (some q)) (h1 : w.heap.size ≤ q) (h2 : q < base) (h3 : B ≤ q) : BKEl w N base xs A2 c2 B Ab y W' :=
  ⟨below_new h.bel hg h1, (by obtain ⟨rows, r1, r2⟩ := h.r; exact ⟨rows, r1.past hg h2, r2⟩), h.ly.grown hg h.o (fun g e => by injection e with e; omega), Nat.le_trans h.o hg.size⟩
theorem BKEl.below {w W W' : World} {N base B c2 : Nat} {xs : List El} {A2 Ab : Option Addr} {y : List UInt8} (h : BKEl w N base xs A2 c2 B Ab y W) (hb : Below W.heap.size W W') : BKEl w N base xs A2 c2 B Ab y W' :=
  ⟨h.bel.trans (hb.mono h.bel.size), (by obtain ⟨rows, r1, r2⟩ := h.r; exact ⟨rows, r1.later hb, r2⟩), h.ly.below hb h.o, Nat.le_trans h.o hb.size⟩
set_option maxHeartbeats 8000000 in
theorem lawElB {w : World} {A : Option Addr} {c : Nat} {l : List SlotEl} (hl : Es w A l) (ho : ∀ x ∈ l, x.1.i.Ok ∧ (x.1.i.l.length : Int) ≤ 9223372036854775807 ∧ ∀ c ∈ x.1.fs, 0 ≤ c ∧ c ≤ 4294967295) (hT : Tabs w) (nl : (l.length : Int) ≤ 9223372036854775807) :
    Calls Tryd.prog 5 #[.slice A l.length c] w fun e w' => e = .returned (.bool true) ∧ Below w.heap.size w w' := by
  have HAW := Lib.hid (elawake_any w hT)
  have HL := Lib.hid hl
  have HTw := Lib.hid hT
  have HO := Lib.hid ho
  clear hl hT ho
  by_cases g1 : 20 < l.length
  · have t1 : decide ((20 : Int) < (l.length : Int)) = true := decide_eq_true (by omega)
    clear g1
    go_enter Tryd.func5, Tryd.ntmps5
    go_wp2_with (go_at_call 12; go_must ((with_reducible refine HAW.out.mono ?_); rintro e w1 ⟨rfl, hb⟩; have H1 := Lib.hid hb; clear hb))
    go_ret
    exact ⟨rfl, H1.out⟩
  have t1 : decide ((20 : Int) < (l.length : Int)) = false := decide_eq_false (by omega)
  have HRC := Lib.hid (fun W => relcount_any l.length W (by omega))
  have hlb := lebL_len (l.length : Int) (by omega)
  obtain ⟨hd, hhd⟩ : ∃ hd, hd = lebL (l.length : Int) := ⟨_, rfl⟩
  rw [← hhd] at HRC hlb
  have HAL := Lib.hid (show allEl l = hd ++ elputsL l by rw [hhd]; rfl)
  obtain ⟨n, hn⟩ : ∃ n, n = l.length := ⟨_, rfl⟩
  have HN := Lib.hid hn
  have HE := Lib.hid (show l.take n = l by rw [hn, List.take_length])
  have h20 : n ≤ 20 := by omega
  rw [← hn] at t1 HRC ⊢
  clear hn hhd g1 nl
  go_enter Tryd.func5, Tryd.ntmps5
  go_wp2_with (first
    | (go_at_call 12; go_must ((with_reducible refine HAW.out.mono ?_); rintro e w1 ⟨rfl, hb⟩; have H1 := Lib.hid hb; clear hb))
    | (go_at_call 27; go_must ((with_reducible refine (HRC.out _).mono ?_); rintro e w2 ⟨rfl, hb⟩; have H2 := Lib.hid (H1.out.trans (hb.mono H1.out.size)); clear hb)))
  go_loopw [3, 4, 5] (fun code want i wr => ∃ (k : Nat) (t : List UInt8), k ≤ n ∧ i = .int .i64 k ∧ code = .int .i64 (errEl (l.take k)) ∧ want = .string (S t) ∧ t.length ≤ 10 + k * 1043 ∧ (errEl (l.take k) = 0 → t = hd ++ elputsL (l.take k)) ∧ (∀ x ∈ l.take k, x.1.fs.length ≤ 100) ∧ Below w.heap.size w wr) (fun _ _ i _ => n - (intOf i).toNat)
  case atStart => exact ⟨0, hd, Nat.zero_le _, rfl, rfl, rfl, by omega, (fun _ => by simp [elputsL]), (fun x hx => by simp at hx), H2.out⟩
  case round =>
    obtain ⟨k, t, hk, rfl, rfl, rfl, htl, htb, hsm, hb⟩ := hrel
    have hz1 := hb.size
    by_cases hlt : k < n
    · obtain ⟨x, hx⟩ : ∃ x, l[k]? = some x := ⟨_, List.getElem?_eq_getElem (by rw [← HN.out]; exact hlt)⟩
      obtain ⟨b, off, rfl, hbl, m0, m1, m2, m3, m4⟩ := (HL.out.below hb).five hx
      have hfu := (HL.out.below hb).funs hx
      have hxo := HO.out x (List.mem_of_getElem? hx)
      have HBA := Lib.hid (hb.alloc hz1 (.cells (qC x) 27))
      have hstep := errEl_snoc hx
      have hpsn := elputsL_snoc hx
      by_cases b0 : 100 < x.1.fs.length
      · have t4 : decide ((100 : Int) < (x.1.fs.length : Int)) = true := decide_eq_true (by omega)
        clear b0 htb hb hx hstep hpsn htl hxo hsm hfu
        go_wp2
        go_ret
        exact ⟨rfl, HBA.out⟩
      have t4 : decide ((100 : Int) < (x.1.fs.length : Int)) = false := decide_eq_false (by omega)
      have hf100 : x.1.fs.length ≤ 100 := by omega
      have HSMN := Lib.hid (show ∀ y ∈ l.take (k + 1), y.1.fs.length ≤ 100 from fun y hy => by
        rw [takeEl_one hx] at hy
        rcases List.mem_append.1 hy with hy | hy
        · exact hsm y hy
        · rw [List.mem_singleton] at hy; subst hy; exact hf100)
      clear b0 hsm
      by_cases b2 : 100 < x.1.i.l.length
      · have t3 : decide ((100 : Int) < (x.1.i.l.length : Int)) = true := decide_eq_true (by omega)
        clear b2 htb hb hx hstep hpsn htl hxo hfu hf100 HSMN
        go_wp2
        go_ret
        exact ⟨rfl, HBA.out⟩
      have t3 : decide ((100 : Int) < (x.1.i.l.length : Int)) = false := decide_eq_false (by omega)
      have HRR := Lib.hid (relright_any x.1 x.2.1.1 x.2.1.2 x.2.2.1 x.2.2.2 (wr.alloc (.cells (qC x) 27)) hxo.1 hxo.2.1)
      have HW := Lib.hid (Whole.made wr 27 (qC x))
      by_cases e0 : errEl (l.take k) = 0
      · rw [if_neg (by simpa using e0)] at hstep
        have ht := htb e0
        have d0 : (errEl (l.take k) == 0) = true := by simpa using e0
        obtain ⟨q, hq⟩ : ∃ q, q = errEl (l.take k) := ⟨_, rfl⟩
        rw [← hq] at d0 ⊢
        by_cases z0 : rEl x = 0
        · have HRP := Lib.hid (fun W (hF : LiesL W x.2.2.1 x.1.fs) => relput_any x.1 x.2.1.1 x.2.1.2 x.2.2.1 x.2.2.2 W hxo.1 z0 hF hxo.2.2 hf100)
          have HFU := Lib.hid (hfu.below (below_box wr (.cells (qC x) 27)))
          have hil := qputL_len (x := x) ⟨hxo.1, hxo.2.1, hxo.2.2, hf100⟩ z0
          rw [show crightZ x.1.i = 0 from z0] at HRR
          rw [z0] at hstep
          have HSTEP := Lib.hid hstep
          have HTT := Lib.hid ht
          have HPS := Lib.hid hpsn
          obtain ⟨y, hy⟩ : ∃ y, y = qputL x := ⟨_, rfl⟩
          rw [show eputL x.1 = y from hy.symm] at HRP
          rw [← hy] at hil HPS
          have st := S_size t
          have sy := S_size y
          have q1 : ¬ 9223372036854775807 < (S t).size + (S y).size := by omega
          clear b2 htb hb hx hstep hpsn e0 hq ht hy z0 st sy hxo hfu hf100
          go_wp2_with (first
            | (go_at_call 13; go_must ((with_reducible refine HRR.out.mono ?_); rintro e w3 ⟨rfl, hb⟩; have H3 := Lib.hid (HBA.out.trans (hb.mono HBA.out.size)); obtain ⟨c0, c1, c2, c3, c4⟩ := (show Whole w3 wr.heap.size 27 (elC x.1 x.2.1.1 x.2.1.2 x.2.2.1 x.2.2.2) from HW.out.below hb).el; have HFU3 := Lib.hid (HFU.out.below hb); clear hb))
            | (go_at_call 20; go_must ((with_reducible refine (HRP.out _ HFU3.out).mono ?_); rintro e w4 ⟨rfl, hb⟩; have H4 := Lib.hid (H3.out.trans (hb.mono H3.out.size)); clear hb)))
          go_roundw
          case rel => exact ⟨k + 1, t ++ y, by omega, by go_num, by rw [HSTEP.out], by rw [S_append], by rw [List.length_append]; omega, (fun _ => by rw [HPS.out, HTT.out, List.append_assoc]), HSMN.out, H4.out⟩
          case measure => simp [intOf]; omega
        · have HSTEP := Lib.hid hstep
          have HZN := Lib.hid z0
          have d1 : (rEl x == 0) = false := by simpa using z0
          obtain ⟨z, hz⟩ : ∃ z, z = rEl x := ⟨_, rfl⟩
          rw [show crightZ x.1.i = z from hz.symm] at HRR
          rw [← hz] at HSTEP HZN d1
          clear b2 htb hb hx hstep hpsn e0 hq ht z0 hz hxo hfu hf100
          go_wp2_with (go_at_call 13; go_must ((with_reducible refine HRR.out.mono ?_); rintro e w3 ⟨rfl, hb⟩; have H3 := Lib.hid (HBA.out.trans (hb.mono HBA.out.size)); clear hb))
          go_roundw
          case rel => exact ⟨k + 1, t, by omega, by go_num, by rw [HSTEP.out], rfl, by omega, (fun e => absurd (HSTEP.out.symm.trans e) HZN.out), HSMN.out, H3.out⟩
          case measure => simp [intOf]; omega
      · rw [if_pos e0] at hstep
        have HSTEP := Lib.hid hstep
        have HCN := Lib.hid e0
        have d0 : (errEl (l.take k) == 0) = false := by simpa using e0
        obtain ⟨q, hq⟩ : ∃ q, q = errEl (l.take k) := ⟨_, rfl⟩
        rw [← hq] at d0 HSTEP HCN ⊢
        clear b2 htb hb hx hstep hpsn e0 hq hxo HRR hfu hf100
        go_wp2
        go_roundw
        case rel => exact ⟨k + 1, t, by omega, by go_num, by rw [HSTEP.out], rfl, by omega, (fun e => absurd (HSTEP.out.symm.trans e) HCN.out), HSMN.out, HBA.out⟩
        case measure => simp [intOf]; omega
    · obtain rfl : k = n := by omega
      rw [HE.out] at htb hsm ⊢
      have HOk := Lib.hid (show OkEl l from fun y hy => ⟨(HO.out y hy).1, (HO.out y hy).2.1, (HO.out y hy).2.2, hsm y hy⟩)
      clear hsm
      have HB := Lib.hid hb
      have hpa := putall_el (c := c) (HL.out.below hb) (HTw.out.below hb) HOk.out (by rw [← HN.out]; omega)
      rw [← HN.out] at hpa
      unfold PuttedAllEl at hpa
      by_cases e0 : errEl l = 0
      · have ht := (htb e0).trans HAL.out.symm
        rw [if_pos e0, e0] at hpa
        have HGA := Lib.hid (show elsR (allEl l) 0 = .ok (l.map (·.1)) (allEl l).length from elsR_at HOk.out e0 (by rw [← HN.out]; omega))
        have HNL := Lib.hid (fun g (hg : g ∈ l.map (·.1)) => show g.i.l = [] ∧ g.fs.length ≤ 100000 from by
          obtain ⟨x, hx, rfl⟩ := List.mem_map.1 hg
          exact ⟨cz_nil (errEl_mem e0 x hx), by have := (HOk.out x hx).2.2.2; omega⟩)
        rw [e0]
        have htl2 : (allEl l).length ≤ 1000000 := by rw [← ht]; omega
        rw [ht]
        obtain ⟨y, hy⟩ : ∃ y, y = allEl l := ⟨_, rfl⟩
        rw [← hy] at hpa HGA htl2 ⊢
        have HPA := Lib.hid hpa
        clear hpa htb hb e0 ht hy htl hlt
        go_upto_region 20 with (first
          | (go_at_call 28; go_must ((with_reducible refine HPA.out.mono ?_); intro e w3 hq; obtain ⟨v, rfl, hr, hb⟩ := hq; obtain ⟨Ab, cb, rfl, hpc⟩ := hr.pc; have H3 := Lib.hid (HB.out.trans (hb.mono HB.out.size)); have HP3 := Lib.hid hpc; clear hb hr hpc))
          | (go_at_call 16; go_must ((with_reducible refine (over_any HP3.out.lies HP3.out.nil htl2).mono ?_); intro e w7 hq; obtain ⟨p, rfl, hpp, hs, hb⟩ := hq; have HS7 := Lib.hid hs; have HB37 := Lib.hid hb; have HB7 := Lib.hid (H3.out.trans (hb.mono H3.out.size)); clear hs hb)))
        have h7p := HS7.out.lt
        have h3z := H3.out.size
        have HS8 := Lib.hid (HS7.out.alloc (.cells #[.pointer (some ⟨p, 0, none⟩)] 35))
        have HPT := Lib.hid (Whole.made w7 35 #[.pointer (some ⟨p, 0, none⟩)])
        have HB8 := Lib.hid (HB7.out.trans ((below_box w7 (.cells #[.pointer (some ⟨p, 0, none⟩)] 35)).mono HB7.out.size))
        have HL8 := Lib.hid (HP3.out.lies.below (HB37.out.trans ((below_box w7 (.cells #[.pointer (some ⟨p, 0, none⟩)] 35)).mono HB37.out.size)) (Nat.le_refl _))
        have h8 : w3.heap.size ≤ (w7.alloc (.cells #[.pointer (some ⟨p, 0, none⟩)] 35)).heap.size := Nat.le_trans HB37.out.size (below_box w7 _).size
        have h87 : w7.heap.size < (w7.alloc (.cells #[.pointer (some ⟨p, 0, none⟩)] 35)).heap.size := HPT.out.lt
        clear HAW H1 H2 HB HPA H3 HP3 HB37 HB7 HS7
        generalize w7.alloc (.cells #[.pointer (some ⟨p, 0, none⟩)] 35) = W8 at *
        generalize w7.heap.size = b6 at *
        have HV := Lib.hid (valueEls_ok (T := fun v W => v.2.1 = l.length ∧ BKEl w l.length (W8.heap.size + 4) (l.map (fun x : SlotEl => x.1)) v.1 v.2.2 w3.heap.size Ab y W) (cfEl2 #[.pointer (some ⟨b6, 0, none⟩)]) (q := p) (w := W8) (by omega)
          (fun q W W' b h1 h2 h3 hg => ⟨h3.1, h3.2.grown hg (by omega) (by omega) (by omega)⟩)
          (fun W hb hsz => by
            have hS := HS8.out.below hb
            have hB := HB8.out.trans (hb.mono HB8.out.size)
            have hcl := closEl2 (HPT.out.below hb) hS (show TbP p W from ⟨w, HTw.out, by omega, hB⟩)
            rw [HGA.out] at hcl
            refine hcl.mono ?_
            rintro e w' ⟨v, rows, rfl, hr, hm, hs, hg⟩
            obtain ⟨A2, c2, rfl⟩ := hr.slice
            have hrl : rows.length = l.length := by have := congrArg List.length hm; rwa [List.length_map, List.length_map] at this
            rw [hrl] at hr ⊢
            exact ⟨(A2, l.length, c2), rfl, ⟨rfl, below_new hB hg (by omega), ⟨rows, hr.mono hsz, hm⟩, (HL8.out.below hb h8).grown hg (Nat.le_trans h8 hb.size) (fun g e => by injection e with e; omega), Nat.le_trans h8 (Nat.le_trans hb.size hg.size)⟩, hg⟩))
        clear HGA HS8 HPT HL8
        go_upto_region 21 with (go_at_call 23; go_must ((with_reducible refine HV.out.mono ?_); rintro e w9 ⟨⟨A2, n2, c2⟩, rfl, ⟨hn2, hbk⟩, hg⟩; have HN2 := Lib.hid hn2; clear hn2; have HBK := Lib.hid (hbk.below (below_box w9 (.cells #[.int .i64 0, .int .i64 0] 38))); have k0 := (Whole.made w9 38 #[.int .i64 0, .int .i64 0]).cell 0; clear hbk hg))
        simp only [List.getElem?_toArray, List.getElem?_cons_zero] at k0
        have hn3 : n2 = k := HN2.out.trans HN.out.symm
        clear HN2
        subst hn3
        generalize w9.alloc (.cells #[.int .i64 0, .int .i64 0] 38) = W10 at *
        have hcv := str_any HBK.out.ly cb 9 Tryd.underlying9
        have HI := Lib.hid (HL.out.below HBK.out.bel)
        obtain ⟨rows, hrr, hrm⟩ := HBK.out.r
        have HJ := Lib.hid (show Es W10 A2 rows from hrr.es)
        have HRM := Lib.hid hrm
        have HSM := Lib.hid (fun W (g : El) (a1 a2 c1 c2 : Option Addr × Nat) (h : g.i.l = [] ∧ g.fs.length ≤ 100000) (h1 : LiesL W c1.1 g.fs) (h2 : LiesL W c2.1 g.fs) => rsame_el (w := W) (x := g) (A := a1.1) (B := a2.1) (c := a1.2) (d := a2.2) (F := c1.1) (G := c2.1) (f := c1.2) (g := c2.2) h.1 h1 h2 h.2)
        clear hrr hrm
        clear HV HB8
        go_wp2
        clear hcv k0
        go_loopw [12] (fun i wr => ∃ j : Nat, j ≤ n2 ∧ i = .int .i64 j ∧ Below w.heap.size w wr ∧ Es wr A l ∧ Es wr A2 rows) (fun i _ => n2 - (intOf i).toNat)
        case atStart => exact ⟨0, Nat.zero_le _, rfl, HBK.out.bel, HI.out, HJ.out⟩
        case round =>
          obtain ⟨j, hj, rfl, hb, hi, hjj⟩ := hrel
          by_cases hlt : j < n2
          · obtain ⟨g, a1, a2, d1, d2, hx, hy⟩ := bothEl_at HRM.out.symm (by rw [← HN.out]; exact hlt : j < l.length)
            have hgn : g.i.l = [] ∧ g.fs.length ≤ 100000 := HNL.out g (List.mem_map.2 ⟨_, List.mem_of_getElem? hx, rfl⟩)
            obtain ⟨b, off, hA, _⟩ := hi.five hx
            obtain ⟨b2, off2, hA2, _⟩ := hjj.five hy
            have hS0 := twoEl_of hb hi hjj hA hA2 hx hy
            have HS0 := Lib.hid (twoEl_on hS0 hA hA2 hx hy (Below.refl _ _).drew)
            have HON := Lib.hid (fun W W' (h : TwoEl w A A2 l rows b off b2 off2 j g a1 a2 d1 d2 W) (hb : Below W.heap.size W W') => twoEl_on h hA hA2 hx hy hb)
            have HSg := Lib.hid (fun W (h : TwoEl w A A2 l rows b off b2 off2 j g a1 a2 d1 d2 W) => HSM.out W g a2 a1 d2 d1 hgn (h.1.2.2.funs hy) (h.1.2.1.funs hx))
            subst hA; subst hA2
            clear hx hy hb hi hjj hS0 hgn
            go_upto_region 26 with fail
            refine wp_region_noPanic ?_
            refine wp_region_held_drew (S := fun W => TwoEl w (some ⟨b, off, none⟩) (some ⟨b2, off2, none⟩) l rows b off b2 off2 j g a1 a2 d1 d2 W) (by kernel_rfl) HS0.out (fun hHeld => ?_)
            (refine heldTake (i := 0) (oi := { dst := some 100, op := Op.move (Operand.tmp 10), type := 50, pos := "law.go:97", after := #[], guard := none }) (v := ?_) rfl (by kernel_rfl) (by kernel_rfl) (by kernel_rfl) (by assumption) ?_ ?_; rotate_left; focus (refine .inl ⟨by kernel_rfl, ?_⟩; intro w hSw; (try dsimp only at hSw); go_simp; (try with_reducible rfl)); (try simp only [Act.put, List.setIfInBounds_toArray, List.set_cons_zero, List.set_cons_succ]))
            (refine heldTake (i := 1) (oi := { dst := some 101, op := Op.move (Operand.tmp 12), type := 3, pos := "law.go:97", after := #[], guard := none }) (v := ?_) rfl (by kernel_rfl) (by kernel_rfl) (by kernel_rfl) (by assumption) ?_ ?_; rotate_left; focus (refine .inl ⟨by kernel_rfl, ?_⟩; intro w hSw; (try dsimp only at hSw); go_simp; (try with_reducible rfl)); (try simp only [Act.put, List.setIfInBounds_toArray, List.set_cons_zero, List.set_cons_succ]))
            (refine heldTake (i := 2) (oi := { dst := some 102, op := Op.indexAddr 50 (Operand.tmp 100) (Operand.tmp 101), type := 0, pos := "law.go:97", after := #[{ on := 0, ground := Ground.data }, { on := 1, ground := Ground.data }], guard := none }) (v := ?_) rfl (by kernel_rfl) (by kernel_rfl) (by kernel_rfl) (by assumption) ?_ ?_; rotate_left; focus (refine .inl ⟨by kernel_rfl, ?_⟩; intro w hSw; (try dsimp only at hSw); go_simp; (try with_reducible rfl)); (try simp only [Act.put, List.setIfInBounds_toArray, List.set_cons_zero, List.set_cons_succ]))
            (refine heldTake (i := 3) (oi := { dst := some 103, op := Op.load 27 (Operand.tmp 102), type := 27, pos := "law.go:97", after := #[{ on := 2, ground := Ground.data }], guard := none }) (v := ?_) rfl (by kernel_rfl) (by kernel_rfl) (by kernel_rfl) (by assumption) ?_ ?_; rotate_left; focus (refine .inl ⟨by kernel_rfl, ?_⟩; intro w hSw; (try dsimp only at hSw); go_simp; (try with_reducible rfl)); (try simp only [Act.put, List.setIfInBounds_toArray, List.set_cons_zero, List.set_cons_succ]))
            (refine heldTake (i := 4) (oi := { dst := some 104, op := Op.move (Operand.tmp 0), type := 50, pos := "law.go:97", after := #[], guard := none }) (v := ?_) rfl (by kernel_rfl) (by kernel_rfl) (by kernel_rfl) (by assumption) ?_ ?_; rotate_left; focus (refine .inl ⟨by kernel_rfl, ?_⟩; intro w hSw; (try dsimp only at hSw); go_simp; (try with_reducible rfl)); (try simp only [Act.put, List.setIfInBounds_toArray, List.set_cons_zero, List.set_cons_succ]))
            (refine heldTake (i := 5) (oi := { dst := some 105, op := Op.move (Operand.tmp 12), type := 3, pos := "law.go:97", after := #[], guard := none }) (v := ?_) rfl (by kernel_rfl) (by kernel_rfl) (by kernel_rfl) (by assumption) ?_ ?_; rotate_left; focus (refine .inl ⟨by kernel_rfl, ?_⟩; intro w hSw; (try dsimp only at hSw); go_simp; (try with_reducible rfl)); (try simp only [Act.put, List.setIfInBounds_toArray, List.set_cons_zero, List.set_cons_succ]))
            (refine heldTake (i := 6) (oi := { dst := some 106, op := Op.indexAddr 50 (Operand.tmp 104) (Operand.tmp 105), type := 0, pos := "law.go:97", after := #[{ on := 4, ground := Ground.data }, { on := 5, ground := Ground.data }], guard := none }) (v := ?_) rfl (by kernel_rfl) (by kernel_rfl) (by kernel_rfl) (by assumption) ?_ ?_; rotate_left; focus (refine .inl ⟨by kernel_rfl, ?_⟩; intro w hSw; (try dsimp only at hSw); go_simp; (try with_reducible rfl)); (try simp only [Act.put, List.setIfInBounds_toArray, List.set_cons_zero, List.set_cons_succ]))
            (refine heldTake (i := 7) (oi := { dst := some 107, op := Op.load 27 (Operand.tmp 106), type := 27, pos := "law.go:97", after := #[{ on := 6, ground := Ground.data }], guard := none }) (v := ?_) rfl (by kernel_rfl) (by kernel_rfl) (by kernel_rfl) (by assumption) ?_ ?_; rotate_left; focus (refine .inl ⟨by kernel_rfl, ?_⟩; intro w hSw; (try dsimp only at hSw); go_simp; (try with_reducible rfl)); (try simp only [Act.put, List.setIfInBounds_toArray, List.set_cons_zero, List.set_cons_succ]))
            refine wpAnyH_ready (rs := [8]) (by kernel_rfl) (by simp) ?_
            refine AllReadyH.cons (o := { dst := some 108, op := Op.call { callee := Callee.value (Operand.func 21), args := #[Operand.tmp 103, Operand.tmp 107], argTypes := #[27, 27] }, type := 4, pos := "law.go:97", after := #[{ on := 3, ground := Ground.data }, { on := 7, ground := Ground.data }], guard := none }) rfl (fun K hK => ?_) AllReadyH.nil
            go_simp
            (go_at_call 21; (with_reducible refine (HSg.out _ hHeld).mono ?_); rintro e w11 ⟨rfl, hb⟩; have hk11 := HON.out _ _ hHeld hb; clear hb)
            refine hK.out _ _ hk11 (fun hHeld8 => ?_)
            clear hK K hHeld
            (try simp only [Act.put, List.setIfInBounds_toArray, List.set_cons_zero, List.set_cons_succ])
            (refine heldTake (i := 9) (oi := { dst := some 109, op := Op.unOp UnOp.not 4 (Operand.tmp 108), type := 4, pos := "law.go:97", after := #[{ on := 8, ground := Ground.data }], guard := none }) (v := ?_) rfl (by kernel_rfl) (by kernel_rfl) (by kernel_rfl) (by assumption) ?_ ?_; rotate_left; focus (refine .inl ⟨by kernel_rfl, ?_⟩; intro w hSw; (try dsimp only at hSw); go_simp; (try with_reducible rfl)); (try simp only [Act.put, List.setIfInBounds_toArray, List.set_cons_zero, List.set_cons_succ]))
            refine wpAnyH_done (by kernel_rfl) ?_ _
            refine NoPanic.normal ?_
            have hLast := hHeld8
            clear hHeld8
            obtain ⟨⟨hb3, hi3, hj3⟩, _⟩ := hLast
            have HB3 := Lib.hid hb3
            have HI3 := Lib.hid hi3
            have HJ3 := Lib.hid hj3
            clear hb3 hi3 hj3
            go_wp2
            go_roundw
            case rel => exact ⟨j + 1, by omega, by go_num, HB3.out, HI3.out, HJ3.out⟩
            case measure => simp [intOf]; omega
          · obtain rfl : j = n2 := by omega
            have HB3 := Lib.hid hb
            clear hb hi hjj
            go_wp2
            go_ret
            exact ⟨rfl, HB3.out⟩
      · rw [if_neg e0] at hpa
        have d0 : (errEl l != 0) = true := zb_of (by simpa using e0)
        obtain ⟨z, hz⟩ : ∃ z, z = errEl l := ⟨_, rfl⟩
        rw [← hz] at hpa d0 ⊢
        have HPA := Lib.hid hpa
        clear hpa htb hb e0 hz hlt
        go_wp2_with (go_at_call 28; go_must ((with_reducible refine HPA.out.mono ?_); intro e w3 hq; obtain ⟨v, rfl, hr, hb⟩ := hq; obtain ⟨Ab, cb, rfl, _⟩ := hr.pc; have H3 := Lib.hid (HB.out.trans (hb.mono HB.out.size)); clear hb hr))
        go_ret
        exact ⟨rfl, H3.out⟩
end Go.Proofs.YticgmfeihdankaaDoor

/- Parse; awake; the walk of InstrPuts. -/
namespace Go.Proofs.YticgmfeihdankaaDoor
open Go.RowKit
set_option linter.unusedVariables false
set_option maxRecDepth 100000

set_option maxHeartbeats 1000000 in
theorem parse2_ok {w : World} {A : Option Addr} {cap : Nat} {l r : List UInt8} {i : I} (hT : Tabs w) (h : i.Ok) (hr : rightZ i = 0) (hl : Lies w w.heap.size A (cells (nums l))) (hc : l.length ≤ 1000000) (hd : l = putL i ++ r) :
    Calls Tryd.prog 36 #[.slice A l.length cap] w (Parsed i (putL i).length w) := by
  obtain ⟨w0, hw0⟩ : ∃ w0, w0 = (w.alloc (.cells #[.int .u8 0, .int .u64 0, .int .u64 0, .slice none 0 0] 25)).alloc (.cells #[.int .i64 0, .int .i64 0] 38) := ⟨_, rfl⟩
  have hsz : w0.heap.size = w.heap.size + 2 := by rw [hw0]; simp
  have hb0 : Below w.heap.size w w0 := by rw [hw0]; exact (below_box w _).alloc (by simp) _
  have b4 : Whole w0 w.heap.size 25 #[.int .u8 0, .int .u64 0, .int .u64 0, .slice none 0 0] := by rw [hw0]; exact (Whole.made w _ _).alloc _
  have b6 : Whole w0 (w.heap.size + 1) 38 #[.int .i64 0, .int .i64 0] := by
    rw [hw0]; have := Whole.made (w.alloc (.cells #[.int .u8 0, .int .u64 0, .int .u64 0, .slice none 0 0] 25)) 38 #[.int .i64 0, .int .i64 0]
    rw [size_box] at this
    exact this
  have HP := Lib.hid (parse_ok (cap := cap) (hT.below hb0) h hr ((hl.below hb0 (Nat.le_refl _)).more hb0.size) hc hd)
  rw [hw0] at HP
  have HB4 := Lib.hid b4
  have HB6 := Lib.hid b6
  have HB0 := Lib.hid hb0
  have HW0 := Lib.hid hw0
  clear hT h hr hl hd b4 b6 hb0 hw0
  obtain ⟨n, hn⟩ : ∃ n, n = (putL i).length := ⟨_, rfl⟩
  rw [← hn] at HP ⊢
  clear hn
  go_enter Tryd.func36, Tryd.ntmps36
  go_wp2_with (go_at_call 92; go_must ((with_reducible refine HP.out.mono ?_); rw [← HW0.out]; intro e w1 hq; obtain ⟨A2, c2, rfl, hla, hb, hfar⟩ := hq; have h4 := HB4.out.below hb; have h6 := HB6.out.below hb; have r0 := h4.cell 0; have r1 := h4.cell 1; have r2 := h4.cell 2; have r3 := h4.cell 3; have z0 := h4.frozen 0; have z1 := h4.frozen 1; have z2 := h4.frozen 2; have z3 := h4.frozen 3; have s0 := h6.cell 0; have s1 := h6.cell 1; have y0 := h6.frozen 0; have y1 := h6.frozen 1; simp only [List.getElem?_toArray, List.getElem?_cons_zero, List.getElem?_cons_succ] at r0 r1 r2 r3 s0 s1; have H4 := Lib.hid h4; have H6 := Lib.hid h6; have HLA := Lib.hid hla; have HB := Lib.hid hb; have HF := Lib.hid hfar; clear h4 h6 hla hb hfar))
  obtain ⟨p1, g1⟩ := put4 (u0 := .int .u8 i.op.toNat) (u1 := .int .u64 i.a) (u2 := .int .u64 i.b) (u3 := .slice A2 i.l.length c2) H4.out
  obtain ⟨p2, g2⟩ := put2 (u0 := .int .i64 0) (u1 := .int .i64 0) (H6.out.grown g1 (by simp only [ne_eq, Option.some.injEq]; omega))
  have p3 := p1.grown g2 (by simp only [ne_eq, Option.some.injEq]; omega)
  have q0 := p3.cell 0
  have q1 := p3.cell 1
  have q2 := p3.cell 2
  have q3 := p3.cell 3
  have q4 := p2.cell 0
  have q5 := p2.cell 1
  simp only [List.getElem?_toArray, List.getElem?_cons_zero, List.getElem?_cons_succ] at q0 q1 q2 q3 q4 q5
  have hz := HB.out.size
  have hz1 := g1.size
  have hb1 : Below w.heap.size w w1 := HB0.out.trans (HB.out.mono (by omega))
  have hb2 := Below.grown hb1 g1 (by omega) (fun g e => by injection e with e; omega)
  have hb3 := Below.grown hb2 g2 (by omega) (fun g e => by injection e with e; omega)
  have hsz0 : w0.heap.size = w.heap.size + 2 := hsz
  refine bodyPost_ret (v := .tuple #[insV i A2 c2, .int .i64 n, .agg #[.int .i64 0, .int .i64 0]]) (by simp [results, Tryd.results36, go_sem, q0, q1, q2, q3, q4, q5]) rfl ⟨A2, c2, rfl, ?_, hb3, fun a ha => by have := HF.out a ha; omega⟩
  exact (HLA.out.keep g1 (fun a ha => by have := HF.out a ha; omega)).keep g2 (fun a ha => by have := HF.out a ha; omega)

/-- The chapter's example. -/
def iEg : I := ⟨65, 4294967295, 0, []⟩
theorem iEg_ok : iEg.Ok := ⟨by decide, by decide, by decide, by decide, fun c h => by cases h⟩
theorem iEg_right : rightZ iEg = 0 := by decide +kernel
theorem iEg_imm : immR iEg.n = 10 := by decide +kernel
theorem iEg_put : putL iEg = [65, 127] := by
  have hm : sebN (-1) = 1 := (sebN_least (-1) (by omega) (by omega)).unique ⟨Nat.le_refl _, by unfold fitS; decide, fun m a b => by omega⟩
  have hs : s32 iEg.a = -1 := by decide +kernel
  unfold putL immL immB
  rw [iEg_imm, hs]
  show [65] ++ sebL (-1) = _
  unfold sebL
  rw [hm]
  rfl
theorem awake_any (w : World) (hT : Tabs w) : Calls Tryd.prog 30 #[] w fun e w' => e = .returned (.bool true) ∧ Below w.heap.size w w' := by
  have hp := put_any iEg none 0 w iEg_ok hT (fun j v hv => by simp [cells32, iEg] at hv) (by decide)
  obtain ⟨l, hl⟩ : ∃ l : List UInt8, l = [65, 127] := ⟨_, rfl⟩
  have HP := Lib.hid (show Calls Tryd.prog 32 #[.agg #[.int .u8 65, .int .u64 4294967295, .int .u64 0, .slice none 0 0]] w fun e w' => ∃ v, e = .returned (.tuple #[v, .int .i64 0]) ∧ Row w' w.heap.size v l ∧ Below w.heap.size w w' from hp.mono fun e w' ⟨v, h1, h2, h3⟩ => ⟨v, by rw [iEg_right] at h1; exact h1, by rw [if_pos iEg_right, iEg_put] at h2; rw [hl]; exact h2, h3⟩)
  have hcmp : ((S l).toList == [65, 127]) = true := by rw [S_toList, hl]; rfl
  clear hl
  clear hp hT
  go_enter Tryd.func30, Tryd.ntmps30
  go_wp2_with (go_at_call 32; go_must ((with_reducible refine HP.out.mono ?_); intro e w1 h; obtain ⟨v, rfl, hr, hb⟩ := h; obtain ⟨A, c, rfl, hcv⟩ := hr.str; have hcv2 := hcv 9 Tryd.underlying9; have HB := Lib.hid hb; clear hb hr hcv))
  go_ret
  exact ⟨rfl, HB.out⟩

/-- What the law keeps of its input: both boxes, both rows of labels, the bytes behind; the tables. -/
structure LSt (w : World) (i k : I) (A B : Option Addr) (c d : Nat) (M : Option Addr) (ms : List UInt8) (W : World) : Prop where
  tb : Tabs W
  bel : Below w.heap.size w W
  bi : Whole W w.heap.size 25 (insC i A c)
  bk : Whole W (w.heap.size + 1) 25 (insC k B d)
  li : LiesL W A i.l
  lk : LiesL W B k.l
  lm : Lies W W.heap.size M (cells (nums ms))
section
variable {w W W' : World} {i k : I} {A B M : Option Addr} {c d : Nat} {ms : List UInt8}
theorem LSt.on (h : LSt w i k A B c d M ms W) (hb : Below W.heap.size W W') : LSt w i k A B c d M ms W' :=
  ⟨h.tb.below hb, h.bel.trans (hb.mono h.bel.size), h.bi.below hb, h.bk.below hb, h.li.below hb, h.lk.below hb, (h.lm.below hb (Nat.le_refl _)).more hb.size⟩
theorem LSt.start (hT : Tabs w) (hi : LiesL w A i.l) (hk : LiesL w B k.l) (hm : Lies w w.heap.size M (cells (nums ms))) :
    LSt w i k A B c d M ms ((w.alloc (.cells (insC i A c) 25)).alloc (.cells (insC k B d) 25)) := by
  have hb : Below w.heap.size w ((w.alloc (.cells (insC i A c) 25)).alloc (.cells (insC k B d) 25)) := below_twoI w i k A B c d
  have h2 := Whole.made (w.alloc (.cells (insC i A c) 25)) 25 (insC k B d)
  rw [size_box] at h2
  exact ⟨hT.below hb, hb, (Whole.made w _ _).alloc _, h2, hi.below hb, hk.below hb, (hm.below hb (Nat.le_refl _)).more hb.size⟩
/-- .. and what they read as. -/
abbrev Eight (w : World) (i k : I) (A B : Option Addr) (c d : Nat) (W : World) : Prop :=
  (W.cell? ⟨w.heap.size, 0, none⟩ = some (.int .u8 i.op.toNat) ∧ W.cell? ⟨w.heap.size, 1, none⟩ = some (.int .u64 i.a) ∧ W.cell? ⟨w.heap.size, 2, none⟩ = some (.int .u64 i.b) ∧ W.cell? ⟨w.heap.size, 3, none⟩ = some (.slice A i.l.length c)) ∧
  (W.cell? ⟨w.heap.size + 1, 0, none⟩ = some (.int .u8 k.op.toNat) ∧ W.cell? ⟨w.heap.size + 1, 1, none⟩ = some (.int .u64 k.a) ∧ W.cell? ⟨w.heap.size + 1, 2, none⟩ = some (.int .u64 k.b) ∧ W.cell? ⟨w.heap.size + 1, 3, none⟩ = some (.slice B k.l.length d))
theorem LSt.eight (h : LSt w i k A B c d M ms W) : Eight w i k A B c d W := ⟨⟨h.bi.cell 0, h.bi.cell 1, h.bi.cell 2, h.bi.cell 3⟩, ⟨h.bk.cell 0, h.bk.cell 1, h.bk.cell 2, h.bk.cell 3⟩⟩
/-- .. and the bytes that Put made. -/
structure LSb (w : World) (i k : I) (A B : Option Addr) (c d : Nat) (M : Option Addr) (ms : List UInt8) (v : Value) (xs : List UInt8) (W : World) : Prop where
  a : LSt w i k A B c d M ms W
  r : Row W w.heap.size v xs
theorem LSb.on {v : Value} {xs : List UInt8} (h : LSb w i k A B c d M ms v xs W) (hb : Below W.heap.size W W') : LSb w i k A B c d M ms v xs W' := ⟨h.1.on hb, h.2.later hb⟩
theorem LSb.lb {Ab : Option Addr} {cb : Nat} {xs : List UInt8} (h : LSb w i k A B c d M ms (.slice Ab xs.length cb) xs W) : Lies W W.heap.size Ab (cells (nums xs)) := by
  obtain ⟨A', c', e, hl, _⟩ := h.r.liesN
  injection e with e1 e2 e3
  subst e1
  exact hl
theorem LSb.on8 {v : Value} {xs : List UInt8} (h : LSb w i k A B c d M ms v xs W) (hb : Below W.heap.size W W') : LSb w i k A B c d M ms v xs W' ∧ Eight w i k A B c d W' := ⟨h.on hb, (h.on hb).1.eight⟩
theorem LSb.drew8 {v : Value} {xs : List UInt8} (h : LSb w i k A B c d M ms v xs W) : LSb w i k A B c d M ms v xs W.drew ∧ Eight w i k A B c d W.drew := h.on8 (Below.refl _ _).drew
/-- At the law's end: what was read, too. -/
structure LEnd (w : World) (i k : I) (A B : Option Addr) (c d : Nat) (M : Option Addr) (ms : List UInt8) (v : Value) (xs : List UInt8) (g : Nat) (A2 : Option Addr) (c2 : Nat) (W : World) : Prop where
  b : LSb w i k A B c d M ms v xs W
  x : Whole W g 25 (insC i A2 c2)
  s : Whole W (g + 1) 38 #[.int .i64 0, .int .i64 0]
  l : LiesL W A2 i.l
theorem LEnd.on {v : Value} {xs : List UInt8} {g : Nat} {A2 : Option Addr} {c2 : Nat} (h : LEnd w i k A B c d M ms v xs g A2 c2 W) (hb : Below W.heap.size W W') : LEnd w i k A B c d M ms v xs g A2 c2 W' := ⟨h.b.on hb, h.x.below hb, h.s.below hb, h.l.below hb⟩
/-- .. and the cells. -/
abbrev Nine (w : World) (i : I) (A : Option Addr) (c : Nat) (Ab : Option Addr) (cb : Nat) (xs : List UInt8) (g : Nat) (A2 : Option Addr) (c2 : Nat) (W : World) : Prop :=
  (W.cell? ⟨w.heap.size, 0, none⟩ = some (.int .u8 i.op.toNat) ∧ W.cell? ⟨w.heap.size, 1, none⟩ = some (.int .u64 i.a) ∧ W.cell? ⟨w.heap.size, 2, none⟩ = some (.int .u64 i.b) ∧ W.cell? ⟨w.heap.size, 3, none⟩ = some (.slice A i.l.length c)) ∧
  (W.cell? ⟨g, 0, none⟩ = some (.int .u8 i.op.toNat) ∧ W.cell? ⟨g, 1, none⟩ = some (.int .u64 i.a) ∧ W.cell? ⟨g, 2, none⟩ = some (.int .u64 i.b) ∧ W.cell? ⟨g, 3, none⟩ = some (.slice A2 i.l.length c2)) ∧
  W.cell? ⟨g + 1, 0, none⟩ = some (.int .i64 0) ∧ (convert 30 9 (.slice Ab xs.length cb)).run Tryd.prog W = .ok (.string (S xs)) W
theorem LEnd.nine {Ab : Option Addr} {cb : Nat} {xs : List UInt8} {g : Nat} {A2 : Option Addr} {c2 : Nat} (h : LEnd w i k A B c d M ms (.slice Ab xs.length cb) xs g A2 c2 W) : LEnd w i k A B c d M ms (.slice Ab xs.length cb) xs g A2 c2 W ∧ Nine w i A c Ab cb xs g A2 c2 W := by
  obtain ⟨A', c', e, hc⟩ := h.b.2.str
  injection e with e1 e2 e3
  subst e1; subst e3
  exact ⟨h, ⟨h.b.1.bi.cell 0, h.b.1.bi.cell 1, h.b.1.bi.cell 2, h.b.1.bi.cell 3⟩, ⟨h.x.cell 0, h.x.cell 1, h.x.cell 2, h.x.cell 3⟩, h.s.cell 0, hc 9 Tryd.underlying9⟩
end
theorem LEnd.of {w : World} {i k : I} {A B M : Option Addr} {c d : Nat} {ms : List UInt8} {v : Value} {xs : List UInt8} {A2 : Option Addr} {c2 : Nat} {W : World} (h : LSb w i k A B c d M ms v xs W) (hl : LiesL W A2 i.l) :
    LEnd w i k A B c d M ms v xs W.heap.size A2 c2 ((W.alloc (.cells (insC i A2 c2) 25)).alloc (.cells #[.int .i64 0, .int .i64 0] 38)) := by
  have h2 := Whole.made (W.alloc (.cells (insC i A2 c2) 25)) 38 #[.int .i64 0, .int .i64 0]
  rw [size_box] at h2
  exact ⟨(h.on (below_box W _)).on (below_box _ _), (Whole.made W _ _).alloc _, h2, (hl.below (below_box W _)).below (below_box _ _)⟩
theorem sameZ_self (i : I) : sameZ i i = true := by unfold sameZ; simp

set_option maxHeartbeats 3000000 in
theorem law_any {w : World} {i k : I} {A B M : Option Addr} {c d cm : Nat} {ms : List UInt8} (hT : Tabs w) (oi : i.Ok) (ok : k.Ok) (hi : LiesL w A i.l) (hk : LiesL w B k.l) (hm : Lies w w.heap.size M (cells (nums ms))) (hM : M = none → cm = 0)
    (ni : (i.l.length : Int) ≤ 9223372036854775807) (nk : (k.l.length : Int) ≤ 9223372036854775807) (nm : (ms.length : Int) ≤ 9223372036854775807) :
    Calls Tryd.prog 6 #[insV i A c, insV k B d, .slice M ms.length cm] w (BoolPost true w) := by
  have h0 : LSt w i k A B c d M ms ((w.alloc (.cells (insC i A c) 25)).alloc (.cells (insC k B d) 25)) := .start hT hi hk hm
  have HAW := Lib.hid (awake_any _ h0.tb)
  have H0 := Lib.hid h0
  clear h0 hT hi hk hm
  by_cases g1 : 200 < i.l.length
  · have t1 : decide (200 < (i.l.length : Int)) = true := decide_eq_true (by omega)
    go_enter Tryd.func6, Tryd.ntmps6
    go_wp2_with (go_at_call 30; go_must ((with_reducible refine HAW.out.mono ?_); rintro e w1 ⟨rfl, hb⟩; have H1 := Lib.hid (H0.out.on hb); obtain ⟨⟨c0, c1, c2, c3⟩, ⟨k0, k1, k2, k3⟩⟩ := H1.out.eight; clear hb))
    go_ret
    exact ⟨rfl, H1.out.bel⟩
  have t1 : decide (200 < (i.l.length : Int)) = false := decide_eq_false (by omega)
  by_cases g2 : 200 < k.l.length
  · have t2 : decide (200 < (k.l.length : Int)) = true := decide_eq_true (by omega)
    go_enter Tryd.func6, Tryd.ntmps6
    go_wp2_with (go_at_call 30; go_must ((with_reducible refine HAW.out.mono ?_); rintro e w1 ⟨rfl, hb⟩; have H1 := Lib.hid (H0.out.on hb); obtain ⟨⟨c0, c1, c2, c3⟩, ⟨k0, k1, k2, k3⟩⟩ := H1.out.eight; clear hb))
    go_ret
    exact ⟨rfl, H1.out.bel⟩
  have t2 : decide (200 < (k.l.length : Int)) = false := decide_eq_false (by omega)
  by_cases g3 : 100 < ms.length
  · have t3 : decide (100 < (ms.length : Int)) = true := decide_eq_true (by omega)
    go_enter Tryd.func6, Tryd.ntmps6
    go_wp2_with (go_at_call 30; go_must ((with_reducible refine HAW.out.mono ?_); rintro e w1 ⟨rfl, hb⟩; have H1 := Lib.hid (H0.out.on hb); obtain ⟨⟨c0, c1, c2, c3⟩, ⟨k0, k1, k2, k3⟩⟩ := H1.out.eight; clear hb))
    go_ret
    exact ⟨rfl, H1.out.bel⟩
  have t3 : decide (100 < (ms.length : Int)) = false := decide_eq_false (by omega)
  have HRR := Lib.hid (fun W => refRight_any i A c W oi ni)
  have HPR := Lib.hid (fun W (h : Tabs W) => right_any i A c W oi h ni)
  have HPU := Lib.hid (fun W (h : Tabs W) (hl : LiesL W A i.l) => put_any i A c W oi h hl ni)
  have HS1 := Lib.hid (fun W (h1 : LiesL W A i.l) (h2 : LiesL W B k.l) => same_any (c := c) (d := d) h1 h2 (by omega) (by omega))
  have HS2 := Lib.hid (fun W (h1 : LiesL W A i.l) (h2 : LiesL W B k.l) => refSame_any (c := c) (d := d) h1 h2 (by omega) (by omega))
  obtain ⟨sz, hsz⟩ : ∃ sz, sz = sameZ i k := ⟨_, rfl⟩
  rw [← hsz] at HS1 HS2
  clear hsz
  by_cases hz : rightZ i = 0
  · have hlen : 0 < (putL i).length := by unfold putL; simp
    have hlen2 : (putL i).length ≤ 200001 := by have := immL_len oi hz; unfold putL; rw [List.length_cons]; omega
    have HPA := Lib.hid (fun W (A' : Option Addr) (c' : Nat) (h1 : Tabs W) (h2 : Lies W W.heap.size A' (cells (nums (putL i ++ ms)))) => parse2_ok (cap := c') h1 oi hz h2 (by rw [List.length_append]; omega) rfl)
    have HRP := Lib.hid (fun W (hl : LiesL W A i.l) => refPut_any i A c W oi hz hl)
    have HS3 := Lib.hid (fun W (A2 : Option Addr) (c2 : Nat) (h1 : LiesL W A2 i.l) (h2 : LiesL W A i.l) => (by have := refSame_any (c := c2) (d := c) (i := i) (k := i) h1 h2 (by omega) (by omega); rw [sameZ_self] at this; exact this))
    have HPU2 := Lib.hid (fun W (h : Tabs W) (hl : LiesL W A i.l) => show Calls Tryd.prog 32 #[insV i A c] W fun e w' => ∃ v, e = .returned (.tuple #[v, .int .i64 0]) ∧ Row w' W.heap.size v (putL i) ∧ Below W.heap.size W w' from (HPU.out W h hl).mono fun e w' ⟨v, h1, h2, h3⟩ => ⟨v, by rw [hz] at h1; exact h1, by rw [if_pos hz] at h2; exact h2, h3⟩)
    rw [hz] at HRR HPR
    obtain ⟨xs, hxs⟩ : ∃ xs, xs = putL i := ⟨_, rfl⟩
    rw [← hxs] at hlen hlen2 HPA HRP HPU2
    have HXA := Lib.hid (show xs.length + ms.length ≤ 1000000 by omega)
    obtain ⟨ys, hys⟩ : ∃ ys, ys = xs ++ ms := ⟨_, rfl⟩
    rw [← hys] at HPA
    have HYS := Lib.hid hys
    clear hys
    clear hz hxs g1 g2 g3 HPU
    go_enter Tryd.func6, Tryd.ntmps6
    go_wp2_with (first
      | (go_at_call 30; go_must ((with_reducible refine HAW.out.mono ?_); rintro e w1 ⟨rfl, hb⟩; have H1 := Lib.hid (H0.out.on hb); obtain ⟨⟨c0, c1, c2, c3⟩, ⟨k0, k1, k2, k3⟩⟩ := H1.out.eight; clear hb))
      | (go_at_call 31; go_must ((with_reducible refine (HRR.out _).mono ?_); rintro e w2 ⟨rfl, hb⟩; clear c0 c1 c2 c3 k0 k1 k2 k3; have H2 := Lib.hid (H1.out.on hb); obtain ⟨⟨c0, c1, c2, c3⟩, ⟨k0, k1, k2, k3⟩⟩ := H2.out.eight; clear hb))
      | (go_at_call 32; go_must ((with_reducible refine (HPU2.out _ H2.out.tb H2.out.li).mono ?_); intro e w3 hq; obtain ⟨v, rfl, hr, hb⟩ := hq; clear c0 c1 c2 c3 k0 k1 k2 k3; obtain ⟨Ab, cb, rfl, _, _⟩ := hr.liesN; have H3 := Lib.hid (show LSb w i k A B c d M ms (.slice Ab xs.length cb) xs w3 from ⟨H2.out.on hb, hr.mono H2.out.bel.size⟩); clear hb hr)))
    refine wp_region_noPanic ?_
    refine wp_region_held_drew (S := fun W => LSb w i k A B c d M ms (.slice Ab xs.length cb) xs W ∧ Eight w i k A B c d W) (by kernel_rfl) H3.out.drew8 (fun hHeld => ?_)
    (refine heldTake (i := 0) (oi := { dst := some 37, op := Op.load 25 (Operand.tmp 3), type := 25, pos := "law.go:29", after := #[], guard := none }) (v := ?_) rfl (by kernel_rfl) (by kernel_rfl) (by kernel_rfl) (by assumption) ?_ ?_; rotate_left; focus (refine .inl ⟨by kernel_rfl, ?_⟩; intro w hSw; (try dsimp only at hSw); go_simp; (try with_reducible rfl)); (try simp only [Act.put, List.setIfInBounds_toArray, List.set_cons_zero, List.set_cons_succ]))
    (refine heldTake (i := 2) (oi := { dst := some 39, op := Op.move (Operand.tmp 7), type := 3, pos := "law.go:29", after := #[], guard := none }) (v := ?_) rfl (by kernel_rfl) (by kernel_rfl) (by kernel_rfl) (by assumption) ?_ ?_; rotate_left; focus (refine .inl ⟨by kernel_rfl, ?_⟩; intro w hSw; (try dsimp only at hSw); go_simp; (try with_reducible rfl)); (try simp only [Act.put, List.setIfInBounds_toArray, List.set_cons_zero, List.set_cons_succ]))
    refine wpAnyH_ready (rs := [1]) (by kernel_rfl) (by simp) ?_
    refine AllReadyH.cons (o := { dst := some 38, op := Op.call { callee := Callee.value (Operand.func 33), args := #[Operand.tmp 37], argTypes := #[25] }, type := 31, pos := "law.go:29", after := #[{ on := 0, ground := Ground.data }], guard := none }) rfl (fun K hK => ?_) AllReadyH.nil
    go_simp
    (go_at_call 33; (with_reducible refine (HPR.out _ (And.left hHeld).1.tb).mono ?_); rintro e w4 ⟨rfl, hb⟩; have hk4 := LSb.on8 (And.left hHeld) hb; clear hb)
    refine hK.out _ _ hk4 (fun hHeld1 => ?_)
    clear hK K hHeld
    (try simp only [Act.put, List.setIfInBounds_toArray, List.set_cons_zero, List.set_cons_succ])
    (refine heldTake (i := 3) (oi := { dst := some 40, op := Op.binOp BinOp.neq 3 (Operand.tmp 38) (Operand.tmp 39) 3, type := 4, pos := "law.go:29", after := #[{ on := 1, ground := Ground.data }, { on := 2, ground := Ground.data }], guard := none }) (v := ?_) rfl (by kernel_rfl) (by kernel_rfl) (by kernel_rfl) (by assumption) ?_ ?_; rotate_left; focus (refine .inl ⟨by kernel_rfl, ?_⟩; intro w hSw; (try dsimp only at hSw); go_simp; (try with_reducible rfl)); (try simp only [Act.put, List.setIfInBounds_toArray, List.set_cons_zero, List.set_cons_succ]))
    (refine heldTake (i := 4) (oi := { dst := some 41, op := Op.move (Operand.tmp 40), type := 4, pos := "law.go:29", after := #[{ on := 3, ground := Ground.data }, { on := 1, ground := Ground.chain }], guard := none }) (v := ?_) rfl (by kernel_rfl) (by kernel_rfl) (by kernel_rfl) (by assumption) ?_ ?_; rotate_left; focus (refine .inl ⟨by kernel_rfl, ?_⟩; intro w hSw; (try dsimp only at hSw); go_simp; (try with_reducible rfl)); (try simp only [Act.put, List.setIfInBounds_toArray, List.set_cons_zero, List.set_cons_succ]))
    (refine heldTake (i := 5) (oi := { dst := some 42, op := Op.move (Operand.tmp 9), type := 31, pos := "law.go:29", after := #[{ on := 4, ground := Ground.guard }], guard := some (4, false) }) (v := ?_) rfl (by kernel_rfl) (by kernel_rfl) (by kernel_rfl) (by assumption) ?_ ?_; rotate_left; focus (refine .inl ⟨by kernel_rfl, ?_⟩; intro w hSw; (try dsimp only at hSw); go_simp; (try with_reducible rfl)); (try simp only [Act.put, List.setIfInBounds_toArray, List.set_cons_zero, List.set_cons_succ]))
    (refine heldTake (i := 6) (oi := { dst := some 43, op := Op.move (Operand.tmp 7), type := 3, pos := "law.go:29", after := #[{ on := 4, ground := Ground.guard }], guard := some (4, false) }) (v := ?_) rfl (by kernel_rfl) (by kernel_rfl) (by kernel_rfl) (by assumption) ?_ ?_; rotate_left; focus (refine .inl ⟨by kernel_rfl, ?_⟩; intro w hSw; (try dsimp only at hSw); go_simp; (try with_reducible rfl)); (try simp only [Act.put, List.setIfInBounds_toArray, List.set_cons_zero, List.set_cons_succ]))
    (refine heldTake (i := 7) (oi := { dst := some 44, op := Op.binOp BinOp.neq 3 (Operand.tmp 42) (Operand.tmp 43) 3, type := 4, pos := "law.go:29", after := #[{ on := 5, ground := Ground.data }, { on := 6, ground := Ground.data }, { on := 4, ground := Ground.guard }], guard := some (4, false) }) (v := ?_) rfl (by kernel_rfl) (by kernel_rfl) (by kernel_rfl) (by assumption) ?_ ?_; rotate_left; focus (refine .inl ⟨by kernel_rfl, ?_⟩; intro w hSw; (try dsimp only at hSw); go_simp; (try with_reducible rfl)); (try simp only [Act.put, List.setIfInBounds_toArray, List.set_cons_zero, List.set_cons_succ]))
    (refine heldTake (i := 8) (oi := { dst := some 45, op := Op.pick (Operand.tmp 41) (Operand.const (Value.bool true)) (Operand.tmp 44), type := 4, pos := "law.go:29", after := #[{ on := 4, ground := Ground.data }, { on := 7, ground := Ground.data }], guard := none }) (v := ?_) rfl (by kernel_rfl) (by kernel_rfl) (by kernel_rfl) (by assumption) ?_ ?_; rotate_left; focus (refine .inl ⟨by kernel_rfl, ?_⟩; intro w hSw; (try dsimp only at hSw); go_simp; (try with_reducible rfl)); (try simp only [Act.put, List.setIfInBounds_toArray, List.set_cons_zero, List.set_cons_succ]))
    (refine heldTake (i := 9) (oi := { dst := some 46, op := Op.move (Operand.tmp 45), type := 4, pos := "law.go:29", after := #[{ on := 8, ground := Ground.data }, { on := 4, ground := Ground.chain }], guard := none }) (v := ?_) rfl (by kernel_rfl) (by kernel_rfl) (by kernel_rfl) (by assumption) ?_ ?_; rotate_left; focus (refine .inl ⟨by kernel_rfl, ?_⟩; intro w hSw; (try dsimp only at hSw); go_simp; (try with_reducible rfl)); (try simp only [Act.put, List.setIfInBounds_toArray, List.set_cons_zero, List.set_cons_succ]))
    (refine heldTake (i := 10) (oi := { dst := some 47, op := Op.load 25 (Operand.tmp 3), type := 25, pos := "law.go:29", after := #[{ on := 9, ground := Ground.guard }], guard := some (9, false) }) (v := ?_) rfl (by kernel_rfl) (by kernel_rfl) (by kernel_rfl) (by assumption) ?_ ?_; rotate_left; focus (refine .inl ⟨by kernel_rfl, ?_⟩; intro w hSw; (try dsimp only at hSw); go_simp; (try with_reducible rfl)); (try simp only [Act.put, List.setIfInBounds_toArray, List.set_cons_zero, List.set_cons_succ]))
    (refine heldTake (i := 11) (oi := { dst := some 48, op := Op.load 25 (Operand.tmp 4), type := 25, pos := "law.go:29", after := #[{ on := 9, ground := Ground.guard }], guard := some (9, false) }) (v := ?_) rfl (by kernel_rfl) (by kernel_rfl) (by kernel_rfl) (by assumption) ?_ ?_; rotate_left; focus (refine .inl ⟨by kernel_rfl, ?_⟩; intro w hSw; (try dsimp only at hSw); go_simp; (try with_reducible rfl)); (try simp only [Act.put, List.setIfInBounds_toArray, List.set_cons_zero, List.set_cons_succ]))
    (refine heldTake (i := 13) (oi := { dst := some 50, op := Op.load 25 (Operand.tmp 3), type := 25, pos := "law.go:29", after := #[{ on := 9, ground := Ground.guard }], guard := some (9, false) }) (v := ?_) rfl (by kernel_rfl) (by kernel_rfl) (by kernel_rfl) (by assumption) ?_ ?_; rotate_left; focus (refine .inl ⟨by kernel_rfl, ?_⟩; intro w hSw; (try dsimp only at hSw); go_simp; (try with_reducible rfl)); (try simp only [Act.put, List.setIfInBounds_toArray, List.set_cons_zero, List.set_cons_succ]))
    (refine heldTake (i := 14) (oi := { dst := some 51, op := Op.load 25 (Operand.tmp 4), type := 25, pos := "law.go:29", after := #[{ on := 9, ground := Ground.guard }], guard := some (9, false) }) (v := ?_) rfl (by kernel_rfl) (by kernel_rfl) (by kernel_rfl) (by assumption) ?_ ?_; rotate_left; focus (refine .inl ⟨by kernel_rfl, ?_⟩; intro w hSw; (try dsimp only at hSw); go_simp; (try with_reducible rfl)); (try simp only [Act.put, List.setIfInBounds_toArray, List.set_cons_zero, List.set_cons_succ]))
    refine wpAnyH_ready (rs := [12]) (by kernel_rfl) (by simp) ?_
    refine AllReadyH.cons (o := { dst := some 49, op := Op.call { callee := Callee.value (Operand.func 34), args := #[Operand.tmp 47, Operand.tmp 48], argTypes := #[25, 25] }, type := 4, pos := "law.go:29", after := #[{ on := 10, ground := Ground.data }, { on := 11, ground := Ground.data }, { on := 9, ground := Ground.chain }, { on := 9, ground := Ground.guard }], guard := some (9, false) }) rfl (fun K hK => ?_) AllReadyH.nil
    go_simp
    (go_at_call 34; (with_reducible refine (HS1.out _ (And.left hHeld1).1.li (And.left hHeld1).1.lk).mono ?_); rintro e w5 ⟨rfl, hb⟩; have hk5 := LSb.on8 (And.left hHeld1) hb; clear hb)
    refine hK.out _ _ hk5 (fun hHeld12 => ?_)
    clear hK K hHeld1
    (try simp only [Act.put, List.setIfInBounds_toArray, List.set_cons_zero, List.set_cons_succ])
    refine wpAnyH_ready (rs := [15]) (by kernel_rfl) (by simp) ?_
    refine AllReadyH.cons (o := { dst := some 52, op := Op.call { callee := Callee.value (Operand.func 35), args := #[Operand.tmp 50, Operand.tmp 51], argTypes := #[25, 25] }, type := 4, pos := "law.go:29", after := #[{ on := 13, ground := Ground.data }, { on := 14, ground := Ground.data }, { on := 12, ground := Ground.chain }, { on := 9, ground := Ground.guard }], guard := some (9, false) }) rfl (fun K hK => ?_) AllReadyH.nil
    go_simp
    (go_at_call 35; (with_reducible refine (HS2.out _ (And.left hHeld12).1.li (And.left hHeld12).1.lk).mono ?_); rintro e w6 ⟨rfl, hb⟩; have hk6 := LSb.on8 (And.left hHeld12) hb; clear hb)
    refine hK.out _ _ hk6 (fun hHeld15 => ?_)
    clear hK K hHeld12
    (try simp only [Act.put, List.setIfInBounds_toArray, List.set_cons_zero, List.set_cons_succ])
    (refine heldTake (i := 16) (oi := { dst := some 53, op := Op.binOp BinOp.neq 4 (Operand.tmp 49) (Operand.tmp 52) 4, type := 4, pos := "law.go:29", after := #[{ on := 12, ground := Ground.data }, { on := 15, ground := Ground.data }, { on := 9, ground := Ground.guard }], guard := some (9, false) }) (v := ?_) rfl (by kernel_rfl) (by kernel_rfl) (by kernel_rfl) (by assumption) ?_ ?_; rotate_left; focus (refine .inl ⟨by kernel_rfl, ?_⟩; intro w hSw; (try dsimp only at hSw); go_simp; (try with_reducible rfl)); (try simp only [Act.put, List.setIfInBounds_toArray, List.set_cons_zero, List.set_cons_succ]))
    (refine heldTake (i := 17) (oi := { dst := some 54, op := Op.pick (Operand.tmp 46) (Operand.const (Value.bool true)) (Operand.tmp 53), type := 4, pos := "law.go:29", after := #[{ on := 9, ground := Ground.data }, { on := 16, ground := Ground.data }], guard := none }) (v := ?_) rfl (by kernel_rfl) (by kernel_rfl) (by kernel_rfl) (by assumption) ?_ ?_; rotate_left; focus (refine .inl ⟨by kernel_rfl, ?_⟩; intro w hSw; (try dsimp only at hSw); go_simp; (try with_reducible rfl)); (try simp only [Act.put, List.setIfInBounds_toArray, List.set_cons_zero, List.set_cons_succ]))
    refine wpAnyH_done (by kernel_rfl) ?_ _
    refine NoPanic.normal ?_
    have hLast := hHeld15
    clear hHeld15
    have H6 := Lib.hid (And.left hLast)
    obtain ⟨-, ⟨c0, c1, c2, c3⟩, ⟨k0, k1, k2, k3⟩⟩ := hLast
    go_wp2_with (first
      | (at_builtin; (refine row_any rfl _ _ rfl w6.heap.size _ xs rfl HR7.out M ms.length cm _ ms rfl rfl (H6.out.a.on HB7.out).lm hM HXA.out (Nat.le_trans (Nat.le_refl _) HB7.out.size) ?_; intro v8 w8 hr8 hb8; rw [← HYS.out] at hr8; obtain ⟨A8, c8, rfl, hl8, _⟩ := hr8.liesN; have HL8 := Lib.hid hl8; have HB8 := Lib.hid (HB7.out.trans hb8); clear hr8 hb8 hl8))
      | (at_builtin; (refine row_lies rfl _ _ rfl w6.heap.size _ [] rfl (Row.made w6 [] w6.heap.size w6.heap.size rfl (Nat.le_refl _) (by simp)) Ab xs.length cb _ xs rfl rfl (lies_box H6.out.lb _) hlen (by have := HXA.out; simp; omega) (by simp) ?_; intro v7 w7 hr7 hb7; have HR7 := Lib.hid (show Row w7 w6.heap.size v7 xs from hr7); have HB7 := Lib.hid ((below_box w6 (.cells #[] 5)).trans hb7); clear hr7 hb7))
      | (go_at_call 36; go_must ((with_reducible refine (HPA.out _ _ _ (H6.out.on HB8.out).a.tb HL8.out).mono ?_); intro e w9 hq; obtain ⟨A2, c2', rfl, hla, hb, hfar⟩ := hq; have H9 := Lib.hid ((H6.out.on HB8.out).on hb); have HLA := Lib.hid hla; clear c0 c1 c2 c3 k0 k1 k2 k3 hla hb hfar)))
    have HL9 := Lib.hid (show LEnd w i k A B c d M ms (.slice Ab xs.length cb) xs w9.heap.size A2 c2' ((w9.alloc (.cells (insC i A2 c2') 25)).alloc (.cells #[.int .i64 0, .int .i64 0] 38)) from .of H9.out HLA.out)
    refine wp_region_noPanic ?_
    refine wp_region_held_drew (S := fun W => LEnd w i k A B c d M ms (.slice Ab xs.length cb) xs w9.heap.size A2 c2' W ∧ Nine w i A c Ab cb xs w9.heap.size A2 c2' W) (by kernel_rfl) (LEnd.nine (HL9.out.on (Below.refl _ _).drew)) (fun hHeld => ?_)
    (refine heldTake (i := 0) (oi := { dst := some 70, op := Op.move (Operand.tmp 8), type := 30, pos := "law.go:36", after := #[], guard := none }) (v := ?_) rfl (by kernel_rfl) (by kernel_rfl) (by kernel_rfl) (by assumption) ?_ ?_; rotate_left; focus (refine .inl ⟨by kernel_rfl, ?_⟩; intro w hSw; (try dsimp only at hSw); go_simp; (try with_reducible rfl)); (try simp only [Act.put, List.setIfInBounds_toArray, List.set_cons_zero, List.set_cons_succ]))
    (refine heldTake (i := 1) (oi := { dst := some 71, op := Op.convert 30 9 (Operand.tmp 70), type := 9, pos := "law.go:36", after := #[{ on := 0, ground := Ground.data }], guard := none }) (v := ?_) rfl (by kernel_rfl) (by kernel_rfl) (by kernel_rfl) (by assumption) ?_ ?_; rotate_left; focus (refine .inl ⟨by kernel_rfl, ?_⟩; intro w hSw; (try dsimp only at hSw); go_simp; (try with_reducible rfl)); (try simp only [Act.put, List.setIfInBounds_toArray, List.set_cons_zero, List.set_cons_succ]))
    (refine heldTake (i := 2) (oi := { dst := some 72, op := Op.load 25 (Operand.tmp 3), type := 25, pos := "law.go:36", after := #[], guard := none }) (v := ?_) rfl (by kernel_rfl) (by kernel_rfl) (by kernel_rfl) (by assumption) ?_ ?_; rotate_left; focus (refine .inl ⟨by kernel_rfl, ?_⟩; intro w hSw; (try dsimp only at hSw); go_simp; (try with_reducible rfl)); (try simp only [Act.put, List.setIfInBounds_toArray, List.set_cons_zero, List.set_cons_succ]))
    refine wpAnyH_ready (rs := [3]) (by kernel_rfl) (by simp) ?_
    refine AllReadyH.cons (o := { dst := some 73, op := Op.call { callee := Callee.value (Operand.func 37), args := #[Operand.tmp 72], argTypes := #[25] }, type := 9, pos := "law.go:36", after := #[{ on := 2, ground := Ground.data }], guard := none }) rfl (fun K hK => ?_) AllReadyH.nil
    go_simp
    (go_at_call 37; (with_reducible refine (HRP.out _ (And.left hHeld).b.a.li).mono ?_); rintro e w10 ⟨rfl, hb⟩; have hk10 := LEnd.nine (LEnd.on (And.left hHeld) hb); clear hb)
    refine hK.out _ _ hk10 (fun hHeld3 => ?_)
    clear hK K hHeld
    (try simp only [Act.put, List.setIfInBounds_toArray, List.set_cons_zero, List.set_cons_succ])
    (refine heldTake (i := 4) (oi := { dst := some 74, op := Op.binOp BinOp.eql 9 (Operand.tmp 71) (Operand.tmp 73) 9, type := 4, pos := "law.go:36", after := #[{ on := 1, ground := Ground.data }, { on := 3, ground := Ground.data }], guard := none }) (v := ?_) rfl (by kernel_rfl) (by kernel_rfl) (by kernel_rfl) (by assumption) ?_ ?_; rotate_left; focus (refine .inl ⟨by kernel_rfl, ?_⟩; intro w hSw; (try dsimp only at hSw); go_simp; (try with_reducible rfl)); (try simp only [Act.put, List.setIfInBounds_toArray, List.set_cons_zero, List.set_cons_succ]))
    (refine heldTake (i := 5) (oi := { dst := some 75, op := Op.move (Operand.tmp 74), type := 4, pos := "law.go:36", after := #[{ on := 4, ground := Ground.data }, { on := 3, ground := Ground.chain }], guard := none }) (v := ?_) rfl (by kernel_rfl) (by kernel_rfl) (by kernel_rfl) (by assumption) ?_ ?_; rotate_left; focus (refine .inl ⟨by kernel_rfl, ?_⟩; intro w hSw; (try dsimp only at hSw); go_simp; (try with_reducible rfl)); (try simp only [Act.put, List.setIfInBounds_toArray, List.set_cons_zero, List.set_cons_succ]))
    (refine heldTake (i := 6) (oi := { dst := some 76, op := Op.fieldAddr 38 (Operand.tmp 12) 0, type := 0, pos := "law.go:36", after := #[{ on := 5, ground := Ground.guard }], guard := some (5, true) }) (v := ?_) rfl (by kernel_rfl) (by kernel_rfl) (by kernel_rfl) (by assumption) ?_ ?_; rotate_left; focus (refine .inl ⟨by kernel_rfl, ?_⟩; intro w hSw; (try dsimp only at hSw); go_simp; (try with_reducible rfl)); (try simp only [Act.put, List.setIfInBounds_toArray, List.set_cons_zero, List.set_cons_succ]))
    (refine heldTake (i := 7) (oi := { dst := some 77, op := Op.load 31 (Operand.tmp 76), type := 31, pos := "law.go:36", after := #[{ on := 6, ground := Ground.data }, { on := 5, ground := Ground.guard }], guard := some (5, true) }) (v := ?_) rfl (by kernel_rfl) (by kernel_rfl) (by kernel_rfl) (by assumption) ?_ ?_; rotate_left; focus (refine .inl ⟨by kernel_rfl, ?_⟩; intro w hSw; (try dsimp only at hSw); go_simp; (try with_reducible rfl)); (try simp only [Act.put, List.setIfInBounds_toArray, List.set_cons_zero, List.set_cons_succ]))
    (refine heldTake (i := 8) (oi := { dst := some 78, op := Op.binOp BinOp.eql 31 (Operand.tmp 77) (Operand.const (Value.int IntKind.i64 0)) 31, type := 4, pos := "law.go:36", after := #[{ on := 7, ground := Ground.data }, { on := 5, ground := Ground.guard }], guard := some (5, true) }) (v := ?_) rfl (by kernel_rfl) (by kernel_rfl) (by kernel_rfl) (by assumption) ?_ ?_; rotate_left; focus (refine .inl ⟨by kernel_rfl, ?_⟩; intro w hSw; (try dsimp only at hSw); go_simp; (try with_reducible rfl)); (try simp only [Act.put, List.setIfInBounds_toArray, List.set_cons_zero, List.set_cons_succ]))
    (refine heldTake (i := 9) (oi := { dst := some 79, op := Op.pick (Operand.tmp 75) (Operand.tmp 78) (Operand.const (Value.bool false)), type := 4, pos := "law.go:36", after := #[{ on := 5, ground := Ground.data }, { on := 8, ground := Ground.data }], guard := none }) (v := ?_) rfl (by kernel_rfl) (by kernel_rfl) (by kernel_rfl) (by assumption) ?_ ?_; rotate_left; focus (refine .inl ⟨by kernel_rfl, ?_⟩; intro w hSw; (try dsimp only at hSw); go_simp; (try with_reducible rfl)); (try simp only [Act.put, List.setIfInBounds_toArray, List.set_cons_zero, List.set_cons_succ]))
    (refine heldTake (i := 10) (oi := { dst := some 80, op := Op.move (Operand.tmp 79), type := 4, pos := "law.go:36", after := #[{ on := 9, ground := Ground.data }, { on := 5, ground := Ground.chain }], guard := none }) (v := ?_) rfl (by kernel_rfl) (by kernel_rfl) (by kernel_rfl) (by assumption) ?_ ?_; rotate_left; focus (refine .inl ⟨by kernel_rfl, ?_⟩; intro w hSw; (try dsimp only at hSw); go_simp; (try with_reducible rfl)); (try simp only [Act.put, List.setIfInBounds_toArray, List.set_cons_zero, List.set_cons_succ]))
    (refine heldTake (i := 11) (oi := { dst := some 81, op := Op.move (Operand.tmp 11), type := 3, pos := "law.go:36", after := #[{ on := 10, ground := Ground.guard }], guard := some (10, true) }) (v := ?_) rfl (by kernel_rfl) (by kernel_rfl) (by kernel_rfl) (by assumption) ?_ ?_; rotate_left; focus (refine .inl ⟨by kernel_rfl, ?_⟩; intro w hSw; (try dsimp only at hSw); go_simp; (try with_reducible rfl)); (try simp only [Act.put, List.setIfInBounds_toArray, List.set_cons_zero, List.set_cons_succ]))
    (refine heldTake (i := 12) (oi := { dst := some 82, op := Op.move (Operand.tmp 8), type := 30, pos := "law.go:36", after := #[{ on := 10, ground := Ground.guard }], guard := some (10, true) }) (v := ?_) rfl (by kernel_rfl) (by kernel_rfl) (by kernel_rfl) (by assumption) ?_ ?_; rotate_left; focus (refine .inl ⟨by kernel_rfl, ?_⟩; intro w hSw; (try dsimp only at hSw); go_simp; (try with_reducible rfl)); (try simp only [Act.put, List.setIfInBounds_toArray, List.set_cons_zero, List.set_cons_succ]))
    (refine heldTake (i := 13) (oi := { dst := some 83, op := Op.call { callee := Callee.builtin Builtin.len, args := #[Operand.tmp 82], argTypes := #[30] }, type := 3, pos := "law.go:36", after := #[{ on := 12, ground := Ground.data }, { on := 10, ground := Ground.guard }], guard := some (10, true) }) (v := ?_) rfl (by kernel_rfl) (by kernel_rfl) (by kernel_rfl) (by assumption) ?_ ?_; rotate_left; focus (refine .inl ⟨by kernel_rfl, ?_⟩; intro w hSw; (try dsimp only at hSw); go_simp; (try with_reducible rfl)); (try simp only [Act.put, List.setIfInBounds_toArray, List.set_cons_zero, List.set_cons_succ]))
    (refine heldTake (i := 14) (oi := { dst := some 84, op := Op.binOp BinOp.eql 3 (Operand.tmp 81) (Operand.tmp 83) 3, type := 4, pos := "law.go:36", after := #[{ on := 11, ground := Ground.data }, { on := 13, ground := Ground.data }, { on := 10, ground := Ground.guard }], guard := some (10, true) }) (v := ?_) rfl (by kernel_rfl) (by kernel_rfl) (by kernel_rfl) (by assumption) ?_ ?_; rotate_left; focus (refine .inl ⟨by kernel_rfl, ?_⟩; intro w hSw; (try dsimp only at hSw); go_simp; (try with_reducible rfl)); (try simp only [Act.put, List.setIfInBounds_toArray, List.set_cons_zero, List.set_cons_succ]))
    (refine heldTake (i := 15) (oi := { dst := some 85, op := Op.pick (Operand.tmp 80) (Operand.tmp 84) (Operand.const (Value.bool false)), type := 4, pos := "law.go:36", after := #[{ on := 10, ground := Ground.data }, { on := 14, ground := Ground.data }], guard := none }) (v := ?_) rfl (by kernel_rfl) (by kernel_rfl) (by kernel_rfl) (by assumption) ?_ ?_; rotate_left; focus (refine .inl ⟨by kernel_rfl, ?_⟩; intro w hSw; (try dsimp only at hSw); go_simp; (try with_reducible rfl)); (try simp only [Act.put, List.setIfInBounds_toArray, List.set_cons_zero, List.set_cons_succ]))
    (refine heldTake (i := 16) (oi := { dst := some 86, op := Op.move (Operand.tmp 85), type := 4, pos := "law.go:36", after := #[{ on := 15, ground := Ground.data }, { on := 10, ground := Ground.chain }], guard := none }) (v := ?_) rfl (by kernel_rfl) (by kernel_rfl) (by kernel_rfl) (by assumption) ?_ ?_; rotate_left; focus (refine .inl ⟨by kernel_rfl, ?_⟩; intro w hSw; (try dsimp only at hSw); go_simp; (try with_reducible rfl)); (try simp only [Act.put, List.setIfInBounds_toArray, List.set_cons_zero, List.set_cons_succ]))
    (refine heldTake (i := 17) (oi := { dst := some 87, op := Op.load 25 (Operand.tmp 10), type := 25, pos := "law.go:36", after := #[{ on := 16, ground := Ground.guard }], guard := some (16, true) }) (v := ?_) rfl (by kernel_rfl) (by kernel_rfl) (by kernel_rfl) (by assumption) ?_ ?_; rotate_left; focus (refine .inl ⟨by kernel_rfl, ?_⟩; intro w hSw; (try dsimp only at hSw); go_simp; (try with_reducible rfl)); (try simp only [Act.put, List.setIfInBounds_toArray, List.set_cons_zero, List.set_cons_succ]))
    (refine heldTake (i := 18) (oi := { dst := some 88, op := Op.load 25 (Operand.tmp 3), type := 25, pos := "law.go:36", after := #[{ on := 16, ground := Ground.guard }], guard := some (16, true) }) (v := ?_) rfl (by kernel_rfl) (by kernel_rfl) (by kernel_rfl) (by assumption) ?_ ?_; rotate_left; focus (refine .inl ⟨by kernel_rfl, ?_⟩; intro w hSw; (try dsimp only at hSw); go_simp; (try with_reducible rfl)); (try simp only [Act.put, List.setIfInBounds_toArray, List.set_cons_zero, List.set_cons_succ]))
    refine wpAnyH_ready (rs := [19]) (by kernel_rfl) (by simp) ?_
    refine AllReadyH.cons (o := { dst := some 89, op := Op.call { callee := Callee.value (Operand.func 35), args := #[Operand.tmp 87, Operand.tmp 88], argTypes := #[25, 25] }, type := 4, pos := "law.go:36", after := #[{ on := 17, ground := Ground.data }, { on := 18, ground := Ground.data }, { on := 16, ground := Ground.chain }, { on := 16, ground := Ground.guard }], guard := some (16, true) }) rfl (fun K hK => ?_) AllReadyH.nil
    go_simp
    (go_at_call 35; (with_reducible refine (HS3.out _ _ _ (And.left hHeld3).l (And.left hHeld3).b.a.li).mono ?_); rintro e w11 ⟨rfl, hb⟩; have hk11 := LEnd.nine (LEnd.on (And.left hHeld3) hb); clear hb)
    refine hK.out _ _ hk11 (fun hHeld19 => ?_)
    clear hK K hHeld3
    (try simp only [Act.put, List.setIfInBounds_toArray, List.set_cons_zero, List.set_cons_succ])
    (refine heldTake (i := 20) (oi := { dst := some 90, op := Op.pick (Operand.tmp 86) (Operand.tmp 89) (Operand.const (Value.bool false)), type := 4, pos := "law.go:36", after := #[{ on := 16, ground := Ground.data }, { on := 19, ground := Ground.data }], guard := none }) (v := ?_) rfl (by kernel_rfl) (by kernel_rfl) (by kernel_rfl) (by assumption) ?_ ?_; rotate_left; focus (refine .inl ⟨by kernel_rfl, ?_⟩; intro w hSw; (try dsimp only at hSw); go_simp; (try with_reducible rfl)); (try simp only [Act.put, List.setIfInBounds_toArray, List.set_cons_zero, List.set_cons_succ]))
    (refine heldTake (i := 21) (oi := { dst := some 6, op := Op.assign (Operand.tmp 90), type := 4, pos := "law.go:36", after := #[{ on := 20, ground := Ground.data }, { on := 19, ground := Ground.chain }, { on := 0, ground := Ground.phase }, { on := 1, ground := Ground.phase }, { on := 2, ground := Ground.phase }, { on := 3, ground := Ground.phase }, { on := 4, ground := Ground.phase }, { on := 5, ground := Ground.phase }, { on := 6, ground := Ground.phase }, { on := 7, ground := Ground.phase }, { on := 8, ground := Ground.phase }, { on := 9, ground := Ground.phase }, { on := 10, ground := Ground.phase }, { on := 11, ground := Ground.phase }, { on := 12, ground := Ground.phase }, { on := 13, ground := Ground.phase }, { on := 14, ground := Ground.phase }, { on := 15, ground := Ground.phase }, { on := 16, ground := Ground.phase }, { on := 17, ground := Ground.phase }, { on := 18, ground := Ground.phase }, { on := 19, ground := Ground.phase }, { on := 20, ground := Ground.phase }], guard := none }) (v := ?_) rfl (by kernel_rfl) (by kernel_rfl) (by kernel_rfl) (by assumption) ?_ ?_; rotate_left; focus (refine .inl ⟨by kernel_rfl, ?_⟩; intro w hSw; (try dsimp only at hSw); go_simp; (try with_reducible rfl)); (try simp only [Act.put, List.setIfInBounds_toArray, List.set_cons_zero, List.set_cons_succ]))
    refine wpAnyH_done (by kernel_rfl) ?_ _
    refine NoPanic.normal ?_
    have hLast := hHeld19
    clear hHeld19
    go_wp2
    go_ret
    exact ⟨rfl, (And.left hLast).b.a.bel⟩
  · have HPU2 := Lib.hid (fun W (h : Tabs W) (hl : LiesL W A i.l) => show Calls Tryd.prog 32 #[insV i A c] W fun e w' => ∃ v, e = .returned (.tuple #[v, .int .i64 (rightZ i)]) ∧ Row w' W.heap.size v [] ∧ Below W.heap.size W w' from (HPU.out W h hl).mono fun e w' ⟨v, h1, h2, h3⟩ => ⟨v, h1, by rw [if_neg hz] at h2; exact h2, h3⟩)
    obtain ⟨z, hzz⟩ : ∃ z, z = rightZ i := ⟨_, rfl⟩
    rw [← hzz] at HRR HPR HPU2 hz
    have hzb : (z != 0) = true := by simpa using hz
    obtain ⟨xs, hxs⟩ : ∃ xs : List UInt8, xs = [] := ⟨_, rfl⟩
    have hxl : (xs.length : Int) = 0 := by rw [hxs]; rfl
    rw [← hxs] at HPU2
    clear hz hzz hxs g1 g2 g3 HPU
    go_enter Tryd.func6, Tryd.ntmps6
    go_wp2_with (first
      | (go_at_call 30; go_must ((with_reducible refine HAW.out.mono ?_); rintro e w1 ⟨rfl, hb⟩; have H1 := Lib.hid (H0.out.on hb); obtain ⟨⟨c0, c1, c2, c3⟩, ⟨k0, k1, k2, k3⟩⟩ := H1.out.eight; clear hb))
      | (go_at_call 31; go_must ((with_reducible refine (HRR.out _).mono ?_); rintro e w2 ⟨rfl, hb⟩; clear c0 c1 c2 c3 k0 k1 k2 k3; have H2 := Lib.hid (H1.out.on hb); obtain ⟨⟨c0, c1, c2, c3⟩, ⟨k0, k1, k2, k3⟩⟩ := H2.out.eight; clear hb))
      | (go_at_call 32; go_must ((with_reducible refine (HPU2.out _ H2.out.tb H2.out.li).mono ?_); intro e w3 hq; obtain ⟨v, rfl, hr, hb⟩ := hq; clear c0 c1 c2 c3 k0 k1 k2 k3; obtain ⟨Ab, cb, rfl, _, _⟩ := hr.liesN; have H3 := Lib.hid (show LSb w i k A B c d M ms (.slice Ab xs.length cb) xs w3 from ⟨H2.out.on hb, hr.mono H2.out.bel.size⟩); clear hb hr)))
    refine wp_region_noPanic ?_
    refine wp_region_held_drew (S := fun W => LSb w i k A B c d M ms (.slice Ab xs.length cb) xs W ∧ Eight w i k A B c d W) (by kernel_rfl) H3.out.drew8 (fun hHeld => ?_)
    (refine heldTake (i := 0) (oi := { dst := some 37, op := Op.load 25 (Operand.tmp 3), type := 25, pos := "law.go:29", after := #[], guard := none }) (v := ?_) rfl (by kernel_rfl) (by kernel_rfl) (by kernel_rfl) (by assumption) ?_ ?_; rotate_left; focus (refine .inl ⟨by kernel_rfl, ?_⟩; intro w hSw; (try dsimp only at hSw); go_simp; (try with_reducible rfl)); (try simp only [Act.put, List.setIfInBounds_toArray, List.set_cons_zero, List.set_cons_succ]))
    (refine heldTake (i := 2) (oi := { dst := some 39, op := Op.move (Operand.tmp 7), type := 3, pos := "law.go:29", after := #[], guard := none }) (v := ?_) rfl (by kernel_rfl) (by kernel_rfl) (by kernel_rfl) (by assumption) ?_ ?_; rotate_left; focus (refine .inl ⟨by kernel_rfl, ?_⟩; intro w hSw; (try dsimp only at hSw); go_simp; (try with_reducible rfl)); (try simp only [Act.put, List.setIfInBounds_toArray, List.set_cons_zero, List.set_cons_succ]))
    refine wpAnyH_ready (rs := [1]) (by kernel_rfl) (by simp) ?_
    refine AllReadyH.cons (o := { dst := some 38, op := Op.call { callee := Callee.value (Operand.func 33), args := #[Operand.tmp 37], argTypes := #[25] }, type := 31, pos := "law.go:29", after := #[{ on := 0, ground := Ground.data }], guard := none }) rfl (fun K hK => ?_) AllReadyH.nil
    go_simp
    (go_at_call 33; (with_reducible refine (HPR.out _ (And.left hHeld).1.tb).mono ?_); rintro e w4 ⟨rfl, hb⟩; have hk4 := LSb.on8 (And.left hHeld) hb; clear hb)
    refine hK.out _ _ hk4 (fun hHeld1 => ?_)
    clear hK K hHeld
    (try simp only [Act.put, List.setIfInBounds_toArray, List.set_cons_zero, List.set_cons_succ])
    (refine heldTake (i := 3) (oi := { dst := some 40, op := Op.binOp BinOp.neq 3 (Operand.tmp 38) (Operand.tmp 39) 3, type := 4, pos := "law.go:29", after := #[{ on := 1, ground := Ground.data }, { on := 2, ground := Ground.data }], guard := none }) (v := ?_) rfl (by kernel_rfl) (by kernel_rfl) (by kernel_rfl) (by assumption) ?_ ?_; rotate_left; focus (refine .inl ⟨by kernel_rfl, ?_⟩; intro w hSw; (try dsimp only at hSw); go_simp; (try with_reducible rfl)); (try simp only [Act.put, List.setIfInBounds_toArray, List.set_cons_zero, List.set_cons_succ]))
    (refine heldTake (i := 4) (oi := { dst := some 41, op := Op.move (Operand.tmp 40), type := 4, pos := "law.go:29", after := #[{ on := 3, ground := Ground.data }, { on := 1, ground := Ground.chain }], guard := none }) (v := ?_) rfl (by kernel_rfl) (by kernel_rfl) (by kernel_rfl) (by assumption) ?_ ?_; rotate_left; focus (refine .inl ⟨by kernel_rfl, ?_⟩; intro w hSw; (try dsimp only at hSw); go_simp; (try with_reducible rfl)); (try simp only [Act.put, List.setIfInBounds_toArray, List.set_cons_zero, List.set_cons_succ]))
    (refine heldTake (i := 5) (oi := { dst := some 42, op := Op.move (Operand.tmp 9), type := 31, pos := "law.go:29", after := #[{ on := 4, ground := Ground.guard }], guard := some (4, false) }) (v := ?_) rfl (by kernel_rfl) (by kernel_rfl) (by kernel_rfl) (by assumption) ?_ ?_; rotate_left; focus (refine .inl ⟨by kernel_rfl, ?_⟩; intro w hSw; (try dsimp only at hSw); go_simp; (try with_reducible rfl)); (try simp only [Act.put, List.setIfInBounds_toArray, List.set_cons_zero, List.set_cons_succ]))
    (refine heldTake (i := 6) (oi := { dst := some 43, op := Op.move (Operand.tmp 7), type := 3, pos := "law.go:29", after := #[{ on := 4, ground := Ground.guard }], guard := some (4, false) }) (v := ?_) rfl (by kernel_rfl) (by kernel_rfl) (by kernel_rfl) (by assumption) ?_ ?_; rotate_left; focus (refine .inl ⟨by kernel_rfl, ?_⟩; intro w hSw; (try dsimp only at hSw); go_simp; (try with_reducible rfl)); (try simp only [Act.put, List.setIfInBounds_toArray, List.set_cons_zero, List.set_cons_succ]))
    (refine heldTake (i := 7) (oi := { dst := some 44, op := Op.binOp BinOp.neq 3 (Operand.tmp 42) (Operand.tmp 43) 3, type := 4, pos := "law.go:29", after := #[{ on := 5, ground := Ground.data }, { on := 6, ground := Ground.data }, { on := 4, ground := Ground.guard }], guard := some (4, false) }) (v := ?_) rfl (by kernel_rfl) (by kernel_rfl) (by kernel_rfl) (by assumption) ?_ ?_; rotate_left; focus (refine .inl ⟨by kernel_rfl, ?_⟩; intro w hSw; (try dsimp only at hSw); go_simp; (try with_reducible rfl)); (try simp only [Act.put, List.setIfInBounds_toArray, List.set_cons_zero, List.set_cons_succ]))
    (refine heldTake (i := 8) (oi := { dst := some 45, op := Op.pick (Operand.tmp 41) (Operand.const (Value.bool true)) (Operand.tmp 44), type := 4, pos := "law.go:29", after := #[{ on := 4, ground := Ground.data }, { on := 7, ground := Ground.data }], guard := none }) (v := ?_) rfl (by kernel_rfl) (by kernel_rfl) (by kernel_rfl) (by assumption) ?_ ?_; rotate_left; focus (refine .inl ⟨by kernel_rfl, ?_⟩; intro w hSw; (try dsimp only at hSw); go_simp; (try with_reducible rfl)); (try simp only [Act.put, List.setIfInBounds_toArray, List.set_cons_zero, List.set_cons_succ]))
    (refine heldTake (i := 9) (oi := { dst := some 46, op := Op.move (Operand.tmp 45), type := 4, pos := "law.go:29", after := #[{ on := 8, ground := Ground.data }, { on := 4, ground := Ground.chain }], guard := none }) (v := ?_) rfl (by kernel_rfl) (by kernel_rfl) (by kernel_rfl) (by assumption) ?_ ?_; rotate_left; focus (refine .inl ⟨by kernel_rfl, ?_⟩; intro w hSw; (try dsimp only at hSw); go_simp; (try with_reducible rfl)); (try simp only [Act.put, List.setIfInBounds_toArray, List.set_cons_zero, List.set_cons_succ]))
    (refine heldTake (i := 10) (oi := { dst := some 47, op := Op.load 25 (Operand.tmp 3), type := 25, pos := "law.go:29", after := #[{ on := 9, ground := Ground.guard }], guard := some (9, false) }) (v := ?_) rfl (by kernel_rfl) (by kernel_rfl) (by kernel_rfl) (by assumption) ?_ ?_; rotate_left; focus (refine .inl ⟨by kernel_rfl, ?_⟩; intro w hSw; (try dsimp only at hSw); go_simp; (try with_reducible rfl)); (try simp only [Act.put, List.setIfInBounds_toArray, List.set_cons_zero, List.set_cons_succ]))
    (refine heldTake (i := 11) (oi := { dst := some 48, op := Op.load 25 (Operand.tmp 4), type := 25, pos := "law.go:29", after := #[{ on := 9, ground := Ground.guard }], guard := some (9, false) }) (v := ?_) rfl (by kernel_rfl) (by kernel_rfl) (by kernel_rfl) (by assumption) ?_ ?_; rotate_left; focus (refine .inl ⟨by kernel_rfl, ?_⟩; intro w hSw; (try dsimp only at hSw); go_simp; (try with_reducible rfl)); (try simp only [Act.put, List.setIfInBounds_toArray, List.set_cons_zero, List.set_cons_succ]))
    (refine heldTake (i := 13) (oi := { dst := some 50, op := Op.load 25 (Operand.tmp 3), type := 25, pos := "law.go:29", after := #[{ on := 9, ground := Ground.guard }], guard := some (9, false) }) (v := ?_) rfl (by kernel_rfl) (by kernel_rfl) (by kernel_rfl) (by assumption) ?_ ?_; rotate_left; focus (refine .inl ⟨by kernel_rfl, ?_⟩; intro w hSw; (try dsimp only at hSw); go_simp; (try with_reducible rfl)); (try simp only [Act.put, List.setIfInBounds_toArray, List.set_cons_zero, List.set_cons_succ]))
    (refine heldTake (i := 14) (oi := { dst := some 51, op := Op.load 25 (Operand.tmp 4), type := 25, pos := "law.go:29", after := #[{ on := 9, ground := Ground.guard }], guard := some (9, false) }) (v := ?_) rfl (by kernel_rfl) (by kernel_rfl) (by kernel_rfl) (by assumption) ?_ ?_; rotate_left; focus (refine .inl ⟨by kernel_rfl, ?_⟩; intro w hSw; (try dsimp only at hSw); go_simp; (try with_reducible rfl)); (try simp only [Act.put, List.setIfInBounds_toArray, List.set_cons_zero, List.set_cons_succ]))
    refine wpAnyH_ready (rs := [12]) (by kernel_rfl) (by simp) ?_
    refine AllReadyH.cons (o := { dst := some 49, op := Op.call { callee := Callee.value (Operand.func 34), args := #[Operand.tmp 47, Operand.tmp 48], argTypes := #[25, 25] }, type := 4, pos := "law.go:29", after := #[{ on := 10, ground := Ground.data }, { on := 11, ground := Ground.data }, { on := 9, ground := Ground.chain }, { on := 9, ground := Ground.guard }], guard := some (9, false) }) rfl (fun K hK => ?_) AllReadyH.nil
    go_simp
    (go_at_call 34; (with_reducible refine (HS1.out _ (And.left hHeld1).1.li (And.left hHeld1).1.lk).mono ?_); rintro e w5 ⟨rfl, hb⟩; have hk5 := LSb.on8 (And.left hHeld1) hb; clear hb)
    refine hK.out _ _ hk5 (fun hHeld12 => ?_)
    clear hK K hHeld1
    (try simp only [Act.put, List.setIfInBounds_toArray, List.set_cons_zero, List.set_cons_succ])
    refine wpAnyH_ready (rs := [15]) (by kernel_rfl) (by simp) ?_
    refine AllReadyH.cons (o := { dst := some 52, op := Op.call { callee := Callee.value (Operand.func 35), args := #[Operand.tmp 50, Operand.tmp 51], argTypes := #[25, 25] }, type := 4, pos := "law.go:29", after := #[{ on := 13, ground := Ground.data }, { on := 14, ground := Ground.data }, { on := 12, ground := Ground.chain }, { on := 9, ground := Ground.guard }], guard := some (9, false) }) rfl (fun K hK => ?_) AllReadyH.nil
    go_simp
    (go_at_call 35; (with_reducible refine (HS2.out _ (And.left hHeld12).1.li (And.left hHeld12).1.lk).mono ?_); rintro e w6 ⟨rfl, hb⟩; have hk6 := LSb.on8 (And.left hHeld12) hb; clear hb)
    refine hK.out _ _ hk6 (fun hHeld15 => ?_)
    clear hK K hHeld12
    (try simp only [Act.put, List.setIfInBounds_toArray, List.set_cons_zero, List.set_cons_succ])
    (refine heldTake (i := 16) (oi := { dst := some 53, op := Op.binOp BinOp.neq 4 (Operand.tmp 49) (Operand.tmp 52) 4, type := 4, pos := "law.go:29", after := #[{ on := 12, ground := Ground.data }, { on := 15, ground := Ground.data }, { on := 9, ground := Ground.guard }], guard := some (9, false) }) (v := ?_) rfl (by kernel_rfl) (by kernel_rfl) (by kernel_rfl) (by assumption) ?_ ?_; rotate_left; focus (refine .inl ⟨by kernel_rfl, ?_⟩; intro w hSw; (try dsimp only at hSw); go_simp; (try with_reducible rfl)); (try simp only [Act.put, List.setIfInBounds_toArray, List.set_cons_zero, List.set_cons_succ]))
    (refine heldTake (i := 17) (oi := { dst := some 54, op := Op.pick (Operand.tmp 46) (Operand.const (Value.bool true)) (Operand.tmp 53), type := 4, pos := "law.go:29", after := #[{ on := 9, ground := Ground.data }, { on := 16, ground := Ground.data }], guard := none }) (v := ?_) rfl (by kernel_rfl) (by kernel_rfl) (by kernel_rfl) (by assumption) ?_ ?_; rotate_left; focus (refine .inl ⟨by kernel_rfl, ?_⟩; intro w hSw; (try dsimp only at hSw); go_simp; (try with_reducible rfl)); (try simp only [Act.put, List.setIfInBounds_toArray, List.set_cons_zero, List.set_cons_succ]))
    refine wpAnyH_done (by kernel_rfl) ?_ _
    refine NoPanic.normal ?_
    have hLast := hHeld15
    clear hHeld15
    go_wp2
    go_ret
    exact ⟨rfl, (And.left hLast).a.bel⟩
end Go.Proofs.YticgmfeihdankaaDoor
