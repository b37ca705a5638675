/- Numbers of eight and of thirty-two bits, opened. -/
import Derived.ProofKit
import Derived.Test.YtihpnplfklbgjaaDoorQd01
import Derived.Test.YtihpnplfklbgjaaDoorQd12
import Derived.OpenShut
import Derived.ShutString
import Derived.ChangeOld
import Derived.ChangeSame
import Derived.Deep.Slices
import Derived.Deep.Fields
import Derived.Lib.SmallJoins
import Derived.Test.YtihpnplfklbgjaaDoorQd02
import Derived.Test.YtihpnplfklbgjaaDoorTie
import Derived.Lib.LaidIn
import Derived.Lib.LaidU8T
import Derived.MakeChecks
import Derived.Stop.Joined
import Derived.Test.YtihpnplfklbgjaaDoorQd07
import Derived.Test.YtihpnplfklbgjaaDoorQd05
import Derived.Test.YtihpnplfklbgjaaDoorQd08
import Derived.Deep.CutBlock
import Derived.Deep.DeepCutAuto
import Derived.OwnWalk
import Derived.Test.YtihpnplfklbgjaaDoorQd06
namespace Go.Proofs.YtihpnplfklbgjaaDoor
set_option linter.unusedVariables false

theorem u8_ex {x : Int} (h : Lit.wf (.int .u8 x) = true) : ∃ a : UInt8, x = a.toNat := by
  have b : 0 ≤ x ∧ x ≤ 255 := by simpa [Lit.wf, IntKind.min, IntKind.max, IntKind.signed, IntKind.bits] using h
  exact ⟨UInt8.ofNat x.toNat, by rw [UInt8.toNat_ofNat']; omega⟩
theorem u32_ex {x : Int} (h : Lit.wf (.int .u32 x) = true) : ∃ a : UInt32, x = a.toNat := by
  have b : 0 ≤ x ∧ x ≤ 4294967295 := by simpa [Lit.wf, IntKind.min, IntKind.max, IntKind.signed, IntKind.bits] using h
  exact ⟨UInt32.ofNat x.toNat, by rw [UInt32.toNat_ofNat']; omega⟩
end Go.Proofs.YtihpnplfklbgjaaDoor

/- What a module needs, by value, opened; a slice of strings. (By gen/genCards.py.) -/
namespace Go.Proofs.YtihpnplfklbgjaaDoor
open Go.ChangeShapes Go.WideShapes Go.ChangeAt Go.RowKit Go.Joins Go.Deep
set_option linter.unusedVariables false
set_option maxRecDepth 100000

theorem cellsDl : Tryd.prog.cellsOf 25 = 6 := by kernel_rfl
theorem cellsStrs : Tryd.prog.cellsOf 9 = 1 := by kernel_rfl
section
variable {H : Type} {enc : TypeId × Value → H} {W : World} {sp : Nat → Bool}
theorem open_strs {fuel : Nat} {cs : List Value} {x : DataW H × List MemPlace} (h : DataW.trod enc Tryd.prog W 0 sp true fuel 23 cs = some x) :
    ∃ (A : Option Addr) (c : Nat) (l : List (List UInt8)), cs = [.slice A l.length c] ∧ SlT W A l ∧ l.length ≤ c := by
  rcases open_slice Tryd.underlying23 h with ⟨hcs, _⟩ | ⟨a, len, cap, m, n, D, Pl, hcs, hb, hl, hm, hmm, hx, hi⟩
  · exact ⟨none, 0, [], hcs, (fun j i hi => by cases hi), Nat.le_refl _⟩
  · have hlm : len ≤ m := by rw [hmm]; split <;> omega
    have each : ∀ j, j < len → ∃ s : List UInt8, W.cell? (a.add j) = some (.string (S s)) := by
      intro j hj
      obtain ⟨cs', hc, ht'⟩ := hi j (by omega)
      rw [cellsStrs] at hc
      obtain ⟨_, hcl, hat⟩ := World.cells?_some hc
      obtain ⟨s0, q0, _, ws0⟩ := DataW.trod_string Tryd.underlying9 ht'
      refine ⟨s0.data.toList, ?_⟩
      have := hat 0 (by omega)
      rw [q0, Nat.mul_one] at this
      rw [S_of]
      simpa [Addr.add] using this
    have pick : ∀ k, k ≤ len → ∃ l : List (List UInt8), l.length = k ∧ ∀ (j : Nat) (s : List UInt8), l[j]? = some s → W.cell? (a.add j) = some (.string (S s)) := by
      intro k
      induction k with
      | zero => intro _; exact ⟨[], rfl, (fun j i hi => by cases hi)⟩
      | succ k ih =>
        intro hk
        obtain ⟨l, hl1, hl2⟩ := ih (by omega)
        obtain ⟨i, hq⟩ := each k (by omega)
        refine ⟨l ++ [i], by simp [hl1], fun j i' hi' => ?_⟩
        rcases Nat.lt_or_ge j k with g | g
        · rw [List.getElem?_append_left (by omega)] at hi'
          exact hl2 j i' hi'
        · have hj : j < (l ++ [i]).length := (List.getElem?_eq_some_iff.1 hi').1
          rw [List.length_append, List.length_singleton] at hj
          obtain rfl : j = k := by omega
          rw [List.getElem?_append_right (by omega), hl1, Nat.sub_self] at hi'
          injection hi' with hi'
          subst hi'
          exact hq
    obtain ⟨l, hl1, hl2⟩ := pick len (Nat.le_refl _)
    refine ⟨some a, cap, l, by rw [hl1]; exact hcs, fun j s hij => ?_, by omega⟩
    have q := hl2 j s hij
    obtain ⟨b, off, spot⟩ := a
    have hj0 := (List.getElem?_eq_some_iff.1 hij).1
    have q00 := hl2 0 _ (List.getElem?_eq_getElem (by omega : 0 < l.length))
    have hsp : spot = none := by simpa [Addr.add] using World.cell?_spot q00
    subst hsp
    rw [Go.WideShapes.add_plain] at q
    exact ⟨b, off, rfl, block_lt_of_cell q, q⟩
theorem open_dl6 {n : Nat} {cs : List Value} {x : DataW H × List MemPlace} (h : DataW.trod enc Tryd.prog W 0 sp true n 25 cs = some x) (hc : cs.length = 6) : ∃ (i : Dl) (A : Option Addr) (c : Nat), cs = (dlC i A c).toList ∧ SlT W A i.nd ∧ i.nd.length ≤ c := by
  obtain ⟨ys, m, _, hy, hlen, hyl, hf⟩ := DataW.trod_struct Tryd.underlying25 h
  match cs, hc with
  | [c0, c1, c2, c3, c4, c5], _ =>
    match ys, hyl with
    | [y0, y1, y2, y3, y4, y5], _ =>
      have e1 : Tryd.prog.cellsOf 4 = 1 := by kernel_rfl
      have e2 : Tryd.prog.cellsOf 22 = 1 := by kernel_rfl
      have e3 : Tryd.prog.cellsOf 23 = 1 := by kernel_rfl
      have h0 : DataW.trod enc Tryd.prog W 0 sp true m 4 (([c0, c1, c2, c3, c4, c5].drop 0).take (Tryd.prog.cellsOf 4)) = some y0 := hf 0 _ rfl
      have h1 : DataW.trod enc Tryd.prog W 0 sp true m 22 (([c0, c1, c2, c3, c4, c5].drop 1).take (Tryd.prog.cellsOf 22)) = some y1 := hf 1 _ rfl
      have h2 : DataW.trod enc Tryd.prog W 0 sp true m 22 (([c0, c1, c2, c3, c4, c5].drop 2).take (Tryd.prog.cellsOf 22)) = some y2 := hf 2 _ rfl
      have h3 : DataW.trod enc Tryd.prog W 0 sp true m 22 (([c0, c1, c2, c3, c4, c5].drop 3).take (Tryd.prog.cellsOf 22)) = some y3 := hf 3 _ rfl
      have h4 : DataW.trod enc Tryd.prog W 0 sp true m 22 (([c0, c1, c2, c3, c4, c5].drop 4).take (Tryd.prog.cellsOf 22)) = some y4 := hf 4 _ rfl
      have h5 : DataW.trod enc Tryd.prog W 0 sp true m 23 (([c0, c1, c2, c3, c4, c5].drop 5).take (Tryd.prog.cellsOf 23)) = some y5 := hf 5 _ rfl
      rw [e1] at h0
      rw [e2] at h1 h2 h3 h4
      rw [e3] at h5
      obtain ⟨x0, q0, _⟩ := DataW.trod_bool Tryd.underlying4 h0
      obtain ⟨x1, q1, _, w1⟩ := DataW.trod_int Tryd.underlying22 h1
      obtain ⟨a1, rfl⟩ := u32_ex w1
      obtain ⟨x2, q2, _, w2⟩ := DataW.trod_int Tryd.underlying22 h2
      obtain ⟨a2, rfl⟩ := u32_ex w2
      obtain ⟨x3, q3, _, w3⟩ := DataW.trod_int Tryd.underlying22 h3
      obtain ⟨a3, rfl⟩ := u32_ex w3
      obtain ⟨x4, q4, _, w4⟩ := DataW.trod_int Tryd.underlying22 h4
      obtain ⟨a4, rfl⟩ := u32_ex w4
      obtain ⟨A, c, l, q5, hs, hlc⟩ := open_strs h5
      have q0' : c0 = .bool x0 := by simpa using q0
      have q1' : c1 = .int .u32 a1.toNat := by simpa using q1
      have q2' : c2 = .int .u32 a2.toNat := by simpa using q2
      have q3' : c3 = .int .u32 a3.toNat := by simpa using q3
      have q4' : c4 = .int .u32 a4.toNat := by simpa using q4
      have q5' : c5 = .slice A l.length c := by simpa using q5
      exact ⟨⟨x0, a1, a2, a3, a4, l⟩, A, c, by rw [q0', q1', q2', q3', q4', q5'], hs, hlc⟩
theorem open_dl {b0 : Nat} {r : Reach} {v : Value} {d : DataW H} {p : List MemPlace} (hv : Value.okWide Tryd.prog W r b0 25 v) (h : DataW.Trod enc Tryd.prog W 0 sp true 25 v d p) : ∃ (i : Dl) (A : Option Addr) (c : Nat), v = dlV i A c ∧ SlT W A i.nd ∧ i.nd.length ≤ c := by
  obtain ⟨cs, rfl, hsz⟩ := okWide_struct Tryd.underlying25 hv
  rw [cellsDl] at hsz
  obtain ⟨fuel, hf⟩ := h
  obtain ⟨i, A, c, hi, h1, h2⟩ := open_dl6 (cs := cs.toList) (by simpa [Value.cells] using hf) (by simpa using hsz)
  exact ⟨i, A, c, by show Value.agg cs = .agg (dlC i A c); congr 1; apply Array.toList_inj.1; exact hi, h1, h2⟩
end
end Go.Proofs.YtihpnplfklbgjaaDoor

/- What the rows list of the two tables, as the contracts of unicode/utf8 want it; a world that holds them. -/
namespace Go.Proofs.YtihpnplfklbgjaaDoor
set_option linter.unusedVariables false
open Go.Shelf Go.Lib

theorem laidOut : laidOutB Tryd.prog = true := by kernel_rfl
theorem own : ownKnob Tryd.prog.godebug = none := by kernel_rfl
/-- What both rows list. -/
def both : List (String × DataW Unit) := [("unicode/utf8.acceptRanges", Rows.laid_unicode_utf8_acceptRanges), ("unicode/utf8.first", Rows.laid_unicode_utf8_first)]
theorem first_same : Rows.laid_unicode_utf8_first = Lib.firstData := by kernel_rfl
theorem accept_same : (Rows.laid_unicode_utf8_acceptRanges : DataW Unit) = Lib.acceptData := by kernel_rfl
theorem both_plain (W : World) : laidMetH Tryd.prog both W = laidMet Tryd.prog both W := Go.MakeChecks.laidMetH_plain _ _ _ (by kernel_rfl)
/-- The seat's numbers of the types and tables that the contracts of unicode/utf8 name. -/
def renU : Ren where
  f := fun _ => 0
  t := fun n => if n = 5 then 5 else if n = 119 then 149 else if n = 138 then 151 else 152
  g := fun n => if n = 3 then 0 else 1
theorem tabsU_of {W : World} (h : laidMetH Tryd.prog both W) : TabsU W := by
  rw [both_plain] at h
  have h3 := Lib.laidMet.reads h (.tail _ (.head _))
  have h4 := Lib.laidMet.reads h (.head _)
  rw [first_same] at h3
  rw [accept_same] at h4
  exact utf8Tabs_of_readsT (ρ := renU) ⟨by kernel_rfl, by kernel_rfl, by kernel_rfl, by kernel_rfl⟩ ⟨by kernel_rfl, by kernel_rfl, by kernel_rfl, by kernel_rfl, by kernel_rfl, by kernel_rfl, by kernel_rfl⟩ h3 h4

/-- The settled world, the two tables laid. -/
noncomputable def laidWorldU (os : Os) : World :=
  let w0 := World.holding Tryd.prog os ⟨#[], #[], []⟩
  let put (h : Array Obj) (g : Nat) (cs : Array Value) : Array Obj := h.modify g fun
    | .cells _ t frozen => .cells cs t frozen
    | o => o
  let h1 := put w0.heap 0 (Lib.firstTab.map fun z => Value.int .u8 z).toArray
  let h2 := put h1 1 ((List.range 16).flatMap fun i => [Value.int .u8 (Lib.accLo i), Value.int .u8 (Lib.accHi i)]).toArray
  { w0 with heap := h2 }
theorem laidWorldU_met (os : Os) (args : Array Value) : laidMetH Tryd.prog both ((laidWorldU os).forCall (fun _ _ => 0) ⟨#[], args, []⟩).memory := by
  rw [both_plain]
  exact (LaidIn.of_run (l := both) [1, 0] 8 (by kernel_rfl) (by kernel_rfl) (by kernel_rfl) (by kernel_rfl)).met
end Go.Proofs.YtihpnplfklbgjaaDoor

/- Exports as plain data; creelref11.Same; a box that holds one. -/
namespace Go.Proofs.YtihpnplfklbgjaaDoor
open Go.RowKit
set_option linter.unusedVariables false
set_option maxRecDepth 100000

/-- An export. -/
structure Ex where
  nam : List UInt8
  kind : UInt8
  idx : UInt32
  deriving DecidableEq
/-- Its cells. -/
abbrev exC (x : Ex) : Array Value := #[.string (S x.nam), .int .u8 x.kind.toNat, .int .u32 x.idx.toNat]
abbrev exV (x : Ex) : Value := .agg (exC x)
abbrev exZ : Ex := ⟨[], 0, 0⟩
theorem exC_zero : exC exZ = #[.string { data := #[] }, .int .u8 0, .int .u32 0] := rfl
theorem put3 {w : World} {b : Nat} {t : TypeId} {x0 x1 x2 u0 u1 u2 : Value} (hb : Whole w b t #[x0, x1, x2]) :
    Whole (((w.setCell ⟨b, 0, none⟩ u0).setCell ⟨b, 1, none⟩ u1).setCell ⟨b, 2, none⟩ u2) b t #[u0, u1, u2] ∧ w.grownBy (((w.setCell ⟨b, 0, none⟩ u0).setCell ⟨b, 1, none⟩ u1).setCell ⟨b, 2, none⟩ u2) (some b) := three_put hb
/-- What lies in a block that holds an export. -/
theorem Whole.ex {w : World} {b : Nat} {t : TypeId} {x : Ex} (h : Whole w b t (exC x)) :
    w.cell? ⟨b, 0, none⟩ = some (.string (S x.nam)) ∧ w.cell? ⟨b, 1, none⟩ = some (.int .u8 x.kind.toNat) ∧ w.cell? ⟨b, 2, none⟩ = some (.int .u32 x.idx.toNat) := ⟨h.cell 0, h.cell 1, h.cell 2⟩
theorem ex_ext {x y : Ex} (h0 : (S x.nam).toList = (S y.nam).toList) (h1 : (x.kind.toNat : Int) = y.kind.toNat) (h2 : (x.idx.toNat : Int) = y.idx.toNat) : x = y := by
  rw [S_toList, S_toList] at h0
  obtain ⟨a0, a1, a2⟩ := x
  obtain ⟨b0, b1, b2⟩ := y
  simp only at h0 h1 h2
  obtain rfl := i8_of h1
  obtain rfl := i32_of h2
  subst h0
  rfl
theorem eq_ex (x y : Ex) (w : World) : (binOp BinOp.eql 64 (exV x) (exV y)).run Tryd.prog w = .ok (.bool (decide (x = y))) w := by
  go_simp
  repeat' split
  · rw [decide_eq_true (ex_ext (by assumption) (by assumption) (by assumption))]
  all_goals (rw [decide_eq_false (fun h => by subst h; first | (exact absurd rfl (by assumption)) | (rename_i q; exact q rfl))])
theorem neq_ex (x y : Ex) (w : World) : (binOp BinOp.neq 64 (exV x) (exV y)).run Tryd.prog w = .ok (.bool (!decide (x = y))) w := by
  go_simp
  repeat' split
  · rw [decide_eq_true (ex_ext (by assumption) (by assumption) (by assumption))]
    rfl
  all_goals (rw [decide_eq_false (fun h => by subst h; first | (exact absurd rfl (by assumption)) | (rename_i q; exact q rfl))]; rfl)
set_option maxHeartbeats 2000000 in
theorem refSame_ex (x y : Ex) (w : World) : Calls Tryd.prog 35 #[exV x, exV y] w fun e w' => e = .returned (.bool (decide (x = y))) ∧ Below w.heap.size w w' := by
  have hb : ∀ o1 o2 : Obj, Below w.heap.size w ((w.alloc o1).alloc o2) := fun o1 o2 => (below_box w o1).alloc (by simp) _
  have he := fun W => eq_ex x y W
  go_enter Tryd.func35, Tryd.ntmps35
  go_wp2
  go_ret
  exact ⟨rfl, hb _ _⟩
/-- A block that holds an export, in a world grown from B: what is held of it. -/
abbrev BxE (B : World) (b : Nat) (x : Ex) (W : World) : Prop := (Whole W b 64 (exC x) ∧ Below B.heap.size B W) ∧
  W.cell? ⟨b, 0, none⟩ = some (.string (S x.nam)) ∧ W.cell? ⟨b, 1, none⟩ = some (.int .u8 x.kind.toNat) ∧ W.cell? ⟨b, 2, none⟩ = some (.int .u32 x.idx.toNat)
section
variable {B W W' : World} {b : Nat} {x : Ex}
theorem bxE_on (h : BxE B b x W) (hb : Below W.heap.size W W') : BxE B b x W' := ⟨⟨h.1.1.below hb, h.1.2.trans (hb.mono h.1.2.size)⟩, (h.1.1.below hb).ex⟩
theorem bxE_start (w : World) (x : Ex) : BxE w w.heap.size x (w.alloc (.cells (exC x) 64)) := ⟨⟨Whole.made _ _ _, below_box _ _⟩, (Whole.made w 64 (exC x)).ex⟩
theorem bxE_bel (h : BxE B b x W) : Below B.heap.size B W := h.1.2
end
/-- May it be? -/
def rE (x : Ex) : Int := if checkZ x.nam ≠ 0 then checkZ x.nam else if 3 < x.kind.toNat then 43 else 0
theorem rE_zero {x : Ex} (h : rE x = 0) : checkZ x.nam = 0 ∧ x.kind.toNat ≤ 3 := by
  unfold rE at h
  by_cases c1 : checkZ x.nam = 0
  · rw [if_neg (by simpa using c1)] at h
    by_cases c3 : 3 < x.kind.toNat
    · rw [if_pos c3] at h; omega
    · exact ⟨c1, by omega⟩
  · rw [if_pos c1] at h; exact absurd h c1
set_option maxHeartbeats 2000000 in
theorem eright_any (x : Ex) (w : World) (h1 : x.nam.length ≤ 1000000) (hT : TabsU w) :
    Calls Tryd.prog 99 #[exV x] w fun e w' => e = .returned (.int .i64 (rE x)) ∧ Below w.heap.size w w' := by
  have HC1 := Lib.hid (checkU_any x.nam _ h1 (hT.below (below_box w (.cells (exC x) 64))))
  have H0 := Lib.hid (bxE_start w x)
  clear hT h1
  by_cases z1 : checkZ x.nam = 0
  · rw [z1] at HC1
    by_cases k3 : 3 < x.kind.toNat
    · have hr : rE x = 43 := by unfold rE; rw [if_neg (by simpa using z1), if_pos k3]
      rw [hr]
      have d3 : decide ((3 : Int) < (x.kind.toNat : Int)) = true := decide_eq_true (by omega)
      clear hr k3 z1
      go_enter Tryd.func99, Tryd.ntmps99
      go_wp2_with (go_at_call 78; go_must ((with_reducible refine HC1.out.mono ?_); rintro e w1 ⟨rfl, hb⟩; have H1 := Lib.hid (bxE_on H0.out hb); have c1 := H1.out.1.1.cell 1; simp only [List.getElem?_toArray, List.getElem?_cons_zero, List.getElem?_cons_succ] at c1; clear hb))
      go_ret
      exact ⟨rfl, bxE_bel H1.out⟩
    · have hr : rE x = 0 := by unfold rE; rw [if_neg (by simpa using z1), if_neg k3]
      rw [hr]
      have d3 : decide ((3 : Int) < (x.kind.toNat : Int)) = false := decide_eq_false (by omega)
      clear hr k3 z1
      go_enter Tryd.func99, Tryd.ntmps99
      go_wp2_with (go_at_call 78; go_must ((with_reducible refine HC1.out.mono ?_); rintro e w1 ⟨rfl, hb⟩; have H1 := Lib.hid (bxE_on H0.out hb); have c1 := H1.out.1.1.cell 1; simp only [List.getElem?_toArray, List.getElem?_cons_zero, List.getElem?_cons_succ] at c1; clear hb))
      go_ret
      exact ⟨rfl, bxE_bel H1.out⟩
  · have hr : rE x = checkZ x.nam := by unfold rE; rw [if_pos z1]
    rw [hr]
    have dz : (checkZ x.nam != 0) = true := zb_of (by simpa using z1)
    clear hr z1
    generalize checkZ x.nam = z at *
    go_enter Tryd.func99, Tryd.ntmps99
    go_wp2_with (go_at_call 78; go_must ((with_reducible refine HC1.out.mono ?_); rintro e w1 ⟨rfl, hb⟩; have H1 := Lib.hid (bxE_on H0.out hb); clear hb))
    go_ret
    exact ⟨rfl, bxE_bel H1.out⟩
end Go.Proofs.YtihpnplfklbgjaaDoor

/- exports.Put. -/
namespace Go.Proofs.YtihpnplfklbgjaaDoor
open Go.RowKit
set_option linter.unusedVariables false
set_option maxRecDepth 100000

/-- Its bytes. -/
noncomputable def exputL (x : Ex) : List UInt8 := nmL x.nam ++ [x.kind] ++ lebL x.idx.toNat
theorem exputL_len {x : Ex} {n : Nat} (h1 : x.nam.length ≤ n) (hn : n ≤ 100000) : 3 ≤ (exputL x).length ∧ (exputL x).length ≤ n + 21 := by
  have m1 := nmL_len h1 hn
  have m2 := lebL_len (x.idx.toNat : Int) (by have := u32_le x.idx; omega)
  unfold exputL
  simp only [List.length_append, List.length_singleton]
  omega
/-- What Put hands back. -/
def PuttedE (x : Ex) (w : World) (e : Ending) (w' : World) : Prop := ∃ v, e = .returned (.tuple #[v, .int .i64 (rE x)]) ∧ Row w' w.heap.size v (if rE x = 0 then exputL x else []) ∧ Below w.heap.size w w'
set_option maxHeartbeats 8000000 in
theorem put_ex (x : Ex) (w : World) (hT : TabsU w) (h1 : x.nam.length ≤ 100000) :
    Calls Tryd.prog 67 #[exV x] w (PuttedE x w) := by
  have H0 := Lib.hid (bxE_start w x)
  have HR := Lib.hid (eright_any x _ (by omega) (hT.below (below_box w (.cells (exC x) 64))))
  unfold PuttedE
  obtain ⟨z, hz⟩ : ∃ z, z = rE x := ⟨_, rfl⟩
  rw [← hz] at HR ⊢
  by_cases h0 : z = 0
  · rw [if_pos h0]
    subst h0
    have hsp : exputL x = nmL x.nam ++ [x.kind] ++ lebL x.idx.toNat := rfl
    have hn1 := nmL_len h1 (by omega)
    have hn3 := lebL_len (x.idx.toNat : Int) (by have := u32_le x.idx; omega)
    have wn : IntKind.u64.wrap (x.idx.toNat : Int) = x.idx.toNat := by have := u32_le x.idx; simp [IntKind.wrap, IntKind.bits, IntKind.signed]; omega
    have HN1 := Lib.hid (fun w => name_w x.nam w h1)
    have HU := Lib.hid (fun w => uintB (x.idx.toNat : Int) w (by omega) (by have := u32_le x.idx; omega))
    generalize nmL x.nam = y1 at *
    generalize lebL (x.idx.toNat : Int) = y3 at *
    have HSP := Lib.hid hsp
    have HS := Lib.hid (show 0 < y1.length + ([x.kind] : List UInt8).length + y3.length ∧ y1.length + ([x.kind] : List UInt8).length + y3.length ≤ 1000000 by rw [List.length_singleton]; omega)
    clear hz hT h1 hsp hn1 hn3
    go_enter Tryd.func67, Tryd.ntmps67
    go_upto_region 4 with (go_at_call 99; go_must ((with_reducible refine HR.out.mono ?_); rintro e w1 ⟨rfl, hb⟩; have H1 := Lib.hid (bxE_on H0.out hb); clear hb))
    have hB := bxE_on H1.out (Below.refl _ _).drew
    clear H0 HR H1
    refine wp_region_noPanic ?_
    refine wp_region_held_drew (S := fun W => BxE w w.heap.size x W) (by kernel_rfl) hB (fun hHeld => ?_)
    clear hB
    (refine heldTake (i := 0) (oi := { dst := some 10, op := Op.fieldAddr 64 (Operand.tmp 1) 0, type := 0, pos := "exports.go:30", after := #[], guard := none }) (v := ?_) rfl (by kernel_rfl) (by kernel_rfl) (by kernel_rfl) (by assumption) ?_ ?_; rotate_left; focus (refine .inl ⟨by kernel_rfl, ?_⟩; intro w hSw; (try dsimp only at hSw); go_simp; (try with_reducible rfl)); (try simp only [Act.put, List.setIfInBounds_toArray, List.set_cons_zero, List.set_cons_succ]))
    (refine heldTake (i := 1) (oi := { dst := some 11, op := Op.load 9 (Operand.tmp 10), type := 9, pos := "exports.go:30", after := #[{ on := 0, ground := Ground.data }], guard := none }) (v := ?_) rfl (by kernel_rfl) (by kernel_rfl) (by kernel_rfl) (by assumption) ?_ ?_; rotate_left; focus (refine .inl ⟨by kernel_rfl, ?_⟩; intro w hSw; (try dsimp only at hSw); go_simp; (try with_reducible rfl)); (try simp only [Act.put, List.setIfInBounds_toArray, List.set_cons_zero, List.set_cons_succ]))
    (refine heldTake (i := 3) (oi := { dst := some 13, op := Op.fieldAddr 64 (Operand.tmp 1) 1, type := 0, pos := "exports.go:30", after := #[], guard := none }) (v := ?_) rfl (by kernel_rfl) (by kernel_rfl) (by kernel_rfl) (by assumption) ?_ ?_; rotate_left; focus (refine .inl ⟨by kernel_rfl, ?_⟩; intro w hSw; (try dsimp only at hSw); go_simp; (try with_reducible rfl)); (try simp only [Act.put, List.setIfInBounds_toArray, List.set_cons_zero, List.set_cons_succ]))
    (refine heldTake (i := 4) (oi := { dst := some 14, op := Op.load 5 (Operand.tmp 13), type := 5, pos := "exports.go:30", after := #[{ on := 3, ground := Ground.data }], guard := none }) (v := ?_) rfl (by kernel_rfl) (by kernel_rfl) (by kernel_rfl) (by assumption) ?_ ?_; rotate_left; focus (refine .inl ⟨by kernel_rfl, ?_⟩; intro w hSw; (try dsimp only at hSw); go_simp; (try with_reducible rfl)); (try simp only [Act.put, List.setIfInBounds_toArray, List.set_cons_zero, List.set_cons_succ]))
    (refine heldTake (i := 6) (oi := { dst := some 16, op := Op.fieldAddr 64 (Operand.tmp 1) 2, type := 0, pos := "exports.go:30", after := #[], guard := none }) (v := ?_) rfl (by kernel_rfl) (by kernel_rfl) (by kernel_rfl) (by assumption) ?_ ?_; rotate_left; focus (refine .inl ⟨by kernel_rfl, ?_⟩; intro w hSw; (try dsimp only at hSw); go_simp; (try with_reducible rfl)); (try simp only [Act.put, List.setIfInBounds_toArray, List.set_cons_zero, List.set_cons_succ]))
    (refine heldTake (i := 7) (oi := { dst := some 17, op := Op.load 22 (Operand.tmp 16), type := 22, pos := "exports.go:30", after := #[{ on := 6, ground := Ground.data }], guard := none }) (v := ?_) rfl (by kernel_rfl) (by kernel_rfl) (by kernel_rfl) (by assumption) ?_ ?_; rotate_left; focus (refine .inl ⟨by kernel_rfl, ?_⟩; intro w hSw; (try dsimp only at hSw); go_simp; (try with_reducible rfl)); (try simp only [Act.put, List.setIfInBounds_toArray, List.set_cons_zero, List.set_cons_succ]))
    (refine heldTake (i := 8) (oi := { dst := some 18, op := Op.convert 22 109 (Operand.tmp 17), type := 109, pos := "exports.go:30", after := #[{ on := 7, ground := Ground.data }], guard := none }) (v := ?_) rfl (by kernel_rfl) (by kernel_rfl) (by kernel_rfl) (by assumption) ?_ ?_; rotate_left; focus (refine .inl ⟨by kernel_rfl, ?_⟩; intro w hSw; (try dsimp only at hSw); go_simp; (try with_reducible rfl)); (try simp only [Act.put, List.setIfInBounds_toArray, List.set_cons_zero, List.set_cons_succ]))
    refine wpAnyH_ready (rs := [2, 5]) (by kernel_rfl) (by simp) ?_
    refine (AllReadyH.cons (o := { dst := some 12, op := Op.call { callee := Callee.value (Operand.func 41), args := #[Operand.tmp 11], argTypes := #[9] }, type := 29, pos := "exports.go:30", after := #[{ on := 1, ground := Ground.data }], guard := none }) rfl (fun K hK => ?_) (AllReadyH.cons (o := { dst := some 15, op := Op.buildSlice 29 1 #[(0, Operand.tmp 14)], type := 29, pos := "exports.go:30", after := #[{ on := 4, ground := Ground.data }], guard := none }) rfl (fun K hK => ?_) AllReadyH.nil))
    · go_simp
      (go_at_call 41; (with_reducible refine (HN1.out _).mono ?_); rintro e w2 ⟨v2, rfl, hr2, hb2⟩; obtain ⟨A2, c2, rfl, hp2⟩ := hr2.pc; have HB2 := Lib.hid hb2; have HP2 := Lib.hid hp2; clear hb2 hp2 hr2)
      refine hK.out _ _ (bxE_on hHeld HB2.out) (fun hHeld2 => ?_)
      clear hK K hHeld
      (try simp only [Act.put, List.setIfInBounds_toArray, List.set_cons_zero, List.set_cons_succ])
      refine wpAnyH_ready (rs := [5, 9]) (by kernel_rfl) (by simp) ?_
      refine (AllReadyH.cons (o := { dst := some 15, op := Op.buildSlice 29 1 #[(0, Operand.tmp 14)], type := 29, pos := "exports.go:30", after := #[{ on := 4, ground := Ground.data }], guard := none }) rfl (fun K hK => ?_) (AllReadyH.cons (o := { dst := some 19, op := Op.call { callee := Callee.value (Operand.func 75), args := #[Operand.tmp 18], argTypes := #[109] }, type := 29, pos := "exports.go:30", after := #[{ on := 8, ground := Ground.data }, { on := 2, ground := Ground.chain }], guard := none }) rfl (fun K hK => ?_) AllReadyH.nil))
      · refine step_build1 rfl _ rfl x.kind rfl ?_; intro g8 wa8 hg8 hb8 hp8; have HB5 := Lib.hid hb8; have HP5 := Lib.hid hp8; clear hb8 hp8
        refine hK.out _ _ (bxE_on hHeld2 HB5.out) (fun hHeld5 => ?_)
        clear hK K hHeld2
        (try simp only [Act.put, List.setIfInBounds_toArray, List.set_cons_zero, List.set_cons_succ])
        refine wpAnyH_ready (rs := [9]) (by kernel_rfl) (by simp) ?_
        refine (AllReadyH.cons (o := { dst := some 19, op := Op.call { callee := Callee.value (Operand.func 75), args := #[Operand.tmp 18], argTypes := #[109] }, type := 29, pos := "exports.go:30", after := #[{ on := 8, ground := Ground.data }, { on := 2, ground := Ground.chain }], guard := none }) rfl (fun K hK => ?_) AllReadyH.nil)
        go_simp
        (go_at_call 75; (with_reducible refine (HU.out _).mono ?_); rintro e w10 ⟨v10, rfl, hr10, hb10⟩; obtain ⟨A10, c10, rfl, hp10⟩ := hr10.pc; have HB9 := Lib.hid hb10; have HP9 := Lib.hid hp10; clear hb10 hp10 hr10)
        refine hK.out _ _ (bxE_on hHeld5 HB9.out) (fun hHeld9 => ?_)
        clear hK K hHeld5
        (try simp only [Act.put, List.setIfInBounds_toArray, List.set_cons_zero, List.set_cons_succ])
        refine wpAnyH_ready (rs := [10]) (by kernel_rfl) (by simp) ?_
        refine (AllReadyH.cons (o := { dst := some 20, op := Op.buildSlice 106 3 #[(0, Operand.tmp 12), (1, Operand.tmp 15), (2, Operand.tmp 19)], type := 106, pos := "exports.go:30", after := #[{ on := 2, ground := Ground.data }, { on := 5, ground := Ground.data }, { on := 9, ground := Ground.data }], guard := none }) rfl (fun K hK => ?_) AllReadyH.nil)
        refine step_build3 rfl _ _ _ rfl rfl rfl rfl ?_; intro g11 wa11 hg11 hb11 hw11; have HB10 := Lib.hid hb11; have HW10 := Lib.hid hw11; clear hb11 hw11
        refine hK.out _ _ (bxE_on hHeld9 HB10.out) (fun hHeld10 => ?_)
        clear hK K hHeld9
        (try simp only [Act.put, List.setIfInBounds_toArray, List.set_cons_zero, List.set_cons_succ])
        refine wpAnyH_ready (rs := [11]) (by kernel_rfl) (by simp) ?_
        refine (AllReadyH.cons (o := { dst := some 21, op := Op.call { callee := Callee.value (Operand.func 38), args := #[Operand.tmp 20], argTypes := #[106] }, type := 29, pos := "exports.go:30", after := #[{ on := 10, ground := Ground.data }, { on := 9, ground := Ground.chain }], guard := none }) rfl (fun K hK => ?_) AllReadyH.nil)
        go_simp
        (go_at_call 38; (with_reducible refine (concat3 (l2 := [x.kind]) HW10.out (((((((HP2.out).below HB5.out)).below HB9.out)).below HB10.out)) (((((HP5.out).below HB9.out)).below HB10.out)) (((HP9.out).below HB10.out)) HS.out.1 HS.out.2).mono ?_); rintro e w12 ⟨v12, rfl, hr12, hb12⟩; have hz12 := hHeld10.1.2.size; have HB11 := Lib.hid hb12; have HR11 := Lib.hid hr12; clear hb12 hr12)
        refine hK.out _ _ (bxE_on hHeld10 HB11.out) (fun hHeld11 => ?_)
        clear hK K hHeld10
        (try simp only [Act.put, List.setIfInBounds_toArray, List.set_cons_zero, List.set_cons_succ])
        (refine heldTake (i := 12) (oi := { dst := some 2, op := Op.assign (Operand.tmp 21), type := 29, pos := "exports.go:30", after := #[{ on := 11, ground := Ground.data }, { on := 11, ground := Ground.chain }, { on := 0, ground := Ground.phase }, { on := 1, ground := Ground.phase }, { on := 2, ground := Ground.phase }, { on := 3, ground := Ground.phase }, { on := 4, ground := Ground.phase }, { on := 5, ground := Ground.phase }, { on := 6, ground := Ground.phase }, { on := 7, ground := Ground.phase }, { on := 8, ground := Ground.phase }, { on := 9, ground := Ground.phase }, { on := 10, ground := Ground.phase }, { on := 11, ground := Ground.phase }], guard := none }) (v := ?_) rfl (by kernel_rfl) (by kernel_rfl) (by kernel_rfl) (by assumption) ?_ ?_; rotate_left; focus (refine .inl ⟨by kernel_rfl, ?_⟩; intro w hSw; (try dsimp only at hSw); go_simp; (try with_reducible rfl)); (try simp only [Act.put, List.setIfInBounds_toArray, List.set_cons_zero, List.set_cons_succ]))
        (refine heldTake (i := 13) (oi := { dst := some 3, op := Op.assign (Operand.const (Value.int IntKind.i64 0)), type := 30, pos := "exports.go:30", after := #[{ on := 12, ground := Ground.chain }, { on := 0, ground := Ground.phase }, { on := 1, ground := Ground.phase }, { on := 2, ground := Ground.phase }, { on := 3, ground := Ground.phase }, { on := 4, ground := Ground.phase }, { on := 5, ground := Ground.phase }, { on := 6, ground := Ground.phase }, { on := 7, ground := Ground.phase }, { on := 8, ground := Ground.phase }, { on := 9, ground := Ground.phase }, { on := 10, ground := Ground.phase }, { on := 11, ground := Ground.phase }, { on := 12, ground := Ground.phase }], guard := none }) (v := ?_) rfl (by kernel_rfl) (by kernel_rfl) (by kernel_rfl) (by assumption) ?_ ?_; rotate_left; focus (refine .inl ⟨by kernel_rfl, ?_⟩; intro w hSw; (try dsimp only at hSw); go_simp; (try with_reducible rfl)); (try simp only [Act.put, List.setIfInBounds_toArray, List.set_cons_zero, List.set_cons_succ]))
        refine wpAnyH_done (by kernel_rfl) ?_ _
        refine NoPanic.normal ?_
        have hLast := hHeld11
        clear hHeld11
        go_wp2
        go_ret2
        exact ⟨_, rfl, by rw [HSP.out]; exact HR11.out.mono hz12, hLast.1.2⟩
      · go_simp
        (go_at_call 75; (with_reducible refine (HU.out _).mono ?_); rintro e w10 ⟨v10, rfl, hr10, hb10⟩; obtain ⟨A10, c10, rfl, hp10⟩ := hr10.pc; have HB9 := Lib.hid hb10; have HP9 := Lib.hid hp10; clear hb10 hp10 hr10)
        refine hK.out _ _ (bxE_on hHeld2 HB9.out) (fun hHeld9 => ?_)
        clear hK K hHeld2
        (try simp only [Act.put, List.setIfInBounds_toArray, List.set_cons_zero, List.set_cons_succ])
        refine wpAnyH_ready (rs := [5]) (by kernel_rfl) (by simp) ?_
        refine (AllReadyH.cons (o := { dst := some 15, op := Op.buildSlice 29 1 #[(0, Operand.tmp 14)], type := 29, pos := "exports.go:30", after := #[{ on := 4, ground := Ground.data }], guard := none }) rfl (fun K hK => ?_) AllReadyH.nil)
        refine step_build1 rfl _ rfl x.kind rfl ?_; intro g8 wa8 hg8 hb8 hp8; have HB5 := Lib.hid hb8; have HP5 := Lib.hid hp8; clear hb8 hp8
        refine hK.out _ _ (bxE_on hHeld9 HB5.out) (fun hHeld5 => ?_)
        clear hK K hHeld9
        (try simp only [Act.put, List.setIfInBounds_toArray, List.set_cons_zero, List.set_cons_succ])
        refine wpAnyH_ready (rs := [10]) (by kernel_rfl) (by simp) ?_
        refine (AllReadyH.cons (o := { dst := some 20, op := Op.buildSlice 106 3 #[(0, Operand.tmp 12), (1, Operand.tmp 15), (2, Operand.tmp 19)], type := 106, pos := "exports.go:30", after := #[{ on := 2, ground := Ground.data }, { on := 5, ground := Ground.data }, { on := 9, ground := Ground.data }], guard := none }) rfl (fun K hK => ?_) AllReadyH.nil)
        refine step_build3 rfl _ _ _ rfl rfl rfl rfl ?_; intro g11 wa11 hg11 hb11 hw11; have HB10 := Lib.hid hb11; have HW10 := Lib.hid hw11; clear hb11 hw11
        refine hK.out _ _ (bxE_on hHeld5 HB10.out) (fun hHeld10 => ?_)
        clear hK K hHeld5
        (try simp only [Act.put, List.setIfInBounds_toArray, List.set_cons_zero, List.set_cons_succ])
        refine wpAnyH_ready (rs := [11]) (by kernel_rfl) (by simp) ?_
        refine (AllReadyH.cons (o := { dst := some 21, op := Op.call { callee := Callee.value (Operand.func 38), args := #[Operand.tmp 20], argTypes := #[106] }, type := 29, pos := "exports.go:30", after := #[{ on := 10, ground := Ground.data }, { on := 9, ground := Ground.chain }], guard := none }) rfl (fun K hK => ?_) AllReadyH.nil)
        go_simp
        (go_at_call 38; (with_reducible refine (concat3 (l2 := [x.kind]) HW10.out (((((((HP2.out).below HB9.out)).below HB5.out)).below HB10.out)) (((HP5.out).below HB10.out)) (((((HP9.out).below HB5.out)).below HB10.out)) HS.out.1 HS.out.2).mono ?_); rintro e w12 ⟨v12, rfl, hr12, hb12⟩; have hz12 := hHeld10.1.2.size; have HB11 := Lib.hid hb12; have HR11 := Lib.hid hr12; clear hb12 hr12)
        refine hK.out _ _ (bxE_on hHeld10 HB11.out) (fun hHeld11 => ?_)
        clear hK K hHeld10
        (try simp only [Act.put, List.setIfInBounds_toArray, List.set_cons_zero, List.set_cons_succ])
        (refine heldTake (i := 12) (oi := { dst := some 2, op := Op.assign (Operand.tmp 21), type := 29, pos := "exports.go:30", after := #[{ on := 11, ground := Ground.data }, { on := 11, ground := Ground.chain }, { on := 0, ground := Ground.phase }, { on := 1, ground := Ground.phase }, { on := 2, ground := Ground.phase }, { on := 3, ground := Ground.phase }, { on := 4, ground := Ground.phase }, { on := 5, ground := Ground.phase }, { on := 6, ground := Ground.phase }, { on := 7, ground := Ground.phase }, { on := 8, ground := Ground.phase }, { on := 9, ground := Ground.phase }, { on := 10, ground := Ground.phase }, { on := 11, ground := Ground.phase }], guard := none }) (v := ?_) rfl (by kernel_rfl) (by kernel_rfl) (by kernel_rfl) (by assumption) ?_ ?_; rotate_left; focus (refine .inl ⟨by kernel_rfl, ?_⟩; intro w hSw; (try dsimp only at hSw); go_simp; (try with_reducible rfl)); (try simp only [Act.put, List.setIfInBounds_toArray, List.set_cons_zero, List.set_cons_succ]))
        (refine heldTake (i := 13) (oi := { dst := some 3, op := Op.assign (Operand.const (Value.int IntKind.i64 0)), type := 30, pos := "exports.go:30", after := #[{ on := 12, ground := Ground.chain }, { on := 0, ground := Ground.phase }, { on := 1, ground := Ground.phase }, { on := 2, ground := Ground.phase }, { on := 3, ground := Ground.phase }, { on := 4, ground := Ground.phase }, { on := 5, ground := Ground.phase }, { on := 6, ground := Ground.phase }, { on := 7, ground := Ground.phase }, { on := 8, ground := Ground.phase }, { on := 9, ground := Ground.phase }, { on := 10, ground := Ground.phase }, { on := 11, ground := Ground.phase }, { on := 12, ground := Ground.phase }], guard := none }) (v := ?_) rfl (by kernel_rfl) (by kernel_rfl) (by kernel_rfl) (by assumption) ?_ ?_; rotate_left; focus (refine .inl ⟨by kernel_rfl, ?_⟩; intro w hSw; (try dsimp only at hSw); go_simp; (try with_reducible rfl)); (try simp only [Act.put, List.setIfInBounds_toArray, List.set_cons_zero, List.set_cons_succ]))
        refine wpAnyH_done (by kernel_rfl) ?_ _
        refine NoPanic.normal ?_
        have hLast := hHeld11
        clear hHeld11
        go_wp2
        go_ret2
        exact ⟨_, rfl, by rw [HSP.out]; exact HR11.out.mono hz12, hLast.1.2⟩
    · refine step_build1 rfl _ rfl x.kind rfl ?_; intro g8 wa8 hg8 hb8 hp8; have HB5 := Lib.hid hb8; have HP5 := Lib.hid hp8; clear hb8 hp8
      refine hK.out _ _ (bxE_on hHeld HB5.out) (fun hHeld5 => ?_)
      clear hK K hHeld
      (try simp only [Act.put, List.setIfInBounds_toArray, List.set_cons_zero, List.set_cons_succ])
      refine wpAnyH_ready (rs := [2]) (by kernel_rfl) (by simp) ?_
      refine (AllReadyH.cons (o := { dst := some 12, op := Op.call { callee := Callee.value (Operand.func 41), args := #[Operand.tmp 11], argTypes := #[9] }, type := 29, pos := "exports.go:30", after := #[{ on := 1, ground := Ground.data }], guard := none }) rfl (fun K hK => ?_) AllReadyH.nil)
      go_simp
      (go_at_call 41; (with_reducible refine (HN1.out _).mono ?_); rintro e w2 ⟨v2, rfl, hr2, hb2⟩; obtain ⟨A2, c2, rfl, hp2⟩ := hr2.pc; have HB2 := Lib.hid hb2; have HP2 := Lib.hid hp2; clear hb2 hp2 hr2)
      refine hK.out _ _ (bxE_on hHeld5 HB2.out) (fun hHeld2 => ?_)
      clear hK K hHeld5
      (try simp only [Act.put, List.setIfInBounds_toArray, List.set_cons_zero, List.set_cons_succ])
      refine wpAnyH_ready (rs := [9]) (by kernel_rfl) (by simp) ?_
      refine (AllReadyH.cons (o := { dst := some 19, op := Op.call { callee := Callee.value (Operand.func 75), args := #[Operand.tmp 18], argTypes := #[109] }, type := 29, pos := "exports.go:30", after := #[{ on := 8, ground := Ground.data }, { on := 2, ground := Ground.chain }], guard := none }) rfl (fun K hK => ?_) AllReadyH.nil)
      go_simp
      (go_at_call 75; (with_reducible refine (HU.out _).mono ?_); rintro e w10 ⟨v10, rfl, hr10, hb10⟩; obtain ⟨A10, c10, rfl, hp10⟩ := hr10.pc; have HB9 := Lib.hid hb10; have HP9 := Lib.hid hp10; clear hb10 hp10 hr10)
      refine hK.out _ _ (bxE_on hHeld2 HB9.out) (fun hHeld9 => ?_)
      clear hK K hHeld2
      (try simp only [Act.put, List.setIfInBounds_toArray, List.set_cons_zero, List.set_cons_succ])
      refine wpAnyH_ready (rs := [10]) (by kernel_rfl) (by simp) ?_
      refine (AllReadyH.cons (o := { dst := some 20, op := Op.buildSlice 106 3 #[(0, Operand.tmp 12), (1, Operand.tmp 15), (2, Operand.tmp 19)], type := 106, pos := "exports.go:30", after := #[{ on := 2, ground := Ground.data }, { on := 5, ground := Ground.data }, { on := 9, ground := Ground.data }], guard := none }) rfl (fun K hK => ?_) AllReadyH.nil)
      refine step_build3 rfl _ _ _ rfl rfl rfl rfl ?_; intro g11 wa11 hg11 hb11 hw11; have HB10 := Lib.hid hb11; have HW10 := Lib.hid hw11; clear hb11 hw11
      refine hK.out _ _ (bxE_on hHeld9 HB10.out) (fun hHeld10 => ?_)
      clear hK K hHeld9
      (try simp only [Act.put, List.setIfInBounds_toArray, List.set_cons_zero, List.set_cons_succ])
      refine wpAnyH_ready (rs := [11]) (by kernel_rfl) (by simp) ?_
      refine (AllReadyH.cons (o := { dst := some 21, op := Op.call { callee := Callee.value (Operand.func 38), args := #[Operand.tmp 20], argTypes := #[106] }, type := 29, pos := "exports.go:30", after := #[{ on := 10, ground := Ground.data }, { on := 9, ground := Ground.chain }], guard := none }) rfl (fun K hK => ?_) AllReadyH.nil)
      go_simp
      (go_at_call 38; (with_reducible refine (concat3 (l2 := [x.kind]) HW10.out (((((HP2.out).below HB9.out)).below HB10.out)) (((((((HP5.out).below HB2.out)).below HB9.out)).below HB10.out)) (((HP9.out).below HB10.out)) HS.out.1 HS.out.2).mono ?_); rintro e w12 ⟨v12, rfl, hr12, hb12⟩; have hz12 := hHeld10.1.2.size; have HB11 := Lib.hid hb12; have HR11 := Lib.hid hr12; clear hb12 hr12)
      refine hK.out _ _ (bxE_on hHeld10 HB11.out) (fun hHeld11 => ?_)
      clear hK K hHeld10
      (try simp only [Act.put, List.setIfInBounds_toArray, List.set_cons_zero, List.set_cons_succ])
      (refine heldTake (i := 12) (oi := { dst := some 2, op := Op.assign (Operand.tmp 21), type := 29, pos := "exports.go:30", after := #[{ on := 11, ground := Ground.data }, { on := 11, ground := Ground.chain }, { on := 0, ground := Ground.phase }, { on := 1, ground := Ground.phase }, { on := 2, ground := Ground.phase }, { on := 3, ground := Ground.phase }, { on := 4, ground := Ground.phase }, { on := 5, ground := Ground.phase }, { on := 6, ground := Ground.phase }, { on := 7, ground := Ground.phase }, { on := 8, ground := Ground.phase }, { on := 9, ground := Ground.phase }, { on := 10, ground := Ground.phase }, { on := 11, ground := Ground.phase }], guard := none }) (v := ?_) rfl (by kernel_rfl) (by kernel_rfl) (by kernel_rfl) (by assumption) ?_ ?_; rotate_left; focus (refine .inl ⟨by kernel_rfl, ?_⟩; intro w hSw; (try dsimp only at hSw); go_simp; (try with_reducible rfl)); (try simp only [Act.put, List.setIfInBounds_toArray, List.set_cons_zero, List.set_cons_succ]))
      (refine heldTake (i := 13) (oi := { dst := some 3, op := Op.assign (Operand.const (Value.int IntKind.i64 0)), type := 30, pos := "exports.go:30", after := #[{ on := 12, ground := Ground.chain }, { on := 0, ground := Ground.phase }, { on := 1, ground := Ground.phase }, { on := 2, ground := Ground.phase }, { on := 3, ground := Ground.phase }, { on := 4, ground := Ground.phase }, { on := 5, ground := Ground.phase }, { on := 6, ground := Ground.phase }, { on := 7, ground := Ground.phase }, { on := 8, ground := Ground.phase }, { on := 9, ground := Ground.phase }, { on := 10, ground := Ground.phase }, { on := 11, ground := Ground.phase }, { on := 12, ground := Ground.phase }], guard := none }) (v := ?_) rfl (by kernel_rfl) (by kernel_rfl) (by kernel_rfl) (by assumption) ?_ ?_; rotate_left; focus (refine .inl ⟨by kernel_rfl, ?_⟩; intro w hSw; (try dsimp only at hSw); go_simp; (try with_reducible rfl)); (try simp only [Act.put, List.setIfInBounds_toArray, List.set_cons_zero, List.set_cons_succ]))
      refine wpAnyH_done (by kernel_rfl) ?_ _
      refine NoPanic.normal ?_
      have hLast := hHeld11
      clear hHeld11
      go_wp2
      go_ret2
      exact ⟨_, rfl, by rw [HSP.out]; exact HR11.out.mono hz12, hLast.1.2⟩
  · rw [if_neg h0]
    have d0 : (z != 0) = true := zb_of (by simpa using h0)
    clear h0 hz hT h1
    go_enter Tryd.func67, Tryd.ntmps67
    go_wp2_with (go_at_call 99; go_must ((with_reducible refine HR.out.mono ?_); rintro e w1 ⟨rfl, hb⟩; have H1 := Lib.hid (bxE_on H0.out hb); clear hb))
    go_ret2
    exact ⟨_, rfl, Row.nil _ _, bxE_bel H1.out⟩
end Go.Proofs.YtihpnplfklbgjaaDoor

/- Exports that lie somewhere; rows of exports of the call's own. -/
namespace Go.Proofs.YtihpnplfklbgjaaDoor
open Go.RowKit
set_option linter.unusedVariables false
set_option maxRecDepth 100000

def exL (x : Ex) : List Value := (exC x).toList
theorem infoEx : (Tryd.prog.info? 64).map (fun i => (i.zero, i.size, i.bytes)) = some (some (exV exZ), 3, 24) := by kernel_rfl
/-- A row of exports of the call's own. -/
def RowE (W : World) (base : Nat) (v : Value) (rows : List Ex) : Prop := W.ownsRow base 64 3 v rows.length (rows.flatMap exL)
theorem RowE.nil (W : World) (base : Nat) : RowE W base (.slice none 0 0) [] := World.ownsRow_nil W base _ 3
theorem RowE.slice {W : World} {base : Nat} {v : Value} {rows : List Ex} (h : RowE W base v rows) : ∃ A c, v = .slice A rows.length c := by
  rcases h.2 with ⟨rfl, h0⟩ | ⟨g, cap, cur, rfl, _⟩
  · exact ⟨none, 0, by rw [h0]⟩
  · exact ⟨_, cap, rfl⟩
theorem RowE.past {W W' : World} {base b : Nat} {v : Value} {rows : List Ex} (h : RowE W base v rows) (hg : W.grownBy W' (some b)) (hb : b < base) : RowE W' base v rows :=
  World.ownsRow.kept h hg (by
    cases hv : v.ownBlock with
    | none => exact .inl rfl
    | some k => exact .inr (by have := (World.ownsRow.lt h k hv).1; simp only [ne_eq, Option.some.injEq]; omega))
theorem RowE.later {W W' : World} {base : Nat} {v : Value} {rows : List Ex} (h : RowE W base v rows) (hb : Below W.heap.size W W') : RowE W' base v rows :=
  World.ownsRow.kept h (gb_of_below none hb) (by cases v.ownBlock with
    | none => exact .inl rfl
    | some k => exact .inr (by simp))
theorem RowE.alloc {W : World} {base : Nat} {v : Value} {rows : List Ex} (h : RowE W base v rows) (o : Obj) : RowE (W.alloc o) base v rows := World.ownsRow.alloc h o
theorem RowE.mono {W : World} {base base' : Nat} {v : Value} {rows : List Ex} (h : RowE W base v rows) (hb : base' ≤ base) : RowE W base' v rows := by
  obtain ⟨h1, h2⟩ := h
  refine ⟨h1, ?_⟩
  rcases h2 with h2 | ⟨g, cap, cur, e, hg, r⟩
  · exact .inl h2
  · exact .inr ⟨g, cap, cur, e, Nat.le_trans hb hg, r⟩
/-- append of a new block of one export. -/
theorem rowE_new {w : World} {ops : Array Oper} {rest : List Oper} {o : Oper} {a : Act} {Q : Exit → Act → World → Prop} (hgd : o.guard = none) (s x : Operand)
    (ho : o.op = .call { callee := .builtin .append, args := #[s, x], argTypes := #[62, 62] })
    (B : Nat) (v : Value) (l : List Ex) (hs : a.eval s = v) (hr : RowE w B v l) (g : Nat) (r : Ex) (hx : a.eval x = .slice (some ⟨g, 0, none⟩) 1 1)
    (hg : Whole w g 64 (exC r)) (hb : l.length ≤ 10000) (hB : B ≤ w.heap.size)
    (h : ∀ v' w', RowE w' B v' (l ++ [r]) → w.grownBy w' v.ownBlock → wpList Tryd.prog ops Q rest (a.put o.dst v') w') : wpList Tryd.prog ops Q (o :: rest) a w := by
  obtain ⟨i0, hi0, hz0, hz1, hz2⟩ := info_parts infoEx
  refine wpList_append_own _ hgd s x _ ho B 64 i0 _ 3 24 Tryd.underlying62 hi0 hz0 hz1 hz2 rfl (by omega) v _ _ hs hr ⟨g, 0, none⟩ 1 1 (exL r) hx rfl ?_ ?_ (by unfold maxLen; omega) (by omega) hB (fun v' w' h2 h3 _ => h v' w' ?_ h3)
  · intro j u hu
    rw [Go.WideShapes.add_plain, Nat.zero_add, hg.cell, ← Array.getElem?_toList]
    exact hu
  · intro u hu
    unfold exL at hu
    simp only [List.mem_cons, List.not_mem_nil, or_false] at hu
    rcases hu with rfl | rfl | rfl <;> rfl
  · unfold RowE
    rw [List.length_append, List.flatMap_append]
    simpa using h2
/-- Nothing old has turned, and nothing of the row's own is lost. -/
theorem RowE.below {w W W' : World} {base : Nat} {v : Value} {rows : List Ex} (h : RowE W base v rows) (hB : base ≤ W.heap.size) (hg : W.grownBy W' v.ownBlock) : Below base W W' :=
  Below.grown (Below.refl _ _) hg hB (fun k hk => (World.ownsRow.lt h k hk).1)

/-- The slice at A reads as these exports. -/
def Exs (w : World) (A : Option Addr) (l : List Ex) : Prop :=
  ∀ j x, l[j]? = some x → ∃ b off, A = some ⟨b, off, none⟩ ∧ b < w.heap.size ∧ ∀ u, u < 3 → w.cell? ⟨b, off + j * 3 + u, none⟩ = (exL x)[u]?
theorem Exs.below {w w' : World} {A : Option Addr} {l : List Ex} (h : Exs w A l) (hb : Below w.heap.size w w') : Exs w' A l := fun j x hx => by
  obtain ⟨b, off, e, h1, h2⟩ := h j x hx
  exact ⟨b, off, e, Nat.lt_of_lt_of_le h1 hb.size, fun u hu => (hb.cell (p := ⟨b, _, none⟩) h1).trans (h2 u hu)⟩
/-- The three cells of one of them, as a walk writes them. -/
theorem Exs.three {w : World} {A : Option Addr} {l : List Ex} (h : Exs w A l) {k : Nat} {x : Ex} (hx : l[k]? = some x) : ∃ b off, A = some ⟨b, off, none⟩ ∧ b < w.heap.size ∧
    w.cell? ⟨b, off + k * 3, none⟩ = some (.string (S x.nam)) ∧ w.cell? ⟨b, off + k * 3 + 1, none⟩ = some (.int .u8 x.kind.toNat) ∧ w.cell? ⟨b, off + k * 3 + 2, none⟩ = some (.int .u32 x.idx.toNat) := by
  obtain ⟨b, off, e, h1, h2⟩ := h k x hx
  exact ⟨b, off, e, h1, h2 0 (by omega), h2 1 (by omega), h2 2 (by omega)⟩
theorem flatE_get : ∀ (l : List Ex) (j : Nat) (x : Ex) (u : Nat), l[j]? = some x → u < 3 → (l.flatMap exL)[j * 3 + u]? = (exL x)[u]?
  | [], j, x, u, h, _ => by cases h
  | y :: l, 0, x, u, h, hu => by
    injection h with h
    subst h
    rw [List.flatMap_cons, Nat.zero_mul, Nat.zero_add, List.getElem?_append_left (by show u < 3; exact hu)]
  | y :: l, j + 1, x, u, h, hu => by
    rw [List.flatMap_cons, List.getElem?_append_right (by show 3 ≤ _; omega)]
    have e : (j + 1) * 3 + u - (exL y).length = j * 3 + u := by show (j + 1) * 3 + u - 3 = _; omega
    rw [e]
    exact flatE_get l j x u h hu
/-- What a row of exports reads as. -/
theorem RowE.exs {W : World} {base : Nat} {A : Option Addr} {n c : Nat} {rows : List Ex} (h : RowE W base (.slice A n c) rows) : Exs W A rows := fun j x hx => by
  have hj := (List.getElem?_eq_some_iff.1 hx).1
  rcases h.2 with ⟨_, h0⟩ | ⟨g, cap, cur, e, _, hg, _, _, _, ht⟩
  · omega
  · injection e with e1 e2 e3
    exact ⟨g, 0, e1, (Array.getElem?_eq_some_iff.1 hg).1, fun u hu => by
      rw [cell_of_row W g (0 + j * 3 + u) cur _ _ hg, ← flatE_get rows j x u hx hu, ← ht, List.getElem?_take, if_pos (by omega)]
      simp⟩
end Go.Proofs.YtihpnplfklbgjaaDoor

/- exports.Get of an export's bytes. -/
namespace Go.Proofs.YtihpnplfklbgjaaDoor
open Go.RowKit Go.Lib
set_option linter.unusedVariables false
set_option maxRecDepth 100000

/-- The export that was read. -/
def GotE (p : Nat) (l : List UInt8) (k' : Nat) (x : Ex) (w : World) (e : Ending) (w' : World) : Prop := e = .returned (exV x) ∧ Sc w' p l k' ∧ w.grownBy w' (some p)
set_option maxHeartbeats 4000000 in
theorem get_exr {w : World} {p : Nat} {l : List UInt8} {k k1 k2 k3 : Nat} {x : Ex} (h : Sc w p l k) (hT : TbN p w) (h1 : nmR l k = .ok x.nam k1) (h2 : byteR l k1 = .ok x.kind k2) (hk : x.kind.toNat ≤ 3)
    (h3 : indexR l k2 = .ok (x.idx.toNat : Int) k3) : Calls Tryd.prog 71 #[.pointer (some ⟨p, 0, none⟩)] w (GotE p l k3 x w) := by
  have hp := h.lt
  have hN := name_scan (h.alloc (.cells (exC exZ) 64)) (hT.below (below_box w (.cells (exC exZ) 64)))
  rw [h1, exC_zero] at hN
  have HN := Lib.hid hN
  have HK := Lib.hid (fun W (hs : Sc W p l k1) => nk_ok hs h2 hk)
  have HV := Lib.hid (fun W (hs : Sc W p l k2) => by have := index_scan hs; rw [h3] at this; exact this)
  have HWM := Lib.hid (Whole.made w 64 (exC exZ))
  rw [exC_zero] at HWM
  clear h hT hN h1 h2 hk h3
  go_enter Tryd.func71, Tryd.ntmps71
  go_wp2_with (first
    | (go_at_call 89; go_must ((with_reducible refine HN.out.mono ?_); rintro e w1 ⟨rfl, hs, hg⟩; have HS1 := Lib.hid hs; have HG1 := Lib.hid hg; have HW1 := Lib.hid (HWM.out.grown hg (by simp only [ne_eq, Option.some.injEq]; omega)); clear hs hg))
    | (go_at_call 95; go_must ((with_reducible refine (HK.out _ HS1.out).mono ?_); rintro e w2 ⟨rfl, hs, hg⟩; have HS2 := Lib.hid hs; have HG2 := Lib.hid hg; have HW2 := Lib.hid (HW1.out.grown hg (by simp only [ne_eq, Option.some.injEq]; omega)); clear hs hg))
    | (go_at_call 52; go_must ((with_reducible refine (HV.out _ HS2.out).mono ?_); rintro e w3 ⟨rfl, hs, hg⟩; have HS3 := Lib.hid hs; have HG3 := Lib.hid hg; have HW3 := Lib.hid (HW2.out.grown hg (by simp only [ne_eq, Option.some.injEq]; omega)); obtain ⟨k0, k1', k2'⟩ := (show Whole w3 w.heap.size 64 (exC exZ) from HW3.out).ex; have f0 := HW3.out.frozen 0; have f1 := HW3.out.frozen 1; have f2 := HW3.out.frozen 2; clear hs hg)))
  obtain ⟨h1, h2⟩ := put3 (u0 := .string (S x.nam)) (u1 := .int .u8 x.kind.toNat) (u2 := .int .u32 x.idx.toNat) HW3.out
  obtain ⟨q0, q1, q2⟩ := Whole.ex (x := x) h1
  have hall := gb_trans (gb_trans (gb_trans (gb_alloc (gb_refl w _) _) HG1.out) HG2.out) HG3.out
  exact bodyPost_ret (v := exV x) (by simp [results, Tryd.results71, go_sem, q0, q1, q2]) rfl ⟨rfl, HS3.out.grown h2 (by simp only [ne_eq, Option.some.injEq]; omega) (fun g e => by injection e with e; omega), gb_before hall h2 (fun g e => .inr (by injection e with e; omega))⟩
/-- Get, of an export's bytes. -/
theorem get_ex {w : World} {p : Nat} {l r : List UInt8} {k : Nat} {x : Ex} (h : Sc w p l k) (hT : TbN p w) (hd : l.drop k = exputL x ++ r) (hz : rE x = 0) :
    Calls Tryd.prog 71 #[.pointer (some ⟨p, 0, none⟩)] w (GotE p l (k + (exputL x).length) x w) := by
  obtain ⟨c1, c3⟩ := rE_zero hz
  obtain ⟨s1, s2⟩ := checkZ_zero c1
  have hi : exputL x = nmL x.nam ++ (x.kind :: lebL x.idx.toNat) := by unfold exputL; simp
  have hd1 : l.drop k = nmL x.nam ++ (x.kind :: (lebL x.idx.toNat ++ r)) := by rw [hd, hi]; simp
  have n1 := nameR_at hd1 s1 s2
  have hd2 := drop_past hd1
  have n2 := byteR_at hd2
  have hd3 : l.drop (k + (nmL x.nam).length + 1) = lebL x.idx.toNat ++ r := by
    have := drop_past (a := [x.kind]) (r := lebL x.idx.toNat ++ r) (by simpa using hd2)
    simpa using this
  have hlen : k + (exputL x).length = k + (nmL x.nam).length + 1 + (lebL (x.idx.toNat : Int)).length := by
    rw [hi]; simp only [List.length_append, List.length_cons]; omega
  rw [hlen]
  exact get_exr h hT n1 n2 c3 (indexR_at hd3 (by omega) (u32_le _))
end Go.Proofs.YtihpnplfklbgjaaDoor

/- exports.PutAll. -/
namespace Go.Proofs.YtihpnplfklbgjaaDoor
open Go.RowKit
set_option linter.unusedVariables false
set_option maxRecDepth 100000

/-- The first error. -/
def errE : List Ex → Int
  | [] => 0
  | x :: r => if rE x ≠ 0 then rE x else errE r
theorem errE_app : ∀ a b : List Ex, errE (a ++ b) = if errE a ≠ 0 then errE a else errE b
  | [], b => by simp [errE]
  | x :: a, b => by
    simp only [List.cons_append, errE]
    by_cases h : rE x = 0
    · simp only [h, ne_eq, not_true_eq_false, if_false, errE_app a b]
    · simp [h]
theorem errE_snoc {l : List Ex} {k : Nat} {x : Ex} (h : l[k]? = some x) : errE (l.take (k + 1)) = if errE (l.take k) ≠ 0 then errE (l.take k) else rE x := by
  rw [List.take_add_one, h]
  show errE (l.take k ++ [x]) = _
  rw [errE_app]
  by_cases e : rE x = 0 <;> simp [errE, e]
theorem errE_bad {l : List Ex} {k : Nat} (h : errE (l.take k) ≠ 0) : errE l = errE (l.take k) := by
  conv => lhs; rw [← List.take_append_drop k l]
  rw [errE_app, if_pos h]
theorem errE_mem : ∀ {l : List Ex}, errE l = 0 → ∀ x ∈ l, rE x = 0
  | [], _, x, hx => by cases hx
  | y :: l, h, x, hx => by
    simp only [errE] at h
    by_cases e : rE y = 0
    · simp only [e, ne_eq, not_true_eq_false, if_false] at h
      rcases List.mem_cons.1 hx with rfl | hx
      · exact e
      · exact errE_mem h x hx
    · simp [e] at h
/-- Many exports' bytes. -/
noncomputable def eputsL (l : List Ex) : List UInt8 := l.flatMap exputL
theorem eputsL_snoc {l : List Ex} {k : Nat} {x : Ex} (h : l[k]? = some x) : eputsL (l.take (k + 1)) = eputsL (l.take k) ++ exputL x := by
  unfold eputsL
  rw [List.take_add_one, h, List.flatMap_append]
  simp
/-- The names are short. -/
def ShortE (l : List Ex) : Prop := ∀ x ∈ l, x.nam.length ≤ 400
theorem eputsL_len : ∀ {l : List Ex}, ShortE l → (eputsL l).length ≤ l.length * 421
  | [], _ => by simp [eputsL]
  | x :: r, h => by
    have h1 := eputsL_len (l := r) (fun y hy => h y (List.mem_cons_of_mem _ hy))
    have h2 := h x (by simp)
    have h3 := (exputL_len (n := 400) h2 (by omega)).2
    unfold eputsL at h1 ⊢
    rw [List.flatMap_cons, List.length_append, List.length_cons]
    omega
noncomputable def allE (l : List Ex) : List UInt8 := lebL l.length ++ eputsL l
/-- What PutAll hands back. -/
def PuttedAllE (l : List Ex) (w : World) (e : Ending) (w' : World) : Prop := ∃ v, e = .returned (.tuple #[v, .int .i64 (errE l)]) ∧ Row w' w.heap.size v (if errE l = 0 then allE l else []) ∧ Below w.heap.size w w'
theorem cfEP (a : Array Value) (w : World) : (callFunc 67 a).run Tryd.prog w = .ok (.enter 67 a) w := by kernel_rfl
set_option maxHeartbeats 4000000 in
theorem wputall_ex {w : World} {A : Option Addr} {c : Nat} {l : List Ex} (hl : Exs w A l) (hT : TabsU w) (hs : ShortE l) (h20 : l.length ≤ 1000) :
    Calls Tryd.prog 68 #[.slice A l.length c, .func (.func 67) #[] #[]] w (PuttedAllE l w) := by
  have HL := Lib.hid hl
  have HTb := Lib.hid hT
  have HSh := Lib.hid hs
  have hall := eputsL_len hs
  have hlb := lebL_len (l.length : Int) (by omega)
  have HZ := Lib.hid (fun W => size_w l.length W (by omega))
  obtain ⟨n, hn⟩ : ∃ n, n = l.length := ⟨_, rfl⟩
  obtain ⟨hd, hhd⟩ : ∃ hd, hd = lebL (l.length : Int) := ⟨_, rfl⟩
  rw [← hhd] at HZ hlb
  have HN := Lib.hid hn
  have HE := Lib.hid (show l.take n = l by rw [hn, List.take_length])
  have HAL := Lib.hid (show allE l = hd ++ eputsL l by rw [hhd]; rfl)
  have HPL := Lib.hid (fun k => show (eputsL (l.take k)).length ≤ (eputsL l).length by
    have e : eputsL l = eputsL (l.take k) ++ eputsL (l.drop k) := by unfold eputsL; rw [← List.flatMap_append, List.take_append_drop]
    rw [e, List.length_append]; omega)
  rw [← hn] at hall h20 HZ ⊢
  have d10 : decide ((10000 : Int) < (n : Int)) = false := decide_eq_false (by omega)
  have hcf := cfEP
  clear hl hT hs hn hhd
  go_enter Tryd.func68, Tryd.ntmps68
  go_wp2_with (go_at_call 76; go_must ((with_reducible refine (HZ.out _).mono ?_); intro e w1 h; obtain ⟨v, rfl, hr, hb⟩ := h; have HR := Lib.hid hr; have HB := Lib.hid hb; clear hr hb))
  go_loopw [6, 19] (fun v i wr => ∃ k : Nat, k ≤ n ∧ i = .int .i64 k ∧ errE (l.take k) = 0 ∧ Row wr w.heap.size v (hd ++ eputsL (l.take k)) ∧ Below w.heap.size w wr) (fun _ i _ => n - (intOf i).toNat)
  case atStart => exact ⟨0, Nat.zero_le _, rfl, rfl, by simpa [eputsL] using HR.out, HB.out⟩
  case round =>
    obtain ⟨k, hk, rfl, he, hr, hb⟩ := hrel
    have hz1 := hb.size
    by_cases hlt : k < n
    · obtain ⟨x, hx⟩ : ∃ x, l[k]? = some x := ⟨_, List.getElem?_eq_getElem (by rw [← HN.out]; exact hlt)⟩
      obtain ⟨b, off, rfl, hbl, m0, m1, m2⟩ := (HL.out.below hb).three hx
      have hxs := HSh.out x (List.mem_of_getElem? hx)
      have hTk := errE_snoc hx
      have hPk := eputsL_snoc hx
      have hpl := HPL.out (k + 1)
      have HB2 := Lib.hid (hb.alloc hz1 (.cells (exC x) 64))
      have HR2 := Lib.hid (hr.alloc (.cells (exC x) 64))
      have HP := Lib.hid (put_ex x (wr.alloc (.cells (exC x) 64)) (HTb.out.below HB2.out) (by omega))
      have hzb : wr.heap.size ≤ (wr.alloc (.cells (exC x) 64)).heap.size := (below_box wr _).size
      rw [he] at hTk
      simp only [ne_eq, not_true_eq_false, if_false] at hTk
      unfold PuttedE at HP
      have HTk := Lib.hid hTk
      have HPk := Lib.hid hPk
      by_cases z0 : rE x = 0
      · rw [if_pos z0, z0] at HP
        have hil := exputL_len (n := 400) hxs (by omega)
        have hsz : (hd ++ eputsL (l.take k)).length + (exputL x).length ≤ 1000000 := by
          rw [hPk, List.length_append] at hpl
          rw [List.length_append]
          omega
        have HIL := Lib.hid hil
        have HSZ := Lib.hid hsz
        obtain ⟨y, hy⟩ : ∃ y, y = exputL x := ⟨_, rfl⟩
        rw [← hy] at HP HPk HIL HSZ
        have HZ0 := Lib.hid z0
        clear hTk hPk hpl he hr hb z0 hil hsz hy hxs
        go_wp2_with (first
          | (go_at_call 67; go_must ((with_reducible refine HP.out.mono ?_); intro e w3 h; obtain ⟨v3, rfl, hr3, hb3⟩ := h; obtain ⟨A3, c3, rfl, hp3⟩ := hr3.pc; have HP3 := Lib.hid hp3; have HR3 := Lib.hid (HR2.out.later hb3); have HB3 := Lib.hid (HB2.out.trans (hb3.mono HB2.out.size)); have hz3 := HB3.out.size; clear hr3 hb3 hp3))
          | (at_builtin; (refine row_any rfl _ _ rfl w.heap.size _ (hd ++ eputsL (l.take k)) rfl HR3.out A3 y.length c3 w3.heap.size y rfl rfl HP3.out.lies HP3.out.nil HSZ.out hz3 ?_; intro v4 w4 hr4 hb4; have HR4 := Lib.hid hr4; have HB4 := Lib.hid hb4; clear hr4 hb4)))
        go_roundw
        case rel => exact ⟨k + 1, by omega, by go_num, by rw [HTk.out]; exact HZ0.out, by rw [HPk.out, ← List.append_assoc]; exact HR4.out, HB3.out.trans HB4.out⟩
        case measure => simp [intOf]; omega
      · rw [if_neg z0] at HP
        have hbad := errE_bad (l := l) (k := k + 1) (by rw [hTk]; exact z0)
        rw [hTk] at hbad
        have HBAD := Lib.hid hbad
        have dz : (rE x != 0) = true := zb_of (by simpa using z0)
        have HZ0 := Lib.hid (show ¬ errE l = 0 by rw [hbad]; exact z0)
        clear hTk hPk hpl he hr hb z0 hbad hxs
        generalize rE x = z at *
        go_wp2_with (go_at_call 67; go_must ((with_reducible refine HP.out.mono ?_); intro e w3 h; obtain ⟨v3, rfl, hr3, hb3⟩ := h; have HB3 := Lib.hid (HB2.out.trans (hb3.mono HB2.out.size)); clear hr3 hb3))
        go_ret2
        exact ⟨_, ret_pair HBAD.out.symm, by rw [if_neg HZ0.out]; exact Row.nil _ _, HB3.out⟩
    · obtain rfl : k = n := by omega
      rw [HE.out] at he
      rw [HE.out] at hr
      have HE2 := Lib.hid he
      have HR2 := Lib.hid hr
      have HB2 := Lib.hid hb
      clear hr hb he
      go_wp2
      go_ret2
      exact ⟨_, ret_pair HE2.out.symm, by rw [if_pos HE2.out, HAL.out]; exact HR2.out, HB2.out⟩
theorem putall_ex {w : World} {A : Option Addr} {c : Nat} {l : List Ex} (hl : Exs w A l) (hT : TabsU w) (hs : ShortE l) (h20 : l.length ≤ 1000) :
    Calls Tryd.prog 31 #[.slice A l.length c] w (PuttedAllE l w) := by
  have HP := Lib.hid (wputall_ex (c := c) hl hT hs h20)
  unfold PuttedAllE at HP
  clear hl hT hs h20
  go_enter Tryd.func31, Tryd.ntmps31
  go_wp2_with (go_at_call 68; go_must ((with_reducible refine HP.out.mono ?_); intro e w1 h; obtain ⟨v, rfl, hr, hb⟩ := h; have HR := Lib.hid hr; have HB := Lib.hid hb; clear hr hb))
  go_ret2
  exact ⟨_, rfl, HR.out, HB.out⟩
end Go.Proofs.YtihpnplfklbgjaaDoor
