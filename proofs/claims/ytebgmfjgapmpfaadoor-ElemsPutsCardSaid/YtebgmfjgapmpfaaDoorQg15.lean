/- The reference's Count and creelref13.Get, whatever the reader's state. (By gen/genElRef.py.) -/
import Derived.Test.YtebgmfjgapmpfaaDoorQg13
import Derived.Test.YtebgmfjgapmpfaaDoorQg11
import Derived.Test.YtebgmfjgapmpfaaDoorQg14
import Derived.Test.YtebgmfjgapmpfaaDoorQg08
import Derived.OwnWalk
import Derived.Deep.LoopGhost
import Derived.Test.YtebgmfjgapmpfaaDoorQg09
import Derived.Test.YtebgmfjgapmpfaaDoorQg07
import Derived.RegionTactic
import Derived.Test.YtebgmfjgapmpfaaDoorQg12
import Derived.Deep.CutBlock
import Derived.Deep.DeepCutAuto
namespace Go.Proofs.YtebgmfjgapmpfaaDoor
open Go.RowKit
set_option linter.unusedVariables false
set_option maxRecDepth 100000

theorem count_st {w : World} {q : Nat} {l : List UInt8} {s : RSt} (h : Rs w q l s) :
    Calls Tryd.prog 129 #[.pointer (some ⟨q, 0, none⟩)] w fun e w' => e = .returned (.int .i64 (vZ (s.bind (countR l)))) ∧ Rs w' q l (stOf (s.bind (countR l))) ∧ w.grownBy w' (some q) := by
  cases s with
  | «at» k => exact count_ref h
  | bad c a =>
    show Calls _ _ _ _ fun e w' => e = .returned (.int .i64 0) ∧ Rs w' q l (.bad c a) ∧ w.grownBy w' (some q)
    have HN := Lib.hid (show Calls Tryd.prog 130 #[.pointer (some ⟨q, 0, none⟩)] w fun e w' => e = .returned (.int .u32 0) ∧ Rs w' q l (.bad c a) ∧ w.grownBy w' (some q) from index_ref h)
    obtain ⟨jy, y1⟩ := at_bad h
    have hne : (c != 0) = true := by simpa using h.nz
    clear h
    go_enter Tryd.func129, Tryd.ntmps129
    go_wp2_with (go_at_call 130; go_must ((with_reducible refine HN.out.mono ?_); rintro e w1 ⟨rfl, hs, hg⟩; have HS := Lib.hid hs; have HG := Lib.hid hg; have x2 := why_bad hs; clear hs hg y1))
    go_ret
    exact ⟨rfl, HS.out, HG.out⟩
/-- The state behind a byte that can only be 0, which the reference reads by hand. -/
theorem pre_ref {w : World} {q : Nat} {l : List UInt8} {s : RSt} (h : Rs w q l s) :
    (∃ j : Int, w.cell? ⟨q, 1, none⟩ = some (.int .i64 j)) ∧
    ((Calls Tryd.prog 84 #[.pointer (some ⟨q, 0, none⟩)] w fun e w' => e = .returned (.int .i64 0) ∧ Rs w' q l (stOf (s.bind (noughtR l))) ∧ w.grownBy w' (some q)) ∨
     (∃ (k k' : Nat) (c : UInt8), s = .at k ∧ ((c.toNat : Int) != 0) = true ∧ stOf (s.bind (noughtR l)) = .bad 10 k ∧ w.cell? ⟨q, 1, none⟩ = some (.int .i64 k) ∧
       Calls Tryd.prog 84 #[.pointer (some ⟨q, 0, none⟩)] w fun e w' => e = .returned (.int .i64 c.toNat) ∧ Rs w' q l (.at k') ∧ w.grownBy w' (some q))) := by
  have hB := byte_ref h
  cases s with
  | bad c a => exact ⟨at_bad h, .inl hB⟩
  | «at» k =>
    refine ⟨⟨_, at_at h⟩, ?_⟩
    have hB2 : Calls Tryd.prog 84 #[.pointer (some ⟨q, 0, none⟩)] w fun e w' => e = .returned (.int .i64 (v8 (byteR l k))) ∧ Rs w' q l (stOf (byteR l k)) ∧ w.grownBy w' (some q) := hB
    have hn : (RSt.at k).bind (noughtR l) = noughtR l k := rfl
    rw [hn]
    unfold noughtR
    cases hr : byteR l k with
    | err c a =>
      rw [hr] at hB2
      exact .inl hB2
    | ok c k' =>
      rw [hr] at hB2
      rw [Res.bind_ok]
      by_cases hc : c = 0
      · subst hc
        rw [if_pos rfl]
        exact .inl hB2
      · rw [if_neg hc]
        refine .inr ⟨k, k', c, rfl, ?_, rfl, at_at h, hB2⟩
        have : c.toNat ≠ 0 := fun e => hc (UInt8.toNat_inj.1 (by rw [e]; rfl))
        simp; omega
/-- How far the reference's Get has come: its result's block, the segment's box, the reader; the functions that are read. -/
structure RLe (w : World) (q : Nat) (l : List UInt8) (bt : Nat) (i : I) (A : Option Addr) (c : Nat) (s : RSt) (vb v : Value) (acc : List Int) (W : World) : Prop where
  res : Whole W w.heap.size 94 elZ
  box : Whole W bt 94 #[.int .u8 i.op.toNat, .int .u64 i.a, .int .u64 i.b, .slice A i.l.length c, vb]
  rs : Rs W q l s
  gr : w.grownBy W (some q)
  hq : q < w.heap.size
  h2 : w.heap.size < bt
  row : W.ownsRow (bt + 1) 48 1 v acc.length (cells32 acc)
section
variable {w : World} {q : Nat} {l : List UInt8} {bt : Nat} {i : I} {A : Option Addr} {c : Nat} {s s' : RSt} {W W' : World} {vb v v' : Value} {acc : List Int}
theorem RLe.start {w w1 : World} (hq : q < w.heap.size) (hg : (w.alloc (.cells elZ 94)).grownBy w1 (some q)) (hs : Rs w1 q l s) : RLe w q l w1.heap.size i A c s (.slice none 0 0) (.slice none 0 0) [] (w1.alloc (.cells #[.int .u8 i.op.toNat, .int .u64 i.a, .int .u64 i.b, .slice A i.l.length c, .slice none 0 0] 94)) := by
  have hz := hg.size
  rw [size_box] at hz
  exact ⟨((Whole.made w _ _).grown hg (by simp only [ne_eq, Option.some.injEq]; omega)).alloc _, Whole.made _ _ _, hs.alloc _, gb_alloc (gb_trans (gb_alloc (gb_refl w _) _) hg) _, hq, by omega, World.ownsRow_nil _ _ _ _⟩
theorem RLe.call (h : RLe w q l bt i A c s vb v acc W) (hs : Rs W' q l s') (hg : W.grownBy W' (some q)) : RLe w q l bt i A c s' vb v acc W' := by
  have a := h.hq
  have b := h.h2
  obtain ⟨A0, cap0, k0, hwh, _⟩ := h.rs
  exact ⟨h.res.grown hg (by simp only [ne_eq, Option.some.injEq]; omega), h.box.grown hg (by simp only [ne_eq, Option.some.injEq]; omega), hs, gb_trans h.gr hg, h.hq, h.h2,
    World.ownsRow.kept h.row hg (.inr (fun e => own_whole h.row hwh (by decide) e.symm))⟩
theorem RLe.app {x : Int} {w' : World} (h : RLe w q l bt i A c s vb v acc W) (hr : w'.ownsRow (bt + 1) 48 1 v' (acc ++ [x]).length (cells32 (acc ++ [x]))) (hg : (W.alloc (.cells #[.int .u32 x] 48)).grownBy w' v.ownBlock) :
    RLe w q l bt i A c s vb v' (acc ++ [x]) w' := by
  have a := h.hq
  have b := h.h2
  have hlo : ∀ g, v.ownBlock = some g → bt + 1 ≤ g := fun g e => (World.ownsRow.lt h.row g e).1
  have hrs := h.rs
  obtain ⟨A0, cap0, k0, hwh, _⟩ := hrs
  exact ⟨(h.res.alloc _).grown hg (own_whole h.row h.res (by decide)), (h.box.alloc _).grown hg (own_whole h.row h.box (by decide)), (h.rs.alloc _).grown hg (own_whole h.row hwh (by decide)) (fun g e => by have := hlo g e; omega),
    gb_before (gb_alloc h.gr _) hg (fun g e => .inr (by have := hlo g e; omega)), h.hq, h.h2, hr⟩
theorem RLe.store (h : RLe w q l bt i A c s vb v acc W) : RLe w q l bt i A c s v v acc (W.setCell ⟨bt, 4, none⟩ v) := by
  have a := h.hq
  have b := h.h2
  have hg : W.grownBy (W.setCell ⟨bt, 4, none⟩ v) (some bt) := gb_put (p := ⟨bt, 4, none⟩) (gb_refl W _) (.inl rfl) v
  exact ⟨h.res.grown hg (by simp only [ne_eq, Option.some.injEq]; omega), h.box.put 4 v, h.rs.grown hg (by simp only [ne_eq, Option.some.injEq]; omega) (fun g e => by injection e with e; omega), gb_before h.gr hg (fun g e => .inr (by injection e with e; omega)), h.hq, h.h2,
    World.ownsRow.kept h.row hg (.inr (fun e => own_whole h.row h.box (by decide) e.symm))⟩
end
/-- What creelref13.Get leaves behind. -/
def RGotEl (q : Nat) (l : List UInt8) (r : Res El) (w : World) (e : Ending) (w' : World) : Prop :=
  ∃ (x : El) (A : Option Addr) (c : Nat) (F : Option Addr) (f : Nat), e = .returned (elV x A c F f) ∧ Rs w' q l (stOf r) ∧ (∀ y k, r = .ok y k → x = y) ∧ w.grownBy w' (some q) ∧ LabT w' F x.fs ∧ ∀ a, F = some a → w.heap.size ≤ a.block
theorem RLe.fin {w : World} {q : Nat} {l : List UInt8} {bt : Nat} {i : I} {A : Option Addr} {c : Nat} {s : RSt} {W : World} {F : Option Addr} {f : Nat} {acc : List Int} (h : RLe w q l bt i A c s (.slice F acc.length f) (.slice F acc.length f) acc W) {T : Res El} (hT : stOf T = s) (hv : ∀ y k, T = .ok y k → (⟨i, acc⟩ : El) = y) (W4 : World) (hW : W4 = ((((W.setCell ⟨w.heap.size, 0, none⟩ (.int .u8 i.op.toNat)).setCell ⟨w.heap.size, 1, none⟩ (.int .u64 i.a)).setCell ⟨w.heap.size, 2, none⟩ (.int .u64 i.b)).setCell ⟨w.heap.size, 3, none⟩ (.slice A i.l.length c)).setCell ⟨w.heap.size, 4, none⟩ (.slice F acc.length f)) :
    FiveE W4 w.heap.size ⟨i, acc⟩ A c F f ∧ RGotEl q l T w (.returned (elV ⟨i, acc⟩ A c F f)) W4 := by
  subst hW
  have a := h.hq
  have b := h.h2
  obtain ⟨h1, h2⟩ := put5 (u0 := .int .u8 i.op.toNat) (u1 := .int .u64 i.a) (u2 := .int .u64 i.b) (u3 := .slice A i.l.length c) (u4 := .slice F acc.length f) h.res
  obtain ⟨A0, c0, e0, hl, hf⟩ := Row32.labT h.row
  injection e0 with e1 e2 e3
  subst e1
  exact ⟨Whole.el (x := ⟨i, acc⟩) h1, ⟨i, acc⟩, A, c, F, f, rfl, by rw [hT]; exact h.rs.grown h2 (by simp only [ne_eq, Option.some.injEq]; omega) (fun g e => by injection e with e; omega), hv, gb_before h.gr h2 (fun g e => .inr (by injection e with e; omega)), hl.keep h2 (hl.apart h.res (by decide)), fun a ha => by have := hf a ha; omega⟩
theorem count_startS {l : List UInt8} {s : RSt} : ∃ (n : Nat) (s0 : RSt), n ≤ 10000 ∧ (vZ (s.bind (countR l)) = n ∧ stOf (s.bind (countR l)) = s0) ∧ Inv32 l n 0 s0 [] (s.bind (labelsR l)) := by
  cases s with
  | «at» k => exact count_start
  | bad c a => exact ⟨0, .bad c a, by omega, ⟨rfl, rfl⟩, rfl⟩
theorem el_fin {l : List UInt8} {X : Res I} {i : I} (hi : ∀ y k, X = .ok y k → i = y) : (X.bind fun i k1 => (labelsR l k1).bind fun fs k2 => .ok (⟨i, fs⟩ : El) k2) = ((stOf X).bind (labelsR l)).bind fun fs k2 => .ok (⟨i, fs⟩ : El) k2 := by
  cases X with
  | err c a => rfl
  | ok y k =>
    obtain rfl := hi y k rfl
    rfl
end Go.Proofs.YtebgmfjgapmpfaaDoor

/- segment.Head, elems.Put. -/
namespace Go.Proofs.YtebgmfjgapmpfaaDoor
open Go.RowKit
set_option linter.unusedVariables false
set_option maxRecDepth 100000

set_option maxHeartbeats 2000000 in
theorem head_ok (i : I) (A : Option Addr) (c : Nat) (w : World) (h : i.Ok) (hT : Tabs w) (h0 : crightZ i = 0) :
    Calls Tryd.prog 92 #[insV i A c] w fun e w' => ∃ v, e = .returned (.tuple #[v, .int .i64 0]) ∧ Row w' w.heap.size v (0 :: cputL i) ∧ Below w.heap.size w w' := by
  have HB := Lib.hid (BoxI.start w i A c)
  have hcl := cputL_len h h0
  have HP := Lib.hid (fun W (hb : Below w.heap.size w W) => show Calls Tryd.prog 25 #[insV i A c] W fun e w' => ∃ v, e = .returned (.tuple #[v, .int .i64 0]) ∧ Row w' W.heap.size v (cputL i) ∧ Below W.heap.size W w' from
    (cput2_any i A c W h (hT.below hb) h0).mono fun e w' ⟨v, h1, h2, h3⟩ => ⟨v, by rw [h0] at h1; exact h1, by rw [if_pos h0] at h2; exact h2, h3⟩)
  obtain ⟨y, hy⟩ : ∃ y, y = cputL i := ⟨_, rfl⟩
  rw [← hy] at hcl HP ⊢
  have HCC := Lib.hid (fun (W : World) (A2 : Option Addr) (k2 : Nat) (hl : Lies W W.heap.size A2 (cells (nums y))) (hA : A2 = none → k2 = 0) => show Calls Tryd.prog 63 #[.slice (some ⟨W.heap.size + 1, 0, none⟩) 2 2] ((W.alloc (.cells #[.int .u8 0] 5)).alloc (.cells #[.slice (some ⟨W.heap.size, 0, none⟩) 1 1, .slice A2 y.length k2] 26)) (BytesL (0 :: y) ((W.alloc (.cells #[.int .u8 0] 5)).alloc (.cells #[.slice (some ⟨W.heap.size, 0, none⟩) 1 1, .slice A2 y.length k2] 26))) from
    cat2 (op := 0) (g1 := W.heap.size) (W := W.alloc (.cells #[.int .u8 0] 5)) (size_box _ _) (Whole.made W 5 #[.int .u8 0]) (lies_box hl _) hA (by omega))
  clear h hT h0 hy hcl
  go_enter Tryd.func92, Tryd.ntmps92
  go_wp2_with (first
    | (go_at_call 25; go_must ((with_reducible refine (HP.out _ HB.out.bel).mono ?_); intro e w2 hq; obtain ⟨v, rfl, hr, hb⟩ := hq; obtain ⟨A2, k2, rfl, hl2, hA2, _⟩ := hr.liesN; have HL2 := Lib.hid hl2; have HA2 := Lib.hid hA2; have HB2 := Lib.hid (HB.out.on hb); clear hl2 hA2 hr hb))
    | (go_at_call 63; go_must ((with_reducible refine (HCC.out w2 A2 k2 HL2.out HA2.out).mono ?_); intro e w4 hq; obtain ⟨v4, rfl, hr4, hb4⟩ := hq; have HR4 := Lib.hid hr4; have HB4 := Lib.hid ((((below_box w2 (.cells #[.int .u8 0] 5)).alloc (below_box w2 _).size (.cells #[.slice (some ⟨w2.heap.size, 0, none⟩) 1 1, .slice A2 y.length k2] 26))).trans (hb4.mono (by simp; omega))); clear hr4 hb4)))
  go_ret2
  have hz := HB2.out.bel.size
  exact ⟨_, rfl, HR4.out.mono (by simp; omega), HB2.out.bel.trans (HB4.out.mono hz)⟩
/-- Its bytes. -/
noncomputable def eputL (x : El) : List UInt8 := (0 :: cputL x.i) ++ labL x.fs
theorem eputL_len {x : El} (h : x.i.Ok) (h0 : crightZ x.i = 0) (hc : ∀ c ∈ x.fs, 0 ≤ c ∧ c ≤ 4294967295) (hn : x.fs.length ≤ 100) : 3 ≤ (eputL x).length ∧ (eputL x).length ≤ 1043 := by
  have h1 := cputL_len h h0
  have h2 := lebL_len (x.fs.length : Int) (by omega)
  have h3 := labsL_len x.fs hc
  unfold eputL labL
  rw [List.length_append, List.length_append, List.length_cons]
  omega
/-- What Put hands back. -/
def PuttedEl (x : El) (w : World) (e : Ending) (w' : World) : Prop := ∃ v, e = .returned (.tuple #[v, .int .i64 (crightZ x.i)]) ∧ Row w' w.heap.size v (if crightZ x.i = 0 then eputL x else []) ∧ Below w.heap.size w w'
set_option maxHeartbeats 8000000 in
theorem put_el (x : El) (A : Option Addr) (c : Nat) (F : Option Addr) (f : Nat) (w : World) (oi : x.i.Ok) (hT : Tabs w) (hl : (x.i.l.length : Int) ≤ 9223372036854775807) (hF : LiesL w F x.fs) (hc : ∀ c ∈ x.fs, 0 ≤ c ∧ c ≤ 4294967295) (hn : x.fs.length ≤ 100) :
    Calls Tryd.prog 53 #[elV x A c F f] w (PuttedEl x w) := by
  have H0 := Lib.hid (bxEl_start w x A c F f)
  have HR := Lib.hid (elright_any x A c F f _ oi (hT.below (below_box w (.cells (elC x A c F f) 94))) hl (by omega))
  unfold PuttedEl
  by_cases h0 : crightZ x.i = 0
  · rw [if_pos h0]
    have hel := eputL_len oi h0 hc hn
    have hsp : eputL x = (0 :: cputL x.i) ++ labL x.fs := rfl
    have HH := Lib.hid (fun W (hb : Below w.heap.size w W) => head_ok x.i A c W oi (hT.below hb) h0)
    have HI := Lib.hid (fun W (hb : Below w.heap.size w W) => labels_any (w := W) (A := F) (c := f) (l := x.fs) (hF.below hb) (by omega) hc)
    rw [h0] at HR ⊢
    rw [hsp] at hel ⊢
    rw [List.length_append] at hel
    obtain ⟨g, hg⟩ : ∃ g, g = 0 :: cputL x.i := ⟨_, rfl⟩
    obtain ⟨y, hy⟩ : ∃ y, y = labL x.fs := ⟨_, rfl⟩
    rw [← hg] at HH hel ⊢
    rw [← hy] at HI hel ⊢
    have hgy : g.length + y.length ≤ 1000000 := by omega
    clear hsp hT h0 oi hl hg hy hF hc hn
    go_enter Tryd.func53, Tryd.ntmps53
    go_wp2_with (first
      | (go_at_call 54; go_must ((with_reducible refine HR.out.mono ?_); rintro e w1 ⟨rfl, hb⟩; have H1 := Lib.hid (bxEl_on H0.out hb); obtain ⟨c0, c1, c2, c3, c4⟩ := H1.out.2; clear hb))
      | (go_at_call 92; go_must ((with_reducible refine (HH.out _ (bxEl_bel H1.out)).mono ?_); intro e w2 hq; obtain ⟨v2, rfl, hr, hb⟩ := hq; clear c0 c1 c2 c3 c4; have HR2 := Lib.hid hr; have H2 := Lib.hid (bxEl_on H1.out hb); have hz2 := hb.size; obtain ⟨c0, c1, c2, c3, c4⟩ := H2.out.2; clear hb hr))
      | (go_at_call 93; go_must ((with_reducible refine (HI.out _ (bxEl_bel H2.out)).mono ?_); intro e w3 hq; obtain ⟨v3, rfl, hr, hb⟩ := hq; obtain ⟨A3, cp3, rfl, hpc⟩ := hr.pc; have H3 := Lib.hid (bxEl_on H2.out hb); have HP3 := Lib.hid hpc; have HR3 := Lib.hid (HR2.out.later hb); have hz3 := hb.size; clear hb hr hpc c0 c1 c2 c3 c4))
      | (at_builtin; (refine row_any rfl _ _ rfl w1.heap.size _ g rfl HR3.out A3 y.length cp3 _ y rfl rfl HP3.out.lies HP3.out.nil hgy (Nat.le_trans hz2 hz3) ?_; intro v4 w4 hr4 hb4; have HR4 := Lib.hid hr4; have HB4 := Lib.hid hb4; clear hr4 hb4)))
    go_ret2
    exact ⟨_, rfl, HR4.out.mono (bxEl_bel H1.out).size, (bxEl_bel H3.out).trans (HB4.out.mono (bxEl_bel H1.out).size)⟩
  · rw [if_neg h0]
    have d0 : (crightZ x.i != 0) = true := zb_of (by simpa using h0)
    obtain ⟨z, hz⟩ : ∃ z, z = crightZ x.i := ⟨_, rfl⟩
    rw [← hz] at HR d0 ⊢
    clear h0 hz hT oi hl hF hc hn
    go_enter Tryd.func53, Tryd.ntmps53
    go_wp2_with (go_at_call 54; go_must ((with_reducible refine HR.out.mono ?_); rintro e w1 ⟨rfl, hb⟩; have H1 := Lib.hid (bxEl_on H0.out hb); clear hb))
    go_ret2
    exact ⟨_, rfl, Row.nil _ _, bxEl_bel H1.out⟩
end Go.Proofs.YtebgmfjgapmpfaaDoor

/- Element segments that lie somewhere; rows of segments of the call's own, with their functions. -/
namespace Go.Proofs.YtebgmfjgapmpfaaDoor
open Go.RowKit
set_option linter.unusedVariables false
set_option maxRecDepth 100000

theorem LabT.on {W W' : World} {A : Option Addr} {ls : List Int} (h : LabT W A ls) (hb : Below W.heap.size W W') : LabT W' A ls := h.keep (gb_of_below none hb) (fun a _ => by simp)
/-- A segment, where its labels lie, where its functions lie. -/
abbrev SlotEl := El × (Option Addr × Nat) × (Option Addr × Nat)
abbrev qC (x : SlotEl) : Array Value := elC x.1 x.2.1.1 x.2.1.2 x.2.2.1 x.2.2.2
abbrev qV (x : SlotEl) : Value := .agg (qC x)
def qL (x : SlotEl) : List Value := (qC x).toList
theorem infoEl : (Tryd.prog.info? 94).map (fun i => (i.zero, i.size, i.bytes)) = some (some (.agg elZ), 5, 72) := by kernel_rfl
/-- A row of segments of the call's own; the functions of each lie behind the row's bound. -/
structure RowEl (W : World) (base : Nat) (v : Value) (rows : List SlotEl) : Prop where
  own : W.ownsRow base 94 5 v rows.length (rows.flatMap qL)
  labs : ∀ x ∈ rows, LabT W x.2.2.1 x.1.fs ∧ ∀ a, x.2.2.1 = some a → base ≤ a.block
theorem RowEl.nil (W : World) (base : Nat) : RowEl W base (.slice none 0 0) [] := ⟨World.ownsRow_nil W base _ 5, fun x hx => by cases hx⟩
theorem RowEl.slice {W : World} {base : Nat} {v : Value} {rows : List SlotEl} (h : RowEl W base v rows) : ∃ A c, v = .slice A rows.length c := by
  rcases h.own.2 with ⟨rfl, h0⟩ | ⟨g, cap, cur, rfl, _⟩
  · exact ⟨none, 0, by rw [h0]⟩
  · exact ⟨_, cap, rfl⟩
theorem RowEl.lt {W : World} {base : Nat} {v : Value} {rows : List SlotEl} (h : RowEl W base v rows) : ∀ k, v.ownBlock = some k → base ≤ k ∧ k < W.heap.size := World.ownsRow.lt h.own
theorem RowEl.past {W W' : World} {base b : Nat} {v : Value} {rows : List SlotEl} (h : RowEl W base v rows) (hg : W.grownBy W' (some b)) (hb : b < base) : RowEl W' base v rows :=
  ⟨World.ownsRow.kept h.own hg (by
    cases hv : v.ownBlock with
    | none => exact .inl rfl
    | some k => exact .inr (by have := (World.ownsRow.lt h.own k hv).1; simp only [ne_eq, Option.some.injEq]; omega)),
   fun x hx => ⟨(h.labs x hx).1.keep hg (fun a ha => by have := (h.labs x hx).2 a ha; simp only [ne_eq, Option.some.injEq]; omega), (h.labs x hx).2⟩⟩
theorem RowEl.later {W W' : World} {base : Nat} {v : Value} {rows : List SlotEl} (h : RowEl W base v rows) (hb : Below W.heap.size W W') : RowEl W' base v rows :=
  ⟨World.ownsRow.kept h.own (gb_of_below none hb) (by cases v.ownBlock with
    | none => exact .inl rfl
    | some k => exact .inr (by simp)), fun x hx => ⟨(h.labs x hx).1.on hb, (h.labs x hx).2⟩⟩
theorem RowEl.alloc {W : World} {base : Nat} {v : Value} {rows : List SlotEl} (h : RowEl W base v rows) (o : Obj) : RowEl (W.alloc o) base v rows := h.later (below_box W o)
theorem RowEl.mono {W : World} {base base' : Nat} {v : Value} {rows : List SlotEl} (h : RowEl W base v rows) (hb : base' ≤ base) : RowEl W base' v rows := by
  obtain ⟨⟨h1, h2⟩, h3⟩ := h
  refine ⟨⟨h1, ?_⟩, fun x hx => ⟨(h3 x hx).1, fun a ha => Nat.le_trans hb ((h3 x hx).2 a ha)⟩⟩
  rcases h2 with h2 | ⟨g, cap, cur, e, hg, r⟩
  · exact .inl h2
  · exact .inr ⟨g, cap, cur, e, Nat.le_trans hb hg, r⟩
/-- The slice at A reads as these segments, and the functions of each lie. -/
def Es (w : World) (A : Option Addr) (l : List SlotEl) : Prop :=
  ∀ j x, l[j]? = some x → (∃ b off, A = some ⟨b, off, none⟩ ∧ b < w.heap.size ∧ ∀ u, u < 5 → w.cell? ⟨b, off + j * 5 + u, none⟩ = (qL x)[u]?) ∧ LiesL w x.2.2.1 x.1.fs
theorem Es.below {w w' : World} {A : Option Addr} {l : List SlotEl} (h : Es w A l) (hb : Below w.heap.size w w') : Es w' A l := fun j x hx => by
  obtain ⟨⟨b, off, e, h1, h2⟩, h3⟩ := h j x hx
  exact ⟨⟨b, off, e, Nat.lt_of_lt_of_le h1 hb.size, fun u hu => (hb.cell (p := ⟨b, _, none⟩) h1).trans (h2 u hu)⟩, h3.below hb⟩
/-- The five cells of one of them, as a walk writes them. -/
abbrev FiveAt (w : World) (b : Nat) (o : Nat) (x : SlotEl) : Prop := w.cell? ⟨b, o, none⟩ = some (.int .u8 x.1.i.op.toNat) ∧ w.cell? ⟨b, o + 1, none⟩ = some (.int .u64 x.1.i.a) ∧ w.cell? ⟨b, o + 2, none⟩ = some (.int .u64 x.1.i.b) ∧ w.cell? ⟨b, o + 3, none⟩ = some (.slice x.2.1.1 x.1.i.l.length x.2.1.2) ∧ w.cell? ⟨b, o + 4, none⟩ = some (.slice x.2.2.1 x.1.fs.length x.2.2.2)
theorem Es.five {w : World} {A : Option Addr} {l : List SlotEl} (h : Es w A l) {k : Nat} {x : SlotEl} (hx : l[k]? = some x) : ∃ b off, A = some ⟨b, off, none⟩ ∧ b < w.heap.size ∧ FiveAt w b (off + k * 5) x := by
  obtain ⟨⟨b, off, e, h1, h2⟩, _⟩ := h k x hx
  exact ⟨b, off, e, h1, h2 0 (by omega), h2 1 (by omega), h2 2 (by omega), h2 3 (by omega), h2 4 (by omega)⟩
theorem Es.funs {w : World} {A : Option Addr} {l : List SlotEl} (h : Es w A l) {k : Nat} {x : SlotEl} (hx : l[k]? = some x) : LiesL w x.2.2.1 x.1.fs := (h k x hx).2
theorem flatEl_get : ∀ (l : List SlotEl) (j : Nat) (x : SlotEl) (u : Nat), l[j]? = some x → u < 5 → (l.flatMap qL)[j * 5 + u]? = (qL x)[u]?
  | [], j, x, u, h, _ => by cases h
  | y :: l, 0, x, u, h, hu => by
    injection h with h
    subst h
    rw [List.flatMap_cons, Nat.zero_mul, Nat.zero_add, List.getElem?_append_left (by show u < 5; exact hu)]
  | y :: l, j + 1, x, u, h, hu => by
    rw [List.flatMap_cons, List.getElem?_append_right (by show 5 ≤ _; omega)]
    have e : (j + 1) * 5 + u - (qL y).length = j * 5 + u := by show (j + 1) * 5 + u - 5 = _; omega
    rw [e]
    exact flatEl_get l j x u h hu
/-- What a row of segments reads as. -/
theorem RowEl.es {W : World} {base : Nat} {A : Option Addr} {n c : Nat} {rows : List SlotEl} (h : RowEl W base (.slice A n c) rows) : Es W A rows := fun j x hx => by
  have hj := (List.getElem?_eq_some_iff.1 hx).1
  refine ⟨?_, (h.labs x (List.mem_of_getElem? hx)).1.lies⟩
  rcases h.own.2 with ⟨_, h0⟩ | ⟨g, cap, cur, e, _, hg, _, _, _, ht⟩
  · omega
  · injection e with e1 e2 e3
    exact ⟨g, 0, e1, (Array.getElem?_eq_some_iff.1 hg).1, fun u hu => by
      rw [cell_of_row W g (0 + j * 5 + u) cur _ _ hg, ← flatEl_get rows j x u hx hu, ← ht, List.getElem?_take, if_pos (by omega)]
      simp⟩
end Go.Proofs.YtebgmfjgapmpfaaDoor

/- elems.PutAll. -/
namespace Go.Proofs.YtebgmfjgapmpfaaDoor
open Go.RowKit
set_option linter.unusedVariables false
set_option maxRecDepth 100000

/-- May it be? Its bytes. -/
def rEl (x : SlotEl) : Int := crightZ x.1.i
noncomputable def qputL (x : SlotEl) : List UInt8 := eputL x.1
def PuttedQ (x : SlotEl) (w : World) (e : Ending) (w' : World) : Prop := ∃ v, e = .returned (.tuple #[v, .int .i64 (rEl x)]) ∧ Row w' w.heap.size v (if rEl x = 0 then qputL x else []) ∧ Below w.heap.size w w'
/-- The numbers are what their kinds hold; the functions are no more than a hundred. -/
def OkQ (x : SlotEl) : Prop := x.1.i.Ok ∧ (x.1.i.l.length : Int) ≤ 9223372036854775807 ∧ (∀ c ∈ x.1.fs, 0 ≤ c ∧ c ≤ 4294967295) ∧ x.1.fs.length ≤ 100
def OkEl (l : List SlotEl) : Prop := ∀ x ∈ l, OkQ x
theorem put_q (x : SlotEl) (w : World) (hT : Tabs w) (h : OkQ x) (hF : LiesL w x.2.2.1 x.1.fs) : Calls Tryd.prog 53 #[qV x] w (PuttedQ x w) := put_el x.1 x.2.1.1 x.2.1.2 x.2.2.1 x.2.2.2 w h.1 hT h.2.1 hF h.2.2.1 h.2.2.2
theorem qputL_len {x : SlotEl} (h : OkQ x) (h0 : rEl x = 0) : 3 ≤ (qputL x).length ∧ (qputL x).length ≤ 1043 := eputL_len h.1 h0 h.2.2.1 h.2.2.2
/-- The first error. -/
def errEl : List SlotEl → Int
  | [] => 0
  | x :: r => if rEl x ≠ 0 then rEl x else errEl r
theorem errEl_app : ∀ a b : List SlotEl, errEl (a ++ b) = if errEl a ≠ 0 then errEl a else errEl b
  | [], b => by simp [errEl]
  | x :: a, b => by
    simp only [List.cons_append, errEl]
    by_cases h : rEl x = 0
    · simp only [h, ne_eq, not_true_eq_false, if_false, errEl_app a b]
    · simp [h]
theorem errEl_snoc {l : List SlotEl} {k : Nat} {x : SlotEl} (h : l[k]? = some x) : errEl (l.take (k + 1)) = if errEl (l.take k) ≠ 0 then errEl (l.take k) else rEl x := by
  rw [List.take_add_one, h]
  show errEl (l.take k ++ [x]) = _
  rw [errEl_app]
  by_cases e : rEl x = 0 <;> simp [errEl, e]
theorem errEl_bad {l : List SlotEl} {k : Nat} (h : errEl (l.take k) ≠ 0) : errEl l = errEl (l.take k) := by
  conv => lhs; rw [← List.take_append_drop k l]
  rw [errEl_app, if_pos h]
theorem errEl_mem : ∀ {l : List SlotEl}, errEl l = 0 → ∀ x ∈ l, rEl x = 0
  | [], _, x, hx => by cases hx
  | y :: l, h, x, hx => by
    simp only [errEl] at h
    by_cases e : rEl y = 0
    · simp only [e, ne_eq, not_true_eq_false, if_false] at h
      rcases List.mem_cons.1 hx with rfl | hx
      · exact e
      · exact errEl_mem h x hx
    · simp [e] at h
/-- Many globals' bytes. -/
noncomputable def elputsL (l : List SlotEl) : List UInt8 := l.flatMap qputL
theorem elputsL_snoc {l : List SlotEl} {k : Nat} {x : SlotEl} (h : l[k]? = some x) : elputsL (l.take (k + 1)) = elputsL (l.take k) ++ qputL x := by
  unfold elputsL
  rw [List.take_add_one, h, List.flatMap_append]
  simp
theorem elputsL_len : ∀ {l : List SlotEl}, OkEl l → errEl l = 0 → (elputsL l).length ≤ l.length * 1043
  | [], _, _ => by simp [elputsL]
  | x :: r, h, h0 => by
    have h4 := errEl_mem h0 x (by simp)
    have h5 : errEl r = 0 := by simpa [errEl, h4] using h0
    have h1 := elputsL_len (l := r) (fun y hy => h y (List.mem_cons_of_mem _ hy)) h5
    have h2 := h x (by simp)
    have h3 := (qputL_len h2 h4).2
    unfold elputsL at h1 ⊢
    rw [List.flatMap_cons, List.length_append, List.length_cons]
    omega
noncomputable def allEl (l : List SlotEl) : List UInt8 := lebL l.length ++ elputsL l
/-- What PutAll hands back. -/
def PuttedAllEl (l : List SlotEl) (w : World) (e : Ending) (w' : World) : Prop := ∃ v, e = .returned (.tuple #[v, .int .i64 (errEl l)]) ∧ Row w' w.heap.size v (if errEl l = 0 then allEl l else []) ∧ Below w.heap.size w w'
theorem cfElP (a : Array Value) (w : World) : (callFunc 53 a).run Tryd.prog w = .ok (.enter 53 a) w := by kernel_rfl
end Go.Proofs.YtebgmfjgapmpfaaDoor

/- elems.GetAll of any bytes; the laws' closures. -/
namespace Go.Proofs.YtebgmfjgapmpfaaDoor
open Go.RowKit
set_option linter.unusedVariables false
set_option maxRecDepth 100000

/-- Globals, one behind the other, behind those that are read. -/
noncomputable def elsK (l : List UInt8) : Nat → Nat → List El → Res (List El)
  | 0, q, acc => .ok acc q
  | n + 1, q, acc => (elR l q).bind fun x q2 => elsK l n q2 (acc ++ [x])
theorem elsK_more {l : List UInt8} {n j q : Nat} {acc : List El} (h : j < n) : elsK l (n - j) q acc = (elR l q).bind fun x q2 => elsK l (n - (j + 1)) q2 (acc ++ [x]) := by
  rw [show n - j = n - (j + 1) + 1 by omega]; rfl
/-- A list, and its end. -/
noncomputable def elsR (l : List UInt8) (k : Nat) : Res (List El) := (countR l k).bind fun n k1 => (elsK l n.toNat k1 []).bind fun xs k2 => if k2 < l.length then .err 14 k2 else .ok xs k2
/-- Without its end. -/
noncomputable def itElR (l : List UInt8) (k : Nat) : Res (List El) := (countR l k).bind fun n k1 => elsK l n.toNat k1 []
theorem itElR_end (l : List UInt8) (k : Nat) : elsR l k = (itElR l k).bind fun xs k2 => if k2 < l.length then .err 14 k2 else .ok xs k2 := by
  unfold elsR itElR
  cases countR l k with
  | err c a => rw [Res.bind_err, Res.bind_err, Res.bind_err]
  | ok n k1 => rw [Res.bind_ok, Res.bind_ok]
/-- What holds at the head of GetAll's loop. -/
structure AInEl (w : World) (p : Nat) (l : List UInt8) (k : Nat) (xs : List SlotEl) (v : Value) (W : World) : Prop where
  sc : Sc W p l k
  g : w.grownBy W (some p)
  r : RowEl W w.heap.size v xs
  tb : TbP p W
section
variable {w W W' : World} {p : Nat} {l : List UInt8} {k k' : Nat} {xs : List SlotEl} {x : SlotEl} {v v' : Value}
theorem AInEl.step (h : AInEl w p l k xs v W) (hp : p < w.heap.size) (hg : W.grownBy W' (some p)) (hs : Sc W' p l k') : AInEl w p l k' xs v W' :=
  ⟨hs, gb_trans h.g hg, h.r.past hg hp, h.tb.self hg⟩
theorem AInEl.alloc (h : AInEl w p l k xs v W) (hp : p < w.heap.size) (o : Obj) : AInEl w p l k xs v (W.alloc o) := h.step hp (gb_alloc (gb_refl _ _) o) (h.sc.alloc o)
theorem AInEl.more (h : AInEl w p l k xs v W) (hp : p < w.heap.size) (hg : W.grownBy W' v.ownBlock) (hr : RowEl W' w.heap.size v' (xs ++ [x])) : AInEl w p l k (xs ++ [x]) v' W' := by
  have hlt := h.r.lt
  exact ⟨h.sc.grown hg (fun e => by have := hlt p e.symm; omega) (fun g e => by have := hlt g e; omega), gb_before h.g hg (fun g e => .inr (hlt g e).1), hr, h.tb.grown hg (fun g e => by have := hlt g e; omega)⟩
end
/-- The list that was read. -/
def GotAllEl (p : Nat) (l : List UInt8) (r : Res (List El)) (w : World) (e : Ending) (w' : World) : Prop := match r with
  | .ok xs k => ∃ v rows, e = .returned v ∧ RowEl w' w.heap.size v rows ∧ rows.map (·.1) = xs ∧ Sc w' p l k ∧ w.grownBy w' (some p)
  | .err c a => e = .panicked (stopP c a) ∧ w.grownBy w' (some p)
theorem cfElG (a : Array Value) (w : World) : (callFunc 57 a).run Tryd.prog w = .ok (.enter 57 a) w := by kernel_rfl
end Go.Proofs.YtebgmfjgapmpfaaDoor

/- creelref13.GetAll of any bytes; creelref13.Same. -/
namespace Go.Proofs.YtebgmfjgapmpfaaDoor
open Go.RowKit
set_option linter.unusedVariables false
set_option maxRecDepth 100000

/-- What holds at the head of the reference's loop. -/
structure BInEl (w : World) (q : Nat) (l : List UInt8) (s : RSt) (xs : List SlotEl) (v : Value) (W : World) : Prop where
  rs : Rs W q l s
  g : w.grownBy W (some q)
  r : RowEl W w.heap.size v xs
section
variable {w W W' : World} {q : Nat} {l : List UInt8} {s s' : RSt} {xs : List SlotEl} {x : SlotEl} {v v' : Value}
theorem BInEl.step (h : BInEl w q l s xs v W) (hq : q < w.heap.size) (hg : W.grownBy W' (some q)) (hs : Rs W' q l s') : BInEl w q l s' xs v W' :=
  ⟨hs, gb_trans h.g hg, h.r.past hg hq⟩
theorem BInEl.alloc (h : BInEl w q l s xs v W) (hq : q < w.heap.size) (o : Obj) : BInEl w q l s xs v (W.alloc o) := h.step hq (gb_alloc (gb_refl _ _) o) (h.rs.alloc o)
theorem BInEl.more (h : BInEl w q l s xs v W) (hq : q < w.heap.size) (hg : W.grownBy W' v.ownBlock) (hr : RowEl W' w.heap.size v' (xs ++ [x])) : BInEl w q l s (xs ++ [x]) v' W' := by
  have hlt := h.r.lt
  exact ⟨h.rs.grown hg (fun e => by have := hlt q e.symm; omega) (fun g e => by have := hlt g e; omega), gb_before h.g hg (fun g e => .inr (hlt g e).1), hr⟩
end
/-- How far the list is. -/
def ElInv (l : List UInt8) (n j : Nat) (s : RSt) (rows : List SlotEl) (R : Res (List El)) : Prop := match s with
  | .at k => elsK l (n - j) k (rows.map (·.1)) = R
  | .bad c a => R = .err c a
theorem ElInv.step {l : List UInt8} {n j k : Nat} {rows : List SlotEl} {R : Res (List El)} (h : ElInv l n j (.at k) rows R) (hlt : j < n) {x : El} {A : Option Addr} {c : Nat} {F : Option Addr} {f : Nat} (hv : ∀ y k2, elR l k = .ok y k2 → x = y) :
    ElInv l n (j + 1) (stOf (elR l k)) (rows ++ [(x, (A, c), (F, f))]) R := by
  have h1 : elsK l (n - j) k (rows.map (·.1)) = R := h
  rw [elsK_more hlt] at h1
  cases hg : elR l k with
  | err c a =>
    rw [hg, Res.bind_err] at h1
    exact h1.symm
  | ok y k2 =>
    rw [hg, Res.bind_ok] at h1
    obtain rfl := hv y k2 hg
    show elsK l (n - (j + 1)) k2 ((rows ++ [(x, (A, c), (F, f))]).map (·.1)) = R
    rw [List.map_append]
    exact h1
/-- What creelref13.GetAll leaves behind. -/
def RGotAllEl (q : Nat) (l : List UInt8) (r : Res (List El)) (w : World) (e : Ending) (w' : World) : Prop := match r with
  | .ok xs k => ∃ v rows, e = .returned v ∧ RowEl w' w.heap.size v rows ∧ rows.map (·.1) = xs ∧ Rs w' q l (.at k) ∧ w.grownBy w' (some q)
  | .err c a => e = .returned (.slice none 0 0) ∧ Rs w' q l (.bad c a) ∧ w.grownBy w' (some q)
end Go.Proofs.YtebgmfjgapmpfaaDoor

/- abort.Value of a function that ends well, whatever it hands back: []api.Elem. Value of one that aborts. -/
namespace Go.Proofs.YtebgmfjgapmpfaaDoor
open Go.RowKit
set_option linter.unusedVariables false
set_option maxRecDepth 100000

section
variable {T : (Option Addr × Nat × Nat) → World → Prop}
end
end Go.Proofs.YtebgmfjgapmpfaaDoor

/- abort.Value of a function that ends well, whatever it hands back: api.Elem. (By gen/genVal.py.) -/
namespace Go.Proofs.YtebgmfjgapmpfaaDoor
open Go.RowKit
set_option linter.unusedVariables false
set_option maxRecDepth 100000

theorem cfVEl (cap : Array Value) (w : World) : (callFunc 94 cap).run Tryd.prog w = .ok (.enter 94 cap) w := by kernel_rfl
section
variable {T : SlotEl → World → Prop}
/-- Value's own closure: what the step hands back lies in its cell. -/
theorem valClosEl {g : FuncId} {cap : Array Value} {b1 b4 q : Nat} {w : World} {z : Array Value} (hz : z.size = 5) (hcf : ∀ w : World, (callFunc g cap).run Tryd.prog w = .ok (.enter g cap) w)
    (h1 : Whole w b1 101 #[.func (.func g) #[] cap]) (h4 : Whole w b4 94 #[.int .u8 0, .int .u64 0, .int .u64 0, .slice none 0 0, .slice none 0 0]) (hb : q < b4) (hT : ∀ x W W', T x W → W.grownBy W' (some b4) → T x W')
    (h : Calls Tryd.prog g cap w fun e w' => ∃ x, e = .returned (qV x) ∧ T x w' ∧ w.grownBy w' (some q)) :
    Calls Tryd.prog 94 #[.pointer (some ⟨b1, 0, none⟩), .pointer (some ⟨b4, 0, none⟩)] w fun e w' =>
      e = .returned (.tuple #[]) ∧ ∃ x, T x w' ∧ Whole w' b4 94 #[.int .u8 x.1.i.op.toNat, .int .u64 x.1.i.a, .int .u64 x.1.i.b, .slice x.2.1.1 x.1.i.l.length x.2.1.2, .slice x.2.2.1 x.1.fs.length x.2.2.2] ∧ ∃ w1, w.grownBy w1 (some q) ∧ w1.grownBy w' (some b4) := by
  have hnil : ∀ w : World, (binOp BinOp.neq 101 (.func (.func g) #[] cap) .nilFunc).run Tryd.prog w = .ok (.bool true) w := fun _ => by kernel_rfl
  have c1 := h1.cell 0
  simp only [List.getElem?_toArray, List.getElem?_cons_zero] at c1
  have HH := Lib.hid h
  have H4 := Lib.hid h4
  have HT := Lib.hid hT
  clear h h1 h4 hT
  go_enter Tryd.func94, Tryd.ntmps94
  go_wp2_with fail
  refine HH.out.mono ?_
  rintro e w1 ⟨x, rfl, hs, hg⟩
  have HW := H4.out.grown hg (by simp only [ne_eq, Option.some.injEq]; omega)
  have k0 := HW.cell 0
  have k1 := HW.cell 1
  have k2 := HW.cell 2
  have k3 := HW.cell 3
  have k4 := HW.cell 4
  have f0 := HW.frozen 0
  have f1 := HW.frozen 1
  have f2 := HW.frozen 2
  have f3 := HW.frozen 3
  have f4 := HW.frozen 4
  simp only [List.getElem?_toArray, List.getElem?_cons_zero, List.getElem?_cons_succ] at k0 k1 k2 k3 k4
  obtain ⟨p1, p2⟩ := put5 (u0 := .int .u8 x.1.i.op.toNat) (u1 := .int .u64 x.1.i.a) (u2 := .int .u64 x.1.i.b) (u3 := .slice x.2.1.1 x.1.i.l.length x.2.1.2) (u4 := .slice x.2.2.1 x.1.fs.length x.2.2.2) HW
  have F : Hid (T x (((((w1.setCell ⟨b4, 0, none⟩ (.int .u8 x.1.i.op.toNat)).setCell ⟨b4, 1, none⟩ (.int .u64 x.1.i.a)).setCell ⟨b4, 2, none⟩ (.int .u64 x.1.i.b)).setCell ⟨b4, 3, none⟩ (.slice x.2.1.1 x.1.i.l.length x.2.1.2)).setCell ⟨b4, 4, none⟩ (.slice x.2.2.1 x.1.fs.length x.2.2.2))) := HT.out _ _ _ hs p2
  have P1 := Lib.hid p1
  have P2 := Lib.hid p2
  have HG := Lib.hid hg
  clear p1 p2 hs hg HW hcf
  go_wp2_with fail
  go_end0
  exact ⟨rfl, x, F.out, P1.out, w1, HG.out, P2.out⟩
/-- What Value's closure leaves behind, seen from Value's beginning. -/
structure VSEl (T : SlotEl → World → Prop) (w : World) (q : Nat) (x : SlotEl) (w1 : World) : Prop where
  kept : T x w1
  grown : w.grownBy w1 (some q)
  val : Whole w1 (w.heap.size + 3) 94 #[.int .u8 x.1.i.op.toNat, .int .u64 x.1.i.a, .int .u64 x.1.i.b, .slice x.2.1.1 x.1.i.l.length x.2.1.2, .slice x.2.2.1 x.1.fs.length x.2.2.2]
  r1 : Whole w1 (w.heap.size + 1) 94 #[.int .u8 0, .int .u64 0, .int .u64 0, .slice none 0 0, .slice none 0 0]
  r2 : Whole w1 (w.heap.size + 2) 35 #[.int .i64 0, .int .i64 0]
/-- The world in which Value calls Out. -/
def vWorldEl (g : FuncId) (cap : Array Value) (w : World) : World :=
  (((w.alloc (.cells #[.func (.func g) #[] cap] 101)).alloc (.cells #[.int .u8 0, .int .u64 0, .int .u64 0, .slice none 0 0, .slice none 0 0] 94)).alloc (.cells #[.int .i64 0, .int .i64 0] 35)).alloc (.cells #[.int .u8 0, .int .u64 0, .int .u64 0, .slice none 0 0, .slice none 0 0] 94)
theorem vWorld_factsEl (g : FuncId) (cap : Array Value) (w : World) : (vWorldEl g cap w).heap.size = w.heap.size + 4 ∧ Whole (vWorldEl g cap w) w.heap.size 101 #[.func (.func g) #[] cap] ∧
    Whole (vWorldEl g cap w) (w.heap.size + 1) 94 #[.int .u8 0, .int .u64 0, .int .u64 0, .slice none 0 0, .slice none 0 0] ∧ Whole (vWorldEl g cap w) (w.heap.size + 2) 35 #[.int .i64 0, .int .i64 0] ∧
    Whole (vWorldEl g cap w) (w.heap.size + 3) 94 #[.int .u8 0, .int .u64 0, .int .u64 0, .slice none 0 0, .slice none 0 0] ∧ Below w.heap.size w (vWorldEl g cap w) := by
  have b1 := Whole.made w 101 #[.func (.func g) #[] cap]
  have b2 := Whole.made (w.alloc (.cells #[.func (.func g) #[] cap] 101)) 94 #[.int .u8 0, .int .u64 0, .int .u64 0, .slice none 0 0, .slice none 0 0]
  have b3 := Whole.made ((w.alloc (.cells #[.func (.func g) #[] cap] 101)).alloc (.cells #[.int .u8 0, .int .u64 0, .int .u64 0, .slice none 0 0, .slice none 0 0] 94)) 35 #[.int .i64 0, .int .i64 0]
  have b4 := Whole.made (((w.alloc (.cells #[.func (.func g) #[] cap] 101)).alloc (.cells #[.int .u8 0, .int .u64 0, .int .u64 0, .slice none 0 0, .slice none 0 0] 94)).alloc (.cells #[.int .i64 0, .int .i64 0] 35)) 94 #[.int .u8 0, .int .u64 0, .int .u64 0, .slice none 0 0, .slice none 0 0]
  simp only [World.size_alloc] at b2 b3 b4
  exact ⟨by simp [vWorldEl], ((b1.alloc _).alloc _).alloc _, (b2.alloc _).alloc _, b3.alloc _, b4,
    ((((Below.refl _ _).alloc (Nat.le_refl _) _).alloc (by simp) _).alloc (by simp; omega) _).alloc (by simp; omega) _⟩
theorem value_outEl {g : FuncId} {cap : Array Value} {q : Nat} {w : World} (hcf : ∀ w : World, (callFunc g cap).run Tryd.prog w = .ok (.enter g cap) w) (hq : q < w.heap.size)
    (hT : ∀ x W W' b, w.heap.size ≤ b → b < w.heap.size + 5 → T x W → W.grownBy W' (some b) → T x W')
    (h : ∀ W, Below w.heap.size w W → w.heap.size + 5 ≤ W.heap.size → Calls Tryd.prog g cap W fun e w' => ∃ x, e = .returned (qV x) ∧ T x w' ∧ W.grownBy w' (some q)) :
    Calls Tryd.prog 78 #[.func (.func 94) #[] #[.pointer (some ⟨w.heap.size, 0, none⟩), .pointer (some ⟨w.heap.size + 3, 0, none⟩)]] (vWorldEl g cap w) fun e w' => e = .returned (.agg #[.int .i64 0, .int .i64 0]) ∧ ∃ x, VSEl T w q x w' := by
  obtain ⟨hz, b1, b2, b3, b4, hbe⟩ := vWorld_factsEl g cap w
  have b5 := Whole.made (vWorldEl g cap w) 35 #[.int .i64 0, .int .i64 0]
  have hbe2 : Below w.heap.size w ((vWorldEl g cap w).alloc (.cells #[.int .i64 0, .int .i64 0] 35)) := hbe.alloc (by omega) _
  have hc := valClosEl (T := T) (z := #[.int .u8 0, .int .u64 0, .int .u64 0, .slice none 0 0, .slice none 0 0]) rfl hcf (b1.alloc (.cells #[.int .i64 0, .int .i64 0] 35)) (b4.alloc _) (by omega : q < w.heap.size + 3) (fun x W W' => hT x W W' _ (by omega) (by omega)) (h _ hbe2 (by rw [size_box]; omega))
  refine (out_any _ _ 0 0 (vWorldEl g cap w) (fun w1 => (∃ x, VSEl T w q x w1) ∧ Whole w1 (vWorldEl g cap w).heap.size 35 #[.int .i64 0, .int .i64 0]) (cfVEl _) (hc.mono ?_) (fun _ h => h.2)).mono ?_
  · rintro e w' ⟨rfl, x, hs, hv, w1, hg1, hg2⟩
    have hz2 : w.heap.size + 5 ≤ w1.heap.size := by have := hg1.size; simp only [World.size_alloc] at this; omega
    refine ⟨.inl ⟨rfl, rfl, rfl⟩, ⟨x, hs, ?_, hv, ?_, ?_⟩, ?_⟩
    · exact gb_before (gb_trans (gb_of_below (some q) hbe2) hg1) hg2 (fun g e => .inr (by injection e with e; omega))
    · exact ((b2.alloc _).grown hg1 (by simp only [ne_eq, Option.some.injEq]; omega)).grown hg2 (by simp only [ne_eq, Option.some.injEq]; omega)
    · exact ((b3.alloc _).grown hg1 (by simp only [ne_eq, Option.some.injEq]; omega)).grown hg2 (by simp only [ne_eq, Option.some.injEq]; omega)
    · exact (b5.grown hg1 (by simp only [ne_eq, Option.some.injEq]; omega)).grown hg2 (by simp only [ne_eq, Option.some.injEq]; omega)
  · rintro e w' ⟨rfl, w1, ⟨⟨x, hs⟩, _⟩, hg⟩
    rw [hz] at hg
    exact ⟨rfl, x, hT x _ _ _ (by omega) (by omega) hs.kept hg, gb_before hs.grown hg (fun g e => .inr (by injection e with e; omega)), hs.val.grown hg (by simp only [ne_eq, Option.some.injEq]; omega), hs.r1.grown hg (by simp only [ne_eq, Option.some.injEq]; omega), hs.r2.grown hg (by simp only [ne_eq, Option.some.injEq]; omega)⟩

set_option maxHeartbeats 800000 in
/-- Value of a function that ends well. -/
theorem valueEl_ok {g : FuncId} {cap : Array Value} {q : Nat} {w : World} (hcf : ∀ w : World, (callFunc g cap).run Tryd.prog w = .ok (.enter g cap) w) (hq : q < w.heap.size)
    (hT : ∀ x W W' b, w.heap.size ≤ b → b < w.heap.size + 5 → T x W → W.grownBy W' (some b) → T x W')
    (h : ∀ W, Below w.heap.size w W → w.heap.size + 5 ≤ W.heap.size → Calls Tryd.prog g cap W fun e w' => ∃ x, e = .returned (qV x) ∧ T x w' ∧ W.grownBy w' (some q)) :
    Calls Tryd.prog 55 #[.func (.func g) #[] cap] w fun e w' => ∃ x, e = .returned (.tuple #[qV x, .agg #[.int .i64 0, .int .i64 0]]) ∧ T x w' ∧ w.grownBy w' (some q) := by
  have hv := value_outEl hcf hq hT h
  unfold vWorldEl at hv
  have HV := Lib.hid hv
  have HT := Lib.hid hT
  have hmf : ∀ (fn : Fn) (first cap : Array Value) (w : World), (Instr.makeFunc fn first cap).run Tryd.prog w = .ok (.func fn first cap) w := fun _ _ _ _ => rfl
  clear h hv hcf hT
  go_enter Tryd.func55, Tryd.ntmps55
  go_wp2_with (go_at_call 78; go_must (refine HV.out.mono ?_; rintro e w2 ⟨rfl, x, hl⟩; have k0 := fun o => (hl.val.alloc o).cell 0; have f0 := fun o => (hl.r1.alloc o).frozen 0; have m0 := fun o => (hl.r1.alloc o).cell 0; have k1 := fun o => (hl.val.alloc o).cell 1; have f1 := fun o => (hl.r1.alloc o).frozen 1; have m1 := fun o => (hl.r1.alloc o).cell 1; have k2 := fun o => (hl.val.alloc o).cell 2; have f2 := fun o => (hl.r1.alloc o).frozen 2; have m2 := fun o => (hl.r1.alloc o).cell 2; have k3 := fun o => (hl.val.alloc o).cell 3; have f3 := fun o => (hl.r1.alloc o).frozen 3; have m3 := fun o => (hl.r1.alloc o).cell 3; have k4 := fun o => (hl.val.alloc o).cell 4; have f4 := fun o => (hl.r1.alloc o).frozen 4; have m4 := fun o => (hl.r1.alloc o).cell 4; have f88 := fun o => (hl.r2.alloc o).frozen 0; have f99 := fun o => (hl.r2.alloc o).frozen 1; have m88 := fun o => (hl.r2.alloc o).cell 0; have m99 := fun o => (hl.r2.alloc o).cell 1; simp only [List.getElem?_toArray, List.getElem?_cons_zero, List.getElem?_cons_succ] at k0 k1 k2 k3 k4 m0 m1 m2 m3 m4 m88 m99; have hz := hl.grown.size; have HL := Lib.hid hl; clear hl))
  have hb : w.heap.size + 1 + 1 = w.heap.size + 2 := by omega
  rw [hb]
  obtain ⟨p1, g1⟩ := put5 (u0 := .int .u8 x.1.i.op.toNat) (u1 := .int .u64 x.1.i.a) (u2 := .int .u64 x.1.i.b) (u3 := .slice x.2.1.1 x.1.i.l.length x.2.1.2) (u4 := .slice x.2.2.1 x.1.fs.length x.2.2.2) (HL.out.r1.alloc (.cells #[.int .i64 0, .int .i64 0] 35))
  obtain ⟨p2, g2⟩ := put2 (u0 := .int .i64 0) (u1 := .int .i64 0) ((HL.out.r2.alloc (.cells #[.int .i64 0, .int .i64 0] 35)).grown g1 (by simp only [ne_eq, Option.some.injEq]; omega))
  have p3 := p1.grown g2 (by simp only [ne_eq, Option.some.injEq]; omega)
  have q0 := p3.cell 0
  have q1 := p3.cell 1
  have q2 := p3.cell 2
  have q3 := p3.cell 3
  have q4 := p3.cell 4
  have q88 := p2.cell 0
  have q99 := p2.cell 1
  simp only [List.getElem?_toArray, List.getElem?_cons_zero, List.getElem?_cons_succ] at q0 q1 q2 q3 q4 q88 q99
  refine bodyPost_ret (v := .tuple #[qV x, .agg #[.int .i64 0, .int .i64 0]]) (by simp [results, Tryd.results55, go_sem, q0, q1, q2, q3, q4, q88, q99]) rfl ⟨x, rfl, ?_, ?_⟩
  · exact HT.out _ _ _ _ (by omega) (by omega) (HT.out _ _ _ _ (by omega) (by omega) (HT.out _ _ _ w.heap.size (Nat.le_refl _) (by omega) HL.out.kept (gb_alloc (gb_refl _ _) _)) g1) g2
  · exact gb_before (gb_before (gb_alloc HL.out.grown _) g1 (fun g e => .inr (by injection e with e; omega))) g2 (fun g e => .inr (by injection e with e; omega))
end
end Go.Proofs.YtebgmfjgapmpfaaDoor

/- creelref13.Put; creelref13.Same of two that are alike. -/
namespace Go.Proofs.YtebgmfjgapmpfaaDoor
open Go.RowKit
set_option linter.unusedVariables false
set_option maxRecDepth 100000

set_option maxHeartbeats 8000000 in
theorem relput_any (x : El) (A : Option Addr) (c : Nat) (F : Option Addr) (f : Nat) (w : World) (oi : x.i.Ok) (h0 : crightZ x.i = 0) (hF : LiesL w F x.fs) (hc : ∀ c ∈ x.fs, 0 ≤ c ∧ c ≤ 4294967295) (hn : x.fs.length ≤ 100) :
    Calls Tryd.prog 58 #[elV x A c F f] w fun e w' => e = .returned (.string (S (eputL x))) ∧ Below w.heap.size w w' := by
  have H0 := Lib.hid (bxEl_start w x A c F f)
  have hcl := cputL_len oi h0
  have hll := lebL_len (x.fs.length : Int) (by omega)
  have HP := Lib.hid (fun W => show Calls Tryd.prog 28 #[insV x.i A c] W fun e w' => e = .returned (.string (S (cputL x.i))) ∧ Below W.heap.size W w' from rcput_any x.i A c W oi (cr_zero h0).1 (by rw [cz_nil h0]; intro j v hv; simp [cells32] at hv))
  have HC := Lib.hid (fun W => count_any (x.fs.length : Int) W (by omega) (by omega))
  have hsp : eputL x = ((0 :: cputL x.i) ++ lebL (x.fs.length : Int)) ++ labsL x.fs := by unfold eputL labL; rw [List.append_assoc]
  rw [hsp]
  obtain ⟨y, hy⟩ : ∃ y, y = cputL x.i := ⟨_, rfl⟩
  obtain ⟨z, hz⟩ : ∃ z, z = lebL (x.fs.length : Int) := ⟨_, rfl⟩
  rw [← hy] at HP hcl ⊢
  rw [← hz] at HC hll ⊢
  have HCB := Lib.hid hc
  have HFl := Lib.hid hF
  have sy := S_size y
  have sz := S_size z
  have e0 : (⟨#[0]⟩ : ByteArray).size = 1 := rfl
  have e1 := S_append [0] y
  have e2 := S_append (0 :: y) z
  have HE : Hid ((⟨#[0]⟩ : ByteArray) ++ S y ++ S z = S ((0 :: y) ++ z)) := by rw [← S_append (0 :: y) z]; exact congrArg (· ++ S z) e1
  have q1b : ¬ 9223372036854775807 < 1 + (S y).size := by omega
  have q2a : ¬ 9223372036854775807 < 1 + (S y).size + (S z).size := by omega
  obtain ⟨P, hP⟩ : ∃ P, P = ((0 :: y) ++ z) ++ labsL x.fs := ⟨_, rfl⟩
  rw [← hP]
  have HPP := Lib.hid hP
  clear hP
  have HL := Lib.hid (fun k => labsL_take_len x.fs hc k (by omega))
  clear hsp h0 oi hy hz hc hF e0 e1 e2 sy sz
  go_enter Tryd.func58, Tryd.ntmps58
  go_wp2
  go_region_held3 (fun W => BxEl w w.heap.size x A c F f W) (first | assumption | exact bxEl_on H0.out (Below.refl _ _).drew)
    (first
      | (go_at_call 28; (with_reducible refine (HP.out _).mono ?_); rintro e w1 ⟨rfl, hb⟩; have hk1 := bxEl_on ‹_› hb; clear hb)
      | (go_at_call 97; (with_reducible refine (HC.out _).mono ?_); rintro e w2 ⟨rfl, hb⟩; have hk2 := bxEl_on ‹_› hb; clear hb))
  go_wp2
  go_loopw [3, 4] (fun s i wr => ∃ (k : Nat), k ≤ x.fs.length ∧ i = .int .i64 k ∧ s = .string (S (((0 :: y) ++ z) ++ labsL (x.fs.take k))) ∧ BxEl w w.heap.size x A c F f wr) (fun _ i _ => x.fs.length - (intOf i).toNat)
  case atStart => exact ⟨0, Nat.zero_le _, rfl, by rw [HE.out]; simp [labsL], hk2⟩
  case round =>
    obtain ⟨k, hk, rfl, rfl, hb⟩ := hrel
    have hb' := hb
    obtain ⟨⟨_, hbel⟩, c0, c1, c2, c3, c4⟩ := hb'
    have HB := Lib.hid hb
    have htl := HL.out k
    obtain ⟨t, ht⟩ : ∃ t, t = ((0 :: y) ++ z) ++ labsL (x.fs.take k) := ⟨_, rfl⟩
    have hlt' : t.length ≤ 200000 := by rw [ht]; simp only [List.length_append, List.length_cons]; omega
    have HT := Lib.hid ht
    rw [← ht]
    by_cases hlt : k < x.fs.length
    · obtain ⟨d, hd⟩ : ∃ d, x.fs[k]? = some d := ⟨_, List.getElem?_eq_getElem hlt⟩
      obtain ⟨b, off, rfl, hbl, hcell⟩ := HFl.out.at hd
      have hcell2 := (hbel.cell (p := ⟨b, off + k, none⟩) hbl).trans hcell
      have hdb := HCB.out d (List.mem_of_getElem? hd)
      have wd : IntKind.i64.wrap d = d := by rw [IntKind.wrap_i64]; omega
      have HCd := Lib.hid (fun W => count_any d W hdb.1 (by omega))
      have hy2 := lebL_len d (by omega)
      have HS := Lib.hid (labsL_snoc hd)
      obtain ⟨v, hv⟩ : ∃ v, v = lebL d := ⟨_, rfl⟩
      rw [← hv] at HCd hy2 HS
      have st := S_size t
      have sv := S_size v
      have q3 : ¬ 9223372036854775807 < (S t).size + (S v).size := by omega
      clear hb hbel hcell hd hv ht htl st sv
      go_wp2_with (go_at_call 97; go_must ((with_reducible refine (HCd.out _).mono ?_); rintro e w3 ⟨rfl, hb⟩; have H3 := Lib.hid (bxEl_on HB.out hb); clear hb))
      go_roundw
      case rel => exact ⟨k + 1, by omega, by go_num, by rw [HS.out, ← List.append_assoc, ← HT.out, S_append], H3.out⟩
      case measure => simp [intOf]; omega
    · have hkn : k = x.fs.length := by omega
      have HTT := Lib.hid (show t = ((0 :: y) ++ z) ++ labsL x.fs by rw [HT.out, hkn, List.take_length])
      clear hb hbel ht htl
      go_wp2
      go_ret
      have e : t = P := HTT.out.trans HPP.out.symm
      subst e
      exact ⟨rfl, bxEl_bel HB.out⟩
set_option maxHeartbeats 2000000 in
/-- Same, of two that are alike and have no labels. -/
theorem rsame_el {w : World} {x : El} {A B : Option Addr} {c d : Nat} {F G : Option Addr} {f g : Nat} (hx : x.i.l = []) (hF : LiesL w F x.fs) (hG : LiesL w G x.fs) (hn : x.fs.length ≤ 100000) :
    Calls Tryd.prog 59 #[elV x A c F f, elV x B d G g] w (BoolPost true w) := by
  have H1 := Whole.made w 94 (elC x A c F f)
  have H2 := made_2 w (.cells (elC x A c F f) 94) 94 (elC x B d G g)
  have hb2 : Below w.heap.size w ((w.alloc (.cells (elC x A c F f) 94)).alloc (.cells (elC x B d G g) 94)) := (below_box w _).alloc (by simp) _
  have hS := refSame_any (w := (w.alloc (.cells (elC x A c F f) 94)).alloc (.cells (elC x B d G g) 94)) (A := A) (B := B) (c := c) (d := d) (i := x.i) (k := x.i) (by rw [hx]; intro j v hv; simp [cells32] at hv) (by rw [hx]; intro j v hv; simp [cells32] at hv) (by rw [hx]; simp) (by rw [hx]; simp)
  rw [same_self] at hS
  have HS := Lib.hid hS
  have HB := Lib.hid hb2
  have HX := Lib.hid (H1.alloc (.cells (elC x B d G g) 94))
  have HY := Lib.hid H2
  have HF := Lib.hid (hF.below hb2)
  have HG := Lib.hid (hG.below hb2)
  have dn : ((x.fs.length : Int) != x.fs.length) = false := by simp
  have dx : ∀ d : Int, (d != d) = false := fun d => by simp
  clear hS hb2 H1 H2 hx hF hG
  go_enter Tryd.func59, Tryd.ntmps59
  go_wp2_with (go_at_call 15; go_must ((with_reducible refine HS.out.mono ?_); rintro e w2 ⟨rfl, hb⟩; have HB2 := Lib.hid hb; clear hb))
  have HX2 := Lib.hid (HX.out.below HB2.out)
  have HY2 := Lib.hid (HY.out.below HB2.out)
  have HF2 := Lib.hid (HF.out.below HB2.out)
  have HG2 := Lib.hid (HG.out.below HB2.out)
  have x4 := HX2.out.cell 4
  have y4 := HY2.out.cell 4
  simp only [List.getElem?_toArray, List.getElem?_cons_zero, List.getElem?_cons_succ] at x4 y4
  go_loopw [5] (fun i wr => ∃ j q : Nat, j ≤ x.fs.length ∧ i = .int .i64 j ∧ wr = w2.drewN q) (fun i _ => x.fs.length - (intOf i).toNat)
  case atStart => exact ⟨0, 0, Nat.zero_le _, rfl, rfl⟩
  case round =>
    obtain ⟨j, q, hj, rfl, rfl⟩ := hrel
    by_cases hlt : j < x.fs.length
    · obtain ⟨v, hv⟩ : ∃ v, x.fs[j]? = some v := ⟨_, List.getElem?_eq_getElem hlt⟩
      obtain ⟨b1, o1, rfl, _, g1⟩ := HF2.out.at hv
      obtain ⟨b2, o2, rfl, _, g2⟩ := HG2.out.at hv
      have hc := dx v
      clear hv
      go_wp2_with fail
      go_region
      go_wp2
      go_roundw
      case measure => simp [intOf]; omega
      case rel => exact ⟨j + 1, q + 1, by omega, by go_num, rfl⟩
    · obtain rfl : j = x.fs.length := by omega
      go_wp2
      go_ret
      exact ⟨rfl, below_drewN (HB.out.trans (HB2.out.mono HB.out.size)) _⟩
end Go.Proofs.YtebgmfjgapmpfaaDoor

/- awake; the laws' closures; two lists side by side. -/
namespace Go.Proofs.YtebgmfjgapmpfaaDoor
open Go.RowKit
set_option linter.unusedVariables false
set_option maxRecDepth 100000

/-- The page's example: two functions, from 5 on. -/
def elEg : El := ⟨cEg, [1, 2]⟩
theorem elEg_put : eputL elEg = [0, 65, 5, 11, 2, 1, 2] := by
  unfold eputL cputL labL labsL
  show (0 :: (putL cEg ++ [11])) ++ (lebL (2 : Int) ++ [(1 : Int), 2].flatMap lebL) = _
  rw [cEg_put, List.flatMap_cons, List.flatMap_cons, List.flatMap_nil, lebL_sm 1 (by omega) (by omega), lebL_sm 2 (by omega) (by omega)]
  rfl
theorem elawake_any (w : World) (hT : Tabs w) : Calls Tryd.prog 51 #[] w fun e w' => e = .returned (.bool true) ∧ Below w.heap.size w w' := by
  have hb0 := below_box w (.cells #[.int .u32 1, .int .u32 2] 48)
  have hF : LiesL (w.alloc (.cells #[.int .u32 1, .int .u32 2] 48)) (some ⟨w.heap.size, 0, none⟩) elEg.fs := (show LabT _ (some ⟨w.heap.size, 0, none⟩) [1, 2] from .inr ⟨w.heap.size, _, rfl, Whole.made w 48 #[.int .u32 1, .int .u32 2], rfl⟩).lies
  have hp := put_el elEg none 0 (some ⟨w.heap.size, 0, none⟩) 2 _ cEg_ok (hT.below hb0) (by decide) hF (by decide) (by decide)
  obtain ⟨l, hl⟩ : ∃ l : List UInt8, l = [0, 65, 5, 11, 2, 1, 2] := ⟨_, rfl⟩
  have HP := Lib.hid (show Calls Tryd.prog 53 #[.agg #[.int .u8 65, .int .u64 5, .int .u64 0, .slice none 0 0, .slice (some ⟨w.heap.size, 0, none⟩) 2 2]] (w.alloc (.cells #[.int .u32 1, .int .u32 2] 48)) fun e w' => ∃ v, e = .returned (.tuple #[v, .int .i64 0]) ∧ Row w' (w.alloc (.cells #[.int .u32 1, .int .u32 2] 48)).heap.size v l ∧ Below (w.alloc (.cells #[.int .u32 1, .int .u32 2] 48)).heap.size (w.alloc (.cells #[.int .u32 1, .int .u32 2] 48)) w' from hp.mono fun e w' ⟨v, h1, h2, h3⟩ => ⟨v, by rw [show crightZ elEg.i = 0 from cEg_zero] at h1; exact h1, by rw [if_pos (show crightZ elEg.i = 0 from cEg_zero), elEg_put] at h2; rw [hl]; exact h2, h3⟩)
  have hcmp : ((S l).toList == [0, 65, 5, 11, 2, 1, 2]) = true := by rw [S_toList, hl]; rfl
  have HB0 := Lib.hid hb0
  clear hl
  clear hp hT hF hb0
  go_enter Tryd.func51, Tryd.ntmps51
  go_wp2_with (go_at_call 53; go_must ((with_reducible refine HP.out.mono ?_); intro e w1 h; obtain ⟨v, rfl, hr, hb⟩ := h; obtain ⟨A, c, rfl, hcv⟩ := hr.str; have hcv2 := hcv 9 Tryd.underlying9; have HB := Lib.hid (HB0.out.trans (hb.mono HB0.out.size)); clear hb hr hcv))
  go_ret
  exact ⟨rfl, HB.out⟩

theorem cfEl1 (cap : Array Value) (w : World) : (callFunc 56 cap).run Tryd.prog w = .ok (.enter 56 cap) w := by kernel_rfl
set_option maxHeartbeats 4000000 in
theorem closEl1 {w : World} {p b : Nat} {l : List UInt8} {k : Nat} {x : El} (hb : Whole w b 51 #[.pointer (some ⟨p, 0, none⟩)])
    (hG : ∀ W, Below w.heap.size w W → Calls Tryd.prog 57 #[.pointer (some ⟨p, 0, none⟩)] W (fun e w' => ∃ A2 c2 F2 f2, e = .returned (elV x A2 c2 F2 f2) ∧ Sc w' p l k ∧ W.grownBy w' (some p) ∧ LabT w' F2 x.fs ∧ ∀ a, F2 = some a → W.heap.size ≤ a.block)) (hp : p < w.heap.size) :
    Calls Tryd.prog 56 #[.pointer (some ⟨b, 0, none⟩)] w (fun e w' => ∃ A2 c2 F2 f2, e = .returned (elV x A2 c2 F2 f2) ∧ Sc w' p l k ∧ w.grownBy w' (some p) ∧ LabT w' F2 x.fs ∧ ∀ a, F2 = some a → w.heap.size ≤ a.block) := by
  have HGt := Lib.hid (hG _ (below_box w (.cells elZ 94)))
  have HWM := Lib.hid (Whole.made w 94 elZ)
  have hzz : w.heap.size ≤ (w.alloc (.cells elZ 94)).heap.size := (below_box w _).size
  have c0' : ∀ o, (w.alloc o).cell? ⟨b, 0, none⟩ = some (.pointer (some ⟨p, 0, none⟩)) := fun o => (hb.alloc o).cell 0
  clear hb hG
  go_enter Tryd.func56, Tryd.ntmps56
  go_wp2_with (go_at_call 57; go_must ((with_reducible refine HGt.out.mono ?_); rintro e w1 ⟨A2, c2, F2, f2, rfl, hs, hg, hlt, hlf⟩; have HS := Lib.hid hs; have HG := Lib.hid hg; have HLT := Lib.hid hlt; have HLF := Lib.hid (fun a ha => Nat.le_trans hzz (hlf a ha)); have HW1 := Lib.hid (HWM.out.grown hg (by simp only [ne_eq, Option.some.injEq]; omega)); have z0 := HW1.out.cell 0; have z1 := HW1.out.cell 1; have z2 := HW1.out.cell 2; have z3 := HW1.out.cell 3; have z4 := HW1.out.cell 4; simp only [List.getElem?_toArray, List.getElem?_cons_zero, List.getElem?_cons_succ] at z0 z1 z2 z3 z4; have f0 := HW1.out.frozen 0; have f1 := HW1.out.frozen 1; have f22 := HW1.out.frozen 2; have f3 := HW1.out.frozen 3; have f4 := HW1.out.frozen 4; clear hs hg hlt hlf))
  obtain ⟨h1, h2⟩ := put5 (u0 := .int .u8 x.i.op.toNat) (u1 := .int .u64 x.i.a) (u2 := .int .u64 x.i.b) (u3 := .slice A2 x.i.l.length c2) (u4 := .slice F2 x.fs.length f2) HW1.out
  obtain ⟨q0, q1, q2, q3, q4⟩ := Whole.el (x := x) h1
  exact bodyPost_ret (v := elV x A2 c2 F2 f2) (by simp [results, Tryd.results56, go_sem, q0, q1, q2, q3, q4]) rfl ⟨A2, c2, F2, f2, rfl, HS.out.grown h2 (by simp only [ne_eq, Option.some.injEq]; omega) (fun g e => by injection e with e; omega), gb_before (gb_trans (gb_alloc (gb_refl _ _) _) HG.out) h2 (fun g e => .inr (by injection e with e; omega)), HLT.out.keep h2 (HLT.out.apart HW1.out (by decide)), HLF.out⟩

/-- The five cells of a segment, by its parts. -/
abbrev FiveL (w : World) (b o : Nat) (g : El) (a f : Option Addr × Nat) : Prop := w.cell? ⟨b, o, none⟩ = some (.int .u8 g.i.op.toNat) ∧ w.cell? ⟨b, o + 1, none⟩ = some (.int .u64 g.i.a) ∧ w.cell? ⟨b, o + 2, none⟩ = some (.int .u64 g.i.b) ∧ w.cell? ⟨b, o + 3, none⟩ = some (.slice a.1 g.i.l.length a.2) ∧ w.cell? ⟨b, o + 4, none⟩ = some (.slice f.1 g.fs.length f.2)
/-- One of each of two lists, as a walk reads them; both lists. -/
abbrev TwoEl (w : World) (A A2 : Option Addr) (l l2 : List SlotEl) (b off b2 off2 k : Nat) (g : El) (a1 a2 c1 c2 : Option Addr × Nat) (W : World) : Prop :=
  (Below w.heap.size w W ∧ Es W A l ∧ Es W A2 l2) ∧ FiveL W b (off + k * 5) g a1 c1 ∧ FiveL W b2 (off2 + k * 5) g a2 c2
section
variable {w W W' : World} {A A2 : Option Addr} {l l2 : List SlotEl} {b off b2 off2 k : Nat} {g : El} {a1 a2 c1 c2 : Option Addr × Nat}
theorem twoEl_of (h1 : Below w.heap.size w W) (h2 : Es W A l) (h3 : Es W A2 l2) (hA : A = some ⟨b, off, none⟩) (hA2 : A2 = some ⟨b2, off2, none⟩) (hx : l[k]? = some (g, a1, c1)) (hy : l2[k]? = some (g, a2, c2)) : TwoEl w A A2 l l2 b off b2 off2 k g a1 a2 c1 c2 W := by
  obtain ⟨d1, o1, e1, _, p⟩ := h2.five hx
  obtain ⟨d2, o2, e2, _, q⟩ := h3.five hy
  rw [hA] at e1
  rw [hA2] at e2
  injection e1 with e1
  injection e2 with e2
  injection e1 with a1 a2
  injection e2 with a3 a4
  subst a1; subst a2; subst a3; subst a4
  exact ⟨⟨h1, h2, h3⟩, p, q⟩
theorem twoEl_on (h : TwoEl w A A2 l l2 b off b2 off2 k g a1 a2 c1 c2 W) (hA : A = some ⟨b, off, none⟩) (hA2 : A2 = some ⟨b2, off2, none⟩) (hx : l[k]? = some (g, a1, c1)) (hy : l2[k]? = some (g, a2, c2)) (hb : Below W.heap.size W W') : TwoEl w A A2 l l2 b off b2 off2 k g a1 a2 c1 c2 W' :=
  twoEl_of (h.1.1.trans (hb.mono h.1.1.size)) (h.1.2.1.below hb) (h.1.2.2.below hb) hA hA2 hx hy
/-- Both have one there, and these are alike. -/
theorem bothEl_at (hm : l.map (·.1) = l2.map (·.1)) (hk : k < l.length) : ∃ g a1 a2 c1 c2, l[k]? = some (g, a1, c1) ∧ l2[k]? = some (g, a2, c2) := by
  obtain ⟨⟨g, a1, c1⟩, hx⟩ : ∃ x, l[k]? = some x := ⟨_, List.getElem?_eq_getElem hk⟩
  have hk2 : k < l2.length := by have := congrArg List.length hm; rw [List.length_map, List.length_map] at this; omega
  obtain ⟨⟨g2, a2, c2⟩, hy⟩ : ∃ y, l2[k]? = some y := ⟨_, List.getElem?_eq_getElem hk2⟩
  have e := congrArg (fun l => l[k]?) hm
  simp only [List.getElem?_map, hx, hy, Option.map_some, Option.some.injEq] at e
  subst e
  exact ⟨g, a1, a2, c1, c2, hx, hy⟩
end
end Go.Proofs.YtebgmfjgapmpfaaDoor

/- A segment that was written is read. -/
namespace Go.Proofs.YtebgmfjgapmpfaaDoor
open Go.RowKit
set_option linter.unusedVariables false
set_option maxRecDepth 100000

theorem elR_at {l r : List UInt8} {k : Nat} {x : El} (oi : x.i.Ok) (h0 : crightZ x.i = 0) (hc : ∀ c ∈ x.fs, 0 ≤ c ∧ c ≤ 4294967295) (hn : x.fs.length ≤ 100) (h : l.drop k = eputL x ++ r) : elR l k = .ok x (k + (eputL x).length) := by
  have hd : l.drop k = 0 :: (cputL x.i ++ (labL x.fs ++ r)) := by rw [h]; unfold eputL; simp [List.append_assoc]
  have hd1 : l.drop (k + 1) = cputL x.i ++ (labL x.fs ++ r) := drop_past (a := [0]) hd
  have hd2 := drop_past hd1
  have hh : headR l k = .ok x.i (k + 1 + (cputL x.i).length) := by
    unfold headR noughtR
    rw [byteR_at hd, Res.bind_ok, if_pos rfl, Res.bind_ok, readR_at oi h0 hd1]
  unfold elR
  rw [hh, Res.bind_ok, labelsR_at hd2 (by omega) hc, Res.bind_ok]
  unfold eputL
  rw [List.length_append, List.length_cons]
  congr 1
  omega
theorem headR_nz {l : List UInt8} {k : Nat} {c a : Int} (h : headR l k = .err c a) : c ≠ 0 := by
  unfold headR at h
  exact bind_nz h (fun _ _ => noughtR_nz) (fun _ _ _ _ h => readR_err h)
theorem elR_nz {l : List UInt8} {k : Nat} {c a : Int} (h : elR l k = .err c a) : c ≠ 0 := by
  unfold elR at h
  exact bind_nz h (fun _ _ => headR_nz) (fun _ _ _ _ h => bind_nz h (fun _ _ => labelsR_nz) (fun _ _ _ _ h => by cases h))
/-- What was read has no labels, and no more than 10000 functions. -/
theorem elR_nil {l : List UInt8} {k : Nat} {x : El} {k' : Nat} (h : elR l k = .ok x k') : x.i.l = [] ∧ x.fs.length ≤ 100000 := by
  unfold elR at h
  cases hh : headR l k with
  | err c a => rw [hh, Res.bind_err] at h; cases h
  | ok i k1 =>
    rw [hh, Res.bind_ok] at h
    cases hl : labelsR l k1 with
    | err c a => rw [hl, Res.bind_err] at h; cases h
    | ok fs k2 =>
      rw [hl, Res.bind_ok] at h
      injection h with h1 h2
      subst h1
      have hn := (labelsR_ok hl).2.1
      refine ⟨?_, by show fs.length ≤ _; omega⟩
      unfold headR at hh
      cases hr : noughtR l k with
      | err c a => rw [hr, Res.bind_err] at hh; cases hh
      | ok u k3 =>
        rw [hr, Res.bind_ok] at hh
        exact readR_nil hh
end Go.Proofs.YtebgmfjgapmpfaaDoor

/- The walk of ElemsPuts. -/
namespace Go.Proofs.YtebgmfjgapmpfaaDoor
open Go.RowKit
set_option linter.unusedVariables false
set_option maxRecDepth 100000

/-- What the law keeps: the box of its input, the bytes, the scanner's cell. -/
structure PKEl (w : World) (x : El) (A : Option Addr) (c : Nat) (F : Option Addr) (f : Nat) (p : Nat) (B : Nat) (Ab : Option Addr) (y : List UInt8) (b6 : Nat) (W : World) : Prop where
  bx : Whole W w.heap.size 94 (elC x A c F f)
  ly : Lies W B Ab (cells (nums y))
  pt : Whole W b6 51 #[.pointer (some ⟨p, 0, none⟩)]
  bel : Below w.heap.size w W
  o1 : w.heap.size < p
  o2 : B ≤ p
  o3 : p < b6
  o4 : B ≤ W.heap.size
  lf : Lies W w.heap.size F (cells32 x.fs)
section
variable {w W W' : World} {x : El} {A : Option Addr} {c : Nat} {F : Option Addr} {f : Nat} {p B b6 k k' q : Nat} {l : List UInt8} {Ab : Option Addr} {y : List UInt8}
theorem PKEl.grown (h : PKEl w x A c F f p B Ab y b6 W) (hg : W.grownBy W' (some q)) (h1 : p ≤ q) (h2 : b6 ≠ q) : PKEl w x A c F f p B Ab y b6 W' := by
  obtain ⟨a1, a2, a3, a4, a5, a6, a7, a8, a9⟩ := h
  exact ⟨a1.grown hg (by simp only [ne_eq, Option.some.injEq]; omega), a2.grown hg a8 (fun g e => by injection e with e; omega), a3.grown hg (by simp only [ne_eq, Option.some.injEq]; omega), below_new a4 hg (by omega), a5, a6, a7, Nat.le_trans a8 hg.size, a9.grown hg a4.size (fun g e => by injection e with e; omega)⟩
theorem PKEl.below (h : PKEl w x A c F f p B Ab y b6 W) (hb : Below W.heap.size W W') : PKEl w x A c F f p B Ab y b6 W' := by
  obtain ⟨a1, a2, a3, a4, a5, a6, a7, a8, a9⟩ := h
  exact ⟨a1.below hb, a2.below hb a8, a3.below hb, a4.trans (hb.mono a4.size), a5, a6, a7, Nat.le_trans a8 hb.size, a9.below hb a4.size⟩
theorem PKEl.funs (h : PKEl w x A c F f p B Ab y b6 W) : LiesL W F x.fs := h.lf.more h.bel.size
/-- At the law's end. -/
structure PEEl (w : World) (x : El) (A : Option Addr) (c : Nat) (F : Option Addr) (f : Nat) (A2 : Option Addr) (c2 : Nat) (F2 : Option Addr) (f2 : Nat) (p : Nat) (B : Nat) (Ab : Option Addr) (y : List UInt8) (b6 g : Nat) (l : List UInt8) (k : Nat) (W : World) : Prop where
  a : PKEl w x A c F f p B Ab y b6 W
  sc : Sc W p l k
  yb : Whole W g 94 (elC x A2 c2 F2 f2)
  st : Whole W (g + 1) 35 #[.int .i64 0, .int .i64 0]
  ylf : LiesL W F2 x.fs
theorem PEEl.below {g c2 f2 : Nat} {A2 F2 : Option Addr} (h : PEEl w x A c F f A2 c2 F2 f2 p B Ab y b6 g l k W) (hb : Below W.heap.size W W') : PEEl w x A c F f A2 c2 F2 f2 p B Ab y b6 g l k W' := ⟨h.a.below hb, h.sc.below hb, h.yb.below hb, h.st.below hb, h.ylf.below hb⟩
/-- .. and what it reads as. -/
abbrev PEElc (w : World) (x : El) (A : Option Addr) (c : Nat) (F : Option Addr) (f : Nat) (A2 : Option Addr) (c2 : Nat) (F2 : Option Addr) (f2 : Nat) (p : Nat) (B : Nat) (Ab : Option Addr) (cb : Nat) (y : List UInt8) (b6 g : Nat) (l : List UInt8) (k : Nat) (W : World) : Prop := PEEl w x A c F f A2 c2 F2 f2 p B Ab y b6 g l k W ∧
  FiveE W w.heap.size x A c F f ∧ FiveE W g x A2 c2 F2 f2 ∧
  W.cell? ⟨g + 1, 0, none⟩ = some (.int .i64 0) ∧ W.cell? ⟨b6, 0, none⟩ = some (.pointer (some ⟨p, 0, none⟩)) ∧ (convert 26 9 (.slice Ab y.length cb)).run Tryd.prog W = .ok (.string (S y)) W
theorem PEEl.all {g c2 f2 : Nat} {A2 F2 : Option Addr} (h : PEEl w x A c F f A2 c2 F2 f2 p B Ab y b6 g l k W) (cb : Nat) : PEElc w x A c F f A2 c2 F2 f2 p B Ab cb y b6 g l k W :=
  ⟨h, h.a.bx.el, h.yb.el, h.st.cell 0, h.a.pt.cell 0, str_any h.a.ly cb 9 Tryd.underlying9⟩
end
/-- The boxed input and the tables. -/
structure PStEl (w : World) (x : El) (A : Option Addr) (c : Nat) (F : Option Addr) (f : Nat) (W : World) : Prop where
  tb : Tabs W
  bx : BxEl w w.heap.size x A c F f W
theorem PStEl.on {w W W' : World} {x : El} {A : Option Addr} {c : Nat} {F : Option Addr} {f : Nat} (h : PStEl w x A c F f W) (hb : Below W.heap.size W W') : PStEl w x A c F f W' := ⟨h.tb.below hb, bxEl_on h.bx hb⟩
set_option maxHeartbeats 8000000 in
theorem lawElP {w : World} {x : El} {A : Option Addr} {c : Nat} {F : Option Addr} {f : Nat} (hT : Tabs w) (oi : x.i.Ok) (ni : (x.i.l.length : Int) ≤ 9223372036854775807) (hF : LiesL w F x.fs) (hc : ∀ c ∈ x.fs, 0 ≤ c ∧ c ≤ 4294967295) :
    Calls Tryd.prog 9 #[elV x A c F f] w fun e w' => e = .returned (.bool true) ∧ Below w.heap.size w w' := by
  have HTw := Lib.hid hT
  have h0 : PStEl w x A c F f (w.alloc (.cells (elC x A c F f) 94)) := ⟨hT.below (below_box _ _), bxEl_start w x A c F f⟩
  have HAW := Lib.hid (elawake_any _ h0.tb)
  have H0 := Lib.hid h0
  clear h0 hT
  by_cases g0 : 100 < x.fs.length
  · have t4 : decide ((100 : Int) < (x.fs.length : Int)) = true := decide_eq_true (by omega)
    clear g0
    go_enter Tryd.func9, Tryd.ntmps9
    go_wp2_with (go_at_call 51; go_must ((with_reducible refine HAW.out.mono ?_); rintro e w1 ⟨rfl, hb⟩; have H1 := Lib.hid (H0.out.on hb); obtain ⟨c0, c1, c2, c3, c4⟩ := H1.out.bx.1.1.el; clear hb))
    go_ret
    exact ⟨rfl, bxEl_bel H1.out.bx⟩
  have t4 : decide ((100 : Int) < (x.fs.length : Int)) = false := decide_eq_false (by omega)
  have hn : x.fs.length ≤ 100 := by omega
  clear g0
  by_cases g2 : 100 < x.i.l.length
  · have t2 : decide ((100 : Int) < (x.i.l.length : Int)) = true := decide_eq_true (by omega)
    clear g2
    go_enter Tryd.func9, Tryd.ntmps9
    go_wp2_with (go_at_call 51; go_must ((with_reducible refine HAW.out.mono ?_); rintro e w1 ⟨rfl, hb⟩; have H1 := Lib.hid (H0.out.on hb); obtain ⟨c0, c1, c2, c3, c4⟩ := H1.out.bx.1.1.el; clear hb))
    go_ret
    exact ⟨rfl, bxEl_bel H1.out.bx⟩
  have t2 : decide ((100 : Int) < (x.i.l.length : Int)) = false := decide_eq_false (by omega)
  have HRR := Lib.hid (fun W => relright_any x A c F f W oi ni)
  have HIR := Lib.hid (fun W (h : Tabs W) => elright_any x A c F f W oi h ni (by omega))
  have HPU := Lib.hid (fun W (h : Tabs W) (hb : Below w.heap.size w W) => put_el x A c F f W oi h ni (hF.below hb) hc hn)
  unfold PuttedEl at HPU
  by_cases hz : crightZ x.i = 0
  · rw [if_pos hz] at HPU
    have HRP := Lib.hid (fun W (hf : LiesL W F x.fs) => relput_any x A c F f W oi hz hf hc hn)
    have hlen := eputL_len oi hz hc hn
    have HGT := Lib.hid (fun W p l r k (h : Sc W p l k) (hT : TbP p W) (hd : l.drop k = eputL x ++ r) => show Calls Tryd.prog 57 #[.pointer (some ⟨p, 0, none⟩)] W (fun e w' => ∃ A2 c2 F2 f2, e = .returned (elV x A2 c2 F2 f2) ∧ Sc w' p l (k + (eputL x).length) ∧ W.grownBy w' (some p) ∧ LabT w' F2 x.fs ∧ ∀ a, F2 = some a → W.heap.size ≤ a.block) from by have := get_el h hT; rw [elR_at oi hz hc hn hd] at this; exact this)
    have hnil := cz_nil hz
    rw [hz] at HRR HIR HPU
    obtain ⟨y, hy⟩ : ∃ y, y = eputL x := ⟨_, rfl⟩
    rw [← hy] at HPU HRP hlen HGT
    have hl7 : (([] ++ y) ++ [7]).length ≤ 1000000 := by simp only [List.length_append, List.length_singleton, List.length_nil]; omega
    have hl7' : ([] ++ y : List UInt8).length + ([7] : List UInt8).length ≤ 1000000 := by simp only [List.length_append, List.length_singleton, List.length_nil]; omega
    have hl0 : ([] : List UInt8).length + y.length ≤ 1000000 := by simp only [List.length_nil]; omega
    have HD := Lib.hid (show (([] ++ y) ++ [7] : List UInt8).drop 0 = y ++ [7] from by simp)
    have HLf := Lib.hid (fun W p (h : Sc W p (([] ++ y) ++ [7]) y.length) => by
      have h2 := left_any h
      have e : (((([] ++ y) ++ [7] : List UInt8).length : Int) - (y.length : Int)) = 1 := by simp only [List.length_append, List.length_singleton, List.length_nil]; omega
      rw [e] at h2
      exact h2)
    have HSm := Lib.hid (fun W (A2 : Option Addr) (c2 : Nat) (F2 : Option Addr) (f2 : Nat) (h1 : LiesL W F2 x.fs) (h2 : LiesL W F x.fs) => rsame_el (w := W) (x := x) (A := A2) (B := A) (c := c2) (d := c) (F := F2) (G := F) (f := f2) (g := f) hnil h1 h2 (by omega))
    obtain ⟨L, hL⟩ : ∃ L, L = (([] ++ y) ++ [7] : List UInt8) := ⟨_, rfl⟩
    rw [← hL] at hl7 HD HLf
    have HLd := Lib.hid hL
    clear hL
    have HFF := Lib.hid hF
    clear hz hy g2 hnil oi ni hF hc hn
    go_enter Tryd.func9, Tryd.ntmps9
    go_upto_region 11 with (first
      | (go_at_call 51; go_must ((with_reducible refine HAW.out.mono ?_); rintro e w1 ⟨rfl, hb⟩; have H1 := Lib.hid (H0.out.on hb); obtain ⟨c0, c1, c2, c3, c4⟩ := H1.out.bx.1.1.el; clear hb))
      | (go_at_call 52; go_must ((with_reducible refine (HRR.out _).mono ?_); rintro e w2 ⟨rfl, hb⟩; clear c0 c1 c2 c3 c4; have H2 := Lib.hid (H1.out.on hb); obtain ⟨c0, c1, c2, c3, c4⟩ := H2.out.bx.1.1.el; clear hb))
      | (go_at_call 53; go_must ((with_reducible refine (HPU.out _ H2.out.tb (bxEl_bel H2.out.bx)).mono ?_); intro e w3 hq; obtain ⟨v, rfl, hr, hb⟩ := hq; obtain ⟨Ab, cb, rfl, hpc⟩ := hr.pc; clear c0 c1 c2 c3 c4; have H3 := Lib.hid (H2.out.on hb); have HP3 := Lib.hid hpc; obtain ⟨c0, c1, c2, c3, c4⟩ := H3.out.bx.1.1.el; clear hb hr hpc))
      | (go_at_call 54; go_must ((with_reducible refine (HIR.out _ H3.out.tb).mono ?_); rintro e w4 ⟨rfl, hb⟩; clear c0 c1 c2 c3 c4; have H4 := Lib.hid (H3.out.on hb); have HP4 := Lib.hid (HP3.out.below hb); clear hb)))
    have R0 := Lib.hid (Row.made w4 [] w4.heap.size w4.heap.size rfl (Nat.le_refl _) (by simp))
    have HP4' := Lib.hid (HP4.out.below (below_box w4 (.cells #[] 5)))
    have hB4 : w4.heap.size ≤ (w4.alloc (.cells #[] 5)).heap.size := (below_box w4 _).size
    go_upto_region 12 with (first
      | (go_at_call 29; go_must ((with_reducible refine (over_any HP6.out.lies HP6.out.nil hl7).mono ?_); intro e w7 hq; obtain ⟨p, rfl, hpp, hs, hb⟩ := hq; have HS7 := Lib.hid hs; have HB7 := Lib.hid (HB6.out.trans (hb.mono HB6.out.size)); have HB67 := Lib.hid hb; clear hs hb))
      | (have tok := HR5; at_builtin; go_must (refine row_any rfl _ _ rfl w4.heap.size _ ([] ++ y) rfl (HR5.out.later (below_box w5 (.cells #[.int .u8 7] 5))) (some ⟨w5.heap.size, 0, none⟩) 1 1 _ [7] rfl rfl (lies_made w5 [7] (0, 0)) (fun e => by cases e) hl7' (Nat.le_trans HB5.out.size (below_box w5 _).size) ?_; intro v6 w6 hr6 hb6; rw [← HLd.out] at hr6; obtain ⟨A6, c6', rfl, hpc6⟩ := hr6.pc; have HB6 := Lib.hid ((HB5.out.trans ((below_box w5 (.cells #[.int .u8 7] 5)).mono HB5.out.size)).trans hb6); have HP6 := Lib.hid hpc6; clear hr6 hb6 hpc6))
      | (at_builtin; go_must (refine row_any rfl _ _ rfl w4.heap.size _ [] rfl R0.out Ab y.length cb _ y rfl rfl HP4'.out.lies HP4'.out.nil hl0 hB4 ?_; intro v5 w5 hr5 hb5; have HR5 := Lib.hid hr5; have HB5 := Lib.hid ((below_box w4 (.cells #[] 5)).trans hb5); clear hr5 hb5)))
    have hx4 := H4.out.bx.1.1.lt
    have h46 := HB6.out.size
    have h7p := HS7.out.lt
    have hpk : PKEl w x A c F f p w6.heap.size Ab y w7.heap.size (w7.alloc (.cells #[.pointer (some ⟨p, 0, none⟩)] 51)) :=
      ⟨((H4.out.bx.1.1.below HB7.out).alloc _), ((HP4.out.below HB6.out).lies.below (HB67.out.trans ((below_box w7 _).mono HB67.out.size)) (Nat.le_refl _)), Whole.made _ _ _,
        (bxEl_bel H4.out.bx).trans ((HB7.out.trans ((below_box w7 _).mono HB7.out.size)).mono (bxEl_bel H4.out.bx).size), by omega, hpp, h7p, Nat.le_trans HB67.out.size (below_box w7 _).size, Lies.below HFF.out ((bxEl_bel H4.out.bx).trans ((HB7.out.trans ((below_box w7 _).mono HB7.out.size)).mono (bxEl_bel H4.out.bx).size)) (Nat.le_refl _)⟩
    have HPK := Lib.hid hpk
    have HS8 := Lib.hid (HS7.out.alloc (.cells #[.pointer (some ⟨p, 0, none⟩)] 51))
    have hb6 : w7.heap.size < (w7.alloc (.cells #[.pointer (some ⟨p, 0, none⟩)] 51)).heap.size := hpk.pt.lt
    clear R0 HP4' HR5 H1 H2 H3 HP3 HB5 HB6 HP6 HAW H0 HRR HIR HPU HP4 H4 HB7 HB67 HS7 hpk hl7 hl7' hl0 hB4
    generalize w7.alloc (.cells #[.pointer (some ⟨p, 0, none⟩)] 51) = W8 at *
    generalize w7.heap.size = b6 at *
    have HV := Lib.hid (valueEl_ok (T := fun q W => q.1 = x ∧ (LabT W q.2.2.1 x.fs ∧ ∀ a, q.2.2.1 = some a → W8.heap.size + 5 ≤ a.block) ∧ PKEl w x A c F f p w6.heap.size Ab y b6 W ∧ Sc W p L y.length) (cfEl1 #[.pointer (some ⟨b6, 0, none⟩)]) (q := p) (w := W8) (by omega)
      (fun q W W' b h1 h2 h3 hg => ⟨h3.1, ⟨h3.2.1.1.keep hg (fun a ha => by have := h3.2.1.2 a ha; simp only [ne_eq, Option.some.injEq]; omega), h3.2.1.2⟩, h3.2.2.1.grown hg (by omega) (by omega), h3.2.2.2.grown hg (by simp only [ne_eq, Option.some.injEq]; omega) (fun g e => by injection e with e; omega)⟩)
      (fun W hb hsz => by
        have hW := HPK.out.below hb
        have hS := HS8.out.below hb
        refine (closEl1 (x := x) (l := L) (k := y.length) hW.pt (fun W2 hb2 => ?_) hS.lt).mono ?_
        · have h2 := HGT.out W2 p L [7] 0 (hS.below hb2) (show TbP p W2 from ⟨w, HTw.out, Nat.le_of_lt hW.o1, (hW.below hb2).bel⟩) HD.out
          rw [Nat.zero_add] at h2
          exact h2
        · rintro e w' ⟨A2, c2, F2, f2, rfl, hs, hg, hlt, hlf⟩
          exact ⟨(x, (A2, c2), (F2, f2)), rfl, ⟨rfl, ⟨hlt, fun a ha => Nat.le_trans hsz (hlf a ha)⟩, hW.grown hg (Nat.le_refl _) (by omega), hs⟩, hg⟩))
    clear HGT HTw
    go_upto_region 13 with (go_at_call 55; go_must ((with_reducible refine HV.out.mono ?_); rintro e w9 ⟨⟨q, ⟨A2, c2⟩, ⟨F2, f2⟩⟩, rfl, ⟨hqx, hlq, hpk, hs⟩, hg⟩; obtain rfl : q = x := hqx; have HPE := Lib.hid (show PEEl w q A c F f A2 c2 F2 f2 p w6.heap.size Ab y b6 w9.heap.size L y.length ((w9.alloc (.cells (elC q A2 c2 F2 f2) 94)).alloc (.cells #[.int .i64 0, .int .i64 0] 35)) from ⟨(hpk.below (below_box _ _)).below (below_box _ _), (hs.alloc _).alloc _, (Whole.made _ _ _).alloc _, (made_2 w9 _ _ _), ((hlq.1.on (below_box _ _)).on (below_box _ _)).lies⟩); clear hpk hs hg hlq))
    generalize (w9.alloc (.cells (elC q A2 c2 F2 f2) 94)).alloc (.cells #[.int .i64 0, .int .i64 0] 35) = W9 at *
    refine wp_region_noPanic ?_
    refine wp_region_held_drew (S := fun W => PEElc w q A c F f A2 c2 F2 f2 p w6.heap.size Ab cb y b6 w9.heap.size L y.length W) (by kernel_rfl) ((HPE.out.below (Below.refl _ _).drew).all cb) (fun hHeld => ?_)
    (refine heldTake (i := 0) (oi := { dst := some 54, op := Op.move (Operand.tmp 4), type := 26, pos := "law.go:38", after := #[], guard := none }) (v := ?_) rfl (by kernel_rfl) (by kernel_rfl) (by kernel_rfl) (by assumption) ?_ ?_; rotate_left; focus (refine .inl ⟨by kernel_rfl, ?_⟩; intro w hSw; (try dsimp only at hSw); go_simp; (try with_reducible rfl)); (try simp only [Act.put, List.setIfInBounds_toArray, List.set_cons_zero, List.set_cons_succ]))
    (refine heldTake (i := 1) (oi := { dst := some 55, op := Op.convert 26 9 (Operand.tmp 54), type := 9, pos := "law.go:38", after := #[{ on := 0, ground := Ground.data }], guard := none }) (v := ?_) rfl (by kernel_rfl) (by kernel_rfl) (by kernel_rfl) (by assumption) ?_ ?_; rotate_left; focus (refine .inl ⟨by kernel_rfl, ?_⟩; intro w hSw; (try dsimp only at hSw); go_simp; (try with_reducible rfl)); (try simp only [Act.put, List.setIfInBounds_toArray, List.set_cons_zero, List.set_cons_succ]))
    (refine heldTake (i := 2) (oi := { dst := some 56, op := Op.load 94 (Operand.tmp 1), type := 94, pos := "law.go:38", after := #[], guard := none }) (v := ?_) rfl (by kernel_rfl) (by kernel_rfl) (by kernel_rfl) (by assumption) ?_ ?_; rotate_left; focus (refine .inl ⟨by kernel_rfl, ?_⟩; intro w hSw; (try dsimp only at hSw); go_simp; (try with_reducible rfl)); (try simp only [Act.put, List.setIfInBounds_toArray, List.set_cons_zero, List.set_cons_succ]))
    refine wpAnyH_ready (rs := [3]) (by kernel_rfl) (by simp) ?_
    refine AllReadyH.cons (o := { dst := some 57, op := Op.call { callee := Callee.value (Operand.func 58), args := #[Operand.tmp 56], argTypes := #[94] }, type := 9, pos := "law.go:38", after := #[{ on := 2, ground := Ground.data }], guard := none }) rfl (fun K hK => ?_) AllReadyH.nil
    go_simp
    (go_at_call 58; (with_reducible refine (HRP.out _ (And.left hHeld).a.funs).mono ?_); rintro e w10 ⟨rfl, hb⟩; have hk10 := (PEEl.below (And.left hHeld) hb).all cb; clear hb)
    refine hK.out _ _ hk10 (fun hHeld3 => ?_)
    clear hK K hHeld
    (try simp only [Act.put, List.setIfInBounds_toArray, List.set_cons_zero, List.set_cons_succ])
    (refine heldTake (i := 4) (oi := { dst := some 58, op := Op.binOp BinOp.eql 9 (Operand.tmp 55) (Operand.tmp 57) 9, type := 4, pos := "law.go:38", after := #[{ on := 1, ground := Ground.data }, { on := 3, ground := Ground.data }], guard := none }) (v := ?_) rfl (by kernel_rfl) (by kernel_rfl) (by kernel_rfl) (by assumption) ?_ ?_; rotate_left; focus (refine .inl ⟨by kernel_rfl, ?_⟩; intro w hSw; (try dsimp only at hSw); go_simp; (try with_reducible rfl)); (try simp only [Act.put, List.setIfInBounds_toArray, List.set_cons_zero, List.set_cons_succ]))
    (refine heldTake (i := 5) (oi := { dst := some 59, op := Op.move (Operand.tmp 58), type := 4, pos := "law.go:38", after := #[{ on := 4, ground := Ground.data }, { on := 3, ground := Ground.chain }], guard := none }) (v := ?_) rfl (by kernel_rfl) (by kernel_rfl) (by kernel_rfl) (by assumption) ?_ ?_; rotate_left; focus (refine .inl ⟨by kernel_rfl, ?_⟩; intro w hSw; (try dsimp only at hSw); go_simp; (try with_reducible rfl)); (try simp only [Act.put, List.setIfInBounds_toArray, List.set_cons_zero, List.set_cons_succ]))
    (refine heldTake (i := 6) (oi := { dst := some 60, op := Op.fieldAddr 35 (Operand.tmp 8) 0, type := 0, pos := "law.go:38", after := #[{ on := 5, ground := Ground.guard }], guard := some (5, true) }) (v := ?_) rfl (by kernel_rfl) (by kernel_rfl) (by kernel_rfl) (by assumption) ?_ ?_; rotate_left; focus (refine .inl ⟨by kernel_rfl, ?_⟩; intro w hSw; (try dsimp only at hSw); go_simp; (try with_reducible rfl)); (try simp only [Act.put, List.setIfInBounds_toArray, List.set_cons_zero, List.set_cons_succ]))
    (refine heldTake (i := 7) (oi := { dst := some 61, op := Op.load 29 (Operand.tmp 60), type := 29, pos := "law.go:38", after := #[{ on := 6, ground := Ground.data }, { on := 5, ground := Ground.guard }], guard := some (5, true) }) (v := ?_) rfl (by kernel_rfl) (by kernel_rfl) (by kernel_rfl) (by assumption) ?_ ?_; rotate_left; focus (refine .inl ⟨by kernel_rfl, ?_⟩; intro w hSw; (try dsimp only at hSw); go_simp; (try with_reducible rfl)); (try simp only [Act.put, List.setIfInBounds_toArray, List.set_cons_zero, List.set_cons_succ]))
    (refine heldTake (i := 8) (oi := { dst := some 62, op := Op.binOp BinOp.eql 29 (Operand.tmp 61) (Operand.const (Value.int IntKind.i64 0)) 29, type := 4, pos := "law.go:38", after := #[{ on := 7, ground := Ground.data }, { on := 5, ground := Ground.guard }], guard := some (5, true) }) (v := ?_) rfl (by kernel_rfl) (by kernel_rfl) (by kernel_rfl) (by assumption) ?_ ?_; rotate_left; focus (refine .inl ⟨by kernel_rfl, ?_⟩; intro w hSw; (try dsimp only at hSw); go_simp; (try with_reducible rfl)); (try simp only [Act.put, List.setIfInBounds_toArray, List.set_cons_zero, List.set_cons_succ]))
    (refine heldTake (i := 9) (oi := { dst := some 63, op := Op.pick (Operand.tmp 59) (Operand.tmp 62) (Operand.const (Value.bool false)), type := 4, pos := "law.go:38", after := #[{ on := 5, ground := Ground.data }, { on := 8, ground := Ground.data }], guard := none }) (v := ?_) rfl (by kernel_rfl) (by kernel_rfl) (by kernel_rfl) (by assumption) ?_ ?_; rotate_left; focus (refine .inl ⟨by kernel_rfl, ?_⟩; intro w hSw; (try dsimp only at hSw); go_simp; (try with_reducible rfl)); (try simp only [Act.put, List.setIfInBounds_toArray, List.set_cons_zero, List.set_cons_succ]))
    (refine heldTake (i := 10) (oi := { dst := some 64, op := Op.move (Operand.tmp 63), type := 4, pos := "law.go:38", after := #[{ on := 9, ground := Ground.data }, { on := 5, ground := Ground.chain }], guard := none }) (v := ?_) rfl (by kernel_rfl) (by kernel_rfl) (by kernel_rfl) (by assumption) ?_ ?_; rotate_left; focus (refine .inl ⟨by kernel_rfl, ?_⟩; intro w hSw; (try dsimp only at hSw); go_simp; (try with_reducible rfl)); (try simp only [Act.put, List.setIfInBounds_toArray, List.set_cons_zero, List.set_cons_succ]))
    (refine heldTake (i := 11) (oi := { dst := some 65, op := Op.load 94 (Operand.tmp 7), type := 94, pos := "law.go:38", after := #[{ on := 10, ground := Ground.guard }], guard := some (10, true) }) (v := ?_) rfl (by kernel_rfl) (by kernel_rfl) (by kernel_rfl) (by assumption) ?_ ?_; rotate_left; focus (refine .inl ⟨by kernel_rfl, ?_⟩; intro w hSw; (try dsimp only at hSw); go_simp; (try with_reducible rfl)); (try simp only [Act.put, List.setIfInBounds_toArray, List.set_cons_zero, List.set_cons_succ]))
    (refine heldTake (i := 12) (oi := { dst := some 66, op := Op.load 94 (Operand.tmp 1), type := 94, pos := "law.go:38", after := #[{ on := 10, ground := Ground.guard }], guard := some (10, true) }) (v := ?_) rfl (by kernel_rfl) (by kernel_rfl) (by kernel_rfl) (by assumption) ?_ ?_; rotate_left; focus (refine .inl ⟨by kernel_rfl, ?_⟩; intro w hSw; (try dsimp only at hSw); go_simp; (try with_reducible rfl)); (try simp only [Act.put, List.setIfInBounds_toArray, List.set_cons_zero, List.set_cons_succ]))
    refine wpAnyH_ready (rs := [13]) (by kernel_rfl) (by simp) ?_
    refine AllReadyH.cons (o := { dst := some 67, op := Op.call { callee := Callee.value (Operand.func 59), args := #[Operand.tmp 65, Operand.tmp 66], argTypes := #[94, 94] }, type := 4, pos := "law.go:38", after := #[{ on := 11, ground := Ground.data }, { on := 12, ground := Ground.data }, { on := 10, ground := Ground.chain }, { on := 10, ground := Ground.guard }], guard := some (10, true) }) rfl (fun K hK => ?_) AllReadyH.nil
    go_simp
    (go_at_call 59; (with_reducible refine (HSm.out _ _ _ _ _ (And.left hHeld3).ylf (And.left hHeld3).a.funs).mono ?_); rintro e w11 ⟨rfl, hb⟩; have hk11 := (PEEl.below (And.left hHeld3) hb).all cb; clear hb)
    refine hK.out _ _ hk11 (fun hHeld13 => ?_)
    clear hK K hHeld3
    (try simp only [Act.put, List.setIfInBounds_toArray, List.set_cons_zero, List.set_cons_succ])
    (refine heldTake (i := 14) (oi := { dst := some 68, op := Op.pick (Operand.tmp 64) (Operand.tmp 67) (Operand.const (Value.bool false)), type := 4, pos := "law.go:38", after := #[{ on := 10, ground := Ground.data }, { on := 13, ground := Ground.data }], guard := none }) (v := ?_) rfl (by kernel_rfl) (by kernel_rfl) (by kernel_rfl) (by assumption) ?_ ?_; rotate_left; focus (refine .inl ⟨by kernel_rfl, ?_⟩; intro w hSw; (try dsimp only at hSw); go_simp; (try with_reducible rfl)); (try simp only [Act.put, List.setIfInBounds_toArray, List.set_cons_zero, List.set_cons_succ]))
    (refine heldTake (i := 15) (oi := { dst := some 69, op := Op.move (Operand.tmp 68), type := 4, pos := "law.go:38", after := #[{ on := 14, ground := Ground.data }, { on := 13, ground := Ground.chain }], guard := none }) (v := ?_) rfl (by kernel_rfl) (by kernel_rfl) (by kernel_rfl) (by assumption) ?_ ?_; rotate_left; focus (refine .inl ⟨by kernel_rfl, ?_⟩; intro w hSw; (try dsimp only at hSw); go_simp; (try with_reducible rfl)); (try simp only [Act.put, List.setIfInBounds_toArray, List.set_cons_zero, List.set_cons_succ]))
    (refine heldTake (i := 16) (oi := { dst := some 70, op := Op.load 51 (Operand.tmp 6), type := 51, pos := "law.go:38", after := #[{ on := 15, ground := Ground.guard }], guard := some (15, true) }) (v := ?_) rfl (by kernel_rfl) (by kernel_rfl) (by kernel_rfl) (by assumption) ?_ ?_; rotate_left; focus (refine .inl ⟨by kernel_rfl, ?_⟩; intro w hSw; (try dsimp only at hSw); go_simp; (try with_reducible rfl)); (try simp only [Act.put, List.setIfInBounds_toArray, List.set_cons_zero, List.set_cons_succ]))
    refine wpAnyH_ready (rs := [17]) (by kernel_rfl) (by simp) ?_
    refine AllReadyH.cons (o := { dst := some 71, op := Op.call { callee := Callee.value (Operand.func 50), args := #[Operand.tmp 70], argTypes := #[51] }, type := 3, pos := "law.go:38", after := #[{ on := 16, ground := Ground.data }, { on := 15, ground := Ground.chain }, { on := 15, ground := Ground.guard }], guard := some (15, true) }) rfl (fun K hK => ?_) AllReadyH.nil
    go_simp
    (go_at_call 50; (with_reducible refine (HLf.out _ p (And.left hHeld13).sc).mono ?_); rintro e w12 ⟨rfl, m, rfl⟩; have hk12 := (PEEl.below (And.left hHeld13) (below_drewN (Below.refl _ _) m)).all cb)
    refine hK.out _ _ hk12 (fun hHeld17 => ?_)
    clear hK K hHeld13
    (try simp only [Act.put, List.setIfInBounds_toArray, List.set_cons_zero, List.set_cons_succ])
    (refine heldTake (i := 18) (oi := { dst := some 72, op := Op.binOp BinOp.eql 3 (Operand.tmp 71) (Operand.const (Value.int IntKind.i64 1)) 3, type := 4, pos := "law.go:38", after := #[{ on := 17, ground := Ground.data }, { on := 15, ground := Ground.guard }], guard := some (15, true) }) (v := ?_) rfl (by kernel_rfl) (by kernel_rfl) (by kernel_rfl) (by assumption) ?_ ?_; rotate_left; focus (refine .inl ⟨by kernel_rfl, ?_⟩; intro w hSw; (try dsimp only at hSw); go_simp; (try with_reducible rfl)); (try simp only [Act.put, List.setIfInBounds_toArray, List.set_cons_zero, List.set_cons_succ]))
    (refine heldTake (i := 19) (oi := { dst := some 73, op := Op.pick (Operand.tmp 69) (Operand.tmp 72) (Operand.const (Value.bool false)), type := 4, pos := "law.go:38", after := #[{ on := 15, ground := Ground.data }, { on := 18, ground := Ground.data }], guard := none }) (v := ?_) rfl (by kernel_rfl) (by kernel_rfl) (by kernel_rfl) (by assumption) ?_ ?_; rotate_left; focus (refine .inl ⟨by kernel_rfl, ?_⟩; intro w hSw; (try dsimp only at hSw); go_simp; (try with_reducible rfl)); (try simp only [Act.put, List.setIfInBounds_toArray, List.set_cons_zero, List.set_cons_succ]))
    (refine heldTake (i := 20) (oi := { dst := some 2, op := Op.assign (Operand.tmp 73), type := 4, pos := "law.go:38", after := #[{ on := 19, ground := Ground.data }, { on := 17, ground := Ground.chain }, { on := 0, ground := Ground.phase }, { on := 1, ground := Ground.phase }, { on := 2, ground := Ground.phase }, { on := 3, ground := Ground.phase }, { on := 4, ground := Ground.phase }, { on := 5, ground := Ground.phase }, { on := 6, ground := Ground.phase }, { on := 7, ground := Ground.phase }, { on := 8, ground := Ground.phase }, { on := 9, ground := Ground.phase }, { on := 10, ground := Ground.phase }, { on := 11, ground := Ground.phase }, { on := 12, ground := Ground.phase }, { on := 13, ground := Ground.phase }, { on := 14, ground := Ground.phase }, { on := 15, ground := Ground.phase }, { on := 16, ground := Ground.phase }, { on := 17, ground := Ground.phase }, { on := 18, ground := Ground.phase }, { on := 19, ground := Ground.phase }], guard := none }) (v := ?_) rfl (by kernel_rfl) (by kernel_rfl) (by kernel_rfl) (by assumption) ?_ ?_; rotate_left; focus (refine .inl ⟨by kernel_rfl, ?_⟩; intro w hSw; (try dsimp only at hSw); go_simp; (try with_reducible rfl)); (try simp only [Act.put, List.setIfInBounds_toArray, List.set_cons_zero, List.set_cons_succ]))
    refine wpAnyH_done (by kernel_rfl) ?_ _
    refine NoPanic.normal ?_
    have hLast := hHeld17
    clear hHeld17
    go_wp2
    go_ret
    exact ⟨rfl, (And.left hLast).a.bel⟩
  · rw [if_neg hz] at HPU
    have dz : (crightZ x.i != 0) = true := zb_of (by simpa using hz)
    generalize crightZ x.i = z at *
    clear hz g2 oi ni hF hc hn
    go_enter Tryd.func9, Tryd.ntmps9
    go_wp2_with (first
      | (go_at_call 51; go_must ((with_reducible refine HAW.out.mono ?_); rintro e w1 ⟨rfl, hb⟩; have H1 := Lib.hid (H0.out.on hb); obtain ⟨c0, c1, c2, c3, c4⟩ := H1.out.bx.1.1.el; clear hb))
      | (go_at_call 52; go_must ((with_reducible refine (HRR.out _).mono ?_); rintro e w2 ⟨rfl, hb⟩; clear c0 c1 c2 c3 c4; have H2 := Lib.hid (H1.out.on hb); obtain ⟨c0, c1, c2, c3, c4⟩ := H2.out.bx.1.1.el; clear hb))
      | (go_at_call 53; go_must ((with_reducible refine (HPU.out _ H2.out.tb (bxEl_bel H2.out.bx)).mono ?_); intro e w3 hq; obtain ⟨v, rfl, hr, hb⟩ := hq; obtain ⟨Ab, cb, rfl, _⟩ := hr.pc; clear c0 c1 c2 c3 c4; have H3 := Lib.hid (H2.out.on hb); obtain ⟨c0, c1, c2, c3, c4⟩ := H3.out.bx.1.1.el; clear hb hr))
      | (go_at_call 54; go_must ((with_reducible refine (HIR.out _ H3.out.tb).mono ?_); rintro e w4 ⟨rfl, hb⟩; clear c0 c1 c2 c3 c4; have H4 := Lib.hid (H3.out.on hb); clear hb)))
    go_ret
    exact ⟨rfl, bxEl_bel H4.out.bx⟩
end Go.Proofs.YtebgmfjgapmpfaaDoor
