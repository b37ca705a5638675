/- The walk of ConstsReads. -/
import Derived.Test.YtebgmfjgapmpfabDoorQi11
import Derived.Test.YtebgmfjgapmpfabDoorQi10
import Derived.Test.YtebgmfjgapmpfabDoorQi12
import Derived.Test.YtebgmfjgapmpfabDoorQi02
import Derived.Test.YtebgmfjgapmpfabDoorQi09
import Derived.Test.YtebgmfjgapmpfabDoorQi04
import Derived.Deep.CutBlock
import Derived.Deep.DeepCutAuto
namespace Go.Proofs.YtebgmfjgapmpfabDoor
open Go.RowKit
set_option linter.unusedVariables false
set_option maxRecDepth 100000

abbrev CellsE (b5 b6 q : Nat) (c a : Int) (W : World) : Prop :=
  (W.cell? ⟨b5, 0, none⟩ = some (.int .u8 0) ∧ W.cell? ⟨b5, 1, none⟩ = some (.int .u64 0) ∧ W.cell? ⟨b5, 2, none⟩ = some (.int .u64 0) ∧ W.cell? ⟨b5, 3, none⟩ = some (.slice none 0 0)) ∧
  (W.cell? ⟨b6, 0, none⟩ = some (.int .i64 c) ∧ W.cell? ⟨b6, 1, none⟩ = some (.int .i64 a)) ∧ W.cell? ⟨q, 2, none⟩ = some (.int .i64 c) ∧ W.cell? ⟨q, 3, none⟩ = some (.int .i64 a)
abbrev CellsO (b5 b6 b8 p q : Nat) (i : I) (A2 : Option Addr) (c2 : Nat) (A3 : Option Addr) (c3 k : Nat) (W : World) : Prop :=
  (W.cell? ⟨b5, 0, none⟩ = some (.int .u8 i.op.toNat) ∧ W.cell? ⟨b5, 1, none⟩ = some (.int .u64 i.a) ∧ W.cell? ⟨b5, 2, none⟩ = some (.int .u64 i.b) ∧ W.cell? ⟨b5, 3, none⟩ = some (.slice A2 i.l.length c2)) ∧
  (W.cell? ⟨b8, 0, none⟩ = some (.int .u8 i.op.toNat) ∧ W.cell? ⟨b8, 1, none⟩ = some (.int .u64 i.a) ∧ W.cell? ⟨b8, 2, none⟩ = some (.int .u64 i.b) ∧ W.cell? ⟨b8, 3, none⟩ = some (.slice A3 i.l.length c3)) ∧
  W.cell? ⟨b6, 0, none⟩ = some (.int .i64 0) ∧ W.cell? ⟨q + 1, 0, none⟩ = some (.pointer (some ⟨p, 0, none⟩)) ∧ W.cell? ⟨q, 1, none⟩ = some (.int .i64 k)
theorem opR_nz {l : List UInt8} {k : Nat} {c a : Int} (h : opR l k = .err c a) : c ≠ 0 := by
  unfold opR at h
  cases hr : byteR l k with
  | err e b => rw [hr, Res.bind_err] at h; injection h with h1 h2; have := byteR_nz hr; omega
  | ok d p =>
    rw [hr, Res.bind_ok] at h
    by_cases hd : checkR d.toNat = 0
    · rw [if_pos hd] at h; cases h
    · rw [if_neg hd] at h; injection h with h1 h2; omega
theorem blockR_nz {l : List UInt8} {k : Nat} {c a : Int} (h : blockR l k = .err c a) : c ≠ 0 := by
  unfold blockR at h
  cases hr : byteR l k with
  | err e b => rw [hr, Res.bind_err] at h; injection h with h1 h2; have := byteR_nz hr; omega
  | ok d p =>
    rw [hr, Res.bind_ok] at h
    by_cases hd : blockZ d.toNat = 0
    · rw [if_pos hd] at h; cases h
    · rw [if_neg hd] at h; injection h with h1 h2; omega
theorem idxK_nz {l : List UInt8} {c a : Int} : ∀ (n q : Nat) (acc : List Int), idxK l n q acc = .err c a → c ≠ 0
  | 0, q, acc, h => by cases h
  | n + 1, q, acc, h => by
    unfold idxK at h
    cases hr : indexR l q with
    | err e b => rw [hr, Res.bind_err] at h; injection h with h1 h2; have := indexR_nz hr; omega
    | ok x p => rw [hr, Res.bind_ok] at h; exact idxK_nz n p _ h
theorem labelsR_nz {l : List UInt8} {k : Nat} {c a : Int} (h : labelsR l k = .err c a) : c ≠ 0 := by
  unfold labelsR at h
  cases hr : countR l k with
  | err e b =>
    rw [hr, Res.bind_err] at h
    injection h with h1 h2
    unfold countR atMostR at hr
    cases hi : indexR l k with
    | err e2 b2 => rw [hi, Res.bind_err] at hr; injection hr with h3 h4; have := indexR_nz hi; omega
    | ok v p =>
      rw [hi, Res.bind_ok] at hr
      by_cases hv : v ≤ 10000
      · rw [if_pos hv] at hr; cases hr
      · rw [if_neg hv] at hr; injection hr with h3 h4; omega
  | ok v p => rw [hr, Res.bind_ok] at h; exact idxK_nz _ _ _ h
theorem bind_nz {α β : Type} {r : Res α} {f : α → Nat → Res β} {c a : Int} (h : r.bind f = .err c a) (h1 : ∀ c a, r = .err c a → c ≠ 0) (h2 : ∀ v k c a, f v k = .err c a → c ≠ 0) : c ≠ 0 := by
  cases r with
  | err e b => rw [Res.bind_err] at h; injection h with g1 g2; subst g1; exact h1 _ _ rfl
  | ok v k => rw [Res.bind_ok] at h; exact h2 v k c a h
theorem bodyR_nz {l : List UInt8} {m : Nat} {o : UInt8} {k : Nat} {c a : Int} (h : bodyR m o l k = .err c a) : c ≠ 0 := by
  have no : ∀ {i : I} {k : Nat} {c a : Int}, Res.ok i k = .err c a → c ≠ 0 := fun h => by cases h
  unfold bodyR at h
  repeat' split at h
  · cases h
  · exact bind_nz h (fun _ _ => blockR_nz) (fun _ _ _ _ h => no h)
  · exact bind_nz h (fun _ _ => labelsR_nz) (fun _ _ _ _ h => bind_nz h (fun _ _ => indexR_nz) (fun _ _ _ _ h => no h))
  · exact bind_nz h (fun _ _ => indexR_nz) (fun _ _ _ _ h => bind_nz h (fun _ _ => noughtR_nz) (fun _ _ _ _ h => no h))
  · exact bind_nz h (fun _ _ => indexR_nz) (fun _ _ _ _ h => bind_nz h (fun _ _ => indexR_nz) (fun _ _ _ _ h => no h))
  · exact bind_nz h (fun _ _ => noughtR_nz) (fun _ _ _ _ h => no h)
  · exact bind_nz h (fun _ _ => intR_nz) (fun _ _ _ _ h => no h)
  · exact bind_nz h (fun _ _ => intR_nz) (fun _ _ _ _ h => no h)
  · exact bind_nz h (fun _ _ => indexR_nz) (fun _ _ _ _ h => no h)
theorem readR_err {l : List UInt8} {k : Nat} {c a : Int} (h : readR l k = .err c a) : ¬ c = 0 := by
  unfold readR at h
  refine bind_nz h (fun c a h => ?_) (fun i k1 c a h => ?_)
  · unfold getR at h
    exact bind_nz h (fun _ _ => opR_nz) (fun _ _ _ _ => bodyR_nz)
  · by_cases hz : crightZ i = 0
    · rw [if_pos hz] at h
      refine bind_nz h (fun _ _ => byteR_nz) (fun d k2 c a h => ?_)
      by_cases hd : d = 11
      · rw [if_pos hd] at h; cases h
      · rw [if_neg hd] at h; injection h with h1 h2; omega
    · rw [if_neg hz] at h; injection h with h1 h2; omega
theorem readR_len {l : List UInt8} {k : Nat} {i : I} {k' : Nat} (h : readR l k = .ok i k') : i.l.length ≤ 10000 := by
  unfold readR at h
  cases hr : getR l k with
  | err c a => rw [hr, Res.bind_err] at h; cases h
  | ok j p =>
    rw [hr, Res.bind_ok] at h
    by_cases hz : crightZ j = 0
    · rw [if_pos hz] at h
      cases hb : byteR l p with
      | err c a => rw [hb, Res.bind_err] at h; cases h
      | ok d p2 =>
        rw [hb, Res.bind_ok] at h
        by_cases hd : d = 11
        · rw [if_pos hd] at h
          injection h with h1 h2
          subst h1
          exact (getR_ok hr).2.1
        · rw [if_neg hd] at h; cases h
    · rw [if_neg hz] at h; cases h
theorem zero_same (w : World) : Calls Tryd.prog 35 #[.agg #[.int .u8 0, .int .u64 0, .int .u64 0, .slice none 0 0], .agg #[.int .u8 0, .int .u64 0, .int .u64 0, .slice none 0 0]] w (BoolPost true w) := by
  have := refSame_any (w := w) (A := none) (B := none) (c := 0) (d := 0) (i := ⟨0, 0, 0, []⟩) (k := ⟨0, 0, 0, []⟩) (fun j v hv => by simp [cells32] at hv) (fun j v hv => by simp [cells32] at hv) (by simp) (by simp)
  rw [show sameZ ⟨0, 0, 0, []⟩ ⟨0, 0, 0, []⟩ = true by unfold sameZ; simp] at this
  exact this
end Go.Proofs.YtebgmfjgapmpfabDoor

/- creelref15.Put; creelref15.Same of two that are alike. -/
namespace Go.Proofs.YtebgmfjgapmpfabDoor
open Go.RowKit
set_option linter.unusedVariables false
set_option maxRecDepth 100000

set_option maxHeartbeats 8000000 in
theorem rdaput_any (x : Da) (A : Option Addr) (c : Nat) (w : World) (oi : x.i.Ok) (h0 : crightZ x.i = 0) (hn : x.bs.length ≤ 200) :
    Calls Tryd.prog 18 #[daV x A c] w fun e w' => e = .returned (.string (S (dputL x))) ∧ Below w.heap.size w w' := by
  have H0 := Lib.hid (bxDa_start w x A c)
  have hcl := cputL_len oi h0
  have hll := lebL_len (x.bs.length : Int) (by omega)
  have HP := Lib.hid (fun W => show Calls Tryd.prog 33 #[insV x.i A c] W fun e w' => e = .returned (.string (S (cputL x.i))) ∧ Below W.heap.size W w' from rcput_any x.i A c W oi (cr_zero h0).1 (by rw [cz_nil h0]; intro j v hv; simp [cells32] at hv))
  have HC := Lib.hid (fun W => count_any (x.bs.length : Int) W (by omega) (by omega))
  have hsp : dputL x = ((0 :: cputL x.i) ++ lebL (x.bs.length : Int)) ++ x.bs := by unfold dputL szL; rw [List.append_assoc]
  rw [hsp]
  obtain ⟨y, hy⟩ : ∃ y, y = cputL x.i := ⟨_, rfl⟩
  obtain ⟨z, hz⟩ : ∃ z, z = lebL (x.bs.length : Int) := ⟨_, rfl⟩
  rw [← hy] at HP hcl ⊢
  rw [← hz] at HC hll ⊢
  have sy := S_size y
  have sz := S_size z
  have sb := S_size x.bs
  have e1 := S_append [0] y
  have HE : Hid ((⟨#[0]⟩ : ByteArray) ++ S y ++ S z ++ S x.bs = S (((0 :: y) ++ z) ++ x.bs)) := by
    rw [← S_append ((0 :: y) ++ z) x.bs, ← S_append (0 :: y) z]
    exact congrArg (· ++ S z ++ S x.bs) e1
  have q1b : ¬ 9223372036854775807 < 1 + (S y).size := by omega
  have q2a : ¬ 9223372036854775807 < 1 + (S y).size + (S z).size := by omega
  have q3a : ¬ 9223372036854775807 < 1 + (S y).size + (S z).size + (S x.bs).size := by omega
  obtain ⟨P, hP⟩ : ∃ P, P = ((0 :: y) ++ z) ++ x.bs := ⟨_, rfl⟩
  rw [← hP] at HE ⊢
  clear hP hsp h0 oi hy hz e1 sy sz hn
  have sb2 := Lib.hid sb
  go_enter Tryd.func18, Tryd.ntmps18
  go_wp2
  clear sb
  go_region_held3 (fun W => BxDa w w.heap.size x A c W) (first | assumption | exact bxDa_on H0.out (Below.refl _ _).drew)
    (first
      | (go_at_call 33; (with_reducible refine (HP.out _).mono ?_); rintro e w1 ⟨rfl, hb⟩; have hk1 := bxDa_on ‹_› hb; clear hb)
      | (go_simp; rw [sb2.out]; go_at_call 34; (with_reducible refine (HC.out _).mono ?_); rintro e w2 ⟨rfl, hb⟩; have hk2 := bxDa_on ‹_› hb; clear hb))
  go_wp2
  go_ret
  exact ⟨by rw [← HE.out]; rfl, bxDa_bel hk2⟩
set_option maxHeartbeats 2000000 in
/-- Same, of two that are alike and have no labels. -/
theorem rsame_da {w : World} {x : Da} {A B : Option Addr} {c d : Nat} (hx : x.i.l = []) :
    Calls Tryd.prog 19 #[daV x A c, daV x B d] w (BoolPost true w) := by
  have hb2 : Below w.heap.size w ((w.alloc (.cells (daC x A c) 39)).alloc (.cells (daC x B d) 39)) := (below_box w _).alloc (by simp) _
  have hS := refSame_any (w := (w.alloc (.cells (daC x A c) 39)).alloc (.cells (daC x B d) 39)) (A := A) (B := B) (c := c) (d := d) (i := x.i) (k := x.i) (by rw [hx]; intro j v hv; simp [cells32] at hv) (by rw [hx]; intro j v hv; simp [cells32] at hv) (by rw [hx]; simp) (by rw [hx]; simp)
  rw [same_self] at hS
  have HS := Lib.hid hS
  have HB := Lib.hid hb2
  have hbb : ((S x.bs).toList == (S x.bs).toList) = true := by rw [S_beqM]; simp
  clear hS hb2 hx
  go_enter Tryd.func19, Tryd.ntmps19
  go_wp2_with (go_at_call 35; go_must ((with_reducible refine HS.out.mono ?_); rintro e w2 ⟨rfl, hb⟩; have HB2 := Lib.hid hb; clear hb))
  go_ret
  exact ⟨rfl, HB.out.trans (HB2.out.mono HB.out.size)⟩
end Go.Proofs.YtebgmfjgapmpfabDoor

/- A small number's bytes. -/
namespace Go.Proofs.YtebgmfjgapmpfabDoor
set_option linter.unusedVariables false

theorem lebL_sm (x : Int) (h0 : 0 ≤ x) (h1 : x < 128) : lebL x = [UInt8.ofNat x.toNat] := by
  have hn : lebN x = 1 := (lebN_least x (by omega)).unique ⟨Nat.le_refl _, by unfold fitU; simpa using h1, fun m a b => by omega⟩
  unfold lebL
  rw [hn]
  simp [grp]
  congr 2
  omega
end Go.Proofs.YtebgmfjgapmpfabDoor

/- awake; the laws' closures; two lists side by side. -/
namespace Go.Proofs.YtebgmfjgapmpfabDoor
open Go.RowKit
set_option linter.unusedVariables false
set_option maxRecDepth 100000

/-- The page's example: two bytes, from 5 on. -/
def daEg : Da := ⟨cEg, [97, 98]⟩
theorem daEg_put : dputL daEg = [0, 65, 5, 11, 2, 97, 98] := by
  unfold dputL cputL szL
  show (0 :: (putL cEg ++ [11])) ++ (lebL (2 : Int) ++ [97, 98]) = _
  rw [cEg_put, lebL_sm 2 (by omega) (by omega)]
  rfl
theorem daawake_any (w : World) (hT : Tabs w) : Calls Tryd.prog 10 #[] w fun e w' => e = .returned (.bool true) ∧ Below w.heap.size w w' := by
  have hp := put_da daEg none 0 w cEg_ok hT (by decide) (by decide)
  obtain ⟨l, hl⟩ : ∃ l : List UInt8, l = [0, 65, 5, 11, 2, 97, 98] := ⟨_, rfl⟩
  have HP := Lib.hid (show Calls Tryd.prog 12 #[.agg #[.int .u8 65, .int .u64 5, .int .u64 0, .slice none 0 0, .string { data := #[97, 98] }]] w fun e w' => ∃ v, e = .returned (.tuple #[v, .int .i64 0]) ∧ Row w' w.heap.size v l ∧ Below w.heap.size w w' from hp.mono fun e w' ⟨v, h1, h2, h3⟩ => ⟨v, by rw [show crightZ daEg.i = 0 from cEg_zero] at h1; exact h1, by rw [if_pos (show crightZ daEg.i = 0 from cEg_zero), daEg_put] at h2; rw [hl]; exact h2, h3⟩)
  have hcmp : ((S l).toList == [0, 65, 5, 11, 2, 97, 98]) = true := by rw [S_toList, hl]; rfl
  clear hl
  clear hp hT
  go_enter Tryd.func10, Tryd.ntmps10
  go_wp2_with (go_at_call 12; go_must ((with_reducible refine HP.out.mono ?_); intro e w1 h; obtain ⟨v, rfl, hr, hb⟩ := h; obtain ⟨A, c, rfl, hcv⟩ := hr.str; have hcv2 := hcv 9 Tryd.underlying9; have HB := Lib.hid hb; clear hb hr hcv))
  go_ret
  exact ⟨rfl, HB.out⟩

theorem cfDa1 (cap : Array Value) (w : World) : (callFunc 16 cap).run Tryd.prog w = .ok (.enter 16 cap) w := by kernel_rfl
set_option maxHeartbeats 4000000 in
theorem closDa1 {w : World} {p b : Nat} {l : List UInt8} {k : Nat} {x : Da} (hb : Whole w b 45 #[.pointer (some ⟨p, 0, none⟩)])
    (hG : ∀ W, Below w.heap.size w W → Calls Tryd.prog 17 #[.pointer (some ⟨p, 0, none⟩)] W (fun e w' => ∃ A2 c2, e = .returned (daV x A2 c2) ∧ Sc w' p l k ∧ W.grownBy w' (some p))) (hp : p < w.heap.size) :
    Calls Tryd.prog 16 #[.pointer (some ⟨b, 0, none⟩)] w (fun e w' => ∃ A2 c2, e = .returned (daV x A2 c2) ∧ Sc w' p l k ∧ w.grownBy w' (some p)) := by
  have HGt := Lib.hid (hG _ (below_box w (.cells daZ 39)))
  have HWM := Lib.hid (Whole.made w 39 daZ)
  have c0' : ∀ o, (w.alloc o).cell? ⟨b, 0, none⟩ = some (.pointer (some ⟨p, 0, none⟩)) := fun o => (hb.alloc o).cell 0
  clear hb hG
  go_enter Tryd.func16, Tryd.ntmps16
  go_wp2_with (go_at_call 17; go_must ((with_reducible refine HGt.out.mono ?_); rintro e w1 ⟨A2, c2, rfl, hs, hg⟩; have HS := Lib.hid hs; have HG := Lib.hid hg; have HW1 := Lib.hid (HWM.out.grown hg (by simp only [ne_eq, Option.some.injEq]; omega)); have z0 := HW1.out.cell 0; have z1 := HW1.out.cell 1; have z2 := HW1.out.cell 2; have z3 := HW1.out.cell 3; have z4 := HW1.out.cell 4; simp only [List.getElem?_toArray, List.getElem?_cons_zero, List.getElem?_cons_succ] at z0 z1 z2 z3 z4; have f0 := HW1.out.frozen 0; have f1 := HW1.out.frozen 1; have f2 := HW1.out.frozen 2; have f3 := HW1.out.frozen 3; have f4 := HW1.out.frozen 4; clear hs hg))
  obtain ⟨h1, h2⟩ := put5 (u0 := .int .u8 x.i.op.toNat) (u1 := .int .u64 x.i.a) (u2 := .int .u64 x.i.b) (u3 := .slice A2 x.i.l.length c2) (u4 := .string (S x.bs)) HW1.out
  obtain ⟨q0, q1, q2, q3, q4⟩ := Whole.da (x := x) h1
  exact bodyPost_ret (v := daV x A2 c2) (by simp [results, Tryd.results16, go_sem, q0, q1, q2, q3, q4]) rfl ⟨A2, c2, rfl, HS.out.grown h2 (by simp only [ne_eq, Option.some.injEq]; omega) (fun g e => by injection e with e; omega), gb_before (gb_trans (gb_alloc (gb_refl _ _) _) HG.out) h2 (fun g e => .inr (by injection e with e; omega))⟩

/-- The five cells of a segment, by its parts. -/
abbrev FiveDL (w : World) (b o : Nat) (g : Da) (a : Option Addr) (c : Nat) : Prop := w.cell? ⟨b, o, none⟩ = some (.int .u8 g.i.op.toNat) ∧ w.cell? ⟨b, o + 1, none⟩ = some (.int .u64 g.i.a) ∧ w.cell? ⟨b, o + 2, none⟩ = some (.int .u64 g.i.b) ∧ w.cell? ⟨b, o + 3, none⟩ = some (.slice a g.i.l.length c) ∧ w.cell? ⟨b, o + 4, none⟩ = some (.string (S g.bs))
/-- One of each of two lists, as a walk reads them; both lists. -/
abbrev TwoDa (w : World) (A A2 : Option Addr) (l l2 : List SlotDa) (b off b2 off2 k : Nat) (g : Da) (a1 a2 : Option Addr) (c1 c2 : Nat) (W : World) : Prop :=
  (Below w.heap.size w W ∧ Das W A l ∧ Das W A2 l2) ∧ FiveDL W b (off + k * 5) g a1 c1 ∧ FiveDL W b2 (off2 + k * 5) g a2 c2
section
variable {w W W' : World} {A A2 : Option Addr} {l l2 : List SlotDa} {b off b2 off2 k : Nat} {g : Da} {a1 a2 : Option Addr} {c1 c2 : Nat}
theorem twoDa_of (h1 : Below w.heap.size w W) (h2 : Das W A l) (h3 : Das W A2 l2) (hA : A = some ⟨b, off, none⟩) (hA2 : A2 = some ⟨b2, off2, none⟩) (hx : l[k]? = some (g, a1, c1)) (hy : l2[k]? = some (g, a2, c2)) : TwoDa w A A2 l l2 b off b2 off2 k g a1 a2 c1 c2 W := by
  obtain ⟨d1, o1, e1, _, p⟩ := h2.five hx
  obtain ⟨d2, o2, e2, _, q⟩ := h3.five hy
  rw [hA] at e1
  rw [hA2] at e2
  injection e1 with e1
  injection e2 with e2
  injection e1 with a1 a2
  injection e2 with a3 a4
  subst a1; subst a2; subst a3; subst a4
  exact ⟨⟨h1, h2, h3⟩, p, q⟩
theorem twoDa_on (h : TwoDa w A A2 l l2 b off b2 off2 k g a1 a2 c1 c2 W) (hA : A = some ⟨b, off, none⟩) (hA2 : A2 = some ⟨b2, off2, none⟩) (hx : l[k]? = some (g, a1, c1)) (hy : l2[k]? = some (g, a2, c2)) (hb : Below W.heap.size W W') : TwoDa w A A2 l l2 b off b2 off2 k g a1 a2 c1 c2 W' :=
  twoDa_of (h.1.1.trans (hb.mono h.1.1.size)) (h.1.2.1.below hb) (h.1.2.2.below hb) hA hA2 hx hy
/-- Both have one there, and these are alike. -/
theorem bothDa_at (hm : l.map (·.1) = l2.map (·.1)) (hk : k < l.length) : ∃ g a1 a2 c1 c2, l[k]? = some (g, a1, c1) ∧ l2[k]? = some (g, a2, c2) := by
  obtain ⟨⟨g, a1, c1⟩, hx⟩ : ∃ x, l[k]? = some x := ⟨_, List.getElem?_eq_getElem hk⟩
  have hk2 : k < l2.length := by have := congrArg List.length hm; rw [List.length_map, List.length_map] at this; omega
  obtain ⟨⟨g2, a2, c2⟩, hy⟩ : ∃ y, l2[k]? = some y := ⟨_, List.getElem?_eq_getElem hk2⟩
  have e := congrArg (fun l => l[k]?) hm
  simp only [List.getElem?_map, hx, hy, Option.map_some, Option.some.injEq] at e
  subst e
  exact ⟨g, a1, a2, c1, c2, hx, hy⟩
end
end Go.Proofs.YtebgmfjgapmpfabDoor

/- A constant expression that was written is read: as plain functions. -/
namespace Go.Proofs.YtebgmfjgapmpfabDoor
open Go.RowKit
set_option linter.unusedVariables false
set_option maxRecDepth 100000

theorem intR_at {l r : List UInt8} {k n : Nat} {x : Int} (h : l.drop k = sebL x ++ r) (h0 : -2 ^ (n - 1) ≤ x) (h1 : x < 2 ^ (n - 1)) (n1 : 1 ≤ n) (n2 : n ≤ 64) : intR l k n = .ok x (k + (sebL x).length) := by
  have m63 : (2 : Int) ^ (n - 1) ≤ 2 ^ 63 := mono2 (by omega)
  have e63 : (2 : Int) ^ 63 = 9223372036854775808 := rfl
  have hna := sebN_least x (by omega) (by omega)
  have hlen := sebL_length x
  have hnl := nums_sebL x
  obtain ⟨p, c, he, hg, hx, c0, c1, hf, hp⟩ := least_s h0 h1 n1 n2 hna
  rw [he] at hlen hnl
  have hd : (nums l).drop k = grps x p ++ c :: nums r := by
    have : (nums l).drop k = nums (l.drop k) := by unfold nums; rw [List.map_drop]
    rw [this, h, nums_append, hnl, ← he, hg]
    simp
  have hq : onN l k n = p := by
    have := onN_stop l k n
    rw [hd] at this
    exact this.unique (grps_stop x p _ c _ c1 (by omega))
  unfold intR
  rw [if_pos ⟨n1, n2⟩, hq, if_neg (by omega), hd, grps_at]
  simp only
  rw [if_pos hf, grps_take, hlen]
  have e : numS (grps x p) c = x := by unfold numS; rw [low_grps, grps_length]; exact hx
  rw [e]
theorem getR_c {l r : List UInt8} {k : Nat} {i : I} (oi : i.Ok) (h0 : crightZ i = 0) (h : l.drop k = putL i ++ r) : getR l k = .ok i (k + (putL i).length) := by
  obtain ⟨hr, hc⟩ := cr_zero h0
  have hl := cz_nil h0
  obtain ⟨hc0, _, _, hb8, hz0⟩ := right_zero hr
  obtain ⟨a0, a1, b0, b1, _⟩ := oi
  obtain ⟨_, _, hz3⟩ := nums_zero hz0 a0
  obtain ⟨m, hm⟩ : ∃ m, m = immR i.n := ⟨_, rfl⟩
  have hm3 : m = 7 ∨ m = 10 ∨ m = 11 := by
    rw [hm]
    rcases hc with e | e | e
    all_goals rw [show i.n = _ from e]; decide +kernel
  rw [← hm] at hb8 hz3
  have hb : i.b = 0 := by omega
  have hp1 : putL i = i.op :: immB m i := by unfold putL immL; rw [hm]
  rw [hp1, List.cons_append] at h
  have hd1 : l.drop (k + 1) = immB m i ++ r := drop_past (a := [i.op]) h
  have hop : opR l k = .ok i.op (k + 1) := by unfold opR; rw [byteR_at h, Res.bind_ok, if_pos hc0]
  unfold getR
  rw [hop, Res.bind_ok]
  rw [show immR i.op.toNat = m from hm.symm, hp1, show k + (i.op :: immB m i).length = k + 1 + (immB m i).length by rw [List.length_cons]; omega]
  clear hm hop hp1 h hr hc hc0 hz0 h0
  obtain ⟨o, a, b, ls⟩ := i
  simp only at hl hb a0 a1 hz3 hd1 ⊢
  subst hl
  subst hb
  rcases hm3 with rfl | rfl | rfl
  · have himm : immB 7 ⟨o, a, 0, []⟩ = lebL a := by simp [immB]
    rw [himm] at hd1 ⊢
    have hbd : bodyR 7 o l (k + 1) = (indexR l (k + 1)).bind fun a k1 => .ok ⟨o, a, 0, []⟩ k1 := by simp [bodyR]
    rw [hbd, indexR_at hd1 a0 (by have := (hz3 (by omega)).1; omega), Res.bind_ok]
  · have himm : immB 10 ⟨o, a, 0, []⟩ = sebL (s32 a) := by simp [immB]
    rw [himm] at hd1 ⊢
    have ha := (hz3 (by omega)).1
    have hbd : bodyR 10 o l (k + 1) = (intR l (k + 1) 32).bind fun v k1 => .ok ⟨o, v % 4294967296, 0, []⟩ k1 := by simp [bodyR]
    rw [hbd, intR_at hd1 (show -2147483648 ≤ s32 a by unfold s32; omega) (show s32 a < 2147483648 by unfold s32; omega) (by omega) (by omega), Res.bind_ok, show s32 a % 4294967296 = a by unfold s32; omega]
  · have himm : immB 11 ⟨o, a, 0, []⟩ = sebL (s64 a) := by simp [immB]
    rw [himm] at hd1 ⊢
    have hbd : bodyR 11 o l (k + 1) = (intR l (k + 1) 64).bind fun v k1 => .ok ⟨o, v % 18446744073709551616, 0, []⟩ k1 := by simp [bodyR]
    rw [hbd, intR_at hd1 (show -9223372036854775808 ≤ s64 a by unfold s64; omega) (show s64 a < 9223372036854775808 by unfold s64; omega) (by omega) (by omega), Res.bind_ok, show s64 a % 18446744073709551616 = a by unfold s64; omega]
theorem readR_at {l r : List UInt8} {k : Nat} {i : I} (oi : i.Ok) (h0 : crightZ i = 0) (h : l.drop k = cputL i ++ r) : readR l k = .ok i (k + (cputL i).length) := by
  have hd : l.drop k = putL i ++ (11 :: r) := by rw [h]; unfold cputL; simp
  have hg := getR_c oi h0 hd
  have hd2 := drop_past hd
  unfold readR
  rw [hg, Res.bind_ok, if_pos h0, byteR_at hd2, Res.bind_ok, if_pos rfl]
  unfold cputL
  rw [List.length_append, List.length_singleton, Nat.add_assoc]
end Go.Proofs.YtebgmfjgapmpfabDoor

/- A segment that was written is read. -/
namespace Go.Proofs.YtebgmfjgapmpfabDoor
open Go.RowKit
set_option linter.unusedVariables false
set_option maxRecDepth 100000

theorem elR_at {l r : List UInt8} {k : Nat} {x : El} (oi : x.i.Ok) (h0 : crightZ x.i = 0) (hc : ∀ c ∈ x.fs, 0 ≤ c ∧ c ≤ 4294967295) (hn : x.fs.length ≤ 100) (h : l.drop k = eputL x ++ r) : elR l k = .ok x (k + (eputL x).length) := by
  have hd : l.drop k = 0 :: (cputL x.i ++ (labL x.fs ++ r)) := by rw [h]; unfold eputL; simp [List.append_assoc]
  have hd1 : l.drop (k + 1) = cputL x.i ++ (labL x.fs ++ r) := drop_past (a := [0]) hd
  have hd2 := drop_past hd1
  have hh : headR l k = .ok x.i (k + 1 + (cputL x.i).length) := by
    unfold headR noughtR
    rw [byteR_at hd, Res.bind_ok, if_pos rfl, Res.bind_ok, readR_at oi h0 hd1]
  unfold elR
  rw [hh, Res.bind_ok, labelsR_at hd2 (by omega) hc, Res.bind_ok]
  unfold eputL
  rw [List.length_append, List.length_cons]
  congr 1
  omega
theorem headR_nz {l : List UInt8} {k : Nat} {c a : Int} (h : headR l k = .err c a) : c ≠ 0 := by
  unfold headR at h
  exact bind_nz h (fun _ _ => noughtR_nz) (fun _ _ _ _ h => readR_err h)
theorem elR_nz {l : List UInt8} {k : Nat} {c a : Int} (h : elR l k = .err c a) : c ≠ 0 := by
  unfold elR at h
  exact bind_nz h (fun _ _ => headR_nz) (fun _ _ _ _ h => bind_nz h (fun _ _ => labelsR_nz) (fun _ _ _ _ h => by cases h))
/-- What was read has no labels, and no more than 10000 functions. -/
theorem elR_nil {l : List UInt8} {k : Nat} {x : El} {k' : Nat} (h : elR l k = .ok x k') : x.i.l = [] ∧ x.fs.length ≤ 100000 := by
  unfold elR at h
  cases hh : headR l k with
  | err c a => rw [hh, Res.bind_err] at h; cases h
  | ok i k1 =>
    rw [hh, Res.bind_ok] at h
    cases hl : labelsR l k1 with
    | err c a => rw [hl, Res.bind_err] at h; cases h
    | ok fs k2 =>
      rw [hl, Res.bind_ok] at h
      injection h with h1 h2
      subst h1
      have hn := (labelsR_ok hl).2.1
      refine ⟨?_, by show fs.length ≤ _; omega⟩
      unfold headR at hh
      cases hr : noughtR l k with
      | err c a => rw [hr, Res.bind_err] at hh; cases hh
      | ok u k3 =>
        rw [hr, Res.bind_ok] at hh
        exact readR_nil hh
end Go.Proofs.YtebgmfjgapmpfabDoor

/- A data segment that was written is read; what is read. -/
namespace Go.Proofs.YtebgmfjgapmpfabDoor
open Go.RowKit
set_option linter.unusedVariables false
set_option maxRecDepth 100000

theorem contR_at {l s r : List UInt8} {k : Nat} (h : l.drop k = szL s ++ r) (hs : s.length ≤ 100000) : ∃ k2, contR l k = .ok s.length k2 ∧ (l.drop k2).take s.length = s ∧ k2 + s.length = k + (szL s).length := by
  unfold szL at h ⊢
  rw [List.append_assoc] at h
  have m1 := lebL_len (s.length : Int) (by omega)
  have hd := drop_past h
  have e2 := congrArg List.length hd
  simp only [List.length_drop, List.length_append] at e2
  refine ⟨k + (lebL (s.length : Int)).length, ?_, by rw [hd, List.take_left], by rw [List.length_append]; omega⟩
  have e1 := congrArg List.length h
  simp only [List.length_drop, List.length_append] at e1
  unfold contR
  rw [indexR_at h (by omega) (by omega), Res.bind_ok, Int.toNat_natCast, if_pos (by omega)]
theorem daR_at {l r : List UInt8} {k : Nat} {x : Da} (oi : x.i.Ok) (h0 : crightZ x.i = 0) (hn : x.bs.length ≤ 200) (h : l.drop k = dputL x ++ r) : daR l k = .ok x (k + (dputL x).length) := by
  have hd : l.drop k = 0 :: (cputL x.i ++ (szL x.bs ++ r)) := by rw [h]; unfold dputL; simp [List.append_assoc]
  have hd1 : l.drop (k + 1) = cputL x.i ++ (szL x.bs ++ r) := drop_past (a := [0]) hd
  have hd2 := drop_past hd1
  have hh : headR l k = .ok x.i (k + 1 + (cputL x.i).length) := by
    unfold headR noughtR
    rw [byteR_at hd, Res.bind_ok, if_pos rfl, Res.bind_ok, readR_at oi h0 hd1]
  obtain ⟨k2, hc, ht, hk⟩ := contR_at hd2 (by omega)
  unfold daR
  rw [hh, Res.bind_ok, hc, Res.bind_ok, ht, hk]
  unfold dputL
  rw [List.length_append, List.length_cons]
  congr 1
  omega
theorem daR_nz {l : List UInt8} {k : Nat} {c a : Int} (h : daR l k = .err c a) : c ≠ 0 := by
  unfold daR at h
  exact bind_nz h (fun _ _ => headR_nz) (fun _ _ _ _ h => bind_nz h (fun _ _ => contR_err) (fun _ _ _ _ h => by cases h))
/-- What was read has no labels. -/
theorem daR_nil {l : List UInt8} {k : Nat} {x : Da} {k' : Nat} (h : daR l k = .ok x k') : x.i.l = [] := by
  unfold daR at h
  cases hh : headR l k with
  | err c a => rw [hh, Res.bind_err] at h; cases h
  | ok i k1 =>
    rw [hh, Res.bind_ok] at h
    cases hl : contR l k1 with
    | err c a => rw [hl, Res.bind_err] at h; cases h
    | ok n k2 =>
      rw [hl, Res.bind_ok] at h
      injection h with h1 h2
      subst h1
      unfold headR at hh
      cases hr : noughtR l k with
      | err c a => rw [hr, Res.bind_err] at hh; cases hh
      | ok u k3 =>
        rw [hr, Res.bind_ok] at hh
        exact readR_nil hh
end Go.Proofs.YtebgmfjgapmpfabDoor

/- The walk of DatasPuts. -/
namespace Go.Proofs.YtebgmfjgapmpfabDoor
open Go.RowKit
set_option linter.unusedVariables false
set_option maxRecDepth 100000

/-- What the law keeps: the box of its input, the bytes, the scanner's cell. -/
structure PKDa (w : World) (x : Da) (A : Option Addr) (c : Nat) (p : Nat) (B : Nat) (Ab : Option Addr) (y : List UInt8) (b6 : Nat) (W : World) : Prop where
  bx : Whole W w.heap.size 39 (daC x A c)
  ly : Lies W B Ab (cells (nums y))
  pt : Whole W b6 45 #[.pointer (some ⟨p, 0, none⟩)]
  bel : Below w.heap.size w W
  o1 : w.heap.size < p
  o2 : B ≤ p
  o3 : p < b6
  o4 : B ≤ W.heap.size
section
variable {w W W' : World} {x : Da} {A : Option Addr} {c : Nat} {p B b6 k k' q : Nat} {l : List UInt8} {Ab : Option Addr} {y : List UInt8}
theorem PKDa.grown (h : PKDa w x A c p B Ab y b6 W) (hg : W.grownBy W' (some q)) (h1 : p ≤ q) (h2 : b6 ≠ q) : PKDa w x A c p B Ab y b6 W' := by
  obtain ⟨a1, a2, a3, a4, a5, a6, a7, a8⟩ := h
  exact ⟨a1.grown hg (by simp only [ne_eq, Option.some.injEq]; omega), a2.grown hg a8 (fun g e => by injection e with e; omega), a3.grown hg (by simp only [ne_eq, Option.some.injEq]; omega), below_new a4 hg (by omega), a5, a6, a7, Nat.le_trans a8 hg.size⟩
theorem PKDa.below (h : PKDa w x A c p B Ab y b6 W) (hb : Below W.heap.size W W') : PKDa w x A c p B Ab y b6 W' := by
  obtain ⟨a1, a2, a3, a4, a5, a6, a7, a8⟩ := h
  exact ⟨a1.below hb, a2.below hb a8, a3.below hb, a4.trans (hb.mono a4.size), a5, a6, a7, Nat.le_trans a8 hb.size⟩
/-- At the law's end. -/
structure PEDa (w : World) (x : Da) (A : Option Addr) (c : Nat) (A2 : Option Addr) (c2 : Nat) (p : Nat) (B : Nat) (Ab : Option Addr) (y : List UInt8) (b6 g : Nat) (l : List UInt8) (k : Nat) (W : World) : Prop where
  a : PKDa w x A c p B Ab y b6 W
  sc : Sc W p l k
  yb : Whole W g 39 (daC x A2 c2)
  st : Whole W (g + 1) 48 #[.int .i64 0, .int .i64 0]
theorem PEDa.below {g c2 : Nat} {A2 : Option Addr} (h : PEDa w x A c A2 c2 p B Ab y b6 g l k W) (hb : Below W.heap.size W W') : PEDa w x A c A2 c2 p B Ab y b6 g l k W' := ⟨h.a.below hb, h.sc.below hb, h.yb.below hb, h.st.below hb⟩
/-- .. and what it reads as. -/
abbrev PEDac (w : World) (x : Da) (A : Option Addr) (c : Nat) (A2 : Option Addr) (c2 : Nat) (p : Nat) (B : Nat) (Ab : Option Addr) (cb : Nat) (y : List UInt8) (b6 g : Nat) (l : List UInt8) (k : Nat) (W : World) : Prop := PEDa w x A c A2 c2 p B Ab y b6 g l k W ∧
  FiveDa W w.heap.size x A c ∧ FiveDa W g x A2 c2 ∧
  W.cell? ⟨g + 1, 0, none⟩ = some (.int .i64 0) ∧ W.cell? ⟨b6, 0, none⟩ = some (.pointer (some ⟨p, 0, none⟩)) ∧ (convert 41 9 (.slice Ab y.length cb)).run Tryd.prog W = .ok (.string (S y)) W
theorem PEDa.all {g c2 : Nat} {A2 : Option Addr} (h : PEDa w x A c A2 c2 p B Ab y b6 g l k W) (cb : Nat) : PEDac w x A c A2 c2 p B Ab cb y b6 g l k W :=
  ⟨h, h.a.bx.da, h.yb.da, h.st.cell 0, h.a.pt.cell 0, str_any h.a.ly cb 9 Tryd.underlying9⟩
end
/-- The boxed input and the tables. -/
structure PStDa (w : World) (x : Da) (A : Option Addr) (c : Nat) (W : World) : Prop where
  tb : Tabs W
  bx : BxDa w w.heap.size x A c W
theorem PStDa.on {w W W' : World} {x : Da} {A : Option Addr} {c : Nat} (h : PStDa w x A c W) (hb : Below W.heap.size W W') : PStDa w x A c W' := ⟨h.tb.below hb, bxDa_on h.bx hb⟩
set_option maxHeartbeats 8000000 in
theorem lawDaP {w : World} {x : Da} {A : Option Addr} {c : Nat} (hT : Tabs w) (oi : x.i.Ok) (ni : (x.i.l.length : Int) ≤ 9223372036854775807) :
    Calls Tryd.prog 4 #[daV x A c] w fun e w' => e = .returned (.bool true) ∧ Below w.heap.size w w' := by
  have HTw := Lib.hid hT
  have h0 : PStDa w x A c (w.alloc (.cells (daC x A c) 39)) := ⟨hT.below (below_box _ _), bxDa_start w x A c⟩
  have HAW := Lib.hid (daawake_any _ h0.tb)
  have H0 := Lib.hid h0
  clear h0 hT
  have s2 := S_size x.bs
  by_cases g0 : 200 < x.bs.length
  · have t4 : decide ((200 : Int) < (x.bs.length : Int)) = true := decide_eq_true (by omega)
    clear g0
    go_enter Tryd.func4, Tryd.ntmps4
    go_wp2_with (go_at_call 10; go_must ((with_reducible refine HAW.out.mono ?_); rintro e w1 ⟨rfl, hb⟩; have H1 := Lib.hid (H0.out.on hb); obtain ⟨c0, c1, c2, c3, c4⟩ := H1.out.bx.1.1.da; clear hb))
    go_ret
    exact ⟨rfl, bxDa_bel H1.out.bx⟩
  have t4 : decide ((200 : Int) < (x.bs.length : Int)) = false := decide_eq_false (by omega)
  have hn : x.bs.length ≤ 200 := by omega
  clear g0
  by_cases g2 : 100 < x.i.l.length
  · have t2 : decide ((100 : Int) < (x.i.l.length : Int)) = true := decide_eq_true (by omega)
    clear g2
    go_enter Tryd.func4, Tryd.ntmps4
    go_wp2_with (go_at_call 10; go_must ((with_reducible refine HAW.out.mono ?_); rintro e w1 ⟨rfl, hb⟩; have H1 := Lib.hid (H0.out.on hb); obtain ⟨c0, c1, c2, c3, c4⟩ := H1.out.bx.1.1.da; clear hb))
    go_ret
    exact ⟨rfl, bxDa_bel H1.out.bx⟩
  have t2 : decide ((100 : Int) < (x.i.l.length : Int)) = false := decide_eq_false (by omega)
  have HRR := Lib.hid (fun W => rdaright_any x A c W oi ni)
  have HIR := Lib.hid (fun W (h : Tabs W) => daright_any x A c W oi h ni (by omega))
  have HPU := Lib.hid (fun W (h : Tabs W) => put_da x A c W oi h ni hn)
  unfold PuttedDa at HPU
  by_cases hz : crightZ x.i = 0
  · rw [if_pos hz] at HPU
    have HRP := Lib.hid (fun W => rdaput_any x A c W oi hz hn)
    have hlen := dputL_len oi hz hn
    have HGT := Lib.hid (fun W p l r k (h : Sc W p l k) (hT : TbP p W) (hll : l.length ≤ 1000000) (hd : l.drop k = dputL x ++ r) => show Calls Tryd.prog 17 #[.pointer (some ⟨p, 0, none⟩)] W (fun e w' => ∃ A2 c2, e = .returned (daV x A2 c2) ∧ Sc w' p l (k + (dputL x).length) ∧ W.grownBy w' (some p)) from by have := get_da h hT hll; rw [daR_at oi hz hn hd] at this; exact this)
    have hnil := cz_nil hz
    rw [hz] at HRR HIR HPU
    obtain ⟨y, hy⟩ : ∃ y, y = dputL x := ⟨_, rfl⟩
    rw [← hy] at HPU HRP hlen HGT
    have hl7 : (([] ++ y) ++ [7]).length ≤ 1000000 := by simp only [List.length_append, List.length_singleton, List.length_nil]; omega
    have hl7' : ([] ++ y : List UInt8).length + ([7] : List UInt8).length ≤ 1000000 := by simp only [List.length_append, List.length_singleton, List.length_nil]; omega
    have hl0 : ([] : List UInt8).length + y.length ≤ 1000000 := by simp only [List.length_nil]; omega
    have HD := Lib.hid (show (([] ++ y) ++ [7] : List UInt8).drop 0 = y ++ [7] from by simp)
    have HLf := Lib.hid (fun W p (h : Sc W p (([] ++ y) ++ [7]) y.length) => by
      have h2 := left_any h
      have e : (((([] ++ y) ++ [7] : List UInt8).length : Int) - (y.length : Int)) = 1 := by simp only [List.length_append, List.length_singleton, List.length_nil]; omega
      rw [e] at h2
      exact h2)
    have HSm := Lib.hid (fun W (A2 : Option Addr) (c2 : Nat) => rsame_da (w := W) (x := x) (A := A2) (B := A) (c := c2) (d := c) hnil)
    obtain ⟨L, hL⟩ : ∃ L, L = (([] ++ y) ++ [7] : List UInt8) := ⟨_, rfl⟩
    rw [← hL] at hl7 HD HLf
    have HL7 := Lib.hid hl7
    have HLd := Lib.hid hL
    clear hL
    clear hz hy g2 hnil oi ni
    go_enter Tryd.func4, Tryd.ntmps4
    go_upto_region 11 with (first
      | (go_at_call 10; go_must ((with_reducible refine HAW.out.mono ?_); rintro e w1 ⟨rfl, hb⟩; have H1 := Lib.hid (H0.out.on hb); obtain ⟨c0, c1, c2, c3, c4⟩ := H1.out.bx.1.1.da; clear hb))
      | (go_at_call 11; go_must ((with_reducible refine (HRR.out _).mono ?_); rintro e w2 ⟨rfl, hb⟩; clear c0 c1 c2 c3 c4; have H2 := Lib.hid (H1.out.on hb); obtain ⟨c0, c1, c2, c3, c4⟩ := H2.out.bx.1.1.da; clear hb))
      | (go_at_call 12; go_must ((with_reducible refine (HPU.out _ H2.out.tb).mono ?_); intro e w3 hq; obtain ⟨v, rfl, hr, hb⟩ := hq; obtain ⟨Ab, cb, rfl, hpc⟩ := hr.pc; clear c0 c1 c2 c3 c4; have H3 := Lib.hid (H2.out.on hb); have HP3 := Lib.hid hpc; obtain ⟨c0, c1, c2, c3, c4⟩ := H3.out.bx.1.1.da; clear hb hr hpc))
      | (go_at_call 13; go_must ((with_reducible refine (HIR.out _ H3.out.tb).mono ?_); rintro e w4 ⟨rfl, hb⟩; clear c0 c1 c2 c3 c4; have H4 := Lib.hid (H3.out.on hb); have HP4 := Lib.hid (HP3.out.below hb); clear hb)))
    have R0 := Lib.hid (Row.made w4 [] w4.heap.size w4.heap.size rfl (Nat.le_refl _) (by simp))
    have HP4' := Lib.hid (HP4.out.below (below_box w4 (.cells #[] 5)))
    have hB4 : w4.heap.size ≤ (w4.alloc (.cells #[] 5)).heap.size := (below_box w4 _).size
    go_upto_region 12 with (first
      | (go_at_call 14; go_must ((with_reducible refine (over_any HP6.out.lies HP6.out.nil hl7).mono ?_); intro e w7 hq; obtain ⟨p, rfl, hpp, hs, hb⟩ := hq; have HS7 := Lib.hid hs; have HB7 := Lib.hid (HB6.out.trans (hb.mono HB6.out.size)); have HB67 := Lib.hid hb; clear hs hb))
      | (have tok := HR5; at_builtin; go_must (refine row_any rfl _ _ rfl w4.heap.size _ ([] ++ y) rfl (HR5.out.later (below_box w5 (.cells #[.int .u8 7] 5))) (some ⟨w5.heap.size, 0, none⟩) 1 1 _ [7] rfl rfl (lies_made w5 [7] (0, 0)) (fun e => by cases e) hl7' (Nat.le_trans HB5.out.size (below_box w5 _).size) ?_; intro v6 w6 hr6 hb6; rw [← HLd.out] at hr6; obtain ⟨A6, c6', rfl, hpc6⟩ := hr6.pc; have HB6 := Lib.hid ((HB5.out.trans ((below_box w5 (.cells #[.int .u8 7] 5)).mono HB5.out.size)).trans hb6); have HP6 := Lib.hid hpc6; clear hr6 hb6 hpc6))
      | (at_builtin; go_must (refine row_any rfl _ _ rfl w4.heap.size _ [] rfl R0.out Ab y.length cb _ y rfl rfl HP4'.out.lies HP4'.out.nil hl0 hB4 ?_; intro v5 w5 hr5 hb5; have HR5 := Lib.hid hr5; have HB5 := Lib.hid ((below_box w4 (.cells #[] 5)).trans hb5); clear hr5 hb5)))
    have hx4 := H4.out.bx.1.1.lt
    have h46 := HB6.out.size
    have h7p := HS7.out.lt
    have hpk : PKDa w x A c p w6.heap.size Ab y w7.heap.size (w7.alloc (.cells #[.pointer (some ⟨p, 0, none⟩)] 45)) :=
      ⟨((H4.out.bx.1.1.below HB7.out).alloc _), ((HP4.out.below HB6.out).lies.below (HB67.out.trans ((below_box w7 _).mono HB67.out.size)) (Nat.le_refl _)), Whole.made _ _ _,
        (bxDa_bel H4.out.bx).trans ((HB7.out.trans ((below_box w7 _).mono HB7.out.size)).mono (bxDa_bel H4.out.bx).size), by omega, hpp, h7p, Nat.le_trans HB67.out.size (below_box w7 _).size⟩
    have HPK := Lib.hid hpk
    have HS8 := Lib.hid (HS7.out.alloc (.cells #[.pointer (some ⟨p, 0, none⟩)] 45))
    have hb6 : w7.heap.size < (w7.alloc (.cells #[.pointer (some ⟨p, 0, none⟩)] 45)).heap.size := hpk.pt.lt
    clear R0 HP4' HR5 H1 H2 H3 HP3 HB5 HB6 HP6 HAW H0 HRR HIR HPU HP4 H4 HB7 HB67 HS7 hpk hl7 hl7' hl0 hB4
    generalize w7.alloc (.cells #[.pointer (some ⟨p, 0, none⟩)] 45) = W8 at *
    generalize w7.heap.size = b6 at *
    have HV := Lib.hid (valueDa_ok (T := fun q W => q.1 = x ∧ PKDa w x A c p w6.heap.size Ab y b6 W ∧ Sc W p L y.length) (cfDa1 #[.pointer (some ⟨b6, 0, none⟩)]) (q := p) (w := W8) (by omega)
      (fun q W W' b h1 h2 h3 hg => ⟨h3.1, h3.2.1.grown hg (by omega) (by omega), h3.2.2.grown hg (by simp only [ne_eq, Option.some.injEq]; omega) (fun g e => by injection e with e; omega)⟩)
      (fun W hb hsz => by
        have hW := HPK.out.below hb
        have hS := HS8.out.below hb
        refine (closDa1 (x := x) (l := L) (k := y.length) hW.pt (fun W2 hb2 => ?_) hS.lt).mono ?_
        · have h2 := HGT.out W2 p L [7] 0 (hS.below hb2) (show TbP p W2 from ⟨w, HTw.out, Nat.le_of_lt hW.o1, (hW.below hb2).bel⟩) HL7.out HD.out
          rw [Nat.zero_add] at h2
          exact h2
        · rintro e w' ⟨A2, c2, rfl, hs, hg⟩
          exact ⟨(x, A2, c2), rfl, ⟨rfl, hW.grown hg (Nat.le_refl _) (by omega), hs⟩, hg⟩))
    clear HGT HTw
    go_upto_region 13 with (go_at_call 15; go_must ((with_reducible refine HV.out.mono ?_); rintro e w9 ⟨⟨q, A2, c2⟩, rfl, ⟨hqx, hpk, hs⟩, hg⟩; obtain rfl : q = x := hqx; have HPE := Lib.hid (show PEDa w q A c A2 c2 p w6.heap.size Ab y b6 w9.heap.size L y.length ((w9.alloc (.cells (daC q A2 c2) 39)).alloc (.cells #[.int .i64 0, .int .i64 0] 48)) from ⟨(hpk.below (below_box _ _)).below (below_box _ _), (hs.alloc _).alloc _, (Whole.made _ _ _).alloc _, (made_2 w9 _ _ _)⟩); clear hpk hs hg))
    generalize (w9.alloc (.cells (daC q A2 c2) 39)).alloc (.cells #[.int .i64 0, .int .i64 0] 48) = W9 at *
    refine wp_region_noPanic ?_
    refine wp_region_held_drew (S := fun W => PEDac w q A c A2 c2 p w6.heap.size Ab cb y b6 w9.heap.size L y.length W) (by kernel_rfl) ((HPE.out.below (Below.refl _ _).drew).all cb) (fun hHeld => ?_)
    (refine heldTake (i := 0) (oi := { dst := some 54, op := Op.move (Operand.tmp 4), type := 41, pos := "law.go:38", after := #[], guard := none }) (v := ?_) rfl (by kernel_rfl) (by kernel_rfl) (by kernel_rfl) (by assumption) ?_ ?_; rotate_left; focus (refine .inl ⟨by kernel_rfl, ?_⟩; intro w hSw; (try dsimp only at hSw); go_simp; (try with_reducible rfl)); (try simp only [Act.put, List.setIfInBounds_toArray, List.set_cons_zero, List.set_cons_succ]))
    (refine heldTake (i := 1) (oi := { dst := some 55, op := Op.convert 41 9 (Operand.tmp 54), type := 9, pos := "law.go:38", after := #[{ on := 0, ground := Ground.data }], guard := none }) (v := ?_) rfl (by kernel_rfl) (by kernel_rfl) (by kernel_rfl) (by assumption) ?_ ?_; rotate_left; focus (refine .inl ⟨by kernel_rfl, ?_⟩; intro w hSw; (try dsimp only at hSw); go_simp; (try with_reducible rfl)); (try simp only [Act.put, List.setIfInBounds_toArray, List.set_cons_zero, List.set_cons_succ]))
    (refine heldTake (i := 2) (oi := { dst := some 56, op := Op.load 39 (Operand.tmp 1), type := 39, pos := "law.go:38", after := #[], guard := none }) (v := ?_) rfl (by kernel_rfl) (by kernel_rfl) (by kernel_rfl) (by assumption) ?_ ?_; rotate_left; focus (refine .inl ⟨by kernel_rfl, ?_⟩; intro w hSw; (try dsimp only at hSw); go_simp; (try with_reducible rfl)); (try simp only [Act.put, List.setIfInBounds_toArray, List.set_cons_zero, List.set_cons_succ]))
    refine wpAnyH_ready (rs := [3]) (by kernel_rfl) (by simp) ?_
    refine AllReadyH.cons (o := { dst := some 57, op := Op.call { callee := Callee.value (Operand.func 18), args := #[Operand.tmp 56], argTypes := #[39] }, type := 9, pos := "law.go:38", after := #[{ on := 2, ground := Ground.data }], guard := none }) rfl (fun K hK => ?_) AllReadyH.nil
    go_simp
    (go_at_call 18; (with_reducible refine (HRP.out _).mono ?_); rintro e w10 ⟨rfl, hb⟩; have hk10 := (PEDa.below (And.left hHeld) hb).all cb; clear hb)
    refine hK.out _ _ hk10 (fun hHeld3 => ?_)
    clear hK K hHeld
    (try simp only [Act.put, List.setIfInBounds_toArray, List.set_cons_zero, List.set_cons_succ])
    (refine heldTake (i := 4) (oi := { dst := some 58, op := Op.binOp BinOp.eql 9 (Operand.tmp 55) (Operand.tmp 57) 9, type := 4, pos := "law.go:38", after := #[{ on := 1, ground := Ground.data }, { on := 3, ground := Ground.data }], guard := none }) (v := ?_) rfl (by kernel_rfl) (by kernel_rfl) (by kernel_rfl) (by assumption) ?_ ?_; rotate_left; focus (refine .inl ⟨by kernel_rfl, ?_⟩; intro w hSw; (try dsimp only at hSw); go_simp; (try with_reducible rfl)); (try simp only [Act.put, List.setIfInBounds_toArray, List.set_cons_zero, List.set_cons_succ]))
    (refine heldTake (i := 5) (oi := { dst := some 59, op := Op.move (Operand.tmp 58), type := 4, pos := "law.go:38", after := #[{ on := 4, ground := Ground.data }, { on := 3, ground := Ground.chain }], guard := none }) (v := ?_) rfl (by kernel_rfl) (by kernel_rfl) (by kernel_rfl) (by assumption) ?_ ?_; rotate_left; focus (refine .inl ⟨by kernel_rfl, ?_⟩; intro w hSw; (try dsimp only at hSw); go_simp; (try with_reducible rfl)); (try simp only [Act.put, List.setIfInBounds_toArray, List.set_cons_zero, List.set_cons_succ]))
    (refine heldTake (i := 6) (oi := { dst := some 60, op := Op.fieldAddr 48 (Operand.tmp 8) 0, type := 0, pos := "law.go:38", after := #[{ on := 5, ground := Ground.guard }], guard := some (5, true) }) (v := ?_) rfl (by kernel_rfl) (by kernel_rfl) (by kernel_rfl) (by assumption) ?_ ?_; rotate_left; focus (refine .inl ⟨by kernel_rfl, ?_⟩; intro w hSw; (try dsimp only at hSw); go_simp; (try with_reducible rfl)); (try simp only [Act.put, List.setIfInBounds_toArray, List.set_cons_zero, List.set_cons_succ]))
    (refine heldTake (i := 7) (oi := { dst := some 61, op := Op.load 26 (Operand.tmp 60), type := 26, pos := "law.go:38", after := #[{ on := 6, ground := Ground.data }, { on := 5, ground := Ground.guard }], guard := some (5, true) }) (v := ?_) rfl (by kernel_rfl) (by kernel_rfl) (by kernel_rfl) (by assumption) ?_ ?_; rotate_left; focus (refine .inl ⟨by kernel_rfl, ?_⟩; intro w hSw; (try dsimp only at hSw); go_simp; (try with_reducible rfl)); (try simp only [Act.put, List.setIfInBounds_toArray, List.set_cons_zero, List.set_cons_succ]))
    (refine heldTake (i := 8) (oi := { dst := some 62, op := Op.binOp BinOp.eql 26 (Operand.tmp 61) (Operand.const (Value.int IntKind.i64 0)) 26, type := 4, pos := "law.go:38", after := #[{ on := 7, ground := Ground.data }, { on := 5, ground := Ground.guard }], guard := some (5, true) }) (v := ?_) rfl (by kernel_rfl) (by kernel_rfl) (by kernel_rfl) (by assumption) ?_ ?_; rotate_left; focus (refine .inl ⟨by kernel_rfl, ?_⟩; intro w hSw; (try dsimp only at hSw); go_simp; (try with_reducible rfl)); (try simp only [Act.put, List.setIfInBounds_toArray, List.set_cons_zero, List.set_cons_succ]))
    (refine heldTake (i := 9) (oi := { dst := some 63, op := Op.pick (Operand.tmp 59) (Operand.tmp 62) (Operand.const (Value.bool false)), type := 4, pos := "law.go:38", after := #[{ on := 5, ground := Ground.data }, { on := 8, ground := Ground.data }], guard := none }) (v := ?_) rfl (by kernel_rfl) (by kernel_rfl) (by kernel_rfl) (by assumption) ?_ ?_; rotate_left; focus (refine .inl ⟨by kernel_rfl, ?_⟩; intro w hSw; (try dsimp only at hSw); go_simp; (try with_reducible rfl)); (try simp only [Act.put, List.setIfInBounds_toArray, List.set_cons_zero, List.set_cons_succ]))
    (refine heldTake (i := 10) (oi := { dst := some 64, op := Op.move (Operand.tmp 63), type := 4, pos := "law.go:38", after := #[{ on := 9, ground := Ground.data }, { on := 5, ground := Ground.chain }], guard := none }) (v := ?_) rfl (by kernel_rfl) (by kernel_rfl) (by kernel_rfl) (by assumption) ?_ ?_; rotate_left; focus (refine .inl ⟨by kernel_rfl, ?_⟩; intro w hSw; (try dsimp only at hSw); go_simp; (try with_reducible rfl)); (try simp only [Act.put, List.setIfInBounds_toArray, List.set_cons_zero, List.set_cons_succ]))
    (refine heldTake (i := 11) (oi := { dst := some 65, op := Op.load 39 (Operand.tmp 7), type := 39, pos := "law.go:38", after := #[{ on := 10, ground := Ground.guard }], guard := some (10, true) }) (v := ?_) rfl (by kernel_rfl) (by kernel_rfl) (by kernel_rfl) (by assumption) ?_ ?_; rotate_left; focus (refine .inl ⟨by kernel_rfl, ?_⟩; intro w hSw; (try dsimp only at hSw); go_simp; (try with_reducible rfl)); (try simp only [Act.put, List.setIfInBounds_toArray, List.set_cons_zero, List.set_cons_succ]))
    (refine heldTake (i := 12) (oi := { dst := some 66, op := Op.load 39 (Operand.tmp 1), type := 39, pos := "law.go:38", after := #[{ on := 10, ground := Ground.guard }], guard := some (10, true) }) (v := ?_) rfl (by kernel_rfl) (by kernel_rfl) (by kernel_rfl) (by assumption) ?_ ?_; rotate_left; focus (refine .inl ⟨by kernel_rfl, ?_⟩; intro w hSw; (try dsimp only at hSw); go_simp; (try with_reducible rfl)); (try simp only [Act.put, List.setIfInBounds_toArray, List.set_cons_zero, List.set_cons_succ]))
    refine wpAnyH_ready (rs := [13]) (by kernel_rfl) (by simp) ?_
    refine AllReadyH.cons (o := { dst := some 67, op := Op.call { callee := Callee.value (Operand.func 19), args := #[Operand.tmp 65, Operand.tmp 66], argTypes := #[39, 39] }, type := 4, pos := "law.go:38", after := #[{ on := 11, ground := Ground.data }, { on := 12, ground := Ground.data }, { on := 10, ground := Ground.chain }, { on := 10, ground := Ground.guard }], guard := some (10, true) }) rfl (fun K hK => ?_) AllReadyH.nil
    go_simp
    (go_at_call 19; (with_reducible refine (HSm.out _ _ _).mono ?_); rintro e w11 ⟨rfl, hb⟩; have hk11 := (PEDa.below (And.left hHeld3) hb).all cb; clear hb)
    refine hK.out _ _ hk11 (fun hHeld13 => ?_)
    clear hK K hHeld3
    (try simp only [Act.put, List.setIfInBounds_toArray, List.set_cons_zero, List.set_cons_succ])
    (refine heldTake (i := 14) (oi := { dst := some 68, op := Op.pick (Operand.tmp 64) (Operand.tmp 67) (Operand.const (Value.bool false)), type := 4, pos := "law.go:38", after := #[{ on := 10, ground := Ground.data }, { on := 13, ground := Ground.data }], guard := none }) (v := ?_) rfl (by kernel_rfl) (by kernel_rfl) (by kernel_rfl) (by assumption) ?_ ?_; rotate_left; focus (refine .inl ⟨by kernel_rfl, ?_⟩; intro w hSw; (try dsimp only at hSw); go_simp; (try with_reducible rfl)); (try simp only [Act.put, List.setIfInBounds_toArray, List.set_cons_zero, List.set_cons_succ]))
    (refine heldTake (i := 15) (oi := { dst := some 69, op := Op.move (Operand.tmp 68), type := 4, pos := "law.go:38", after := #[{ on := 14, ground := Ground.data }, { on := 13, ground := Ground.chain }], guard := none }) (v := ?_) rfl (by kernel_rfl) (by kernel_rfl) (by kernel_rfl) (by assumption) ?_ ?_; rotate_left; focus (refine .inl ⟨by kernel_rfl, ?_⟩; intro w hSw; (try dsimp only at hSw); go_simp; (try with_reducible rfl)); (try simp only [Act.put, List.setIfInBounds_toArray, List.set_cons_zero, List.set_cons_succ]))
    (refine heldTake (i := 16) (oi := { dst := some 70, op := Op.load 45 (Operand.tmp 6), type := 45, pos := "law.go:38", after := #[{ on := 15, ground := Ground.guard }], guard := some (15, true) }) (v := ?_) rfl (by kernel_rfl) (by kernel_rfl) (by kernel_rfl) (by assumption) ?_ ?_; rotate_left; focus (refine .inl ⟨by kernel_rfl, ?_⟩; intro w hSw; (try dsimp only at hSw); go_simp; (try with_reducible rfl)); (try simp only [Act.put, List.setIfInBounds_toArray, List.set_cons_zero, List.set_cons_succ]))
    refine wpAnyH_ready (rs := [17]) (by kernel_rfl) (by simp) ?_
    refine AllReadyH.cons (o := { dst := some 71, op := Op.call { callee := Callee.value (Operand.func 20), args := #[Operand.tmp 70], argTypes := #[45] }, type := 3, pos := "law.go:38", after := #[{ on := 16, ground := Ground.data }, { on := 15, ground := Ground.chain }, { on := 15, ground := Ground.guard }], guard := some (15, true) }) rfl (fun K hK => ?_) AllReadyH.nil
    go_simp
    (go_at_call 20; (with_reducible refine (HLf.out _ p (And.left hHeld13).sc).mono ?_); rintro e w12 ⟨rfl, m, rfl⟩; have hk12 := (PEDa.below (And.left hHeld13) (below_drewN (Below.refl _ _) m)).all cb)
    refine hK.out _ _ hk12 (fun hHeld17 => ?_)
    clear hK K hHeld13
    (try simp only [Act.put, List.setIfInBounds_toArray, List.set_cons_zero, List.set_cons_succ])
    (refine heldTake (i := 18) (oi := { dst := some 72, op := Op.binOp BinOp.eql 3 (Operand.tmp 71) (Operand.const (Value.int IntKind.i64 1)) 3, type := 4, pos := "law.go:38", after := #[{ on := 17, ground := Ground.data }, { on := 15, ground := Ground.guard }], guard := some (15, true) }) (v := ?_) rfl (by kernel_rfl) (by kernel_rfl) (by kernel_rfl) (by assumption) ?_ ?_; rotate_left; focus (refine .inl ⟨by kernel_rfl, ?_⟩; intro w hSw; (try dsimp only at hSw); go_simp; (try with_reducible rfl)); (try simp only [Act.put, List.setIfInBounds_toArray, List.set_cons_zero, List.set_cons_succ]))
    (refine heldTake (i := 19) (oi := { dst := some 73, op := Op.pick (Operand.tmp 69) (Operand.tmp 72) (Operand.const (Value.bool false)), type := 4, pos := "law.go:38", after := #[{ on := 15, ground := Ground.data }, { on := 18, ground := Ground.data }], guard := none }) (v := ?_) rfl (by kernel_rfl) (by kernel_rfl) (by kernel_rfl) (by assumption) ?_ ?_; rotate_left; focus (refine .inl ⟨by kernel_rfl, ?_⟩; intro w hSw; (try dsimp only at hSw); go_simp; (try with_reducible rfl)); (try simp only [Act.put, List.setIfInBounds_toArray, List.set_cons_zero, List.set_cons_succ]))
    (refine heldTake (i := 20) (oi := { dst := some 2, op := Op.assign (Operand.tmp 73), type := 4, pos := "law.go:38", after := #[{ on := 19, ground := Ground.data }, { on := 17, ground := Ground.chain }, { on := 0, ground := Ground.phase }, { on := 1, ground := Ground.phase }, { on := 2, ground := Ground.phase }, { on := 3, ground := Ground.phase }, { on := 4, ground := Ground.phase }, { on := 5, ground := Ground.phase }, { on := 6, ground := Ground.phase }, { on := 7, ground := Ground.phase }, { on := 8, ground := Ground.phase }, { on := 9, ground := Ground.phase }, { on := 10, ground := Ground.phase }, { on := 11, ground := Ground.phase }, { on := 12, ground := Ground.phase }, { on := 13, ground := Ground.phase }, { on := 14, ground := Ground.phase }, { on := 15, ground := Ground.phase }, { on := 16, ground := Ground.phase }, { on := 17, ground := Ground.phase }, { on := 18, ground := Ground.phase }, { on := 19, ground := Ground.phase }], guard := none }) (v := ?_) rfl (by kernel_rfl) (by kernel_rfl) (by kernel_rfl) (by assumption) ?_ ?_; rotate_left; focus (refine .inl ⟨by kernel_rfl, ?_⟩; intro w hSw; (try dsimp only at hSw); go_simp; (try with_reducible rfl)); (try simp only [Act.put, List.setIfInBounds_toArray, List.set_cons_zero, List.set_cons_succ]))
    refine wpAnyH_done (by kernel_rfl) ?_ _
    refine NoPanic.normal ?_
    have hLast := hHeld17
    clear hHeld17
    go_wp2
    go_ret
    exact ⟨rfl, (And.left hLast).a.bel⟩
  · rw [if_neg hz] at HPU
    have dz : (crightZ x.i != 0) = true := zb_of (by simpa using hz)
    generalize crightZ x.i = z at *
    clear hz g2 oi ni
    go_enter Tryd.func4, Tryd.ntmps4
    go_wp2_with (first
      | (go_at_call 10; go_must ((with_reducible refine HAW.out.mono ?_); rintro e w1 ⟨rfl, hb⟩; have H1 := Lib.hid (H0.out.on hb); obtain ⟨c0, c1, c2, c3, c4⟩ := H1.out.bx.1.1.da; clear hb))
      | (go_at_call 11; go_must ((with_reducible refine (HRR.out _).mono ?_); rintro e w2 ⟨rfl, hb⟩; clear c0 c1 c2 c3 c4; have H2 := Lib.hid (H1.out.on hb); obtain ⟨c0, c1, c2, c3, c4⟩ := H2.out.bx.1.1.da; clear hb))
      | (go_at_call 12; go_must ((with_reducible refine (HPU.out _ H2.out.tb).mono ?_); intro e w3 hq; obtain ⟨v, rfl, hr, hb⟩ := hq; obtain ⟨Ab, cb, rfl, _⟩ := hr.pc; clear c0 c1 c2 c3 c4; have H3 := Lib.hid (H2.out.on hb); obtain ⟨c0, c1, c2, c3, c4⟩ := H3.out.bx.1.1.da; clear hb hr))
      | (go_at_call 13; go_must ((with_reducible refine (HIR.out _ H3.out.tb).mono ?_); rintro e w4 ⟨rfl, hb⟩; clear c0 c1 c2 c3 c4; have H4 := Lib.hid (H3.out.on hb); clear hb)))
    go_ret
    exact ⟨rfl, bxDa_bel H4.out.bx⟩
end Go.Proofs.YtebgmfjgapmpfabDoor
