/- wire.GetItems of names, dylink.getNames, next, Read: of bytes that were written. -/
import Derived.Test.YtihpnplfklbgjaaDoorQd09
import Derived.Test.YtihpnplfklbgjaaDoorQd10
import Derived.Test.YtihpnplfklbgjaaDoorQd06
import Derived.Deep.CutBlock
import Derived.Deep.DeepCutAuto
import Derived.Test.YtihpnplfklbgjaaDoorQd02
namespace Go.Proofs.YtihpnplfklbgjaaDoor
open Go.RowKit
set_option linter.unusedVariables false
set_option maxRecDepth 100000

theorem RowT.past {W W' : World} {base b : Nat} {v : Value} {rows : List (List UInt8)} (h : RowT W base v rows) (hg : W.grownBy W' (some b)) (hb : b < base) : RowT W' base v rows :=
  World.ownsRow.kept h hg (by
    cases hv : v.ownBlock with
    | none => exact .inl rfl
    | some k => exact .inr (by have := (World.ownsRow.lt h k hv).1; simp only [ne_eq, Option.some.injEq]; omega))
theorem RowT.mono {W : World} {base base' : Nat} {v : Value} {rows : List (List UInt8)} (h : RowT W base v rows) (hb : base' ≤ base) : RowT W base' v rows := by
  obtain ⟨h1, h2⟩ := h
  refine ⟨h1, ?_⟩
  rcases h2 with h2 | ⟨g, cap, cur, e, hg, r⟩
  · exact .inl h2
  · exact .inr ⟨g, cap, cur, e, Nat.le_trans hb hg, r⟩
theorem RowT.room {W : World} {base : Nat} {A : Option Addr} {n c : Nat} {rows : List (List UInt8)} (h : RowT W base (.slice A n c) rows) : rows.length ≤ c := by
  rcases h.2 with ⟨e, h0⟩ | ⟨g, cap, cur, e, _, _, h1, _⟩
  · omega
  · injection e with _ _ e3
    omega
theorem Gb2.tbn {w w' : World} {a b p : Nat} (h : TbN p w) (hg : Gb2 w w' a b) (h1 : p ≤ a) (h2 : p ≤ b) : TbN p w' := by
  obtain ⟨⟨t1, t2⟩, h3, h4, h5⟩ := h
  have key : ∀ c o, c < p → w'.cell? ⟨c, o, none⟩ = w.cell? ⟨c, o, none⟩ := fun c o hb => by
    unfold World.cell?
    rw [hg.block c (by omega) (by omega) (by omega)]
  exact ⟨⟨fun c hc => (key _ _ h3).trans (t1 c hc), fun i hi => ⟨(key _ _ h4).trans (t2 i hi).1, (key _ _ h4).trans (t2 i hi).2⟩⟩, h3, h4, Nat.le_trans h5 hg.size⟩
/-- What holds at the head of its loop. -/
structure AInT (w : World) (p : Nat) (l : List UInt8) (k : Nat) (xs : List (List UInt8)) (v : Value) (W : World) : Prop where
  sc : Sc W p l k
  g : w.grownBy W (some p)
  r : RowT W w.heap.size v xs
  tb : TbN p W
section
variable {w W W' : World} {p : Nat} {l : List UInt8} {k k' : Nat} {xs : List (List UInt8)} {x : List UInt8} {v v' : Value}
theorem AInT.step (h : AInT w p l k xs v W) (hp : p < w.heap.size) (hg : W.grownBy W' (some p)) (hs : Sc W' p l k') : AInT w p l k' xs v W' :=
  ⟨hs, gb_trans h.g hg, h.r.past hg hp, h.tb.keep hg (Nat.le_refl _)⟩
theorem AInT.alloc (h : AInT w p l k xs v W) (hp : p < w.heap.size) (o : Obj) : AInT w p l k xs v (W.alloc o) := h.step hp (gb_alloc (gb_refl _ _) o) (h.sc.alloc o)
theorem AInT.more (h : AInT w p l k xs v W) (hp : p < w.heap.size) (hg : W.grownBy W' v.ownBlock) (hr : RowT W' w.heap.size v' (xs ++ [x])) : AInT w p l k (xs ++ [x]) v' W' := by
  have hlt := World.ownsRow.lt h.r
  refine ⟨h.sc.grown hg (fun e => by have := hlt p e.symm; omega) (fun g e => by have := hlt g e; omega), gb_before h.g hg (fun g e => .inr (hlt g e).1), hr, ?_⟩
  obtain ⟨⟨h1, h2⟩, h3, h4, h5⟩ := h.tb
  have key : ∀ b o, b < p → W'.cell? ⟨b, o, none⟩ = W.cell? ⟨b, o, none⟩ := fun b o hb => by
    unfold World.cell?
    rw [hg.block b (by omega) (fun e => by have := hlt b e.symm; omega)]
  exact ⟨⟨fun c hc => (key _ _ h3).trans (h1 c hc), fun i hi => ⟨(key _ _ h4).trans (h2 i hi).1, (key _ _ h4).trans (h2 i hi).2⟩⟩, h3, h4, Nat.le_trans h5 hg.size⟩
end
/-- The names that were read. -/
def GotT (p : Nat) (l : List UInt8) (xs : List (List UInt8)) (k : Nat) (w : World) (e : Ending) (w' : World) : Prop := ∃ v, e = .returned v ∧ RowT w' w.heap.size v xs ∧ Sc w' p l k ∧ w.grownBy w' (some p)
theorem nmGo_all : ∀ {l seen : List (List UInt8)}, nmGo seen l = 0 → ∀ s ∈ l, checkZ s = 0
  | [], _, _, s, hs => by cases hs
  | t :: r, seen, h, s, hs => by
    unfold nmGo at h
    by_cases e : checkZ t = 0
    · rw [if_neg (by simpa using e)] at h
      by_cases m : t ∈ seen
      · rw [if_pos m] at h; omega
      · rw [if_neg m] at h
        rcases List.mem_cons.1 hs with rfl | hs
        · exact e
        · exact nmGo_all h s hs
    · rw [if_pos e] at h; exact absurd h e
theorem cfScN (a : Array Value) (w : World) : (callFunc 89 a).run Tryd.prog w = .ok (.enter 89 a) w := by kernel_rfl
set_option maxHeartbeats 4000000 in
theorem getitems_strs {w : World} {p : Nat} {l : List UInt8} {xs : List (List UInt8)} (h : Sc w p l 0) (hT : TbN p w) (hd : l = ndL xs) (hz : ∀ s ∈ xs, checkZ s = 0) (hn1 : xs.length ≤ 1000) :
    Calls Tryd.prog 88 #[.pointer (some ⟨p, 0, none⟩), .func (.func 89) #[] #[]] w (GotT p l xs l.length w) := by
  have hp := h.lt
  have hd0 : l.drop 0 = lebL (xs.length : Int) ++ nmsL xs := by rw [hd]; rfl
  have hc := count_scan h
  rw [countR_at hd0 (by omega) (by omega)] at hc
  have hd1 := drop_past hd0
  rw [Nat.zero_add] at hc hd1
  have HC := Lib.hid hc
  obtain ⟨n, hn⟩ : ∃ n, n = xs.length := ⟨_, rfl⟩
  rw [← hn] at HC hn1
  have HN := Lib.hid hn
  have HE := Lib.hid (show xs.take n = xs ∧ xs.drop n = [] by rw [hn]; exact ⟨List.take_length, List.drop_length⟩)
  have HM := Lib.hid hz
  have HT := Lib.hid hT
  obtain ⟨k0, hk0⟩ : ∃ k0, k0 = (lebL (n : Int)).length := ⟨_, rfl⟩
  rw [← hn, ← hk0] at hd1
  rw [← hk0] at HC
  have HD := Lib.hid hd1
  have hcf := cfScN
  clear h hT hd hd0 hc hz hn hd1 hk0
  go_enter Tryd.func88, Tryd.ntmps88
  go_wp2_with (go_at_call 111; go_must ((with_reducible refine HC.out.mono ?_); rintro e w1 ⟨rfl, hs, hg⟩; have HS := Lib.hid hs; have HG := Lib.hid hg; clear hs hg))
  go_loopw [5, 8] (fun v i wr => ∃ j k : Nat, j ≤ n ∧ i = .int .i64 j ∧ AInT w p l k (xs.take j) v wr ∧ l.drop k = nmsL (xs.drop j)) (fun _ i _ => n - (intOf i).toNat)
  case atStart => exact ⟨0, k0, Nat.zero_le _, rfl, ⟨HS.out, HG.out, RowT.nil _ _, HT.out.keep HG.out (Nat.le_refl _)⟩, HD.out⟩
  case round =>
    obtain ⟨j, k, hj, rfl, ha, hdk⟩ := hrel
    by_cases hlt : j < n
    · obtain ⟨x, hx⟩ : ∃ x, xs[j]? = some x := ⟨_, List.getElem?_eq_getElem (by rw [← HN.out]; exact hlt)⟩
      have hdk2 : l.drop k = nmL x ++ nmsL (xs.drop (j + 1)) := by rw [hdk, drop_at hx]; unfold nmsL; rw [List.flatMap_cons]
      obtain ⟨z1, z2⟩ := checkZ_zero (HM.out x (List.mem_of_getElem? hx))
      have hG := name_scan ha.sc ha.tb
      rw [nameR_at hdk2 z1 z2] at hG
      have HGe := Lib.hid (show Calls Tryd.prog 89 #[.pointer (some ⟨p, 0, none⟩)] wr (fun e w' => e = .returned (.string (S x)) ∧ Sc w' p l (k + (nmL x).length) ∧ wr.grownBy w' (some p)) from hG)
      have HDK := Lib.hid (drop_past hdk2)
      have HTk := Lib.hid (take_at hx)
      have HA := Lib.hid ha
      have hle : (xs.take j).length ≤ 10000 := by rw [List.length_take]; omega
      clear ha hdk hdk2 hx hG z1 z2
      go_wp2_with (first
        | (go_at_call 89; go_must ((with_reducible refine HGe.out.mono ?_); rintro e w2 ⟨rfl, hs, hg⟩; have HA2 := Lib.hid (HA.out.step hp hg hs); have hz2 := HA2.out.g.size; have HX := Lib.hid (Whole.made w2 9 #[.string (S x)]); clear hs hg))
        | (at_builtin; (refine rowT_new rfl _ _ rfl w.heap.size _ (xs.take j) rfl (HA2.out.alloc hp _).r w2.heap.size x rfl HX.out hle (Nat.le_trans hz2 (below_box w2 _).size) ?_; intro v3 w3 hr3 hg3; have HA3 := Lib.hid ((HA2.out.alloc hp _).more hp hg3 hr3); clear hr3 hg3)))
      go_roundw
      case rel => exact ⟨j + 1, k + (nmL x).length, by omega, by go_num, by rw [HTk.out]; exact HA3.out, HDK.out⟩
      case measure => simp [intOf]; omega
    · obtain rfl : j = n := by omega
      rw [HE.out.1] at ha
      rw [HE.out.2] at hdk
      have hkl : k = l.length := by
        have e := congrArg List.length hdk
        rw [List.length_drop] at e
        have := ha.sc.le.1
        simp [nmsL] at e
        omega
      subst hkl
      have HA := Lib.hid ha
      clear ha hdk
      go_wp2
      go_ret
      exact ⟨_, rfl, HA.out.r, HA.out.sc, HA.out.g⟩
set_option maxHeartbeats 2000000 in
theorem getNames_dl {w : World} {p : Nat} {l : List UInt8} {xs : List (List UInt8)} (h : Sc w p l 0) (hT : TbN p w) (hd : l = ndL xs) (hz : ∀ s ∈ xs, checkZ s = 0) (hn1 : xs.length ≤ 1000) (hn0 : 0 < xs.length) :
    Calls Tryd.prog 54 #[.pointer (some ⟨p, 0, none⟩)] w (GotT p l xs l.length w) := by
  have HA := Lib.hid (at_any h)
  have HI := Lib.hid (getitems_strs h hT hd hz hn1)
  unfold GotT at HI
  have HN0 := Lib.hid hn0
  clear h hT hd hz hn1 hn0
  go_enter Tryd.func54, Tryd.ntmps54
  go_wp2_with (first
    | (go_at_call 47; go_must ((with_reducible refine HA.out.mono ?_); rintro e w1 ⟨rfl, rfl⟩))
    | (go_at_call 88; go_must ((with_reducible refine HI.out.mono ?_); intro e w2 hq; obtain ⟨v, rfl, hr, hs, hg⟩ := hq; obtain ⟨A, c, rfl⟩ := hr.slice; have HR := Lib.hid hr; have HS := Lib.hid hs; have HG := Lib.hid hg; have d1 : decide ((0 : Int) < (xs.length : Int)) = true := decide_eq_true (by have := HN0.out; omega); have d2 : decide (0 < xs.length) = true := decide_eq_true HN0.out; clear hr hs hg))
    | (go_at_call 48; go_must ((with_reducible refine (unlessT _ _ _).mono ?_); rintro e w' ⟨rfl, rfl⟩)))
  go_ret
  exact ⟨_, rfl, HR.out, HS.out, HG.out⟩
end Go.Proofs.YtihpnplfklbgjaaDoor

/- dylink.next, Read and its closures, of bytes that were written. -/
namespace Go.Proofs.YtihpnplfklbgjaaDoor
open Go.RowKit
set_option linter.unusedVariables false
set_option maxRecDepth 100000

/-- What is there while its first part is read. -/
abbrev dlM (a b c d : UInt32) : Dl := ⟨true, a, b, c, d, []⟩
theorem dl_start : dlC (dlM 0 0 0 0) none 0 = #[.bool true, .int .u32 0, .int .u32 0, .int .u32 0, .int .u32 0, .slice none 0 0] := rfl
/-- A reading, and its store into the box. -/
theorem mem_step {w w1 : World} {q X k' i : Nat} {part : List UInt8} {v : Value} {y z : Dl} (hX : Whole w X 25 (dlC y none 0)) (hs : Sc w1 q part k') (hg : w.grownBy w1 (some q)) (hne : X ≠ q) (hz : (dlC y none 0).setIfInBounds i v = dlC z none 0) :
    Whole w1 X 25 (dlC y none 0) ∧ Whole (w1.setCell ⟨X, i, none⟩ v) X 25 (dlC z none 0) ∧ Sc (w1.setCell ⟨X, i, none⟩ v) q part k' ∧ Gb2 w (w1.setCell ⟨X, i, none⟩ v) q X := by
  have h1 := hX.grown hg (by simp only [ne_eq, Option.some.injEq]; exact hne)
  have g1 : w1.grownBy (w1.setCell ⟨X, i, none⟩ v) (some X) := gb_put (p := ⟨X, i, none⟩) (gb_refl _ _) (.inl rfl) v
  have h2 := h1.put i v
  rw [hz] at h2
  exact ⟨h1, h2, hs.box h1 hne dl_no8 g1, (Gb2.left hg).trans (.right g1)⟩
/-- An index that was written. -/
theorem index_at {l r : List UInt8} {k : Nat} {v : UInt32} {q : Nat} (hd : l.drop k = lebL v.toNat ++ r) (W : World) (hs : Sc W q l k) :
    Calls Tryd.prog 52 #[.pointer (some ⟨q, 0, none⟩)] W fun e w' => e = .returned (.int .u32 v.toNat) ∧ Sc w' q l (k + (lebL (v.toNat : Int)).length) ∧ W.grownBy w' (some q) := by
  have h := index_scan hs
  rw [indexR_at hd (by omega) (u32_le v)] at h
  exact h
set_option maxHeartbeats 4000000 in
theorem rclos1 {w : World} {q X : Nat} {x : Dl} (hX : Whole w X 25 (dlC (dlM 0 0 0 0) none 0)) (h : Sc w q (memL x) 0) (hne : X ≠ q) :
    Calls Tryd.prog 51 #[.pointer (some ⟨q, 0, none⟩), .pointer (some ⟨X, 0, none⟩)] w (WRead (fun _ W => Whole W X 25 (dlC (dlM x.ms x.ma x.ts x.ta) none 0)) q X (memL x) w) := by
  have d0 : (memL x).drop 0 = lebL x.ms.toNat ++ (lebL x.ma.toNat ++ (lebL x.ts.toNat ++ (lebL x.ta.toNat ++ []))) := by unfold memL; simp
  have d1 := drop_past d0
  have d2 := drop_past d1
  have d3 := drop_past d2
  have hk : 0 + (lebL (x.ms.toNat : Int)).length + (lebL (x.ma.toNat : Int)).length + (lebL (x.ts.toNat : Int)).length + (lebL (x.ta.toNat : Int)).length = (memL x).length := by unfold memL; simp only [List.length_append]; omega
  have I1 := Lib.hid (fun W => index_at (q := q) d0 W)
  have I2 := Lib.hid (fun W => index_at (q := q) d1 W)
  have I3 := Lib.hid (fun W => index_at (q := q) d2 W)
  have I4 := Lib.hid (fun W => index_at (q := q) d3 W)
  rw [hk] at I4
  obtain ⟨k1, hk1⟩ : ∃ k1, k1 = 0 + (lebL (x.ms.toNat : Int)).length := ⟨_, rfl⟩
  rw [← hk1] at I1 I2 I3 I4
  obtain ⟨k2, hk2⟩ : ∃ k2, k2 = k1 + (lebL (x.ma.toNat : Int)).length := ⟨_, rfl⟩
  rw [← hk2] at I2 I3 I4
  obtain ⟨k3, hk3⟩ : ∃ k3, k3 = k2 + (lebL (x.ts.toNat : Int)).length := ⟨_, rfl⟩
  rw [← hk3] at I3 I4
  obtain ⟨L, hL⟩ : ∃ L, L = memL x := ⟨_, rfl⟩
  rw [← hL] at I1 I2 I3 I4 h ⊢
  have H0 := Lib.hid h
  have HX0 := Lib.hid hX
  clear hX h d0 d1 d2 d3 hk hk1 hk2 hk3 hL
  go_enter Tryd.func51, Tryd.ntmps51
  go_wp2_with (first
    | (have tok := M3; go_at_call 52; go_must ((with_reducible refine (I4.out _ M3.out.2.2.1).mono ?_); rintro e w4 ⟨rfl, hs, hg⟩; have m4 := mem_step (i := 4) (v := .int .u32 x.ta.toNat) (z := dlM x.ms x.ma x.ts x.ta) M3.out.2.1 hs hg hne rfl; have c4 := m4.1.cell 4; have f4 := m4.1.frozen 4; simp only [List.getElem?_toArray, List.getElem?_cons_zero, List.getElem?_cons_succ] at c4; have M4 := Lib.hid m4; clear m4 hs hg))
    | (have tok := M2; go_at_call 52; go_must ((with_reducible refine (I3.out _ M2.out.2.2.1).mono ?_); rintro e w3 ⟨rfl, hs, hg⟩; have m3 := mem_step (i := 3) (v := .int .u32 x.ts.toNat) (z := dlM x.ms x.ma x.ts 0) M2.out.2.1 hs hg hne rfl; have c3 := m3.1.cell 3; have f3 := m3.1.frozen 3; simp only [List.getElem?_toArray, List.getElem?_cons_zero, List.getElem?_cons_succ] at c3; have M3 := Lib.hid m3; clear m3 hs hg))
    | (have tok := M1; go_at_call 52; go_must ((with_reducible refine (I2.out _ M1.out.2.2.1).mono ?_); rintro e w2 ⟨rfl, hs, hg⟩; have m2 := mem_step (i := 2) (v := .int .u32 x.ma.toNat) (z := dlM x.ms x.ma 0 0) M1.out.2.1 hs hg hne rfl; have c2 := m2.1.cell 2; have f2 := m2.1.frozen 2; simp only [List.getElem?_toArray, List.getElem?_cons_zero, List.getElem?_cons_succ] at c2; have M2 := Lib.hid m2; clear m2 hs hg))
    | (go_at_call 52; go_must ((with_reducible refine (I1.out _ H0.out).mono ?_); rintro e w1 ⟨rfl, hs, hg⟩; have m1 := mem_step (i := 1) (v := .int .u32 x.ms.toNat) (z := dlM x.ms 0 0 0) HX0.out hs hg hne rfl; have c1 := m1.1.cell 1; have f1 := m1.1.frozen 1; simp only [List.getElem?_toArray, List.getElem?_cons_zero, List.getElem?_cons_succ] at c1; have M1 := Lib.hid m1; clear m1 hs hg)))
  go_end0
  exact ⟨rfl, M4.out.2.1, M4.out.2.2.1, ((M1.out.2.2.2.trans M2.out.2.2.2).trans M3.out.2.2.2).trans M4.out.2.2.2⟩
/-- What the second leaves behind. -/
def T2 (X : Nat) (x : Dl) (B : Nat) (W : World) : Prop := ∃ A c, Whole W X 25 (dlC ⟨true, x.ms, x.ma, x.ts, x.ta, x.nd⟩ A c) ∧ RowT W B (.slice A x.nd.length c) x.nd
set_option maxHeartbeats 2000000 in
theorem rclos2 {w : World} {q X : Nat} {x : Dl} (hX : Whole w X 25 (dlC (dlM x.ms x.ma x.ts x.ta) none 0)) (h : Sc w q (ndL x.nd) 0) (hne : X ≠ q) (hT : TbN q w) (hz : ∀ s ∈ x.nd, checkZ s = 0) (hn1 : x.nd.length ≤ 1000) (hn0 : 0 < x.nd.length) :
    Calls Tryd.prog 53 #[.pointer (some ⟨q, 0, none⟩), .pointer (some ⟨X, 0, none⟩)] w (WRead (T2 X x) q X (ndL x.nd) w) := by
  have hXl := hX.lt
  have HG := Lib.hid (getNames_dl h hT rfl hz hn1 hn0)
  unfold GotT at HG
  obtain ⟨L, hL⟩ : ∃ L, L = ndL x.nd := ⟨_, rfl⟩
  rw [← hL] at HG ⊢
  have HX0 := Lib.hid hX
  clear hX h hT hz hn1 hn0 hL
  go_enter Tryd.func53, Tryd.ntmps53
  go_wp2_with (go_at_call 54; go_must ((with_reducible refine HG.out.mono ?_); intro e w1 hq; obtain ⟨v, rfl, hr, hs, hg⟩ := hq; obtain ⟨A, c, rfl⟩ := hr.slice; have hx1 := HX0.out.grown hg (by simp only [ne_eq, Option.some.injEq]; exact hne); have c5 := hx1.cell 5; have f5 := hx1.frozen 5; simp only [List.getElem?_toArray, List.getElem?_cons_zero, List.getElem?_cons_succ] at c5; have HX1 := Lib.hid hx1; have HR := Lib.hid hr; have HS := Lib.hid hs; have HG1 := Lib.hid hg; clear hr hs hg hx1))
  go_end0
  have g1 : w1.grownBy (w1.setCell ⟨X, 5, none⟩ (.slice A x.nd.length c)) (some X) := gb_put (p := ⟨X, 5, none⟩) (gb_refl _ _) (.inl rfl) _
  exact ⟨rfl, ⟨A, c, HX1.out.put 5 _, HR.out.past g1 hXl⟩, HS.out.box HX1.out hne dl_no8 g1, (Gb2.left HG1.out).trans (.right g1)⟩
theorem cfR1 (a : Array Value) (w : World) : (callFunc 51 a).run Tryd.prog w = .ok (.enter 51 a) w := by kernel_rfl
theorem cfR2 (a : Array Value) (w : World) : (callFunc 53 a).run Tryd.prog w = .ok (.enter 53 a) w := by kernel_rfl
set_option maxHeartbeats 2000000 in
/-- A subsection's number, and all of it. -/
theorem next_w {w : World} {p X : Nat} {l part : List UInt8} {k n k1 : Nat} (num : UInt8) (g : FuncId) (T : Nat → World → Prop) (h : Sc w p l k) (hb : byteR l k = .ok num (k + 1)) (hi : indexR l (k + 1) = .ok (n : Int) k1) (hm : k1 + n ≤ l.length) (hl : l.length ≤ 1000000)
    (hpt : (l.drop k1).take n = part) (hpX : p < X) (hX : X < w.heap.size)
    (hcf : ∀ (a : Array Value) (w : World), (callFunc g a).run Tryd.prog w = .ok (.enter g a) w)
    (hT : ∀ B W W' b, T B W → W.grownBy W' (some b) → w.heap.size ≤ b → b < B → T B W') (hTd : ∀ B W m, T B W → T B (W.drewN m))
    (hread : ∀ W q, w.grownBy W (some p) → w.heap.size ≤ q → Sc W q part 0 → Calls Tryd.prog g #[.pointer (some ⟨q, 0, none⟩), .pointer (some ⟨X, 0, none⟩)] W (WRead T q X part W)) :
    Calls Tryd.prog 50 #[.pointer (some ⟨p, 0, none⟩), .int .u8 num.toNat, .func (.func g) #[] #[.pointer (some ⟨X, 0, none⟩)]] w fun e w' =>
      e = .returned (.tuple #[]) ∧ (∃ B, w.heap.size ≤ B ∧ T B w') ∧ Sc w' p l (k1 + n) ∧ Gb2 w w' p X := by
  have HA := Lib.hid (at_any h)
  have hB := byte_any h
  rw [hb] at hB
  have HB := Lib.hid (show Calls Tryd.prog 85 #[.pointer (some ⟨p, 0, none⟩)] w (fun e w' => e = .returned (.int .u8 num.toNat) ∧ Sc w' p l (k + 1) ∧ w.grownBy w' (some p)) from hB)
  have HW := Lib.hid (fun W (hs : Sc W p l (k + 1)) (hg : w.grownBy W (some p)) => whole_w (X := X) g T hs hi hm hl hpt hpX (Nat.lt_of_lt_of_le hX hg.size) hcf (fun B W1 W2 b a1 a2 a3 a4 => hT B W1 W2 b a1 a2 (Nat.le_trans hg.size a3) a4) hTd (fun W1 q a1 a2 a3 => hread W1 q (gb_trans hg a1) (Nat.le_trans hg.size a2) a3))
  obtain ⟨kn, hkn⟩ : ∃ kn, kn = k1 + n := ⟨_, rfl⟩
  rw [← hkn] at HW ⊢
  clear h hb hi hm hl hpt hcf hT hTd hread hB hkn
  go_enter Tryd.func50, Tryd.ntmps50
  go_wp2_with (first
    | (go_at_call 47; go_must ((with_reducible refine HA.out.mono ?_); rintro e w1 ⟨rfl, rfl⟩))
    | (go_at_call 85; go_must ((with_reducible refine HB.out.mono ?_); rintro e w2 ⟨rfl, hs, hg⟩; have HS := Lib.hid hs; have HG := Lib.hid hg; clear hs hg))
    | (go_at_call 48; go_must ((with_reducible refine (unlessT _ _ _).mono ?_); rintro e w' ⟨rfl, rfl⟩))
    | (go_at_call 86; go_must ((with_reducible refine (HW.out _ HS.out HG.out).mono ?_); intro e w3 hq; obtain ⟨rfl, ⟨B, hB, ht⟩, hs, hg⟩ := hq; have HB3 := Lib.hid hB; have HT3 := Lib.hid ht; have HS3 := Lib.hid hs; have HG3 := Lib.hid hg; clear hB ht hs hg)))
  go_end0
  exact ⟨rfl, ⟨B, Nat.le_trans HG.out.size HB3.out, HT3.out⟩, HS3.out, (Gb2.left HG.out).trans HG3.out⟩
/-- What Read hands back. -/
def GotD (p : Nat) (l : List UInt8) (x : Dl) (w : World) (e : Ending) (w' : World) : Prop := ∃ A c, e = .returned (dlV x A c) ∧ RowT w' w.heap.size (.slice A x.nd.length c) x.nd ∧ Sc w' p l l.length ∧ w.grownBy w' (some p)
/-- What is there behind its parts. -/
structure DEnd (w : World) (p : Nat) (l : List UInt8) (x : Dl) (A : Option Addr) (c B : Nat) (W : World) : Prop where
  sc : Sc W p l l.length
  r : Whole W w.heap.size 25 dlZ
  bx : Whole W (w.heap.size + 1) 25 (dlC x A c)
  n : RowT W B (.slice A x.nd.length c) x.nd
  b : w.heap.size + 2 ≤ B
  g : w.grownBy W (some p)
  tb : TabsU W
theorem DEnd.on {w W W' : World} {p B c : Nat} {l : List UInt8} {x : Dl} {A : Option Addr} (h : DEnd w p l x A c B W) (hb : Below W.heap.size W W') : DEnd w p l x A c B W' :=
  ⟨h.sc.below hb, h.r.below hb, h.bx.below hb, h.n.later hb, h.b, gb_trans h.g (gb_of_below _ hb), h.tb.below hb⟩
set_option maxHeartbeats 8000000 in
theorem read_dl {w : World} {p : Nat} {x : Dl} (h : Sc w p (dlputL x) 0) (hT : TbN p w) (hz : drZ x = 0) (hh : x.has = true) (hf : FewD x.nd) :
    Calls Tryd.prog 15 #[.pointer (some ⟨p, 0, none⟩)] w (GotD p (dlputL x) x w) := by
  have hp := h.lt
  have h40 := hf.n
  have hlen := dlputL_len hf
  have m0 := memL_len x
  -- the first part
  obtain ⟨rest, hrest⟩ : ∃ rest, dlputL x = subL 1 (memL x) ++ rest ∧ rest = if x.nd.length = 0 then [] else subL 2 (ndL x.nd) := by
    refine ⟨_, ?_, rfl⟩
    unfold dlputL
    split
    · rw [List.append_nil]
    · rfl
  obtain ⟨hr1, hr2⟩ := hrest
  have e0 : (dlputL x).drop 0 = (1 : UInt8) :: (lebL ((memL x).length : Int) ++ (memL x ++ rest)) := by rw [hr1]; unfold subL; simp
  have hb1 := byteR_at e0
  have e1 : (dlputL x).drop (0 + 1) = lebL ((memL x).length : Int) ++ (memL x ++ rest) := drop_past (k := 0) (a := [(1 : UInt8)]) (r := lebL ((memL x).length : Int) ++ (memL x ++ rest)) e0
  have hi1 := indexR_at e1 (by omega) (by omega)
  have e2 := drop_past e1
  obtain ⟨k1, hk1⟩ : ∃ k1, k1 = 0 + 1 + (lebL ((memL x).length : Int)).length := ⟨_, rfl⟩
  rw [← hk1] at hi1 e2
  have hkl : k1 + (memL x).length + rest.length = (dlputL x).length := by
    have a := congrArg List.length e2
    rw [List.length_drop, List.length_append] at a
    have b : k1 ≤ (dlputL x).length := by rw [hk1, hr1]; unfold subL; simp only [List.length_append, List.length_singleton]; omega
    omega
  have hpt1 : ((dlputL x).drop k1).take (memL x).length = memL x := by rw [e2, List.take_left]
  have e3 := drop_past e2
  have hdl : ∀ (A : Option Addr) (c : Nat), dlC ⟨true, x.ms, x.ma, x.ts, x.ta, x.nd⟩ A c = dlC x A c := fun A c => by rw [← hh]
  have HCK := Lib.hid (nmGo_all (seen := []) (l := x.nd) (by unfold drZ at hz; rw [if_pos hh] at hz; split at hz; omega; split at hz; omega; exact hz))
  have HRt := Lib.hid (fun W A c (hl : SlT W A x.nd) (hc : x.nd.length ≤ c) (ht : TabsU W) => show Calls Tryd.prog 11 #[dlV x A c] W (fun e w' => e = .returned (.int .i64 0) ∧ Below W.heap.size W w') from by have := right_dl hl (by omega) hc hf.k ht; rwa [hz] at this)
  have HND := Lib.hid (fun hn : ¬ x.nd.length = 0 => ndL_len hf)
  obtain ⟨L, hL⟩ : ∃ L, L = dlputL x := ⟨_, rfl⟩
  rw [← hL] at h hlen hb1 hi1 hpt1 e3 hkl ⊢
  have hm1 : k1 + (memL x).length ≤ L.length := by omega
  have HN1 := Lib.hid (fun (W : World) (hs : Sc W p L 0) (hX : Whole W (w.heap.size + 1) 25 #[.bool true, .int .u32 0, .int .u32 0, .int .u32 0, .int .u32 0, .slice none 0 0]) =>
    show Calls Tryd.prog 50 #[.pointer (some ⟨p, 0, none⟩), .int .u8 1, .func (.func 51) #[] #[.pointer (some ⟨w.heap.size + 1, 0, none⟩)]] W (fun e w' =>
      e = .returned (.tuple #[]) ∧ (∃ B, W.heap.size ≤ B ∧ Whole w' (w.heap.size + 1) 25 (dlC (dlM x.ms x.ma x.ts x.ta) none 0)) ∧ Sc w' p L (k1 + (memL x).length) ∧ Gb2 W w' p (w.heap.size + 1)) from
    next_w 1 _ (fun _ W => Whole W (w.heap.size + 1) 25 (dlC (dlM x.ms x.ma x.ts x.ta) none 0)) hs hb1 hi1 hm1 (by omega) hpt1 (by omega) hX.lt cfR1
      (fun B W1 W2 b a1 a2 a3 a4 => Whole.grown a1 a2 (by have := Whole.lt hX; simp only [ne_eq, Option.some.injEq]; omega)) (fun _ _ _ a => a)
      (fun W1 q a1 a2 a3 => rclos1 (show Whole W1 (w.heap.size + 1) 25 (dlC (dlM 0 0 0 0) none 0) from hX.grown a1 (by simp only [ne_eq, Option.some.injEq]; omega)) a3 (by have := hX.lt; omega)))
  have H0 := Lib.hid (h.alloc (.cells dlZ 25))
  have HT0 := Lib.hid (hT.below (below_box w (.cells dlZ 25)))
  have HR0 := Lib.hid (Whole.made w 25 dlZ)
  have G0 := Lib.hid (gb_alloc (gb_refl w (some p)) (.cells dlZ 25))
  have z0 : (w.alloc (.cells dlZ 25)).heap.size = w.heap.size + 1 := by simp
  -- what holds ahead of the first part
  have HST := Lib.hid (fun (m : Nat) => show Sc (((w.alloc (.cells dlZ 25)).drewN m).alloc (.cells (dlC (dlM 0 0 0 0) none 0) 25)) p L 0 ∧ Whole (((w.alloc (.cells dlZ 25)).drewN m).alloc (.cells (dlC (dlM 0 0 0 0) none 0) 25)) (w.heap.size + 1) 25 (dlC (dlM 0 0 0 0) none 0)
      ∧ Whole (((w.alloc (.cells dlZ 25)).drewN m).alloc (.cells (dlC (dlM 0 0 0 0) none 0) 25)) w.heap.size 25 dlZ ∧ TbN p (((w.alloc (.cells dlZ 25)).drewN m).alloc (.cells (dlC (dlM 0 0 0 0) none 0) 25))
      ∧ w.grownBy (((w.alloc (.cells dlZ 25)).drewN m).alloc (.cells (dlC (dlM 0 0 0 0) none 0) 25)) (some p) from by
    have hx := Whole.made ((w.alloc (.cells dlZ 25)).drewN m) 25 (dlC (dlM 0 0 0 0) none 0)
    rw [show ((w.alloc (.cells dlZ 25)).drewN m).heap.size = w.heap.size + 1 from z0] at hx
    have hb := below_box ((w.alloc (.cells dlZ 25)).drewN m) (.cells (dlC (dlM 0 0 0 0) none 0) 25)
    exact ⟨(H0.out.drewN m).below hb, hx, Whole.below (show Whole ((w.alloc (.cells dlZ 25)).drewN m) w.heap.size _ _ from HR0.out) hb, TbN.below (show TbN p ((w.alloc (.cells dlZ 25)).drewN m) from HT0.out) hb, gb_trans (gb_drewN G0.out m) (gb_of_below _ hb)⟩)
  have HDo0 := Lib.hid (fun W (hs : Sc W p L 0) => show Calls Tryd.prog 49 #[.pointer (some ⟨p, 0, none⟩)] W (fun e w' => e = .returned (.bool false) ∧ ∃ m, w' = W.drewN m) from by
    have := done_any hs
    rwa [show ((L.length : Int) - ((0 : Nat) : Int) == 0) = false by rw [beq_eq_false_iff_ne]; omega] at this)
  have HDoE := Lib.hid (fun W (hs : Sc W p L L.length) => show Calls Tryd.prog 49 #[.pointer (some ⟨p, 0, none⟩)] W (fun e w' => e = .returned (.bool true) ∧ ∃ m, w' = W.drewN m) from by
    have := done_any hs
    rwa [show ((L.length : Int) - (L.length : Int) == 0) = true by simp] at this)
  have HAt := Lib.hid (fun W k (hs : Sc W p L k) => at_any hs)
  have HDL := Lib.hid hdl
  rw [dl_start] at HST
  by_cases hn : x.nd.length = 0
  · have hnil : x.nd = [] := List.eq_nil_of_length_eq_zero hn
    rw [if_pos hn] at hr2
    have hke : k1 + (memL x).length = L.length := by rw [hr2] at hkl; simpa using hkl
    rw [hke] at HN1
    have HNIL := Lib.hid hnil
    obtain ⟨A, c, HMK⟩ : ∃ (A : Option Addr) (c : Nat), Hid (∀ (W w3 : World) (hs : Sc w3 p L L.length) (hR : Whole W w.heap.size 25 dlZ) (hX : Whole w3 (w.heap.size + 1) 25 (dlC (dlM x.ms x.ma x.ts x.ta) none 0)) (ht : TbN p W) (hg0 : w.grownBy W (some p)) (hg : Gb2 W w3 p (w.heap.size + 1)), DEnd w p L x A c (w.heap.size + 2) w3) :=
      ⟨none, 0, fun W w3 hs hR hX ht hg0 hg => ⟨hs, hg.whole hR (by omega) (by omega), by rw [← HDL.out, HNIL.out]; exact hX, by rw [HNIL.out]; exact RowT.nil _ _, Nat.le_refl _, ((Gb2.left hg0).trans hg).gb (by omega), (Gb2.tbn ht hg (Nat.le_refl _) (by omega)).tabs⟩⟩
    clear h hT hz hh hf h40 hlen m0 hr1 hr2 e0 hb1 e1 hi1 e2 hk1 hkl hpt1 e3 hdl hL hm1 hn hnil hke HND HCK HR0 HT0 G0
    go_enter Tryd.func15, Tryd.ntmps15
    go_wp2_with (first
      | (have tok := HEc; go_at_call 47; go_must ((with_reducible refine (HAt.out _ _ HEc.out.sc).mono ?_); rintro e w9 ⟨rfl, rfl⟩))
      | (have tok := HEb; go_at_call 49; go_must ((with_reducible refine (HDoE.out _ HEb.out.sc).mono ?_); rintro e w8 ⟨rfl, m8, rfl⟩; have HEc := Lib.hid (HE.out.on (below_drewN (Below.refl _ _) (m7 + m8))); obtain ⟨c0, c1, c2, c3, c4, c5⟩ := HEc.out.bx.dl))
      | (have tok := HE; go_at_call 49; go_must ((with_reducible refine (HDoE.out _ HE.out.sc).mono ?_); rintro e w7 ⟨rfl, m7, rfl⟩; have HEb := Lib.hid (HE.out.on (below_drewN (Below.refl _ _) m7))))
      | (go_at_call 11; go_must ((with_reducible refine (HRt.out _ _ _ HEc.out.n.slt HEc.out.n.room HEc.out.tb).mono ?_); rintro e w10 ⟨rfl, hb⟩; have hEd := HEc.out.on hb; clear c0 c1 c2 c3 c4 c5; obtain ⟨c0, c1, c2, c3, c4, c5⟩ := hEd.bx.dl; obtain ⟨r0, r1, r2, r3, r4, r5⟩ := (show Whole w10 w.heap.size 25 (dlC ⟨false, 0, 0, 0, 0, []⟩ none 0) from hEd.r).dl; have f0 := hEd.r.frozen 0; have f1 := hEd.r.frozen 1; have f2 := hEd.r.frozen 2; have f3 := hEd.r.frozen 3; have f4 := hEd.r.frozen 4; have f5 := hEd.r.frozen 5; have HEd := Lib.hid hEd; clear hEd hb))
      | (go_at_call 48; go_must ((with_reducible refine (unlessT _ _ _).mono ?_); rintro e w' ⟨rfl, rfl⟩))
      | (have tok := DD; go_at_call 50; go_must ((with_reducible refine (HN1.out _ (HST.out m1).1 (HST.out m1).2.1).mono ?_); intro e w3 hq; obtain ⟨rfl, ⟨B, hB, hx⟩, hs, hg⟩ := hq; have HE := Lib.hid (HMK.out _ _ hs (HST.out m1).2.2.1 hx (HST.out m1).2.2.2.1 (HST.out m1).2.2.2.2 hg); clear hB hx hs hg))
      | (go_at_call 47; go_must ((with_reducible refine (HAt.out _ _ H0.out).mono ?_); rintro e w1 ⟨rfl, rfl⟩))
      | (go_at_call 49; go_must ((with_reducible refine (HDo0.out _ H0.out).mono ?_); rintro e w2 ⟨rfl, m1, rfl⟩; have DD := Lib.hid (show True from trivial))))
    obtain ⟨h1, h2⟩ := put6 (u0 := .bool x.has) (u1 := .int .u32 x.ms.toNat) (u2 := .int .u32 x.ma.toNat) (u3 := .int .u32 x.ts.toNat) (u4 := .int .u32 x.ta.toNat) (u5 := .slice A x.nd.length c) HEd.out.r
    obtain ⟨q0, q1, q2, q3, q4, q5⟩ := Whole.dl (x := x) h1
    have hB := HEd.out.b
    exact bodyPost_ret (v := dlV x A c) (by simp [results, Tryd.results15, go_sem, q0, q1, q2, q3, q4, q5]) rfl ⟨A, c, rfl, (HEd.out.n.past h2 (by omega)).mono (by omega), HEd.out.sc.grown h2 (by simp only [ne_eq, Option.some.injEq]; omega) (fun g e => by injection e with e; omega), gb_before HEd.out.g h2 (fun g e => .inr (by injection e with e; omega))⟩
  · rw [if_neg hn] at hr2
    obtain ⟨nd0, nd1⟩ := HND.out hn
    rw [hr2] at hkl e3
    have hsl2 : (subL 2 (ndL x.nd)).length = 1 + (lebL ((ndL x.nd).length : Int)).length + (ndL x.nd).length := by unfold subL; simp only [List.length_append, List.length_singleton]; omega
    obtain ⟨km, hkm⟩ : ∃ km, km = k1 + (memL x).length := ⟨_, rfl⟩
    rw [← hkm] at hkl e3 HN1
    have f0 : L.drop km = (2 : UInt8) :: (lebL ((ndL x.nd).length : Int) ++ (ndL x.nd ++ [])) := by rw [e3]; unfold subL; simp
    have hb2 := byteR_at f0
    have f1 : L.drop (km + 1) = lebL ((ndL x.nd).length : Int) ++ (ndL x.nd ++ []) := drop_past (a := [(2 : UInt8)]) f0
    have hi2 := indexR_at f1 (by omega) (by omega)
    have f2 := drop_past f1
    obtain ⟨k2, hk2⟩ : ∃ k2, k2 = km + 1 + (lebL ((ndL x.nd).length : Int)).length := ⟨_, rfl⟩
    rw [← hk2] at hi2 f2
    have hke : k2 + (ndL x.nd).length = L.length := by omega
    have hpt2 : (L.drop k2).take (ndL x.nd).length = ndL x.nd := by rw [f2, List.take_left]
    have HN2 := Lib.hid (fun (W : World) (hs : Sc W p L km) (ht : TbN p W) (hX : Whole W (w.heap.size + 1) 25 (dlC (dlM x.ms x.ma x.ts x.ta) none 0)) =>
      show Calls Tryd.prog 50 #[.pointer (some ⟨p, 0, none⟩), .int .u8 2, .func (.func 53) #[] #[.pointer (some ⟨w.heap.size + 1, 0, none⟩)]] W (fun e w' =>
        e = .returned (.tuple #[]) ∧ (∃ B, W.heap.size ≤ B ∧ T2 (w.heap.size + 1) x B w') ∧ Sc w' p L L.length ∧ Gb2 W w' p (w.heap.size + 1)) from by
      rw [← hke]
      exact next_w 2 _ (T2 (w.heap.size + 1) x) hs hb2 hi2 (by omega) (by omega) hpt2 (by omega) hX.lt cfR2
        (fun B W1 W2 b ⟨A, c, a0, a1⟩ a2 a3 a4 => ⟨A, c, Whole.grown a0 a2 (by have := Whole.lt hX; simp only [ne_eq, Option.some.injEq]; omega), RowT.past a1 a2 a4⟩) (fun _ _ _ a => a)
        (fun W1 q a1 a2 a3 => rclos2 (hX.grown a1 (by simp only [ne_eq, Option.some.injEq]; omega)) a3 (by have := hX.lt; omega) ((ht.keep a1 (Nat.le_refl _)).more (by have := hX.lt; omega) (Nat.le_of_lt a3.lt)) HCK.out (by omega) (by omega)))
    have hdb : ((L.length : Int) - (km : Int) == 0) = false := by rw [beq_eq_false_iff_ne]; omega
    have HDoM := Lib.hid (fun W (hs : Sc W p L km) => show Calls Tryd.prog 49 #[.pointer (some ⟨p, 0, none⟩)] W (fun e w' => e = .returned (.bool false) ∧ ∃ m, w' = W.drewN m) from by
      have := done_any hs
      rwa [hdb] at this)
    -- behind the first part
    have HMK := Lib.hid (fun (W w3 : World) (hR : Whole W w.heap.size 25 dlZ) (ht : TbN p W) (hg0 : w.grownBy W (some p)) (hg : Gb2 W w3 p (w.heap.size + 1)) =>
      show Whole w3 w.heap.size 25 dlZ ∧ TbN p w3 ∧ w.grownBy w3 (some p) from ⟨hg.whole hR (by omega) (by omega), Gb2.tbn ht hg (Nat.le_refl _) (by omega), ((Gb2.left hg0).trans hg).gb (by omega)⟩)
    have HMK2 := Lib.hid (fun (W w4 : World) (A : Option Addr) (c B : Nat) (hR : Whole W w.heap.size 25 dlZ) (ht : TbN p W) (hg0 : w.grownBy W (some p)) (hg : Gb2 W w4 p (w.heap.size + 1)) (hs : Sc w4 p L L.length) (hz : w.heap.size + 2 ≤ B) (hx : Whole w4 (w.heap.size + 1) 25 (dlC ⟨true, x.ms, x.ma, x.ts, x.ta, x.nd⟩ A c)) (hn : RowT w4 B (.slice A x.nd.length c) x.nd) =>
      show DEnd w p L x A c B w4 from ⟨hs, hg.whole hR (by omega) (by omega), by rw [← HDL.out]; exact hx, hn, hz, ((Gb2.left hg0).trans hg).gb (by omega), (Gb2.tbn ht hg (Nat.le_refl _) (by omega)).tabs⟩)
    clear h hT hz hh hf h40 hlen m0 hr1 hr2 e0 hb1 e1 hi1 e2 hk1 hkl hpt1 e3 hdl hL hm1 hn HND HCK HR0 HT0 G0 f0 f1 f2 hb2 hi2 hk2 hke hpt2 hdb hkm hsl2 nd0 nd1
    go_enter Tryd.func15, Tryd.ntmps15
    go_wp2_with (first
      | (have tok := HEc; go_at_call 47; go_must ((with_reducible refine (HAt.out _ _ HEc.out.sc).mono ?_); rintro e w9 ⟨rfl, rfl⟩))
      | (have tok := HEb; go_at_call 49; go_must ((with_reducible refine (HDoE.out _ HEb.out.sc).mono ?_); rintro e w8 ⟨rfl, m8, rfl⟩; have HEc := Lib.hid (HE.out.on (below_drewN (Below.refl _ _) (m7 + m8))); obtain ⟨c0, c1, c2, c3, c4, c5⟩ := HEc.out.bx.dl))
      | (have tok := HE; go_at_call 49; go_must ((with_reducible refine (HDoE.out _ HE.out.sc).mono ?_); rintro e w7 ⟨rfl, m7, rfl⟩; have HEc := Lib.hid (HE.out.on (below_drewN (Below.refl _ _) m7)); obtain ⟨c0, c1, c2, c3, c4, c5⟩ := HEc.out.bx.dl))
      | (have tok := HM2; go_at_call 50; go_must ((with_reducible refine (HN2.out _ HS2.out HM2.out.2.1 HX2.out).mono ?_); intro e w5 hq; obtain ⟨rfl, ⟨B, hB, A, c, hx, hn⟩, hs, hg⟩ := hq; have HE := Lib.hid (HMK2.out _ _ A c B HM2.out.1 HM2.out.2.1 HM2.out.2.2 hg hs (Nat.le_trans HX2.out.lt hB) hx hn); clear hB hx hn hs hg))
      | (have tok := HM1; go_at_call 49; go_must ((with_reducible refine (HDoM.out _ HS1.out).mono ?_); rintro e w4 ⟨rfl, m4, rfl⟩; have hbd := below_drewN (Below.refl w3.heap.size w3) m4; have HS2 := Lib.hid (HS1.out.below hbd); have HX2 := Lib.hid (HX1.out.below hbd); have HM2 := Lib.hid (And.intro (HM1.out.1.below hbd) (And.intro (HM1.out.2.1.below hbd) (gb_trans HM1.out.2.2 (gb_of_below _ hbd)))); clear hbd))
      | (go_at_call 11; go_must ((with_reducible refine (HRt.out _ _ _ HEc.out.n.slt HEc.out.n.room HEc.out.tb).mono ?_); rintro e w10 ⟨rfl, hb⟩; have hEd := HEc.out.on hb; clear c0 c1 c2 c3 c4 c5; obtain ⟨c0, c1, c2, c3, c4, c5⟩ := hEd.bx.dl; obtain ⟨r0, r1, r2, r3, r4, r5⟩ := (show Whole w10 w.heap.size 25 (dlC ⟨false, 0, 0, 0, 0, []⟩ none 0) from hEd.r).dl; have f0 := hEd.r.frozen 0; have f1 := hEd.r.frozen 1; have f2 := hEd.r.frozen 2; have f3 := hEd.r.frozen 3; have f4 := hEd.r.frozen 4; have f5 := hEd.r.frozen 5; have HEd := Lib.hid hEd; clear hEd hb))
      | (go_at_call 48; go_must ((with_reducible refine (unlessT _ _ _).mono ?_); rintro e w' ⟨rfl, rfl⟩))
      | (have tok := DD; go_at_call 50; go_must ((with_reducible refine (HN1.out _ (HST.out m1).1 (HST.out m1).2.1).mono ?_); intro e w3 hq; obtain ⟨rfl, ⟨B, hB, hx⟩, hs, hg⟩ := hq; have HM1 := Lib.hid (HMK.out _ _ (HST.out m1).2.2.1 (HST.out m1).2.2.2.1 (HST.out m1).2.2.2.2 hg); have HX1 := Lib.hid hx; have HS1 := Lib.hid hs; clear hB hx hs hg))
      | (go_at_call 47; go_must ((with_reducible refine (HAt.out _ _ H0.out).mono ?_); rintro e w1 ⟨rfl, rfl⟩))
      | (go_at_call 49; go_must ((with_reducible refine (HDo0.out _ H0.out).mono ?_); rintro e w2 ⟨rfl, m1, rfl⟩; have DD := Lib.hid (show True from trivial))))
    obtain ⟨h1, h2⟩ := put6 (u0 := .bool x.has) (u1 := .int .u32 x.ms.toNat) (u2 := .int .u32 x.ma.toNat) (u3 := .int .u32 x.ts.toNat) (u4 := .int .u32 x.ta.toNat) (u5 := .slice A x.nd.length c) HEd.out.r
    obtain ⟨q0, q1, q2, q3, q4, q5⟩ := Whole.dl (x := x) h1
    have hB := HEd.out.b
    exact bodyPost_ret (v := dlV x A c) (by simp [results, Tryd.results15, go_sem, q0, q1, q2, q3, q4, q5]) rfl ⟨A, c, rfl, (HEd.out.n.past h2 (by omega)).mono (by omega), HEd.out.sc.grown h2 (by simp only [ne_eq, Option.some.injEq]; omega) (fun g e => by injection e with e; omega), gb_before HEd.out.g h2 (fun g e => .inr (by injection e with e; omega))⟩
end Go.Proofs.YtihpnplfklbgjaaDoor

/- abort.Value of a function that ends well, whatever it hands back: api.Dylink. (By gen/genVal.py.) -/
namespace Go.Proofs.YtihpnplfklbgjaaDoor
open Go.RowKit
set_option linter.unusedVariables false
set_option maxRecDepth 100000

/-- With where its names lie. -/
abbrev SlotD := Dl × (Option Addr × Nat)
abbrev sdC (x : SlotD) : Array Value := dlC x.1 x.2.1 x.2.2
abbrev sdV (x : SlotD) : Value := .agg (sdC x)
theorem cfVD (cap : Array Value) (w : World) : (callFunc 46 cap).run Tryd.prog w = .ok (.enter 46 cap) w := by kernel_rfl
section
variable {T : SlotD → World → Prop}
/-- Value's own closure: what the step hands back lies in its cell. -/
theorem valClosD {g : FuncId} {cap : Array Value} {b1 b4 q : Nat} {w : World} {z : Array Value} (hz : z.size = 6) (hcf : ∀ w : World, (callFunc g cap).run Tryd.prog w = .ok (.enter g cap) w)
    (h1 : Whole w b1 41 #[.func (.func g) #[] cap]) (h4 : Whole w b4 25 #[.bool false, .int .u32 0, .int .u32 0, .int .u32 0, .int .u32 0, .slice none 0 0]) (hb : q < b4) (hT : ∀ x W W', T x W → W.grownBy W' (some b4) → T x W')
    (h : Calls Tryd.prog g cap w fun e w' => ∃ x, e = .returned (sdV x) ∧ T x w' ∧ w.grownBy w' (some q)) :
    Calls Tryd.prog 46 #[.pointer (some ⟨b1, 0, none⟩), .pointer (some ⟨b4, 0, none⟩)] w fun e w' =>
      e = .returned (.tuple #[]) ∧ ∃ x, T x w' ∧ Whole w' b4 25 #[.bool x.1.has, .int .u32 x.1.ms.toNat, .int .u32 x.1.ma.toNat, .int .u32 x.1.ts.toNat, .int .u32 x.1.ta.toNat, .slice x.2.1 x.1.nd.length x.2.2] ∧ ∃ w1, w.grownBy w1 (some q) ∧ w1.grownBy w' (some b4) := by
  have hnil : ∀ w : World, (binOp BinOp.neq 41 (.func (.func g) #[] cap) .nilFunc).run Tryd.prog w = .ok (.bool true) w := fun _ => by kernel_rfl
  have c1 := h1.cell 0
  simp only [List.getElem?_toArray, List.getElem?_cons_zero] at c1
  have HH := Lib.hid h
  have H4 := Lib.hid h4
  have HT := Lib.hid hT
  clear h h1 h4 hT
  go_enter Tryd.func46, Tryd.ntmps46
  go_wp2_with fail
  refine HH.out.mono ?_
  rintro e w1 ⟨x, rfl, hs, hg⟩
  have HW := H4.out.grown hg (by simp only [ne_eq, Option.some.injEq]; omega)
  have k0 := HW.cell 0
  have k1 := HW.cell 1
  have k2 := HW.cell 2
  have k3 := HW.cell 3
  have k4 := HW.cell 4
  have k5 := HW.cell 5
  have f0 := HW.frozen 0
  have f1 := HW.frozen 1
  have f2 := HW.frozen 2
  have f3 := HW.frozen 3
  have f4 := HW.frozen 4
  have f5 := HW.frozen 5
  simp only [List.getElem?_toArray, List.getElem?_cons_zero, List.getElem?_cons_succ] at k0 k1 k2 k3 k4 k5
  obtain ⟨p1, p2⟩ := put6 (u0 := .bool x.1.has) (u1 := .int .u32 x.1.ms.toNat) (u2 := .int .u32 x.1.ma.toNat) (u3 := .int .u32 x.1.ts.toNat) (u4 := .int .u32 x.1.ta.toNat) (u5 := .slice x.2.1 x.1.nd.length x.2.2) HW
  have F : Hid (T x ((((((w1.setCell ⟨b4, 0, none⟩ (.bool x.1.has)).setCell ⟨b4, 1, none⟩ (.int .u32 x.1.ms.toNat)).setCell ⟨b4, 2, none⟩ (.int .u32 x.1.ma.toNat)).setCell ⟨b4, 3, none⟩ (.int .u32 x.1.ts.toNat)).setCell ⟨b4, 4, none⟩ (.int .u32 x.1.ta.toNat)).setCell ⟨b4, 5, none⟩ (.slice x.2.1 x.1.nd.length x.2.2))) := HT.out _ _ _ hs p2
  have P1 := Lib.hid p1
  have P2 := Lib.hid p2
  have HG := Lib.hid hg
  clear p1 p2 hs hg HW hcf
  go_wp2_with fail
  go_end0
  exact ⟨rfl, x, F.out, P1.out, w1, HG.out, P2.out⟩
/-- What Value's closure leaves behind, seen from Value's beginning. -/
structure VSD (T : SlotD → World → Prop) (w : World) (q : Nat) (x : SlotD) (w1 : World) : Prop where
  kept : T x w1
  grown : w.grownBy w1 (some q)
  val : Whole w1 (w.heap.size + 3) 25 #[.bool x.1.has, .int .u32 x.1.ms.toNat, .int .u32 x.1.ma.toNat, .int .u32 x.1.ts.toNat, .int .u32 x.1.ta.toNat, .slice x.2.1 x.1.nd.length x.2.2]
  r1 : Whole w1 (w.heap.size + 1) 25 #[.bool false, .int .u32 0, .int .u32 0, .int .u32 0, .int .u32 0, .slice none 0 0]
  r2 : Whole w1 (w.heap.size + 2) 37 #[.int .i64 0, .int .i64 0]
/-- The world in which Value calls Out. -/
def vWorldD (g : FuncId) (cap : Array Value) (w : World) : World :=
  (((w.alloc (.cells #[.func (.func g) #[] cap] 41)).alloc (.cells #[.bool false, .int .u32 0, .int .u32 0, .int .u32 0, .int .u32 0, .slice none 0 0] 25)).alloc (.cells #[.int .i64 0, .int .i64 0] 37)).alloc (.cells #[.bool false, .int .u32 0, .int .u32 0, .int .u32 0, .int .u32 0, .slice none 0 0] 25)
theorem vWorld_factsD (g : FuncId) (cap : Array Value) (w : World) : (vWorldD g cap w).heap.size = w.heap.size + 4 ∧ Whole (vWorldD g cap w) w.heap.size 41 #[.func (.func g) #[] cap] ∧
    Whole (vWorldD g cap w) (w.heap.size + 1) 25 #[.bool false, .int .u32 0, .int .u32 0, .int .u32 0, .int .u32 0, .slice none 0 0] ∧ Whole (vWorldD g cap w) (w.heap.size + 2) 37 #[.int .i64 0, .int .i64 0] ∧
    Whole (vWorldD g cap w) (w.heap.size + 3) 25 #[.bool false, .int .u32 0, .int .u32 0, .int .u32 0, .int .u32 0, .slice none 0 0] ∧ Below w.heap.size w (vWorldD g cap w) := by
  have b1 := Whole.made w 41 #[.func (.func g) #[] cap]
  have b2 := Whole.made (w.alloc (.cells #[.func (.func g) #[] cap] 41)) 25 #[.bool false, .int .u32 0, .int .u32 0, .int .u32 0, .int .u32 0, .slice none 0 0]
  have b3 := Whole.made ((w.alloc (.cells #[.func (.func g) #[] cap] 41)).alloc (.cells #[.bool false, .int .u32 0, .int .u32 0, .int .u32 0, .int .u32 0, .slice none 0 0] 25)) 37 #[.int .i64 0, .int .i64 0]
  have b4 := Whole.made (((w.alloc (.cells #[.func (.func g) #[] cap] 41)).alloc (.cells #[.bool false, .int .u32 0, .int .u32 0, .int .u32 0, .int .u32 0, .slice none 0 0] 25)).alloc (.cells #[.int .i64 0, .int .i64 0] 37)) 25 #[.bool false, .int .u32 0, .int .u32 0, .int .u32 0, .int .u32 0, .slice none 0 0]
  simp only [World.size_alloc] at b2 b3 b4
  exact ⟨by simp [vWorldD], ((b1.alloc _).alloc _).alloc _, (b2.alloc _).alloc _, b3.alloc _, b4,
    ((((Below.refl _ _).alloc (Nat.le_refl _) _).alloc (by simp) _).alloc (by simp; omega) _).alloc (by simp; omega) _⟩
theorem value_outD {g : FuncId} {cap : Array Value} {q : Nat} {w : World} (hcf : ∀ w : World, (callFunc g cap).run Tryd.prog w = .ok (.enter g cap) w) (hq : q < w.heap.size)
    (hT : ∀ x W W' b, w.heap.size ≤ b → b < w.heap.size + 5 → T x W → W.grownBy W' (some b) → T x W')
    (h : ∀ W, Below w.heap.size w W → w.heap.size + 5 ≤ W.heap.size → Calls Tryd.prog g cap W fun e w' => ∃ x, e = .returned (sdV x) ∧ T x w' ∧ W.grownBy w' (some q)) :
    Calls Tryd.prog 45 #[.func (.func 46) #[] #[.pointer (some ⟨w.heap.size, 0, none⟩), .pointer (some ⟨w.heap.size + 3, 0, none⟩)]] (vWorldD g cap w) fun e w' => e = .returned (.agg #[.int .i64 0, .int .i64 0]) ∧ ∃ x, VSD T w q x w' := by
  obtain ⟨hz, b1, b2, b3, b4, hbe⟩ := vWorld_factsD g cap w
  have b5 := Whole.made (vWorldD g cap w) 37 #[.int .i64 0, .int .i64 0]
  have hbe2 : Below w.heap.size w ((vWorldD g cap w).alloc (.cells #[.int .i64 0, .int .i64 0] 37)) := hbe.alloc (by omega) _
  have hc := valClosD (T := T) (z := #[.bool false, .int .u32 0, .int .u32 0, .int .u32 0, .int .u32 0, .slice none 0 0]) rfl hcf (b1.alloc (.cells #[.int .i64 0, .int .i64 0] 37)) (b4.alloc _) (by omega : q < w.heap.size + 3) (fun x W W' => hT x W W' _ (by omega) (by omega)) (h _ hbe2 (by rw [size_box]; omega))
  refine (out_any _ _ 0 0 (vWorldD g cap w) (fun w1 => (∃ x, VSD T w q x w1) ∧ Whole w1 (vWorldD g cap w).heap.size 37 #[.int .i64 0, .int .i64 0]) (cfVD _) (hc.mono ?_) (fun _ h => h.2)).mono ?_
  · rintro e w' ⟨rfl, x, hs, hv, w1, hg1, hg2⟩
    have hz2 : w.heap.size + 5 ≤ w1.heap.size := by have := hg1.size; simp only [World.size_alloc] at this; omega
    refine ⟨.inl ⟨rfl, rfl, rfl⟩, ⟨x, hs, ?_, hv, ?_, ?_⟩, ?_⟩
    · exact gb_before (gb_trans (gb_of_below (some q) hbe2) hg1) hg2 (fun g e => .inr (by injection e with e; omega))
    · exact ((b2.alloc _).grown hg1 (by simp only [ne_eq, Option.some.injEq]; omega)).grown hg2 (by simp only [ne_eq, Option.some.injEq]; omega)
    · exact ((b3.alloc _).grown hg1 (by simp only [ne_eq, Option.some.injEq]; omega)).grown hg2 (by simp only [ne_eq, Option.some.injEq]; omega)
    · exact (b5.grown hg1 (by simp only [ne_eq, Option.some.injEq]; omega)).grown hg2 (by simp only [ne_eq, Option.some.injEq]; omega)
  · rintro e w' ⟨rfl, w1, ⟨⟨x, hs⟩, _⟩, hg⟩
    rw [hz] at hg
    exact ⟨rfl, x, hT x _ _ _ (by omega) (by omega) hs.kept hg, gb_before hs.grown hg (fun g e => .inr (by injection e with e; omega)), hs.val.grown hg (by simp only [ne_eq, Option.some.injEq]; omega), hs.r1.grown hg (by simp only [ne_eq, Option.some.injEq]; omega), hs.r2.grown hg (by simp only [ne_eq, Option.some.injEq]; omega)⟩

set_option maxHeartbeats 800000 in
/-- Value of a function that ends well. -/
theorem valueD_ok {g : FuncId} {cap : Array Value} {q : Nat} {w : World} (hcf : ∀ w : World, (callFunc g cap).run Tryd.prog w = .ok (.enter g cap) w) (hq : q < w.heap.size)
    (hT : ∀ x W W' b, w.heap.size ≤ b → b < w.heap.size + 5 → T x W → W.grownBy W' (some b) → T x W')
    (h : ∀ W, Below w.heap.size w W → w.heap.size + 5 ≤ W.heap.size → Calls Tryd.prog g cap W fun e w' => ∃ x, e = .returned (sdV x) ∧ T x w' ∧ W.grownBy w' (some q)) :
    Calls Tryd.prog 13 #[.func (.func g) #[] cap] w fun e w' => ∃ x, e = .returned (.tuple #[sdV x, .agg #[.int .i64 0, .int .i64 0]]) ∧ T x w' ∧ w.grownBy w' (some q) := by
  have hv := value_outD hcf hq hT h
  unfold vWorldD at hv
  have HV := Lib.hid hv
  have HT := Lib.hid hT
  have hmf : ∀ (fn : Fn) (first cap : Array Value) (w : World), (Instr.makeFunc fn first cap).run Tryd.prog w = .ok (.func fn first cap) w := fun _ _ _ _ => rfl
  clear h hv hcf hT
  go_enter Tryd.func13, Tryd.ntmps13
  go_wp2_with (go_at_call 45; go_must (refine HV.out.mono ?_; rintro e w2 ⟨rfl, x, hl⟩; have k0 := fun o => (hl.val.alloc o).cell 0; have f0 := fun o => (hl.r1.alloc o).frozen 0; have m0 := fun o => (hl.r1.alloc o).cell 0; have k1 := fun o => (hl.val.alloc o).cell 1; have f1 := fun o => (hl.r1.alloc o).frozen 1; have m1 := fun o => (hl.r1.alloc o).cell 1; have k2 := fun o => (hl.val.alloc o).cell 2; have f2 := fun o => (hl.r1.alloc o).frozen 2; have m2 := fun o => (hl.r1.alloc o).cell 2; have k3 := fun o => (hl.val.alloc o).cell 3; have f3 := fun o => (hl.r1.alloc o).frozen 3; have m3 := fun o => (hl.r1.alloc o).cell 3; have k4 := fun o => (hl.val.alloc o).cell 4; have f4 := fun o => (hl.r1.alloc o).frozen 4; have m4 := fun o => (hl.r1.alloc o).cell 4; have k5 := fun o => (hl.val.alloc o).cell 5; have f5 := fun o => (hl.r1.alloc o).frozen 5; have m5 := fun o => (hl.r1.alloc o).cell 5; have f88 := fun o => (hl.r2.alloc o).frozen 0; have f99 := fun o => (hl.r2.alloc o).frozen 1; have m88 := fun o => (hl.r2.alloc o).cell 0; have m99 := fun o => (hl.r2.alloc o).cell 1; simp only [List.getElem?_toArray, List.getElem?_cons_zero, List.getElem?_cons_succ] at k0 k1 k2 k3 k4 k5 m0 m1 m2 m3 m4 m5 m88 m99; have hz := hl.grown.size; have HL := Lib.hid hl; clear hl))
  have hb : w.heap.size + 1 + 1 = w.heap.size + 2 := by omega
  rw [hb]
  obtain ⟨p1, g1⟩ := put6 (u0 := .bool x.1.has) (u1 := .int .u32 x.1.ms.toNat) (u2 := .int .u32 x.1.ma.toNat) (u3 := .int .u32 x.1.ts.toNat) (u4 := .int .u32 x.1.ta.toNat) (u5 := .slice x.2.1 x.1.nd.length x.2.2) (HL.out.r1.alloc (.cells #[.int .i64 0, .int .i64 0] 37))
  obtain ⟨p2, g2⟩ := put2 (u0 := .int .i64 0) (u1 := .int .i64 0) ((HL.out.r2.alloc (.cells #[.int .i64 0, .int .i64 0] 37)).grown g1 (by simp only [ne_eq, Option.some.injEq]; omega))
  have p3 := p1.grown g2 (by simp only [ne_eq, Option.some.injEq]; omega)
  have q0 := p3.cell 0
  have q1 := p3.cell 1
  have q2 := p3.cell 2
  have q3 := p3.cell 3
  have q4 := p3.cell 4
  have q5 := p3.cell 5
  have q88 := p2.cell 0
  have q99 := p2.cell 1
  simp only [List.getElem?_toArray, List.getElem?_cons_zero, List.getElem?_cons_succ] at q0 q1 q2 q3 q4 q5 q88 q99
  refine bodyPost_ret (v := .tuple #[sdV x, .agg #[.int .i64 0, .int .i64 0]]) (by simp [results, Tryd.results13, go_sem, q0, q1, q2, q3, q4, q5, q88, q99]) rfl ⟨x, rfl, ?_, ?_⟩
  · exact HT.out _ _ _ _ (by omega) (by omega) (HT.out _ _ _ _ (by omega) (by omega) (HT.out _ _ _ w.heap.size (Nat.le_refl _) (by omega) HL.out.kept (gb_alloc (gb_refl _ _) _)) g1) g2
  · exact gb_before (gb_before (gb_alloc HL.out.grown _) g1 (fun g e => .inr (by injection e with e; omega))) g2 (fun g e => .inr (by injection e with e; omega))
end
end Go.Proofs.YtihpnplfklbgjaaDoor

/- few, awake, the law's closure. -/
namespace Go.Proofs.YtihpnplfklbgjaaDoor
open Go.RowKit
set_option linter.unusedVariables false
set_option maxRecDepth 100000

/-- Is it tried? -/
def fewZ (l : List (List UInt8)) : Bool := decide (l.length ≤ 30 ∧ ∀ s ∈ l, s.length ≤ 300)
theorem fewZ_yes {l : List (List UInt8)} (h : fewZ l = true) : l.length ≤ 30 ∧ ∀ s ∈ l, s.length ≤ 300 := of_decide_eq_true h
theorem FewD.of {l : List (List UInt8)} (h : fewZ l = true) : FewD l := ⟨by have := (fewZ_yes h).1; omega, (fewZ_yes h).2⟩
set_option maxHeartbeats 2000000 in
theorem few_dl {w : World} {x : Dl} {A : Option Addr} {c : Nat} (hl : SlT w A x.nd) : Calls Tryd.prog 8 #[dlV x A c] w fun e w' => e = .returned (.bool (fewZ x.nd)) ∧ Below w.heap.size w w' := by
  have H0 := Lib.hid (bxD_start w x A c)
  obtain ⟨c0, c1, c2, c3, c4, c5⟩ := H0.out.2
  have HL := Lib.hid hl
  clear hl
  by_cases h30 : 30 < x.nd.length
  · have hr : fewZ x.nd = false := decide_eq_false (fun h => by have := h.1; omega)
    rw [hr]
    have d1 : decide ((30 : Int) < (x.nd.length : Int)) = true := decide_eq_true (by omega)
    clear hr h30
    go_enter Tryd.func8, Tryd.ntmps8
    go_wp2
    go_ret
    exact ⟨rfl, bxD_bel H0.out⟩
  · have d1 : decide ((30 : Int) < (x.nd.length : Int)) = false := decide_eq_false (by omega)
    obtain ⟨R, hR⟩ : ∃ R, R = fewZ x.nd := ⟨_, rfl⟩
    rw [← hR]
    have HR := Lib.hid hR
    have h30' : x.nd.length ≤ 30 := by omega
    have H30 := Lib.hid h30'
    clear hR h30
    go_enter Tryd.func8, Tryd.ntmps8
    go_wp2
    go_loopw [3] (fun i wr => ∃ k : Nat, k ≤ x.nd.length ∧ i = .int .i64 k ∧ (∀ s ∈ x.nd.take k, s.length ≤ 300) ∧ BxD w w.heap.size x A c wr) (fun i _ => x.nd.length - (intOf i).toNat)
    case atStart => exact ⟨0, Nat.zero_le _, rfl, (fun s hs => by simp at hs), H0.out⟩
    case round =>
      obtain ⟨k, hk, rfl, hg, hb⟩ := hrel
      clear c0 c1 c2 c3 c4 c5
      obtain ⟨c0, c1, c2, c3, c4, c5⟩ := hb.2
      have hbel := bxD_bel hb
      have HB := Lib.hid hb
      by_cases hlt : k < x.nd.length
      · obtain ⟨s, hs⟩ : ∃ s, x.nd[k]? = some s := ⟨_, List.getElem?_eq_getElem hlt⟩
        obtain ⟨b, off, hA, hbl, m0⟩ := HL.out.below hbel k s hs
        have ss := S_size s
        subst hA
        by_cases h3 : 300 < s.length
        · have d3 : decide ((300 : Int) < (s.length : Int)) = true := decide_eq_true (by omega)
          have HY := Lib.hid (show R = false by rw [HR.out]; exact decide_eq_false (fun h => by have := h.2 s (List.mem_of_getElem? hs); omega))
          clear h3 hg hb hbel hs
          go_wp2
          go_ret
          exact ⟨(by rw [HY.out]; rfl), bxD_bel HB.out⟩
        · have d3 : decide ((300 : Int) < (s.length : Int)) = false := decide_eq_false (by omega)
          have HG := Lib.hid (show ∀ t ∈ x.nd.take (k + 1), t.length ≤ 300 by rw [take_at hs]; intro t ht; rcases List.mem_append.1 ht with h | h; exact hg t h; rw [List.mem_singleton] at h; subst h; omega)
          clear h3 hg hb hbel hs
          go_wp2
          go_roundw
          case rel => exact ⟨k + 1, by omega, by go_num, HG.out, HB.out⟩
          case measure => simp [intOf]; omega
      · have hkn : k = x.nd.length := by omega
        rw [hkn, List.take_length] at hg
        have HY := Lib.hid (show R = true by rw [HR.out]; exact decide_eq_true ⟨H30.out, hg⟩)
        clear hg hb hbel hkn
        go_wp2
        go_ret
        exact ⟨(by rw [HY.out]; rfl), bxD_bel HB.out⟩
/-- The chapter's example. -/
def exD : Dl := ⟨true, 0, 0, 0, 0, []⟩
theorem exD_right : dpZ exD = 0 := by
  unfold dpZ
  have h : drZ exD = 0 := by unfold drZ exD; rw [if_pos rfl, if_neg (by decide), if_neg (by decide)]; rfl
  rw [if_neg (by simpa using h), if_pos (show exD.has = true from rfl)]
theorem exD_put : dlputL exD = [1, 4, 0, 0, 0, 0] := by
  have e0 : lebL (((0 : UInt32).toNat : Nat) : Int) = [0] := lebL_sm 0 (by omega) (by omega)
  have e4 : lebL ((4 : Nat) : Int) = [4] := lebL_sm 4 (by omega) (by omega)
  have em : memL exD = [0, 0, 0, 0] := by unfold memL exD; simp only [e0]; rfl
  unfold dlputL
  rw [if_pos (show exD.nd.length = 0 from rfl)]
  unfold subL
  rw [em]
  show [1] ++ (lebL ((4 : Nat) : Int) ++ [0, 0, 0, 0]) = _
  rw [e4]
  rfl
theorem awake_dl (w : World) (hT : TabsU w) : Calls Tryd.prog 7 #[] w fun e w' => e = .returned (.bool true) ∧ Below w.heap.size w w' := by
  have hp := put_dl (w := w) (x := exD) (A := none) (c := 0) (fun j s h => by cases h) ⟨by decide, fun s h => by cases h⟩ (by decide) hT
  unfold PuttedD at hp
  rw [exD_right, if_pos rfl, exD_put] at hp
  obtain ⟨l, hl⟩ : ∃ l : List UInt8, l = [1, 4, 0, 0, 0, 0] := ⟨_, rfl⟩
  rw [← hl] at hp
  have HP := Lib.hid (show Calls Tryd.prog 10 #[.agg #[.bool true, .int .u32 0, .int .u32 0, .int .u32 0, .int .u32 0, .slice none 0 0]] w fun e w' => ∃ v, e = .returned (.tuple #[v, .int .i64 0]) ∧ Row w' w.heap.size v l ∧ Below w.heap.size w w' from hp)
  have hcmp : ((S l).toList == [1, 4, 0, 0, 0, 0]) = true := by rw [S_toList, hl]; rfl
  clear hl hp hT
  go_enter Tryd.func7, Tryd.ntmps7
  go_wp2_with (go_at_call 10; go_must ((with_reducible refine HP.out.mono ?_); intro e w1 h; obtain ⟨v, rfl, hr, hb⟩ := h; obtain ⟨A, c, rfl, hcv⟩ := hr.str; have hcv2 := hcv 9 Tryd.underlying9; have HB := Lib.hid hb; clear hb hr hcv))
  go_ret
  exact ⟨rfl, HB.out⟩
theorem cfD1 (cap : Array Value) (w : World) : (callFunc 14 cap).run Tryd.prog w = .ok (.enter 14 cap) w := by kernel_rfl
set_option maxHeartbeats 4000000 in
theorem closD1 {w : World} {p b : Nat} {l : List UInt8} {x : Dl} (hb : Whole w b 34 #[.pointer (some ⟨p, 0, none⟩)])
    (hG : ∀ W, Below w.heap.size w W → Calls Tryd.prog 15 #[.pointer (some ⟨p, 0, none⟩)] W (GotD p l x W)) (hp : p < w.heap.size) :
    Calls Tryd.prog 14 #[.pointer (some ⟨b, 0, none⟩)] w (GotD p l x w) := by
  have c0 := hb.cell 0
  simp only [List.getElem?_toArray, List.getElem?_cons_zero] at c0
  have HGt := Lib.hid (hG _ (below_box w (.cells dlZ 25)))
  have HWM := Lib.hid (Whole.made w 25 dlZ)
  have c0' : ∀ o, (w.alloc o).cell? ⟨b, 0, none⟩ = some (.pointer (some ⟨p, 0, none⟩)) := fun o => (hb.alloc o).cell 0
  have hz0 : (w.alloc (.cells dlZ 25)).heap.size = w.heap.size + 1 := by simp
  clear hb hG c0
  go_enter Tryd.func14, Tryd.ntmps14
  go_wp2_with (go_at_call 15; go_must ((with_reducible refine HGt.out.mono ?_); intro e w1 hq; obtain ⟨A, c, rfl, hn, hs, hg⟩ := hq; have HS := Lib.hid hs; have HG := Lib.hid hg; have HN := Lib.hid hn; have HW1 := Lib.hid (HWM.out.grown hg (by simp only [ne_eq, Option.some.injEq]; omega)); obtain ⟨r0, r1, r2, r3, r4, r5⟩ := (show Whole w1 w.heap.size 25 (dlC ⟨false, 0, 0, 0, 0, []⟩ none 0) from HW1.out).dl; have f0 := HW1.out.frozen 0; have f1 := HW1.out.frozen 1; have f2 := HW1.out.frozen 2; have f3 := HW1.out.frozen 3; have f4 := HW1.out.frozen 4; have f5 := HW1.out.frozen 5; clear hs hg hn))
  obtain ⟨h1, h2⟩ := put6 (u0 := .bool x.has) (u1 := .int .u32 x.ms.toNat) (u2 := .int .u32 x.ma.toNat) (u3 := .int .u32 x.ts.toNat) (u4 := .int .u32 x.ta.toNat) (u5 := .slice A x.nd.length c) HW1.out
  obtain ⟨q0, q1, q2, q3, q4, q5⟩ := Whole.dl (x := x) h1
  exact bodyPost_ret (v := dlV x A c) (by simp [results, Tryd.results14, go_sem, q0, q1, q2, q3, q4, q5]) rfl ⟨A, c, rfl, (HN.out.past h2 (by omega)).mono (by omega), HS.out.grown h2 (by simp only [ne_eq, Option.some.injEq]; omega) (fun g e => by injection e with e; omega), gb_before (gb_trans (gb_alloc (gb_refl _ _) _) HG.out) h2 (fun g e => .inr (by injection e with e; omega))⟩
end Go.Proofs.YtihpnplfklbgjaaDoor
