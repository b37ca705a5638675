/- wire.Part, bodies.getLocals, whole, Get: of bytes that were written. -/
import Derived.Test.YtebgmfjgapmpfaaGreatDoorQb09
import Derived.Test.YtebgmfjgapmpfaaGreatDoorQb10
import Derived.Test.YtebgmfjgapmpfaaGreatDoorQa07
namespace Go.Proofs.YtebgmfjgapmpfaaGreatDoor
open Go.RowKit
set_option linter.unusedVariables false
set_option maxRecDepth 100000

/-- A row of groups of the call's own. -/
abbrev RowLo (W : World) (base : Nat) (v : Value) (rows : List Lo) : Prop := W.ownsRow base 105 2 v rows.length (rows.flatMap loL)
theorem RowLo.past {W W' : World} {base b : Nat} {v : Value} {rows : List Lo} (h : RowLo W base v rows) (hg : W.grownBy W' (some b)) (hb : b < base) : RowLo W' base v rows :=
  World.ownsRow.kept h hg (by
    cases hv : v.ownBlock with
    | none => exact .inl rfl
    | some k => exact .inr (by have := (World.ownsRow.lt h k hv).1; simp only [ne_eq, Option.some.injEq]; omega))
theorem RowLo.later {W W' : World} {base : Nat} {v : Value} {rows : List Lo} (h : RowLo W base v rows) (hb : Below W.heap.size W W') : RowLo W' base v rows :=
  World.ownsRow.kept h (gb_of_below none hb) (by cases v.ownBlock with
    | none => exact .inl rfl
    | some k => exact .inr (by simp))
theorem infoLo : (Tryz.prog.info? 105).map (fun i => (i.zero, i.size, i.bytes)) = some (some (.agg #[.int .u32 0, .int .u8 0]), 2, 8) := by kernel_rfl
theorem rowLo_new {w : World} {ops : Array Oper} {rest : List Oper} {o : Oper} {a : Act} {Q : Exit → Act → World → Prop} (hgd : o.guard = none) (s x : Operand)
    (ho : o.op = .call { callee := .builtin .append, args := #[s, x], argTypes := #[67, 67] })
    (B : Nat) (v : Value) (l : List Lo) (hs : a.eval s = v) (hr : RowLo w B v l) (g : Nat) (r : Lo) (hx : a.eval x = .slice (some ⟨g, 0, none⟩) 1 1)
    (hg : Whole w g 105 (loL r).toArray) (hb : l.length ≤ 10000) (hB : B ≤ w.heap.size)
    (h : ∀ v' w', RowLo w' B v' (l ++ [r]) → w.grownBy w' v.ownBlock → wpList Tryz.prog ops Q rest (a.put o.dst v') w') : wpList Tryz.prog ops Q (o :: rest) a w := by
  obtain ⟨i0, hi0, hz0, hz1, hz2⟩ := info_parts infoLo
  refine wpList_append_own _ hgd s x _ ho B 105 i0 _ 2 8 Tryz.underlying67 hi0 hz0 hz1 hz2 rfl (by omega) v _ _ hs hr ⟨g, 0, none⟩ 1 1 (loL r) hx rfl ?_ ?_ (by unfold maxLen; omega) (by omega) hB (fun v' w' h2 h3 _ => h v' w' ?_ h3)
  · intro j u hu
    rw [Go.WideShapes.add_plain, Nat.zero_add, hg.cell, ← Array.getElem?_toList]
    exact hu
  · intro u hu
    unfold loL at hu
    simp only [List.mem_cons, List.not_mem_nil, or_false] at hu
    rcases hu with rfl | rfl <;> rfl
  · show w'.ownsRow B 105 2 v' (l ++ [r]).length ((l ++ [r]).flatMap loL)
    rw [List.length_append, List.flatMap_append]
    simpa using h2
/-- Once it is read. -/
theorem RowLo.loc {W : World} {base : Nat} {v : Value} {rows : List Lo} (h : RowLo W base v rows) : ∃ A c, v = .slice A rows.length c ∧ LocT W A rows ∧ ∀ a, A = some a → base ≤ a.block := by
  rcases h.2 with ⟨rfl, h0⟩ | ⟨g, cap, cur, rfl, hb, hg, _, _, _, ht⟩
  · have hr : rows = [] := List.eq_nil_of_length_eq_zero h0
    subst hr
    exact ⟨none, 0, rfl, .inl ⟨rfl, rfl⟩, fun a e => by cases e⟩
  · exact ⟨_, cap, rfl, .inr ⟨g, cur, rfl, hg, ht⟩, fun a e => by injection e with e; subst e; exact hb⟩
theorem losL_at {l : List Lo} {k : Nat} {x : Lo} (h : l[k]? = some x) : losL l = losL (l.take k) ++ ((lebL x.n.toNat ++ [x.t]) ++ losL (l.drop (k + 1))) := by
  conv => lhs; rw [← List.take_append_drop k l, lo_drop h]
  unfold losL
  rw [List.flatMap_append, List.flatMap_cons]
theorem tyGo_mem : ∀ {l : List Lo}, tyGo l = 0 → ∀ x ∈ l, valueZ x.t.toNat = 0
  | [], _, x, hx => by cases hx
  | y :: l, h, x, hx => by
    unfold tyGo at h
    by_cases e : valueZ y.t.toNat = 0
    · rw [if_neg (by omega)] at h
      rcases List.mem_cons.1 hx with rfl | hx
      · exact e
      · exact tyGo_mem h x hx
    · rw [if_pos e] at h; exact absurd h e
/-- A group that was written. -/
theorem getLocal_ok {w : World} {p : Nat} {l r : List UInt8} {k : Nat} {x : Lo} (h : Sc w p l k) (hv : valueZ x.t.toNat = 0) (hd : l.drop k = lebL x.n.toNat ++ (x.t :: r)) :
    Calls Tryz.prog 79 #[.pointer (some ⟨p, 0, none⟩)] w fun e w' => e = .returned (.agg #[.int .u32 x.n.toNat, .int .u8 x.t.toNat]) ∧ Sc w' p l (k + (lebL (x.n.toNat : Int)).length + 1) ∧ w.grownBy w' (some p) := by
  have hp := h.lt
  have hxn := x.n.toNat_lt
  have hi := index_scan (h.alloc (.cells #[.int .u32 0, .int .u8 0] 105))
  rw [indexR_at hd (by omega) (by omega)] at hi
  have HI := Lib.hid hi
  have hd2 := drop_past hd
  have HV := Lib.hid (fun W (hs : Sc W p l (k + (lebL (x.n.toNat : Int)).length)) => show Calls Tryz.prog 118 #[.pointer (some ⟨p, 0, none⟩)] W (fun e w' => e = .returned (.int .u8 x.t.toNat) ∧ Sc w' p l (k + (lebL (x.n.toNat : Int)).length + 1) ∧ W.grownBy w' (some p)) from by have := val_scan hs; rw [valR_at hd2 hv] at this; exact this)
  have HW := Lib.hid (Whole.made w 105 #[.int .u32 0, .int .u8 0])
  obtain ⟨k1, hk1⟩ : ∃ k1, k1 = k + (lebL (x.n.toNat : Int)).length := ⟨_, rfl⟩
  rw [← hk1] at HI HV ⊢
  clear h hv hd hi hd2 hk1 hxn
  go_enter Tryz.func79, Tryz.ntmps79
  go_wp2_with (first
    | (go_at_call 117; go_must ((with_reducible refine HI.out.mono ?_); rintro e w2 ⟨rfl, hs, hg⟩; have HS2 := Lib.hid hs; have HG2 := Lib.hid (gb_trans (gb_alloc (gb_refl w _) _) hg); have HW2 := Lib.hid (HW.out.grown hg (by simp only [ne_eq, Option.some.injEq]; omega)); clear hs hg))
    | (go_at_call 118; go_must ((with_reducible refine (HV.out _ HS2.out).mono ?_); rintro e w3 ⟨rfl, hs, hg⟩; have HS3 := Lib.hid hs; have HG3 := Lib.hid (gb_trans HG2.out hg); have HW3 := Lib.hid (HW2.out.grown hg (by simp only [ne_eq, Option.some.injEq]; omega)); have k0 := HW3.out.cell 0; have k1' := HW3.out.cell 1; have f0 := HW3.out.frozen 0; have f1 := HW3.out.frozen 1; simp only [List.getElem?_toArray, List.getElem?_cons_zero, List.getElem?_cons_succ] at k0 k1'; clear hs hg)))
  obtain ⟨h1, h2⟩ := put2 (u0 := .int .u32 x.n.toNat) (u1 := .int .u8 x.t.toNat) HW3.out
  have q0 := h1.cell 0
  have q1 := h1.cell 1
  simp only [List.getElem?_toArray, List.getElem?_cons_zero, List.getElem?_cons_succ] at q0 q1
  exact bodyPost_ret (v := .agg #[.int .u32 x.n.toNat, .int .u8 x.t.toNat]) (by simp [results, Tryz.results79, go_sem, q0, q1]) rfl ⟨rfl, HS3.out.grown h2 (by simp only [ne_eq, Option.some.injEq]; omega) (fun g e => by injection e with e; omega), gb_before HG3.out h2 (fun g e => .inr (by injection e with e; omega))⟩
theorem cfGL (a : Array Value) (w : World) : (callFunc 79 a).run Tryz.prog w = .ok (.enter 79 a) w := by kernel_rfl
/-- What getLocals leaves behind. -/
def GotLo (p : Nat) (l : List UInt8) (ls : List Lo) (k : Nat) (w : World) (e : Ending) (w' : World) : Prop :=
  ∃ A c, e = .returned (.slice A ls.length c) ∧ (LocT w' A ls ∧ ∀ a, A = some a → w.heap.size ≤ a.block) ∧ Sc w' p l k ∧ w.grownBy w' (some p)
set_option maxHeartbeats 4000000 in
theorem getLocals_ok {w : World} {p : Nat} {l r : List UInt8} {k0 : Nat} {ls : List Lo} (h : Sc w p l k0) (hn : ls.length ≤ 10000) (hty : tyGo ls = 0) (hd : l.drop k0 = (lebL ls.length ++ losL ls) ++ r) :
    Calls Tryz.prog 78 #[.pointer (some ⟨p, 0, none⟩), .func (.func 79) #[] #[]] w (GotLo p l ls (k0 + (lebL ls.length ++ losL ls).length) w) := by
  have hp := h.lt
  have hd' := hd
  rw [List.append_assoc] at hd'
  have hc := count_scan h
  rw [countR_at hd' (by omega) (by omega)] at hc
  have HC := Lib.hid hc
  have HD := Lib.hid (drop_past hd')
  have HTY := Lib.hid (tyGo_mem hty)
  have HK : Hid (k0 + (lebL ls.length ++ losL ls).length = k0 + (lebL ls.length).length + (losL ls).length) := by show _ = _; rw [List.length_append]; omega
  rw [HK.out]
  obtain ⟨k1, hk1⟩ : ∃ k1, k1 = k0 + (lebL (ls.length : Int)).length := ⟨_, rfl⟩
  rw [← hk1] at HC HD ⊢
  obtain ⟨n, hnn⟩ : ∃ n, n = ls.length := ⟨_, rfl⟩
  have HNN := Lib.hid hnn
  rw [← hnn] at HC hn
  unfold GotLo
  rw [← hnn]
  clear h hd hd' hc hty HK hk1 hnn
  have hcf := cfGL
  go_enter Tryz.func78, Tryz.ntmps78
  go_wp2_with (go_at_call 116; go_must ((with_reducible refine HC.out.mono ?_); rintro e w1 ⟨rfl, hs, hg⟩; have HS := Lib.hid hs; have HG := Lib.hid hg; clear hs hg))
  go_loopw [5, 8] (fun v i wr => ∃ (k : Nat), k ≤ n ∧ i = .int .i64 k ∧ RowLo wr w.heap.size v (ls.take k) ∧ Sc wr p l (k1 + (losL (ls.take k)).length) ∧ w.grownBy wr (some p)) (fun _ i _ => n - (intOf i).toNat)
  case atStart => exact ⟨0, Nat.zero_le _, rfl, World.ownsRow_nil _ _ _ _, by simpa [losL] using HS.out, HG.out⟩
  case round =>
    obtain ⟨k, hk, rfl, hr, hs, hg⟩ := hrel
    by_cases hlt : k < n
    · obtain ⟨x, hx⟩ : ∃ x, ls[k]? = some x := ⟨_, List.getElem?_eq_getElem (by rw [← HNN.out]; exact hlt)⟩
      have hxn := x.n.toNat_lt
      have hvz := HTY.out x (List.mem_of_getElem? hx)
      have hd1 : l.drop (k1 + (losL (ls.take k)).length) = lebL x.n.toNat ++ (x.t :: (losL (ls.drop (k + 1)) ++ r)) := by
        refine drop_past (a := losL (ls.take k)) ?_
        rw [HD.out]
        conv => lhs; rw [losL_at hx]
        simp only [List.append_assoc, List.cons_append, List.nil_append]
      have HGL := Lib.hid (getLocal_ok hs hvz hd1)
      have HK2 : Hid (k1 + (losL (ls.take k)).length + (lebL (x.n.toNat : Int)).length + 1 = k1 + (losL (ls.take (k + 1))).length) := by
        show _ = _
        rw [losL_snoc hx, List.length_append, List.length_append, List.length_singleton]
        omega
      have HTK := Lib.hid (take_snocG hx)
      have hlk : (ls.take k).length = k := by rw [List.length_take, ← HNN.out]; omega
      have HLK := Lib.hid hlk
      have HR := Lib.hid hr
      have HG0 := Lib.hid hg
      obtain ⟨rows, hrows⟩ : ∃ rows, rows = ls.take k := ⟨_, rfl⟩
      obtain ⟨kb, hkb⟩ : ∃ kb, kb = k1 + (losL (ls.take k)).length + (lebL (x.n.toNat : Int)).length + 1 := ⟨_, rfl⟩
      rw [← hkb] at HGL HK2
      rw [← hrows] at HR HTK HLK
      have hgz := hg.size
      clear hx hr hs hg hd1 hvz hlk hrows hkb
      go_wp2_with (first
        | (go_at_call 79; go_must ((with_reducible refine HGL.out.mono ?_); rintro e w3 ⟨rfl, hs, hg⟩; have HS3 := Lib.hid hs; have HG3 := Lib.hid (gb_trans HG0.out hg); have HR3 := Lib.hid (RowLo.past HR.out hg hp); have hz3 := HG3.out.size; clear hs hg))
        | (at_builtin; (refine rowLo_new rfl _ _ rfl w.heap.size _ rows rfl (RowLo.later HR3.out (below_box w3 (.cells #[.int .u32 x.n.toNat, .int .u8 x.t.toNat] 105))) w3.heap.size x rfl (Whole.made w3 _ _) (by have := HLK.out; omega) (Nat.le_trans hz3 (below_box w3 _).size) ?_; intro v4 w4 hr4 hg4; have HR4 := Lib.hid hr4; have HG4 := Lib.hid hg4; clear hr4 hg4)))
      have hlt4 := World.ownsRow.lt HR3.out
      go_roundw
      case rel => exact ⟨k + 1, by omega, by go_num, by rw [HTK.out]; exact HR4.out, by rw [← HK2.out]; exact (HS3.out.alloc _).grown HG4.out (fun e => by have := hlt4 p e.symm; omega) (fun g e => by have := hlt4 g e; omega), gb_before (gb_alloc HG3.out _) HG4.out (fun g e => .inr (hlt4 g e).1)⟩
      case measure => simp [intOf]; omega
    · have hkn : k = ls.length := by rw [← HNN.out]; omega
      rw [hkn, List.take_length] at hr hs
      obtain ⟨A, c, rfl, hl⟩ := RowLo.loc hr
      rw [← HNN.out]
      have HL := Lib.hid hl
      have HS2 := Lib.hid hs
      have HG2 := Lib.hid hg
      clear hr hs hg hl hkn
      go_wp2
      go_ret
      exact ⟨A, c, rfl, HL.out, HS2.out, HG2.out⟩
end Go.Proofs.YtebgmfjgapmpfaaGreatDoor

/- bodies.whole, Get, of bytes that were written. -/
namespace Go.Proofs.YtebgmfjgapmpfaaGreatDoor
open Go.RowKit
set_option linter.unusedVariables false
set_option maxRecDepth 100000

theorem Gb2.tbp {w w' : World} {a b p : Nat} (h : TbP p w) (hg : Gb2 w w' a b) (h1 : p ≤ a) (h2 : p ≤ b) : TbP p w' := by
  obtain ⟨W0, t1, t2, t3⟩ := h
  exact ⟨W0, t1, t2, hg.os.trans t3.os, hg.tape.trans t3.tape, hg.output.trans t3.output, Nat.le_trans t3.size hg.size, fun i hi => (hg.block i (Nat.lt_of_lt_of_le hi t3.size) (by omega) (by omega)).trans (t3.block i hi)⟩
/-- The numbers are what their kinds hold; neither instructions nor groups nor labels are many. -/
structure BdOk (x : Bd) : Prop where
  ok : ∀ i ∈ x.b, i.Ok ∧ i.l.length ≤ 50
  h50 : x.ls.length ≤ 50
  h60 : x.b.length ≤ 60
theorem BdOk.ok100 {x : Bd} (h : BdOk x) : ∀ i ∈ x.b, i.Ok ∧ i.l.length ≤ 100 := fun i hi => ⟨(h.ok i hi).1, by have := (h.ok i hi).2; omega⟩
theorem putL_len50 {i : I} (h : i.Ok) (hl : i.l.length ≤ 50) : (putL i).length ≤ 600 := by
  obtain ⟨a0, a1, b0, b1, hl0⟩ := h
  have k1 := lebL_len i.a (by omega)
  have k2 := lebL_len i.b (by omega)
  have k3 := lebL_len (i.l.length : Int) (by omega)
  have k4 := labsL_len i.l hl0
  have k5 := sebL_len (s32 i.a) (by unfold s32; omega) (by unfold s32; omega)
  have k6 := sebL_len (s64 i.a) (by unfold s64; omega) (by unfold s64; omega)
  have key : (immL i).length ≤ 550 := by
    unfold immL immB labL
    repeat' split
    all_goals (try simp only [List.length_append, List.length_cons, List.length_nil])
    all_goals omega
  unfold putL
  rw [List.length_cons]
  omega
theorem bodyL_len50 : ∀ l : List I, (∀ i ∈ l, i.Ok ∧ i.l.length ≤ 50) → (bodyL l).length ≤ l.length * 600
  | [], _ => by simp [bodyL]
  | i :: r, h => by
    have h1 := bodyL_len50 r (fun j hj => h j (List.mem_cons_of_mem _ hj))
    have h2 := putL_len50 (h i (by simp)).1 (h i (by simp)).2
    unfold bodyL at h1 ⊢
    rw [List.flatMap_cons, List.length_append, List.length_cons]
    omega
theorem codeL_len {x : Bd} (h : BdOk x) : (codeL x).length ≤ 36600 := by
  have h1 := lebL_len (x.ls.length : Int) (by have := h.h50; omega)
  have h2 := losL_len x.ls
  have h3 := bodyL_len50 x.b h.ok
  have h4 := h.h50
  have h5 := h.h60
  have hb : (bputL x).length ≤ 36570 := by unfold bputL; rw [List.length_append, List.length_append]; omega
  have h6 := lebL_len ((bputL x).length : Int) (by omega)
  unfold codeL
  rw [List.length_append]
  omega
theorem brZ_zero {x : Bd} (h : brZ x = 0) : (∃ q : Nat, locGo 0 x.ls = (q : Int)) ∧ tyGo x.ls = 0 ∧ shapeGo [] (opsOf x.b) = true ∧ ∀ i ∈ x.b, rightZ i = 0 := by
  have hb : bshZ x = 0 := by
    unfold brZ at h
    by_cases e : bshZ x = 0
    · exact e
    · rw [if_pos e] at h; exact absurd h e
  have hc := brZ_code hb
  rw [h] at hc
  unfold bshZ at hb
  by_cases h1 : locGo 0 x.ls < 0
  · rw [if_pos h1] at hb; omega
  · rw [if_neg h1] at hb
    by_cases h2 : tyGo x.ls = 0
    · rw [if_neg (by omega)] at hb
      have h3 : shapeGo [] (opsOf x.b) = true := by
        unfold shapeZ at hb
        by_cases e : shapeGo [] (opsOf x.b) = true
        · exact e
        · rw [if_neg e] at hb; omega
      refine ⟨⟨(locGo 0 x.ls).toNat, by omega⟩, h2, h3, errZ_all ?_⟩
      unfold codeZ at hc
      rw [if_pos hb] at hc
      omega
    · rw [if_pos h2] at hb; exact absurd hb h2
/-- What reading a body leaves behind. -/
def GotBd (p : Nat) (l : List UInt8) (x : Bd) (k : Nat) (w : World) (e : Ending) (w' : World) : Prop :=
  ∃ s : SlotBd, s.1 = x ∧ e = .returned (cV s) ∧ HasBd w' w.heap.size s ∧ Sc w' p l k ∧ w.grownBy w' (some p)
/-- What Get's closure leaves behind. -/
def TBd (X : Nat) (x : Bd) (B : Nat) (W : World) : Prop := ∃ s : SlotBd, s.1 = x ∧ HasBd W B s ∧ Whole W X 70 (cC s)
theorem no8_2 {A B : Option Addr} {n c m d : Nat} (i : Nat) (k : Int) : (#[Value.slice A n c, Value.slice B m d] : Array Value)[i]? ≠ some (.int .u8 k) := by
  match i with
  | 0 | 1 => simp
  | i + 2 => simp
set_option maxHeartbeats 4000000 in
theorem gclos_ok {w : World} {p q X : Nat} {x : Bd} (hX : Whole w X 70 bdZ) (h : Sc w q (bputL x) 0) (hT : TbP p w) (hpq : p < q) (hpX : p < X) (hne : X ≠ q) (hr : brZ x = 0) (ho : BdOk x) :
    Calls Tryz.prog 77 #[.pointer (some ⟨q, 0, none⟩), .pointer (some ⟨X, 0, none⟩)] w (WRead (TBd X x) q X (bputL x) w) := by
  have hq := h.lt
  have hXl := hX.lt
  have h50 := ho.h50
  have h60 := ho.h60
  obtain ⟨⟨n, f1⟩, f2, f3, f4⟩ := brZ_zero hr
  have hd0 : (bputL x).drop 0 = (lebL x.ls.length ++ losL x.ls) ++ (bodyL x.b ++ []) := by rw [List.append_nil]; rfl
  have hlo := getLocals_ok h (by omega) f2 hd0
  have hd1 := drop_past hd0
  have hk : 0 + (lebL (x.ls.length : Int) ++ losL x.ls).length + (bodyL x.b).length = (bputL x).length := by unfold bputL; simp only [List.length_append]; omega
  obtain ⟨k1, hk1⟩ : ∃ k1, k1 = 0 + (lebL (x.ls.length : Int) ++ losL x.ls).length := ⟨_, rfl⟩
  rw [← hk1] at hlo hd1 hk
  have HLo := Lib.hid hlo
  have HCn := Lib.hid (fun W A c (hl : Los W A x.ls) => show Calls Tryz.prog 70 #[.slice A x.ls.length c] W fun e w' => e = .returned (.tuple #[.int .i64 n, .int .i64 0]) ∧ Below W.heap.size W w' from by have := cnt_any (c := c) hl (by omega); rw [(cnt_yes f1).1, (cnt_yes f1).2] at this; exact this)
  have HGB := Lib.hid (fun W (hs : Sc W q (bputL x) k1) (ht : TbP p W) => show Calls Tryz.prog 81 #[.pointer (some ⟨q, 0, none⟩)] W (GotB q (bputL x) x.b (bputL x).length W) from by
    have ht2 : TbP q W := by obtain ⟨W0, t1, t2, t3⟩ := ht; exact ⟨W0, t1, by omega, t3⟩
    have := getBody_ok (r := []) (fun i hi => ⟨(ho.ok i hi).1, f4 i hi⟩) f3 (by omega) hs ht2 hd1; rw [hk] at this; exact this)
  obtain ⟨L, hL⟩ : ∃ L, L = bputL x := ⟨_, rfl⟩
  rw [← hL] at HLo HGB ⊢
  have HX0 := Lib.hid hX
  have HT0 := Lib.hid hT
  clear h hT hr ho f1 f2 f3 f4 hd0 hlo hd1 hk hk1 hL hX
  go_enter Tryz.func77, Tryz.ntmps77
  go_wp2_with (first
    | (go_at_call 78; go_must ((with_reducible refine HLo.out.mono ?_); intro e w1 hq2; obtain ⟨A, c, rfl, hl, hs, hg⟩ := hq2; have hx1 := HX0.out.grown hg (by simp only [ne_eq, Option.some.injEq]; exact hne); have g1 : w1.grownBy (w1.setCell ⟨X, 0, none⟩ (.slice A x.ls.length c)) (some X) := gb_put (p := ⟨X, 0, none⟩) (gb_refl _ _) (.inl rfl) _; have HL1 := Lib.hid hl; have HLk := Lib.hid (hl.1.keep g1 (fun a ha => by have := hl.2 a ha; simp only [ne_eq, Option.some.injEq]; omega)); have HX1 := Lib.hid (show Whole (w1.setCell ⟨X, 0, none⟩ (.slice A x.ls.length c)) X 70 #[.slice A x.ls.length c, .slice none 0 0] from hx1.put 0 _); have HS1 := Lib.hid (hs.box hx1 hne (fun i k => no8_2 i k) g1); have HG1 := Lib.hid ((Gb2.left (b := X) hg).trans (.right g1)); have HT1 := Lib.hid (Gb2.tbp HT0.out HG1.out (Nat.le_of_lt hpq) (Nat.le_of_lt hpX)); have k0 := hx1.cell 0; have f0 := hx1.frozen 0; have k0' := HX1.out.cell 0; simp only [List.getElem?_toArray, List.getElem?_cons_zero] at k0 k0'; clear hl hs hg hx1 g1))
    | (go_at_call 70; go_must ((with_reducible refine (HCn.out _ _ _ HLk.out.los).mono ?_); rintro e w2 ⟨rfl, hb⟩; have HX2 := Lib.hid (HX1.out.below hb); have HL2 := Lib.hid (HLk.out.on hb); have HS2 := Lib.hid (HS1.out.below hb); have HG2 := Lib.hid (HG1.out.trans (.of_below hb)); have HT2 := Lib.hid (HT1.out.grown (gb_of_below none hb) (fun g e => by cases e)); clear hb))
    | (go_at_call 80; go_must ((with_reducible refine (unlessT _ _ _).mono ?_); rintro e w' ⟨rfl, rfl⟩))
    | (go_at_call 81; go_must ((with_reducible refine (HGB.out _ HS2.out HT2.out).mono ?_); intro e w3 hq2; obtain ⟨B, d, rows, rfl, hrow, hm, hs, hg⟩ := hq2; have hx3 := HX2.out.grown hg (by simp only [ne_eq, Option.some.injEq]; exact hne); have k1 := hx3.cell 1; have f1 := hx3.frozen 1; simp only [List.getElem?_toArray, List.getElem?_cons_zero, List.getElem?_cons_succ] at k1; have HX3 := Lib.hid hx3; have HL3 := Lib.hid (HL2.out.keep hg (fun a ha => by have := HL1.out.2 a ha; simp only [ne_eq, Option.some.injEq]; omega)); have HRW := Lib.hid hrow; have HM := Lib.hid hm; have HS3 := Lib.hid hs; have HG3 := Lib.hid (HG2.out.trans (.left hg)); have hz3 := HG2.out.size; clear hrow hm hs hg hx3)))
  have g4 : w3.grownBy (w3.setCell ⟨X, 1, none⟩ (.slice B x.b.length d)) (some X) := gb_put (p := ⟨X, 1, none⟩) (gb_refl _ _) (.inl rfl) _
  have hhas : HasBd w3 w.heap.size (x, (A, c), (B, d)) := ⟨⟨HL3.out, fun a ha => HL1.out.2 a ha⟩, rows, HRW.out.mono hz3, HM.out⟩
  go_end0
  exact ⟨rfl, ⟨(x, (A, c), (B, d)), rfl, hhas.past g4 hXl, HX3.out.put 1 _⟩, HS3.out.box HX3.out hne (fun i k => no8_2 i k) g4, HG3.out.trans (.right g4)⟩
theorem cfGB (a : Array Value) (w : World) : (callFunc 77 a).run Tryz.prog w = .ok (.enter 77 a) w := by kernel_rfl
set_option maxHeartbeats 4000000 in
theorem get_bd {w : World} {p : Nat} {l r : List UInt8} {k : Nat} {x : Bd} (h : Sc w p l k) (hT : TbP p w) (hr : brZ x = 0) (ho : BdOk x) (hl : l.length ≤ 1000000) (hd : l.drop k = codeL x ++ r) :
    Calls Tryz.prog 39 #[.pointer (some ⟨p, 0, none⟩)] w (GotBd p l x (k + (codeL x).length) w) := by
  have hp := h.lt
  have hcl := codeL_len ho
  have hbl : (codeL x).length = (lebL ((bputL x).length : Int)).length + (bputL x).length := by unfold codeL; rw [List.length_append]
  have hd1 : l.drop k = lebL ((bputL x).length : Int) ++ (bputL x ++ r) := by rw [hd]; unfold codeL; rw [List.append_assoc]
  have hi := indexR_at hd1 (by omega) (by omega)
  have hd2 := drop_past hd1
  obtain ⟨k1, hk1⟩ : ∃ k1, k1 = k + (lebL ((bputL x).length : Int)).length := ⟨_, rfl⟩
  rw [← hk1] at hi hd2
  have hkk : k + (codeL x).length = k1 + (bputL x).length := by omega
  have hm : k1 + (bputL x).length ≤ l.length := by
    have h1 := congrArg List.length hd2
    rw [List.length_drop, List.length_append] at h1
    have h2 : k1 ≤ l.length := by
      have h3 := congrArg List.length hd1
      rw [List.length_drop, List.length_append, List.length_append] at h3
      have h4 := h.le.1
      omega
    omega
  have hpt : (l.drop k1).take (bputL x).length = bputL x := by rw [hd2, List.take_left]
  have hb0 := below_box w (.cells bdZ 70)
  have hb1 := below_box (w.alloc (.cells bdZ 70)) (.cells bdZ 70)
  have z0 : (w.alloc (.cells bdZ 70)).heap.size = w.heap.size + 1 := by simp
  have z1 : ((w.alloc (.cells bdZ 70)).alloc (.cells bdZ 70)).heap.size = w.heap.size + 2 := by simp
  have hXw := Whole.made (w.alloc (.cells bdZ 70)) 70 bdZ
  rw [z0] at hXw
  have HR0 := Lib.hid ((Whole.made w 70 bdZ).below hb1)
  have hT2 := (hT.below hb0 (Nat.le_of_lt hp)).below hb1 (by omega)
  have HWh := Lib.hid (whole_w (X := w.heap.size + 1) (part := bputL x) 77 (TBd (w.heap.size + 1) x) ((h.below hb0).below hb1) hi hm hl hpt (by omega) (by omega) cfGB
    (fun B W W' b ⟨s, a0, a1, a2⟩ a3 a4 a5 => ⟨s, a0, a1.past a3 a5, Whole.grown a2 a3 (by simp only [ne_eq, Option.some.injEq]; omega)⟩) (fun B W m ⟨s, a0, a1, a2⟩ => ⟨s, a0, a1.later (below_drewN (Below.refl _ _) m), a2⟩)
    (fun W q a1 a2 a3 => gclos_ok (hXw.grown a1 (by simp only [ne_eq, Option.some.injEq]; omega)) a3 (hT2.self a1) (by omega) (by omega) (by omega) hr ho))
  rw [hkk]
  have hgw := gb_trans (gb_of_below (some p) hb0) (gb_trans (gb_of_below (some p) hb1) (gb_refl _ _))
  have HGW := Lib.hid hgw
  clear h hT hr ho hd hcl hbl hd1 hi hd2 hk1 hkk hm hpt hb0 hb1 hXw hT2 hl hgw
  obtain ⟨kn, hkn⟩ : ∃ kn, kn = k1 + (bputL x).length := ⟨_, rfl⟩
  rw [← hkn] at HWh ⊢
  clear hkn
  go_enter Tryz.func39, Tryz.ntmps39
  go_wp2_with (go_at_call 76; go_must ((with_reducible refine HWh.out.mono ?_); intro e w3 hq; obtain ⟨rfl, ⟨Bs, hB, ⟨⟨y, ⟨A, c⟩, ⟨B, d⟩⟩, hyx, hh, hx⟩⟩, hs, hg⟩ := hq; obtain rfl : y = x := hyx; have hr3 := hg.whole HR0.out (by omega) (by omega); have HR3 := Lib.hid hr3; have HH3 := Lib.hid hh; have HS3 := Lib.hid hs; have HG3 := Lib.hid ((Gb2.trans (.left HGW.out) hg).gb (by omega)); have hBs : w.heap.size + 2 ≤ Bs := (by rw [z1] at hB; exact hB); have x0 := hx.cell 0; have x1 := hx.cell 1; have r0 := hr3.cell 0; have r1 := hr3.cell 1; have f0 := hr3.frozen 0; have f1 := hr3.frozen 1; simp only [List.getElem?_toArray, List.getElem?_cons_zero, List.getElem?_cons_succ] at x0 x1 r0 r1; clear hh hx hs hg hr3 hB))
  obtain ⟨h1, h2⟩ := put2 (u0 := .slice A y.ls.length c) (u1 := .slice B y.b.length d) HR3.out
  have q0 := h1.cell 0
  have q1 := h1.cell 1
  simp only [List.getElem?_toArray, List.getElem?_cons_zero, List.getElem?_cons_succ] at q0 q1
  exact bodyPost_ret (v := bdV y A c B d) (by simp [results, Tryz.results39, go_sem, q0, q1]) rfl ⟨(y, (A, c), (B, d)), rfl, rfl, (HH3.out.past h2 (by omega)).mono (by omega), HS3.out.grown h2 (by simp only [ne_eq, Option.some.injEq]; omega) (fun g e => by injection e with e; omega), gb_before HG3.out h2 (fun g e => .inr (by injection e with e; omega))⟩
end Go.Proofs.YtebgmfjgapmpfaaGreatDoor
