/- GetBody of a body's bytes. -/
import Derived.Test.YticgmfeihdankaaDoorZb03
import Derived.RegionTactic
namespace Go.Proofs.YticgmfeihdankaaDoor
open Go.RowKit
set_option linter.unusedVariables false
set_option maxRecDepth 100000

theorem take_snocG {α : Type} {l : List α} {k : Nat} {c : α} (h : l[k]? = some c) : l.take (k + 1) = l.take k ++ [c] := by
  rw [List.take_add_one, h]; rfl
/-- A body's bytes. -/
noncomputable def bodyL (l : List I) : List UInt8 := l.flatMap putL
theorem bodyL_snoc {l : List I} {k : Nat} {i : I} (h : l[k]? = some i) : bodyL (l.take (k + 1)) = bodyL (l.take k) ++ putL i := by
  unfold bodyL
  rw [take_snocG h, List.flatMap_append]
  simp
theorem bodyL_at {l : List I} {k : Nat} {i : I} (h : l[k]? = some i) : bodyL l = bodyL (l.take k) ++ (putL i ++ bodyL (l.drop (k + 1))) := by
  have e1 : l = l.take k ++ i :: l.drop (k + 1) := by
    obtain ⟨hj3, hj4⟩ := List.getElem?_eq_some_iff.1 h
    rw [← hj4, ← List.drop_eq_getElem_cons hj3, List.take_append_drop]
  conv => lhs; rw [e1]
  unfold bodyL
  rw [List.flatMap_append, List.flatMap_cons]
def lenOf : Value → Nat
  | .slice _ n _ => n
  | _ => 0
/-- How far GetBody has come; nest's block is the first of the call's own. -/
structure GB (w : World) (p : Nat) (l : List UInt8) (full : List I) (k0 k : Nat) (v : Value) (rows : List Slot) (st : List UInt8) (en : Bool) (W : World) : Prop where
  sc : Sc W p l k0
  gr : w.grownBy W (some p)
  row : RowI W w.heap.size v rows
  eq : rows.map (·.1) = full.take k
  labs : ∀ x ∈ rows, LabT W x.2.1 x.1.l ∧ ∀ a, x.2.1 = some a → w.heap.size ≤ a.block
  hp : p < w.heap.size
  tb : TbP p W
  hk : k ≤ full.length
  sl : st.length ≤ k
  st : Stand full k st en
section
variable {w : World} {p : Nat} {l : List UInt8} {full : List I} {k0 k : Nat} {v : Value} {rows : List Slot} {st : List UInt8} {en : Bool} {W W' : World}
theorem GB.size (h : GB w p l full k0 k v rows st en W) : w.heap.size ≤ W.heap.size := h.gr.size
theorem GB.len (h : GB w p l full k0 k v rows st en W) : rows.length = k := by
  have := congrArg List.length h.eq
  rw [List.length_map, List.length_take] at this
  have := h.hk
  omega
/-- A block that is no row of instructions and holds no labels is written. -/
theorem GB.put (h : GB w p l full k0 k v rows st en W) {q : Nat} (hg : W.grownBy W' (some q)) (hq : w.heap.size ≤ q) (h1 : v.ownBlock = none ∨ v.ownBlock ≠ some q) (h2 : ∀ x ∈ rows, ∀ a, x.2.1 = some a → some a.block ≠ some q) : GB w p l full k0 k v rows st en W' :=
  have hp := h.hp
  ⟨h.sc.grown hg (by simp only [ne_eq, Option.some.injEq]; omega) (fun g e => by injection e with e; omega), gb_before h.gr hg (fun g e => .inr (by injection e with e; omega)), World.ownsRow.kept h.row hg h1, h.eq,
    fun x hx => ⟨(h.labs x hx).1.keep hg (h2 x hx), (h.labs x hx).2⟩, h.hp, h.tb.grown hg (fun g e => by injection e with e; omega), h.hk, h.sl, h.st⟩
/-- A block of another type. -/
theorem GB.putT (h : GB w p l full k0 k v rows st en W) {q : Nat} {t : TypeId} {cs : Array Value} (hw : Whole W q t cs) (hg : W.grownBy W' (some q)) (hq : w.heap.size ≤ q) (t1 : t ≠ 25) (t2 : t ≠ 76) : GB w p l full k0 k v rows st en W' :=
  h.put hg hq (own_far h.row hw t1) (fun x hx => (h.labs x hx).1.apart hw t2)
theorem GB.below (h : GB w p l full k0 k v rows st en W) (hb : Below W.heap.size W W') : GB w p l full k0 k v rows st en W' :=
  ⟨h.sc.below hb, gb_trans h.gr (gb_of_below _ hb), World.ownsRow.kept h.row (gb_of_below none hb) (by cases v.ownBlock with
    | none => exact .inl rfl
    | some g => exact .inr (by simp)), h.eq, fun x hx => ⟨(h.labs x hx).1.keep (gb_of_below none hb) (fun a _ => by simp), (h.labs x hx).2⟩, h.hp, h.tb.grown (gb_of_below none hb) (fun g e => by cases e), h.hk, h.sl, h.st⟩
/-- A step of nest. -/
theorem GB.moved (h : GB w p l full k0 k v rows st en W) {nb : Nat} {vo : Value} {so st' : List UInt8} {en' : Bool} {cs : Array Value} (hm : Moved nb w.heap.size vo st' en' W W') (hr : Row W w.heap.size vo so) (hw : Whole W nb 143 cs) (hnb : w.heap.size ≤ nb) : GB w p l full k0 k v rows st en W' := by
  obtain ⟨v', Wm, h1, h2, h3, h4⟩ := hm
  have hm1 : GB w p l full k0 k v rows st en Wm := by
    have hlt := World.ownsRow.lt hr
    have hp := h.hp
    refine ⟨h.sc.grown h3 (fun e => by have := hlt p e.symm; omega) (fun g e => by have := hlt g e; omega), gb_before h.gr h3 (fun g e => .inr (hlt g e).1), World.ownsRow.kept h.row h3 (own_own h.row hr (by decide)), h.eq, fun x hx => ⟨(h.labs x hx).1.keep h3 (lab_own (h.labs x hx).1 hr (by decide)), (h.labs x hx).2⟩, h.hp, h.tb.grown h3 (fun g e => by have := hlt g e; omega), h.hk, h.sl, h.st⟩
  exact hm1.putT (hw.grown h3 (own_whole hr hw (by decide))) h4 hnb (by decide) (by decide)
theorem Moved.whole {nb base q : Nat} {vo : Value} {so st' : List UInt8} {en' : Bool} {t : TypeId} {cs cs' : Array Value} (hm : Moved nb base vo st' en' W W') (hr : Row W base vo so) (hn : Whole W nb 143 cs') (hw : Whole W q t cs) (t1 : t ≠ 5) (t2 : t ≠ 143) : Whole W' q t cs := by
  obtain ⟨v', Wm, h1, h2, h3, h4⟩ := hm
  have hq : q ≠ nb := hw.apart hn t2
  exact (hw.grown h3 (own_whole hr hw t1)).grown h4 (by simp only [ne_eq, Option.some.injEq]; exact hq)
theorem GB.got {k2 : Nat} (h : GB w p l full k0 k v rows st en W) (hs : Sc W' p l k2) (hg : W.grownBy W' (some p)) : GB w p l full k2 k v rows st en W' := by
  have hp := h.hp
  have hlt := World.ownsRow.lt h.row
  obtain ⟨A, cap, hw, _⟩ := h.sc
  exact ⟨hs, gb_trans h.gr hg, World.ownsRow.kept h.row hg (.inr (fun e => by have := hlt p e; omega)), h.eq, fun x hx => ⟨(h.labs x hx).1.keep hg ((h.labs x hx).1.apart hw (by decide)), (h.labs x hx).2⟩, h.hp, h.tb.self hg, h.hk, h.sl, h.st⟩
theorem LabT.moved {nb base : Nat} {vo : Value} {so st' : List UInt8} {en' : Bool} {cs' : Array Value} {A : Option Addr} {ls : List Int} (h : LabT W A ls) (hm : Moved nb base vo st' en' W W') (hr : Row W base vo so) (hn : Whole W nb 143 cs') : LabT W' A ls := by
  rcases h with h | ⟨g, cur, rfl, hw, ht⟩
  · exact .inl h
  · exact .inr ⟨g, cur, rfl, hm.whole hr hn hw (by decide) (by decide), ht⟩
theorem LabT.below {A : Option Addr} {ls : List Int} (h : LabT W A ls) (hb : Below W.heap.size W W') : LabT W' A ls := h.keep (gb_of_below none hb) (fun a _ => by simp)
/-- One more instruction is appended. -/
theorem GB.app (h : GB w p l full k0 k v rows st en W) {x : Slot} {v' : Value} {st' : List UInt8} {en' : Bool} (hx : full[k]? = some x.1) (hl : LabT W x.2.1 x.1.l ∧ ∀ a, x.2.1 = some a → w.heap.size ≤ a.block) (hr : RowI W' w.heap.size v' (rows ++ [x])) (hg : W.grownBy W' v.ownBlock)
    (hsl : st'.length ≤ k + 1) (hst : Stand full (k + 1) st' en') : GB w p l full k0 (k + 1) v' (rows ++ [x]) st' en' W' := by
  have hlt := World.ownsRow.lt h.row
  have hp := h.hp
  have hk := (List.getElem?_eq_some_iff.1 hx).1
  refine ⟨h.sc.grown hg (fun e => by have := hlt p e.symm; omega) (fun g e => by have := hlt g e; omega), gb_before h.gr hg (fun g e => .inr (hlt g e).1), hr, by rw [List.map_append, h.eq, take_snocG hx]; rfl, fun y hy => ?_, h.hp, h.tb.grown hg (fun g e => by have := hlt g e; omega), by omega, hsl, hst⟩
  rcases List.mem_append.1 hy with hy | hy
  · exact ⟨(h.labs y hy).1.keep hg (lab_own (h.labs y hy).1 h.row (by decide)), (h.labs y hy).2⟩
  · rw [List.mem_singleton] at hy
    subst hy
    exact ⟨hl.1.keep hg (lab_own hl.1 h.row (by decide)), hl.2⟩
end
/-- What GetBody hands back. -/
def GotB (p : Nat) (l : List UInt8) (full : List I) (k : Nat) (w : World) (e : Ending) (w' : World) : Prop :=
  ∃ A c, e = .returned (.slice A full.length c) ∧ InsF w.heap.size w' A full ∧ Sc w' p l k ∧ w.grownBy w' (some p)
set_option maxHeartbeats 2000000 in
theorem getBody_ok {w : World} {p : Nat} {l r : List UInt8} {k0 : Nat} {full : List I} (hall : ∀ i ∈ full, i.Ok ∧ rightZ i = 0) (hbody : shapeGo [] (opsOf full) = true) (hn : full.length ≤ 1000) (hs : Sc w p l k0) (hT : TbP p w) (hd : l.drop k0 = bodyL full ++ r) :
    Calls Tryd.prog 99 #[.pointer (some ⟨p, 0, none⟩)] w (GotB p l full (k0 + (bodyL full).length) w) := by
  have hlt := hs.lt
  have HALL := Lib.hid hall
  have HD := Lib.hid hd
  have H0 : Hid (GB w p l full (k0 + (bodyL (full.take 0)).length) 0 (.slice none 0 0) [] [] false (w.alloc (.cells #[.slice none 0 0, .bool false] 143))) :=
    ⟨by show Sc _ p l (k0 + 0); exact hs.alloc _, gb_alloc (gb_refl w _) _, World.ownsRow_nil _ _ _ _, rfl, (fun x hx => by cases hx), hlt, hT.below (below_box w _) (by omega), Nat.zero_le _, Nat.le_refl _, rfl⟩
  have HN0 := Lib.hid (Whole.made w 143 #[.slice none 0 0, .bool false])
  have HBD := Lib.hid hbody
  clear hs hT hd hall hbody
  go_enter Tryd.func99, Tryd.ntmps99
  go_wp2
  go_loopw [3] (fun v wr => ∃ (k : Nat) (rows : List Slot) (st : List UInt8) (en : Bool), GB w p l full (k0 + (bodyL (full.take k)).length) k v rows st en wr ∧ Nest wr w.heap.size w.heap.size st en ∧ w.heap.size < wr.heap.size) (fun v _ => full.length - lenOf v)
  case atStart => exact ⟨0, [], [], false, H0.out, ⟨_, HN0.out, Row.nil _ _⟩, by simp⟩
  case round =>
    obtain ⟨k, rows, st, en, hgb, ⟨vo, hnw, hrow⟩, hlt0⟩ := hrel
    have hlen := hgb.len
    have hkn := hgb.hk
    obtain ⟨A, cc, rfl, hins⟩ := hgb.row.insF hgb.labs
    rw [hlen] at hgb ⊢
    have c1 := hnw.cell 1
    simp only [List.getElem?_toArray, List.getElem?_cons_zero, List.getElem?_cons_succ] at c1
    cases en with
    | true =>
      have hk : k = full.length := by
        have h := hgb.st
        unfold Stand at h
        rw [HBD.out, if_pos rfl] at h
        have h2 := List.isEmpty_iff.1 h.symm
        rw [List.drop_eq_nil_iff] at h2
        unfold opsOf at h2
        rw [List.length_map] at h2
        omega
      have HI : Hid (InsF w.heap.size wr A full) := by
        have h := hins
        rw [hgb.eq, hk, List.take_of_length_le (Nat.le_refl _)] at h
        exact h
      have HS : Hid (Sc wr p l (k0 + (bodyL full).length)) := by
        have h := hgb.sc
        rw [hk, List.take_of_length_le (Nat.le_refl _)] at h
        exact h
      have HG := Lib.hid hgb.gr
      subst hk
      clear hgb hnw hrow hins
      go_wp2
      go_ret
      exact ⟨A, cc, rfl, HI.out, HS.out, HG.out⟩
    | false =>
      have hk : k < full.length := by
        rcases Nat.lt_or_ge k full.length with h | h
        · exact h
        · exfalso
          have h2 := hgb.st
          unfold Stand at h2
          rw [HBD.out, if_neg (by simp), List.drop_eq_nil_of_le (by unfold opsOf; rw [List.length_map]; exact h)] at h2
          unfold shapeGo at h2
          cases h2
      obtain ⟨i, hi⟩ : ∃ i, full[k]? = some i := ⟨_, List.getElem?_eq_getElem hk⟩
      obtain ⟨hok, hri⟩ := HALL.out i (List.mem_of_getElem? hi)
      have hstep := hgb.st.step hi
      obtain ⟨st', en', ha⟩ : ∃ st' en', addZ st i.op = some (st', en') := by
        cases ha : addZ st i.op with
        | none => rw [ha, HBD.out] at hstep; cases hstep
        | some q => exact ⟨q.1, q.2, rfl⟩
      rw [ha] at hstep
      have hdr : l.drop (k0 + (bodyL (full.take k)).length) = putL i ++ (bodyL (full.drop (k + 1)) ++ r) := by
        refine drop_past (a := bodyL (full.take k)) ?_
        rw [HD.out, bodyL_at hi]
        simp only [List.append_assoc]
      have HAT := Lib.hid (at_any hgb.sc)
      have HGET := Lib.hid (get_ok hok hri hgb.sc hgb.tb hdr)
      have HK2 : Hid (k0 + (bodyL (full.take k)).length + (putL i).length = k0 + (bodyL (full.take (k + 1))).length) := by
        show _ = _
        rw [bodyL_snoc hi, List.length_append]
        omega
      obtain ⟨pl, hpl⟩ : ∃ pl, pl = k0 + (bodyL (full.take k)).length := ⟨_, rfl⟩
      rw [← hpl] at HAT HGET HK2 hgb
      have hkk : decide ((k : Int) < 20000) = true := decide_eq_true (by omega)
      have HGB := Lib.hid hgb
      have HNW := Lib.hid hnw
      have HRW := Lib.hid hrow
      have HI := Lib.hid hi
      have HST := Lib.hid hstep
      have HA := Lib.hid ha
      have hl2 := addZ_len ha
      have hsl := hgb.sl
      have hzz := hgb.hp
      clear hgb hnw hrow hins hi hstep ha hdr hpl
      go_wp2_with (first
        | (at_builtin; (refine rowsI_new rfl _ _ rfl w.heap.size _ rows rfl HG3.out.row w2.heap.size (i, B2, c2) rfl (Whole.made w2 _ _) (by omega) (by have := HG2.out.size; rw [size_box]; omega) ?_; intro v3 w3 hr3 hg3; have HR3 := Lib.hid hr3; have HGR3 := Lib.hid hg3; clear hr3 hg3))
        | (go_at_call 53; go_must ((with_reducible refine HAT.out.mono ?_); rintro e w' ⟨rfl, rfl⟩))
        | (go_at_call 93; go_must ((with_reducible refine HGET.out.mono ?_); intro e w1 hq; obtain ⟨B2, c2, rfl, hla, hfar, hs, hg, hty⟩ := hq; have HG1 := Lib.hid ((HGB.out.got hs hg).below (below_box w1 (.cells (insC i B2 c2) 25))); have HN1 := Lib.hid ((HNW.out.grown hg (by simp only [ne_eq, Option.some.injEq]; omega)).alloc (.cells (insC i B2 c2) 25)); have HR1 := Lib.hid (Row.alloc (World.ownsRow.kept HRW.out hg (.inr (fun e => by have := World.ownsRow.lt HRW.out _ e; omega)) : Row w1 w.heap.size vo st) (.cells (insC i B2 c2) 25)); have HTY := Lib.hid (hty.below (below_box w1 (.cells (insC i B2 c2) 25))); have HF := Lib.hid hfar; have hzw := hg.size; clear hla hfar hs hg hty))
        | (go_at_call 97; go_must ((with_reducible refine (add_ok HG1.out.tb.tabs HN1.out HR1.out HG1.out.size (by omega) HA.out).mono ?_); rintro e w2 ⟨rfl, hm⟩; have HG2 := Lib.hid (HG1.out.moved hm HR1.out HN1.out (Nat.le_refl _)); have hbx := hm.whole HR1.out HN1.out (Whole.made w1 25 (insC i B2 c2)) (by decide) (by decide); have b0 := hbx.cell 0; have b1 := hbx.cell 1; have b2 := hbx.cell 2; have b3 := hbx.cell 3; simp only [List.getElem?_toArray, List.getElem?_cons_zero, List.getElem?_cons_succ] at b0 b1 b2 b3; have HG3 := Lib.hid (HG2.out.below (below_box w2 (.cells (insC i B2 c2) 25))); have HM := Lib.hid hm; clear hm hbx))
        | (go_at_call 101; go_must ((with_reducible refine (unlessT _ _ _).mono ?_); rintro e w' ⟨rfl, rfl⟩)))
      go_roundw
      case rel =>
        have hlab : LabT (w2.alloc (.cells (insC i B2 c2) 25)) B2 i.l := (HTY.out.moved HM.out HR1.out HN1.out).below (below_box w2 _)
        have happ := HG3.out.app (x := (i, B2, c2)) (en' := en') (st' := st') HI.out ⟨hlab, fun a ha => Nat.le_trans (by omega) (HF.out a ha)⟩ HR3.out HGR3.out (by omega) HST.out
        rw [HK2.out] at happ
        obtain ⟨v4, hn4, hr4⟩ := HM.out.nest
        have hn5 := (hn4.alloc (.cells (insC i B2 c2) 25)).grown HGR3.out (own_whole HG3.out.row (hn4.alloc (.cells (insC i B2 c2) 25)) (by decide))
        have hr5 : Row w3 w.heap.size v4 st' := World.ownsRow.kept (hr4.alloc (.cells (insC i B2 c2) 25)) HGR3.out (own_own (hr4.alloc (.cells (insC i B2 c2) 25)) HG3.out.row (by decide))
        exact ⟨k + 1, rows ++ [(i, B2, c2)], st', en', happ, ⟨v4, hn5, hr5⟩, hn5.lt⟩
      case measure =>
        have h3 : lenOf v3 = k + 1 := by
          rcases HR3.out.2 with ⟨_, h0⟩ | ⟨g, cap, cur, e, _⟩
          · rw [List.length_append] at h0; simp at h0
          · rw [e]; show (rows ++ [(i, B2, c2)]).length = _; rw [List.length_append, hlen]; rfl
        rw [h3]
        show _ < full.length - k
        omega
end Go.Proofs.YticgmfeihdankaaDoor

/- parse and ParseBody of a body's bytes. -/
namespace Go.Proofs.YticgmfeihdankaaDoor
open Go.RowKit
set_option linter.unusedVariables false
set_option maxRecDepth 100000

theorem cfQ (cap : Array Value) (w : World) : (callFunc 146 cap).run Tryd.prog w = .ok (.enter 146 cap) w := by kernel_rfl
/-- What is kept of a body that was read. -/
def KeepL (p : Nat) (l : List UInt8) (full : List I) (k lo : Nat) (x : Option Addr × Nat × Nat) (W : World) : Prop :=
  x.2.1 = full.length ∧ Sc W p l k ∧ InsF lo W x.1 full
theorem KeepL.on {p : Nat} {l : List UInt8} {full : List I} {k lo : Nat} {x : Option Addr × Nat × Nat} {W W' : World} {b : Nat} (h : KeepL p l full k lo x W) (hg : W.grownBy W' (some b)) (h1 : p < b) (h2 : b < lo) : KeepL p l full k lo x W' := by
  obtain ⟨h3, h4, h5⟩ := h
  exact ⟨h3, h4.grown hg (by simp only [ne_eq, Option.some.injEq]; omega) (fun g e => by injection e with e; omega), h5.keep hg h2⟩
section
variable {full : List I} {p : Nat} {l r : List UInt8}
theorem pclosL {w : World} {b3 b7 k : Nat} (hall : ∀ i ∈ full, i.Ok ∧ rightZ i = 0) (hbody : shapeGo [] (opsOf full) = true) (hn : full.length ≤ 1000) (hs : Sc w p l k) (hT : TbP p w) (hd : l.drop k = bodyL full ++ r)
    (h3 : Whole w b3 146 #[.func (.func 99) #[] #[]]) (h7 : Whole w b7 35 #[.pointer (some ⟨p, 0, none⟩)]) :
    Calls Tryd.prog 146 #[.pointer (some ⟨b3, 0, none⟩), .pointer (some ⟨b7, 0, none⟩)] w fun e w' => ∃ x : Option Addr × Nat × Nat, e = .returned (.slice x.1 x.2.1 x.2.2) ∧ KeepL p l full (k + (bodyL full).length) w.heap.size x w' ∧ w.grownBy w' (some p) := by
  have HG := Lib.hid (getBody_ok hall hbody hn hs hT hd)
  have c3 := h3.cell 0
  have c7 := h7.cell 0
  simp only [List.getElem?_toArray, List.getElem?_cons_zero] at c3 c7
  clear hall hbody hs hT hd h3 h7
  go_enter Tryd.func146, Tryd.ntmps146
  go_wp2_with (go_at_call 99; go_must ((with_reducible refine HG.out.mono ?_); intro e w2 h; obtain ⟨A, c, rfl, hi, hs, hg⟩ := h; have HI := Lib.hid hi; have HS := Lib.hid hs; have HG2 := Lib.hid hg; clear hi hs hg))
  go_ret
  exact ⟨(A, full.length, c), rfl, ⟨rfl, HS.out, HI.out⟩, HG2.out⟩
theorem parse_valueL {w0 w1 : World} {b3 : Nat} (hall : ∀ i ∈ full, i.Ok ∧ rightZ i = 0) (hbody : shapeGo [] (opsOf full) = true) (hn : full.length ≤ 1000) (hs : Sc w1 p l 0) (hT : TbP p w0) (hb : Below w0.heap.size w0 w1) (hz : w0.heap.size ≤ w1.heap.size) (hd : l.drop 0 = bodyL full ++ r)
    (h3 : Whole w0 b3 146 #[.func (.func 99) #[] #[]]) :
    Calls Tryd.prog 145 #[.func (.func 146) #[] #[.pointer (some ⟨b3, 0, none⟩), .pointer (some ⟨w1.heap.size, 0, none⟩)]] (w1.alloc (.cells #[.pointer (some ⟨p, 0, none⟩)] 35)) fun e w' =>
      ∃ x : Option Addr × Nat × Nat, e = .returned (.tuple #[.slice x.1 x.2.1 x.2.2, .agg #[.int .i64 0, .int .i64 0]]) ∧ KeepL p l full (bodyL full).length (w1.heap.size + 5) x w' ∧ (w1.alloc (.cells #[.pointer (some ⟨p, 0, none⟩)] 35)).grownBy w' (some p) := by
  have hlt := hs.lt
  refine valueL_ok (cfQ _) (by rw [size_box]; omega) (fun x W W' b h1 h2 hx hg => hx.on hg (by rw [size_box] at h1; omega) (by rw [size_box] at h2; omega)) (fun W hW hz5 => ?_)
  have hb3 := ((h3.below hb).alloc (.cells #[.pointer (some ⟨p, 0, none⟩)] 35)).below hW
  have hb7 := (Whole.made w1 35 #[.pointer (some ⟨p, 0, none⟩)]).below hW
  have hs2 := (hs.alloc (.cells #[.pointer (some ⟨p, 0, none⟩)] 35)).below hW
  have ht2 : TbP p W := by
    obtain ⟨W0, g1, g2, g3⟩ := hT
    exact ⟨W0, g1, g2, ((g3.trans (hb.mono g3.size)).trans ((below_box w1 _).mono (Nat.le_trans g3.size hz))).trans (hW.mono (by rw [size_box]; have := g3.size; omega))⟩
  refine (pclosL hall hbody hn hs2 ht2 hd hb3 hb7).mono ?_
  rintro e w' ⟨x, rfl, hx, hg⟩
  obtain ⟨g1, g2, g3⟩ := hx
  rw [Nat.zero_add] at g2
  rw [size_box] at hz5
  exact ⟨x, rfl, ⟨g1, g2, g3.mono (by omega)⟩, hg⟩
end
/-- What parse hands back. -/
def ParsedL (full : List I) (n : Nat) (w : World) (e : Ending) (w' : World) : Prop :=
  ∃ A c, e = .returned (.tuple #[.slice A full.length c, .int .i64 n, .agg #[.int .i64 0, .int .i64 0]]) ∧ InsF w.heap.size w' A full ∧ Below w.heap.size w w'
/-- The world in which parse's results are written. -/
structure ParseEndL (A : Option Addr) (p : Nat) (l : List UInt8) (full : List I) (w w1 w2 W : World) (n : Nat) : Prop where
  sc : Sc W p l n
  ins : InsF (w.heap.size + 2) W A full
  bel : Below w.heap.size w W
  ptr : W.cell? ⟨w1.heap.size, 0, none⟩ = some (.pointer (some ⟨p, 0, none⟩))
  stop : W.cell? ⟨w2.heap.size, 0, none⟩ = some (.int .i64 0) ∧ W.cell? ⟨w2.heap.size, 1, none⟩ = some (.int .i64 0)
  res6 : W.cell? ⟨w.heap.size + 1, 0, none⟩ = some (.int .i64 0) ∧ W.cell? ⟨w.heap.size + 1, 1, none⟩ = some (.int .i64 0)
  free6 : W.frozen? ⟨w.heap.size + 1, 0, none⟩ = false ∧ W.frozen? ⟨w.heap.size + 1, 1, none⟩ = false
  w6 : Whole W (w.heap.size + 1) 38 #[.int .i64 0, .int .i64 0]
theorem ParseEndL.of {A : Option Addr} {p : Nat} {l : List UInt8} {full : List I} {w w0 w1 w2 : World} {n : Nat} (h0 : w0.heap.size = w.heap.size + 2) (hb0 : Below w.heap.size w w0) (h6 : Whole w0 (w.heap.size + 1) 38 #[.int .i64 0, .int .i64 0])
    (hb : Below w0.heap.size w0 w1) (hz1 : w0.heap.size ≤ w1.heap.size) (hp : w0.heap.size ≤ p ∧ p < w1.heap.size) (hg : (w1.alloc (.cells #[.pointer (some ⟨p, 0, none⟩)] 35)).grownBy w2 (some p)) (hk : Sc w2 p l n ∧ InsF (w1.heap.size + 5) w2 A full) :
    ParseEndL A p l full w w1 w2 (w2.alloc (.cells #[.int .i64 0, .int .i64 0] 38)) n := by
  have hz2 := hg.size
  rw [size_box] at hz2
  obtain ⟨k1, k2⟩ := hk
  have w6 := (((h6.below hb).alloc (.cells #[.pointer (some ⟨p, 0, none⟩)] 35)).grown hg (by simp only [ne_eq, Option.some.injEq]; omega)).alloc (.cells #[.int .i64 0, .int .i64 0] 38)
  have w7 := ((Whole.made w1 35 #[.pointer (some ⟨p, 0, none⟩)]).grown hg (by simp only [ne_eq, Option.some.injEq]; omega)).alloc (.cells #[.int .i64 0, .int .i64 0] 38)
  have w9 := Whole.made w2 38 #[.int .i64 0, .int .i64 0]
  refine ⟨k1.alloc _, (k2.keep (gb_alloc (gb_refl w2 (some 0)) _) (by omega)).mono (by omega), ?_, w7.cell 0, ⟨w9.cell 0, w9.cell 1⟩, ⟨w6.cell 0, w6.cell 1⟩, ⟨w6.frozen 0, w6.frozen 1⟩, w6⟩
  have b1 : Below w.heap.size w (w1.alloc (.cells #[.pointer (some ⟨p, 0, none⟩)] 35)) := (hb0.trans (hb.mono (by omega))).alloc (by omega) _
  have b2 : Below w.heap.size w w2 := Below.grown b1 hg (by rw [size_box]; omega) (fun g e => by injection e with e; omega)
  exact b2.alloc (by omega) _
theorem ParseEndL.fin {A : Option Addr} {p : Nat} {l : List UInt8} {full : List I} {w w1 w2 W : World} {n : Nat} (h : ParseEndL A p l full w w1 w2 W n) (W6 : World)
    (hW : W6 = (W.setCell ⟨w.heap.size + 1, 0, none⟩ (.int .i64 0)).setCell ⟨w.heap.size + 1, 1, none⟩ (.int .i64 0)) :
    Whole W6 (w.heap.size + 1) 38 #[.int .i64 0, .int .i64 0] ∧ InsF w.heap.size W6 A full ∧ Below w.heap.size w W6 := by
  subst hW
  obtain ⟨p2, g2⟩ := put2 (u0 := .int .i64 0) (u1 := .int .i64 0) h.w6
  have hzw := h.w6.lt
  exact ⟨p2, (h.ins.keep g2 (by omega)).mono (by omega), Below.grown h.bel g2 (by omega) (fun g e => by injection e with e; omega)⟩
theorem parsedL_of {full : List I} {A : Option Addr} {c n m : Nat} {w W : World} (hn : n = m) (h : InsF w.heap.size W A full) (hb : Below w.heap.size w W) : ParsedL full n w (.returned (.tuple #[.slice A full.length c, .int .i64 m, .agg #[.int .i64 0, .int .i64 0]])) W.drew :=
  ⟨A, c, by rw [hn], h, hb.drew⟩
set_option maxHeartbeats 2000000 in
theorem parseL_ok {w : World} {A : Option Addr} {cap : Nat} {l r : List UInt8} {full : List I} (hT : Tabs w) (hall : ∀ i ∈ full, i.Ok ∧ rightZ i = 0) (hbody : shapeGo [] (opsOf full) = true) (hfn : full.length ≤ 1000) (hl : Lies w w.heap.size A (cells (nums l))) (h0 : 0 < l.length) (hc : l.length ≤ 1000000) (hd : l = bodyL full ++ r) :
    Calls Tryd.prog 98 #[.slice A l.length cap, .func (.func 99) #[] #[]] w (ParsedL full (bodyL full).length w) := by
  obtain ⟨w0, hw0⟩ : ∃ w0, w0 = (w.alloc (.cells #[.func (.func 99) #[] #[]] 146)).alloc (.cells #[.int .i64 0, .int .i64 0] 38) := ⟨_, rfl⟩
  have hsz : w0.heap.size = w.heap.size + 2 := by rw [hw0]; simp
  have hb0 : Below w.heap.size w w0 := by rw [hw0]; exact (below_box w _).alloc (by simp) _
  have b3 : Whole w0 w.heap.size 146 #[.func (.func 99) #[] #[]] := by rw [hw0]; exact (Whole.made w _ _).alloc _
  have b6 : Whole w0 (w.heap.size + 1) 38 #[.int .i64 0, .int .i64 0] := by
    rw [hw0]; have := Whole.made (w.alloc (.cells #[.func (.func 99) #[] #[]] 146)) 38 #[.int .i64 0, .int .i64 0]
    rw [size_box] at this
    exact this
  have HO := Lib.hid (over_ok (cap := cap) ((hl.below hb0 (Nat.le_refl _)).more hb0.size) h0 hc)
  have HB3 := Lib.hid b3
  have HB6 := Lib.hid b6
  have HB0 := Lib.hid hb0
  have HTT := Lib.hid (hT.below hb0)
  have HD := Lib.hid (show l.drop 0 = bodyL full ++ r from hd)
  have HALL := Lib.hid hall
  have HBD := Lib.hid hbody
  rw [hw0] at HO
  have HSZ := Lib.hid hsz
  have HW0 := Lib.hid hw0
  clear hl hd hall hbody hT b3 b6 hb0 hsz hw0
  obtain ⟨n, hn⟩ : ∃ n, n = (bodyL full).length := ⟨_, rfl⟩
  have HN := Lib.hid hn
  rw [← hn]
  clear hn
  have hmf : ∀ (fn : Fn) (first cap : Array Value) (w : World), (Instr.makeFunc fn first cap).run Tryd.prog w = .ok (.func fn first cap) w := fun _ _ _ _ => rfl
  go_enter Tryd.func98, Tryd.ntmps98
  go_wp2_with (first
    | (go_at_call 16; go_must ((with_reducible refine HO.out.mono ?_); rw [← HW0.out]; intro e w1 hq; obtain ⟨p, rfl, hp, hs, hb⟩ := hq; have HS := Lib.hid hs; have HB := Lib.hid hb; have hz1 := hb.size; have HP := Lib.hid hp; clear hs hb hp))
    | (go_at_call 145; go_must ((with_reducible refine (parse_valueL HALL.out HBD.out hfn HS.out (TbP.of HTT.out HP.out) HB.out hz1 HD.out HB3.out).mono ?_); rintro e w2 ⟨⟨A2, n2, c2⟩, rfl, hk, hg⟩; obtain rfl : n2 = full.length := hk.1; have HK := Lib.hid hk.2; have HG := Lib.hid hg; have hz2 := hg.size; rw [size_box] at hz2; clear hk hg)))
  have hend : ParseEndL A2 p l full w w1 w2 (w2.alloc (.cells #[.int .i64 0, .int .i64 0] 38)) (bodyL full).length :=
    .of HSZ.out HB0.out HB6.out HB.out hz1 ⟨HP.out, HS.out.lt⟩ HG.out HK.out
  generalize (w2.alloc (.cells #[.int .i64 0, .int .i64 0] 38)) = W at *
  have HE := Lib.hid hend
  obtain ⟨hs, -, hbw, k7, ⟨k8, k9⟩, ⟨s0, s1⟩, ⟨y0, y1⟩, -⟩ := hend
  have hs2 : Sc W.drew p l (bodyL full).length := hs
  have HAT := Lib.hid (at_any hs2)
  have n1 : ¬ w2.heap.size = w.heap.size + 1 := by have := HSZ.out; omega
  clear hs hs2 hbw
  go_region_with (go_at_call 53; (with_reducible refine HAT.out.mono ?_); rintro e w' ⟨rfl, rfl⟩)
  all_goals
    go_wp2
    obtain ⟨p2, p3, p4⟩ := HE.out.fin _ rfl
    have q4 := p2.drew.cell 0
    have q5 := p2.drew.cell 1
    simp only [List.getElem?_toArray, List.getElem?_cons_zero, List.getElem?_cons_succ] at q4 q5
    refine bodyPost_ret (v := .tuple #[.slice A2 full.length c2, .int .i64 (bodyL full).length, .agg #[.int .i64 0, .int .i64 0]]) (by simp [results, Tryd.results98, go_sem, q4, q5]) rfl (parsedL_of HN.out p3 p4)
set_option maxHeartbeats 1000000 in
theorem parseBody_ok {w : World} {A : Option Addr} {cap : Nat} {l r : List UInt8} {full : List I} (hT : Tabs w) (hall : ∀ i ∈ full, i.Ok ∧ rightZ i = 0) (hbody : shapeGo [] (opsOf full) = true) (hfn : full.length ≤ 1000) (hl : Lies w w.heap.size A (cells (nums l))) (h0 : 0 < l.length) (hc : l.length ≤ 1000000) (hd : l = bodyL full ++ r) :
    Calls Tryd.prog 41 #[.slice A l.length cap] w (ParsedL full (bodyL full).length w) := by
  have hb0 := below_box w (.cells #[.int .i64 0, .int .i64 0] 38)
  have HP := Lib.hid (parseL_ok (cap := cap) (hT.below hb0) hall hbody hfn ((hl.below hb0 (Nat.le_refl _)).more hb0.size) h0 hc hd)
  have HB6 := Lib.hid (Whole.made w 38 #[.int .i64 0, .int .i64 0])
  have HB0 := Lib.hid hb0
  clear hT hall hbody hl hd hb0
  obtain ⟨n, hn⟩ : ∃ n, n = (bodyL full).length := ⟨_, rfl⟩
  rw [← hn] at HP ⊢
  clear hn
  go_enter Tryd.func41, Tryd.ntmps41
  go_wp2_with (go_at_call 98; go_must ((with_reducible refine HP.out.mono ?_); intro e w1 hq; obtain ⟨A2, c2, rfl, hla, hb⟩ := hq; have h6 := HB6.out.below hb; have s0 := h6.cell 0; have s1 := h6.cell 1; have y0 := h6.frozen 0; have y1 := h6.frozen 1; simp only [List.getElem?_toArray, List.getElem?_cons_zero, List.getElem?_cons_succ] at s0 s1; have H6 := Lib.hid h6; have HLA := Lib.hid hla; have HB := Lib.hid hb; clear h6 hla hb))
  obtain ⟨p2, g2⟩ := put2 (u0 := .int .i64 0) (u1 := .int .i64 0) H6.out
  have q4 := p2.cell 0
  have q5 := p2.cell 1
  simp only [List.getElem?_toArray, List.getElem?_cons_zero, List.getElem?_cons_succ] at q4 q5
  have hz := HB.out.size
  have hla := HLA.out
  rw [size_box] at hz hla
  have hb1 : Below w.heap.size w w1 := HB0.out.trans (HB.out.mono (by rw [size_box]; omega))
  refine bodyPost_ret (v := .tuple #[.slice A2 full.length c2, .int .i64 n, .agg #[.int .i64 0, .int .i64 0]]) (by simp [results, Tryd.results41, go_sem, q4, q5]) rfl ⟨A2, c2, rfl, (hla.keep g2 (by omega)).mono (by omega), Below.grown hb1 g2 (by omega) (fun g e => by injection e with e; omega)⟩
end Go.Proofs.YticgmfeihdankaaDoor

/- The reference's Walk and Shape. -/
namespace Go.Proofs.YticgmfeihdankaaDoor
open Go.RowKit
set_option linter.unusedVariables false
set_option maxRecDepth 100000

def opc (c : UInt8) : UInt8 := if c = 4 then 105 else if c = 5 then 101 else 98
def opens (n : Nat) : Bool := decide (n = 2 ∨ n = 3 ∨ n = 4)
theorem opens_all : ∀ n, n < 256 → (immR n == 1) = opens n := by decide +kernel
theorem opens_iff {op : UInt8} : immR op.toNat = 1 ↔ (op.toNat = 2 ∨ op.toNat = 3 ∨ op.toNat = 4) := by
  have := opens_all op.toNat op.toNat_lt
  constructor
  · intro h
    have h2 : (immR op.toNat == 1) = true := by simpa using h
    rw [h2] at this
    unfold opens at this
    simpa using this.symm
  · intro h
    have h2 : opens op.toNat = true := by unfold opens; simpa using h
    rw [h2] at this
    simpa using this
/-- Only what opens a block, or an else, stands there. -/
def Clean (st : List UInt8) : Prop := ∀ c ∈ st, c.toNat = 2 ∨ c.toNat = 3 ∨ c.toNat = 4 ∨ c.toNat = 5
theorem clean_add {st st' : List UInt8} {op : UInt8} {en : Bool} (h : Clean st) (ha : addZ st op = some (st', en)) : Clean st' := by
  unfold addZ at ha
  by_cases h1 : immR op.toNat = 1
  · rw [if_pos h1] at ha
    injection ha with ha; injection ha with ha1 ha2
    subst ha1
    intro c hc
    rcases List.mem_append.1 hc with hc | hc
    · exact h c hc
    · rw [List.mem_singleton] at hc
      subst hc
      have := opens_iff.1 h1
      omega
  · rw [if_neg h1] at ha
    by_cases h5 : op = 5
    · rw [if_pos h5] at ha
      by_cases h4 : st.getLast? = some 4
      · rw [if_pos h4] at ha
        injection ha with ha; injection ha with ha1 ha2
        subst ha1
        intro c hc
        rcases List.mem_append.1 hc with hc | hc
        · exact h c ((List.dropLast_sublist st).subset hc)
        · rw [List.mem_singleton] at hc
          subst hc
          exact .inr (.inr (.inr rfl))
      · rw [if_neg h4] at ha; cases ha
    · rw [if_neg h5] at ha
      by_cases h11 : op = 11
      · rw [if_pos h11] at ha
        by_cases h0 : st = []
        · rw [if_pos h0] at ha
          injection ha with ha; injection ha with ha1 ha2
          subst ha1
          exact h
        · rw [if_neg h0] at ha
          injection ha with ha; injection ha with ha1 ha2
          subst ha1
          exact fun c hc => h c ((List.dropLast_sublist st).subset hc)
      · rw [if_neg h11] at ha
        injection ha with ha; injection ha with ha1 ha2
        subst ha1
        exact h
theorem op_is {op : UInt8} {n : Nat} (h : op.toNat = n) (hn : n < 256) : op = UInt8.ofNat n := by
  apply u8_ext
  rw [h, UInt8.toNat_ofNat']
  omega
theorem last_map {st : List UInt8} {x : UInt8} (h : st.getLast? = some x) : (st.map opc)[st.length - 1]? = some (opc x) := by
  rw [List.getElem?_map, ← List.getLast?_eq_getElem?, h]
  rfl
theorem opc_i {st : List UInt8} {x : UInt8} (hc : Clean st) (h : st.getLast? = some x) : (((opc x).toNat : Int) != 105) = decide (x ≠ 4) := by
  have hx : x ∈ st := List.mem_of_getLast? h
  have := hc x hx
  unfold opc
  by_cases h4 : x = 4
  · subst h4; rfl
  · rw [if_neg h4]
    by_cases h5 : x = 5
    · subst h5; rfl
    · rw [if_neg h5]
      simp [h4]
theorem map_dropLast (st : List UInt8) : (st.map opc).take (st.length - 1) = st.dropLast.map opc := by
  rw [← List.map_take, List.dropLast_eq_take]
/-- What Walk tells: is it a body? -/
def WalkPost (l : List I) (w : World) (e : Ending) (w' : World) : Prop :=
  ∃ m x : Int, e = .returned (.tuple #[.int .i64 m, .int .i64 x]) ∧ (shapeGo [] (opsOf l) = true ↔ (m ≠ 0 ∧ m = l.length)) ∧ Below w.heap.size w w'
set_option maxHeartbeats 3000000 in
theorem walk_any {w : World} {A : Option Addr} {c : Nat} {l : List I} (hl : Ins w A l) (hn : l.length ≤ 20000) :
    Calls Tryd.prog 96 #[.slice A l.length c] w (WalkPost l w) := by
  have HL := Lib.hid hl
  obtain ⟨n, hnn⟩ : ∃ n, n = l.length := ⟨_, rfl⟩
  have HNN := Lib.hid hnn
  rw [← hnn] at hn ⊢
  clear hl hnn
  go_enter Tryd.func96, Tryd.ntmps96
  go_wp2
  go_loopw [4, 5] (fun s i wr => ∃ (k : Nat) (st : List UInt8), k ≤ n ∧ i = .int .i64 k ∧ s = .string (S (st.map opc)) ∧ st.length ≤ k ∧ Clean st ∧ Stand l k st false ∧ Below w.heap.size w wr) (fun _ i _ => n - (intOf i).toNat)
  case atStart => exact ⟨0, [], Nat.zero_le _, rfl, rfl, Nat.le_refl _, (fun c h => by cases h), rfl, Below.refl _ _⟩
  case round =>
    obtain ⟨k, st, hk, rfl, rfl, hsl, hcl, hst, hb⟩ := hrel
    have HB := Lib.hid hb
    by_cases hlt : k < n
    · obtain ⟨i, hi⟩ : ∃ i, l[k]? = some i := ⟨_, List.getElem?_eq_getElem (by rw [← HNN.out]; exact hlt)⟩
      obtain ⟨b, off, B, cc, rfl, hbl, ⟨k0, _, _, _⟩, _⟩ := HL.out k i hi
      have m0 := (hb.cell (p := ⟨b, off + k * 4, none⟩) hbl).trans k0
      have hstep := hst.step hi
      obtain ⟨t, ht⟩ : ∃ t, t = st.map opc := ⟨_, rfl⟩
      have htl : t.length = st.length := by rw [ht, List.length_map]
      have hsz := S_size t
      rw [← ht]
      have HTT := Lib.hid ht
      by_cases h23 : i.op.toNat = 2 ∨ i.op.toNat = 3
      · have ha : addZ st i.op = some (st ++ [i.op], false) := by unfold addZ; rw [if_pos (opens_iff.2 (by omega))]
        rw [ha] at hstep
        have hc2 := clean_add hcl ha
        have HS := Lib.hid hstep
        have HC := Lib.hid hc2
        have HO : Hid (S t ++ { data := #[98] } = S ((st ++ [i.op]).map opc)) := by
          show S t ++ S [98] = _
          rw [S_append, List.map_append, HTT.out]
          congr 2
          unfold opc
          rw [List.map_cons, List.map_nil, if_neg (by intro e; rw [e] at h23; revert h23; decide), if_neg (by intro e; rw [e] at h23; revert h23; decide)]
        have q : (S t).size + 1 ≤ 9223372036854775807 := by omega
        clear hst hb k0 hi hstep ha hc2 hcl ht
        rcases h23 with h2 | h2
        all_goals
          rw [h2] at m0
          go_wp2
          go_roundw
          case rel => exact ⟨k + 1, st ++ [i.op], by omega, by go_num, by rw [HO.out], by simp; omega, HC.out, HS.out, HB.out⟩
          case measure => simp [intOf]; omega
      · by_cases h4 : i.op.toNat = 4
        · have ha : addZ st i.op = some (st ++ [i.op], false) := by unfold addZ; rw [if_pos (opens_iff.2 (by omega))]
          rw [ha] at hstep
          have hc2 := clean_add hcl ha
          have HS := Lib.hid hstep
          have HC := Lib.hid hc2
          have HO : Hid (S t ++ { data := #[105] } = S ((st ++ [i.op]).map opc)) := by
            show S t ++ S [105] = _
            rw [S_append, List.map_append, HTT.out, op_is (n := 4) h4 (by decide)]
            rfl
          have q : (S t).size + 1 ≤ 9223372036854775807 := by omega
          clear hst hb k0 hi hstep ha hc2 hcl ht
          rw [h4] at m0
          go_wp2
          go_roundw
          case rel => exact ⟨k + 1, st ++ [i.op], by omega, by go_num, by rw [HO.out], by simp; omega, HC.out, HS.out, HB.out⟩
          case measure => simp [intOf]; omega
        · have d2 : ((i.op.toNat : Int) == 2) = false := by simp; omega
          have d3 : ((i.op.toNat : Int) == 3) = false := by simp; omega
          have d4 : ((i.op.toNat : Int) == 4) = false := by simp; omega
          have himm : ¬ immR i.op.toNat = 1 := fun e => by have := opens_iff.1 e; omega
          by_cases h5 : i.op.toNat = 5
          · have e5 : i.op = 5 := op_is (n := 5) h5 (by decide)
            rw [e5] at hstep himm
            by_cases h0 : st = []
            · have ha : addZ st 5 = none := by unfold addZ; rw [if_neg himm, if_pos rfl, h0, if_neg (by simp)]
              rw [ha] at hstep
              have HS := Lib.hid hstep
              have z0 : (S t).toList.isEmpty = true := by rw [S_toList, HTT.out, h0]; rfl
              clear hst hb k0 hi hstep ha hcl ht h0
              rw [h5] at m0
              go_wp2
              go_ret2
              exact ⟨0, k, rfl, by rw [HS.out]; simp, HB.out⟩
            · obtain ⟨x, hx⟩ : ∃ x, st.getLast? = some x := by cases h : st.getLast? with
                | none => exact absurd (List.getLast?_eq_none_iff.1 h) h0
                | some x => exact ⟨x, rfl⟩
              have z0 : (S t).toList.isEmpty = false := by
                rw [S_toList, HTT.out]
                cases st with
                | nil => exact absurd rfl h0
                | cons a r => rfl
              obtain ⟨u, hu⟩ : ∃ u, st.length = u + 1 := ⟨st.length - 1, by have := List.length_pos_iff.2 h0; omega⟩
              have hsu : (S t).size = u + 1 := by omega
              have hlu : u < (S t).size := by omega
              have hgl : t[u]? = some (opc x) := by have := last_map hx; rw [hu, Nat.add_sub_cancel] at this; rw [HTT.out]; exact this
              have hgx : (S t)[u]'hlu = opc x := by
                rw [S_get t u hlu]
                exact (List.getElem?_eq_some_iff.1 hgl).2
              have hcmp : ((((S t)[u]'hlu).toNat : Int) != 105) = decide (x ≠ 4) := by rw [hgx]; exact opc_i hcl hx
              have e1 : ((u + 1 : Nat) : Int) - 1 = u := by omega
              by_cases hx4 : x = 4
              · have hl4 : st.getLast? = some 4 := by rw [hx, hx4]
                have ha : addZ st 5 = some (st.dropLast ++ [5], false) := by unfold addZ; rw [if_neg himm, if_pos rfl, if_pos hl4]
                rw [ha] at hstep
                have hc2 := clean_add hcl ha
                have HS := Lib.hid hstep
                have HC := Lib.hid hc2
                have hcm : ((((S t)[u]'hlu).toNat : Int) != 105) = false := by rw [hcmp, hx4]; rfl
                have hsl2 : ∀ wx, (Instr.slice 9 (.string (S t)) none (some (.int .i64 (u : Int))) none).run Tryd.prog wx = .ok (.string (S (t.take u))) wx := fun wx => by
                  have := run_slice_string_h (P := Tryd.prog) wx 9 (S t) Tryd.underlying9 .i64 (u : Int) (by omega) (by omega)
                  rw [this, S_extract]
                  simp
                have htk : t.take u = st.dropLast.map opc := by rw [HTT.out, ← map_dropLast, hu, Nat.add_sub_cancel]
                obtain ⟨t2, ht2⟩ : ∃ t2, t2 = t.take u := ⟨_, rfl⟩
                rw [← ht2] at hsl2 htk
                have HTK := Lib.hid htk
                have hs2 := S_size t2
                have hl2 : t2.length ≤ 20000 := by rw [ht2, List.length_take]; omega
                have q : (S t2).size + 1 ≤ 9223372036854775807 := by omega
                have HO : Hid (S t2 ++ { data := #[101] } = S ((st.dropLast ++ [5]).map opc)) := by
                  show S t2 ++ S [101] = _
                  rw [S_append, List.map_append, HTK.out]
                  rfl
                have HLU := Lib.hid hu
                clear hst hb k0 hi hstep ha hc2 hcl ht ht2 htk hx hgl hgx hcmp hl4 h0 hx4
                rw [h5] at m0
                go_wp2
                go_roundw
                case rel => exact ⟨k + 1, st.dropLast ++ [5], by omega, by go_num, by rw [HO.out], by simp; have := HLU.out; omega, HC.out, HS.out, HB.out⟩
                case measure => simp [intOf]; omega
              · have ha : addZ st 5 = none := by unfold addZ; rw [if_neg himm, if_pos rfl, hx, if_neg (by simpa using hx4)]
                rw [ha] at hstep
                have HS := Lib.hid hstep
                have hcm : ((((S t)[u]'hlu).toNat : Int) != 105) = true := by rw [hcmp]; simpa using hx4
                clear hst hb k0 hi hstep ha hcl ht hx hgl hgx hcmp h0 hx4
                rw [h5] at m0
                go_wp2
                go_ret2
                exact ⟨0, k, rfl, by rw [HS.out]; simp, HB.out⟩
          · have d5 : ((i.op.toNat : Int) == 5) = false := by simp; omega
            have n5 : i.op ≠ 5 := fun e => h5 (by rw [e]; rfl)
            by_cases h11 : i.op.toNat = 11
            · have e11 : i.op = 11 := op_is (n := 11) h11 (by decide)
              rw [e11] at hstep himm
              by_cases h0 : st = []
              · have ha : addZ st 11 = some (st, true) := by rw [addZ_11, if_pos h0, if_pos h0]
                rw [ha] at hstep
                have z0 : (S t).toList.isEmpty = true := by rw [S_toList, HTT.out, h0]; rfl
                have HS : Hid (shapeGo [] (opsOf l) = true ↔ (((k : Int) + 1 ≠ 0) ∧ (k : Int) + 1 = n)) := by
                  have h : Stand l (k + 1) st true := hstep
                  unfold Stand at h
                  rw [if_pos rfl] at h
                  show _ ↔ _
                  rw [h, List.isEmpty_iff, List.drop_eq_nil_iff]
                  unfold opsOf
                  rw [List.length_map, ← HNN.out]
                  omega
                clear hst hb k0 hi hstep ha hcl ht h0
                rw [h11] at m0
                go_wp2
                go_ret2
                exact ⟨(k : Int) + 1, -1, rfl, by rw [← HNN.out]; exact HS.out, HB.out⟩
              · have ha : addZ st 11 = some (st.dropLast, false) := by rw [addZ_11, if_neg h0, if_neg h0]
                rw [ha] at hstep
                have hc2 := clean_add hcl ha
                have HS := Lib.hid hstep
                have HC := Lib.hid hc2
                have z0 : (S t).toList.isEmpty = false := by
                  rw [S_toList, HTT.out]
                  cases st with
                  | nil => exact absurd rfl h0
                  | cons a r => rfl
                obtain ⟨u, hu⟩ : ∃ u, st.length = u + 1 := ⟨st.length - 1, by have := List.length_pos_iff.2 h0; omega⟩
                have hsu : (S t).size = u + 1 := by omega
                have e1 : ((u + 1 : Nat) : Int) - 1 = u := by omega
                have hsl2 : ∀ wx, (Instr.slice 9 (.string (S t)) none (some (.int .i64 (u : Int))) none).run Tryd.prog wx = .ok (.string (S (t.take u))) wx := fun wx => by
                  have := run_slice_string_h (P := Tryd.prog) wx 9 (S t) Tryd.underlying9 .i64 (u : Int) (by omega) (by omega)
                  rw [this, S_extract]
                  simp
                have HTK := Lib.hid (show t.take u = st.dropLast.map opc by rw [HTT.out, ← map_dropLast, hu, Nat.add_sub_cancel])
                have HLU := Lib.hid hu
                clear hst hb k0 hi hstep ha hc2 hcl ht h0
                rw [h11] at m0
                go_wp2
                go_roundw
                case rel => exact ⟨k + 1, st.dropLast, by omega, by go_num, by rw [HTK.out], by simp; have := HLU.out; omega, HC.out, HS.out, HB.out⟩
                case measure => simp [intOf]; omega
            · have d11 : ((i.op.toNat : Int) == 11) = false := by simp; omega
              have n11 : i.op ≠ 11 := fun e => h11 (by rw [e]; rfl)
              have ha : addZ st i.op = some (st, false) := by unfold addZ; rw [if_neg himm, if_neg n5, if_neg n11]
              rw [ha] at hstep
              have HS := Lib.hid hstep
              have HC := Lib.hid hcl
              clear hst hb k0 hi hstep ha hcl
              rw [ht]
              go_wp2
              go_roundw
              case rel => exact ⟨k + 1, st, by omega, by go_num, rfl, by omega, HC.out, HS.out, HB.out⟩
              case measure => simp [intOf]; omega
    · obtain rfl : k = n := by omega
      have HS : Hid (shapeGo [] (opsOf l) = false) := by
        have h := hst
        unfold Stand at h
        rw [if_neg (by simp), List.drop_eq_nil_of_le (by unfold opsOf; rw [List.length_map, HNN.out]; exact Nat.le_refl _)] at h
        show _ = _
        rw [h]
        unfold shapeGo
        rfl
      clear hst hb hcl
      go_wp2
      go_ret2
      exact ⟨0, -1, rfl, by rw [HS.out]; simp, HB.out⟩
theorem refShape_any {w : World} {A : Option Addr} {c : Nat} {l : List I} (hl : Ins w A l) (hn : l.length ≤ 20000) :
    Calls Tryd.prog 38 #[.slice A l.length c] w (IntPost (shapeZ l) w) := by
  have HW := Lib.hid (walk_any (c := c) hl hn)
  have g0 : decide (20000 < (l.length : Int)) = false := decide_eq_false (by omega)
  by_cases hs : shapeGo [] (opsOf l) = true
  · have HE := Lib.hid (show shapeZ l = 0 by unfold shapeZ; rw [if_pos hs])
    have HW2 := Lib.hid (show Calls Tryd.prog 96 #[.slice A l.length c] w fun e w' => ∃ m x : Int, e = .returned (.tuple #[.int .i64 m, .int .i64 x]) ∧ (m ≠ 0 ∧ m = l.length) ∧ Below w.heap.size w w' from HW.out.mono fun e w' ⟨m, x, h1, h2, h3⟩ => ⟨m, x, h1, h2.1 hs, h3⟩)
    clear hs hl HW
    go_enter Tryd.func38, Tryd.ntmps38
    go_wp2_with (go_at_call 96; go_must ((with_reducible refine HW2.out.mono ?_); intro e w1 hq; obtain ⟨m, x, rfl, ⟨hm0, hm1⟩, hb⟩ := hq; have z1 : (m == 0) = false := (by simpa using hm0); have z2 : (m != (l.length : Int)) = false := (by simpa using hm1); have HB := Lib.hid hb; clear hb hm0 hm1))
    go_ret
    exact ret_below HE.out.symm HB.out
  · have HE := Lib.hid (show shapeZ l = 30 by unfold shapeZ; rw [if_neg hs])
    have HW2 := Lib.hid (show Calls Tryd.prog 96 #[.slice A l.length c] w fun e w' => ∃ m x : Int, e = .returned (.tuple #[.int .i64 m, .int .i64 x]) ∧ (m = 0 ∨ m ≠ l.length) ∧ Below w.heap.size w w' from HW.out.mono fun e w' ⟨m, x, h1, h2, h3⟩ => ⟨m, x, h1, by
      by_cases g : m = 0
      · exact .inl g
      · exact .inr (fun g2 => hs (h2.2 ⟨g, g2⟩)), h3⟩)
    clear hs hl HW
    go_enter Tryd.func38, Tryd.ntmps38
    go_wp2_with (go_at_call 96; go_must ((with_reducible refine HW2.out.mono ?_); intro e w1 hq; obtain ⟨m, x, rfl, hm, hb⟩ := hq; have HB := Lib.hid hb; clear hb))
    all_goals first
      | (go_ret; exact ret_below HE.out.symm HB.out)
      | (go_wp2; go_ret; exact ret_below HE.out.symm HB.out)
      | (exfalso; rename_i h1 h2; have h3 : m = l.length := (by simpa using h2.2); omega)
end Go.Proofs.YticgmfeihdankaaDoor
