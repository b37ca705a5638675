/- Parse; awake; the walk of InstrPuts. -/
import Derived.Test.YticgmfeihdankaaDoorZb01
import Derived.Test.YticgmfeihdankaaDoorZm07
namespace Go.Proofs.YticgmfeihdankaaDoor
open Go.RowKit
set_option linter.unusedVariables false
set_option maxRecDepth 100000

set_option maxHeartbeats 1000000 in
theorem parse2_ok {w : World} {A : Option Addr} {cap : Nat} {l r : List UInt8} {i : I} (hT : Tabs w) (h : i.Ok) (hr : rightZ i = 0) (hl : Lies w w.heap.size A (cells (nums l))) (hc : l.length ≤ 1000000) (hd : l = putL i ++ r) :
    Calls Tryd.prog 36 #[.slice A l.length cap] w (Parsed i (putL i).length w) := by
  obtain ⟨w0, hw0⟩ : ∃ w0, w0 = (w.alloc (.cells #[.int .u8 0, .int .u64 0, .int .u64 0, .slice none 0 0] 25)).alloc (.cells #[.int .i64 0, .int .i64 0] 38) := ⟨_, rfl⟩
  have hsz : w0.heap.size = w.heap.size + 2 := by rw [hw0]; simp
  have hb0 : Below w.heap.size w w0 := by rw [hw0]; exact (below_box w _).alloc (by simp) _
  have b4 : Whole w0 w.heap.size 25 #[.int .u8 0, .int .u64 0, .int .u64 0, .slice none 0 0] := by rw [hw0]; exact (Whole.made w _ _).alloc _
  have b6 : Whole w0 (w.heap.size + 1) 38 #[.int .i64 0, .int .i64 0] := by
    rw [hw0]; have := Whole.made (w.alloc (.cells #[.int .u8 0, .int .u64 0, .int .u64 0, .slice none 0 0] 25)) 38 #[.int .i64 0, .int .i64 0]
    rw [size_box] at this
    exact this
  have HP := Lib.hid (parse_ok (cap := cap) (hT.below hb0) h hr ((hl.below hb0 (Nat.le_refl _)).more hb0.size) hc hd)
  rw [hw0] at HP
  have HB4 := Lib.hid b4
  have HB6 := Lib.hid b6
  have HB0 := Lib.hid hb0
  have HW0 := Lib.hid hw0
  clear hT h hr hl hd b4 b6 hb0 hw0
  obtain ⟨n, hn⟩ : ∃ n, n = (putL i).length := ⟨_, rfl⟩
  rw [← hn] at HP ⊢
  clear hn
  go_enter Tryd.func36, Tryd.ntmps36
  go_wp2_with (go_at_call 92; go_must ((with_reducible refine HP.out.mono ?_); rw [← HW0.out]; intro e w1 hq; obtain ⟨A2, c2, rfl, hla, hb, hfar⟩ := hq; have h4 := HB4.out.below hb; have h6 := HB6.out.below hb; have r0 := h4.cell 0; have r1 := h4.cell 1; have r2 := h4.cell 2; have r3 := h4.cell 3; have z0 := h4.frozen 0; have z1 := h4.frozen 1; have z2 := h4.frozen 2; have z3 := h4.frozen 3; have s0 := h6.cell 0; have s1 := h6.cell 1; have y0 := h6.frozen 0; have y1 := h6.frozen 1; simp only [List.getElem?_toArray, List.getElem?_cons_zero, List.getElem?_cons_succ] at r0 r1 r2 r3 s0 s1; have H4 := Lib.hid h4; have H6 := Lib.hid h6; have HLA := Lib.hid hla; have HB := Lib.hid hb; have HF := Lib.hid hfar; clear h4 h6 hla hb hfar))
  obtain ⟨p1, g1⟩ := put4 (u0 := .int .u8 i.op.toNat) (u1 := .int .u64 i.a) (u2 := .int .u64 i.b) (u3 := .slice A2 i.l.length c2) H4.out
  obtain ⟨p2, g2⟩ := put2 (u0 := .int .i64 0) (u1 := .int .i64 0) (H6.out.grown g1 (by simp only [ne_eq, Option.some.injEq]; omega))
  have p3 := p1.grown g2 (by simp only [ne_eq, Option.some.injEq]; omega)
  have q0 := p3.cell 0
  have q1 := p3.cell 1
  have q2 := p3.cell 2
  have q3 := p3.cell 3
  have q4 := p2.cell 0
  have q5 := p2.cell 1
  simp only [List.getElem?_toArray, List.getElem?_cons_zero, List.getElem?_cons_succ] at q0 q1 q2 q3 q4 q5
  have hz := HB.out.size
  have hz1 := g1.size
  have hb1 : Below w.heap.size w w1 := HB0.out.trans (HB.out.mono (by omega))
  have hb2 := Below.grown hb1 g1 (by omega) (fun g e => by injection e with e; omega)
  have hb3 := Below.grown hb2 g2 (by omega) (fun g e => by injection e with e; omega)
  have hsz0 : w0.heap.size = w.heap.size + 2 := hsz
  refine bodyPost_ret (v := .tuple #[insV i A2 c2, .int .i64 n, .agg #[.int .i64 0, .int .i64 0]]) (by simp [results, Tryd.results36, go_sem, q0, q1, q2, q3, q4, q5]) rfl ⟨A2, c2, rfl, ?_, hb3, fun a ha => by have := HF.out a ha; omega⟩
  exact (HLA.out.keep g1 (fun a ha => by have := HF.out a ha; omega)).keep g2 (fun a ha => by have := HF.out a ha; omega)

/-- The chapter's example. -/
def iEg : I := ⟨65, 4294967295, 0, []⟩
theorem iEg_ok : iEg.Ok := ⟨by decide, by decide, by decide, by decide, fun c h => by cases h⟩
theorem iEg_right : rightZ iEg = 0 := by decide +kernel
theorem iEg_imm : immR iEg.n = 10 := by decide +kernel
theorem iEg_put : putL iEg = [65, 127] := by
  have hm : sebN (-1) = 1 := (sebN_least (-1) (by omega) (by omega)).unique ⟨Nat.le_refl _, by unfold fitS; decide, fun m a b => by omega⟩
  have hs : s32 iEg.a = -1 := by decide +kernel
  unfold putL immL immB
  rw [iEg_imm, hs]
  show [65] ++ sebL (-1) = _
  unfold sebL
  rw [hm]
  rfl
theorem awake_any (w : World) (hT : Tabs w) : Calls Tryd.prog 30 #[] w fun e w' => e = .returned (.bool true) ∧ Below w.heap.size w w' := by
  have hp := put_any iEg none 0 w iEg_ok hT (fun j v hv => by simp [cells32, iEg] at hv) (by decide)
  obtain ⟨l, hl⟩ : ∃ l : List UInt8, l = [65, 127] := ⟨_, rfl⟩
  have HP := Lib.hid (show Calls Tryd.prog 32 #[.agg #[.int .u8 65, .int .u64 4294967295, .int .u64 0, .slice none 0 0]] w fun e w' => ∃ v, e = .returned (.tuple #[v, .int .i64 0]) ∧ Row w' w.heap.size v l ∧ Below w.heap.size w w' from hp.mono fun e w' ⟨v, h1, h2, h3⟩ => ⟨v, by rw [iEg_right] at h1; exact h1, by rw [if_pos iEg_right, iEg_put] at h2; rw [hl]; exact h2, h3⟩)
  have hcmp : ((S l).toList == [65, 127]) = true := by rw [S_toList, hl]; rfl
  clear hl
  clear hp hT
  go_enter Tryd.func30, Tryd.ntmps30
  go_wp2_with (go_at_call 32; go_must ((with_reducible refine HP.out.mono ?_); intro e w1 h; obtain ⟨v, rfl, hr, hb⟩ := h; obtain ⟨A, c, rfl, hcv⟩ := hr.str; have hcv2 := hcv 9 Tryd.underlying9; have HB := Lib.hid hb; clear hb hr hcv))
  go_ret
  exact ⟨rfl, HB.out⟩

/-- What the law keeps of its input: both boxes, both rows of labels, the bytes behind; the tables. -/
structure LSt (w : World) (i k : I) (A B : Option Addr) (c d : Nat) (M : Option Addr) (ms : List UInt8) (W : World) : Prop where
  tb : Tabs W
  bel : Below w.heap.size w W
  bi : Whole W w.heap.size 25 (insC i A c)
  bk : Whole W (w.heap.size + 1) 25 (insC k B d)
  li : LiesL W A i.l
  lk : LiesL W B k.l
  lm : Lies W W.heap.size M (cells (nums ms))
section
variable {w W W' : World} {i k : I} {A B M : Option Addr} {c d : Nat} {ms : List UInt8}
theorem LSt.on (h : LSt w i k A B c d M ms W) (hb : Below W.heap.size W W') : LSt w i k A B c d M ms W' :=
  ⟨h.tb.below hb, h.bel.trans (hb.mono h.bel.size), h.bi.below hb, h.bk.below hb, h.li.below hb, h.lk.below hb, (h.lm.below hb (Nat.le_refl _)).more hb.size⟩
theorem LSt.start (hT : Tabs w) (hi : LiesL w A i.l) (hk : LiesL w B k.l) (hm : Lies w w.heap.size M (cells (nums ms))) :
    LSt w i k A B c d M ms ((w.alloc (.cells (insC i A c) 25)).alloc (.cells (insC k B d) 25)) := by
  have hb : Below w.heap.size w ((w.alloc (.cells (insC i A c) 25)).alloc (.cells (insC k B d) 25)) := below_twoI w i k A B c d
  have h2 := Whole.made (w.alloc (.cells (insC i A c) 25)) 25 (insC k B d)
  rw [size_box] at h2
  exact ⟨hT.below hb, hb, (Whole.made w _ _).alloc _, h2, hi.below hb, hk.below hb, (hm.below hb (Nat.le_refl _)).more hb.size⟩
/-- .. and what they read as. -/
abbrev Eight (w : World) (i k : I) (A B : Option Addr) (c d : Nat) (W : World) : Prop :=
  (W.cell? ⟨w.heap.size, 0, none⟩ = some (.int .u8 i.op.toNat) ∧ W.cell? ⟨w.heap.size, 1, none⟩ = some (.int .u64 i.a) ∧ W.cell? ⟨w.heap.size, 2, none⟩ = some (.int .u64 i.b) ∧ W.cell? ⟨w.heap.size, 3, none⟩ = some (.slice A i.l.length c)) ∧
  (W.cell? ⟨w.heap.size + 1, 0, none⟩ = some (.int .u8 k.op.toNat) ∧ W.cell? ⟨w.heap.size + 1, 1, none⟩ = some (.int .u64 k.a) ∧ W.cell? ⟨w.heap.size + 1, 2, none⟩ = some (.int .u64 k.b) ∧ W.cell? ⟨w.heap.size + 1, 3, none⟩ = some (.slice B k.l.length d))
theorem LSt.eight (h : LSt w i k A B c d M ms W) : Eight w i k A B c d W := ⟨⟨h.bi.cell 0, h.bi.cell 1, h.bi.cell 2, h.bi.cell 3⟩, ⟨h.bk.cell 0, h.bk.cell 1, h.bk.cell 2, h.bk.cell 3⟩⟩
/-- .. and the bytes that Put made. -/
structure LSb (w : World) (i k : I) (A B : Option Addr) (c d : Nat) (M : Option Addr) (ms : List UInt8) (v : Value) (xs : List UInt8) (W : World) : Prop where
  a : LSt w i k A B c d M ms W
  r : Row W w.heap.size v xs
theorem LSb.on {v : Value} {xs : List UInt8} (h : LSb w i k A B c d M ms v xs W) (hb : Below W.heap.size W W') : LSb w i k A B c d M ms v xs W' := ⟨h.1.on hb, h.2.later hb⟩
theorem LSb.lb {Ab : Option Addr} {cb : Nat} {xs : List UInt8} (h : LSb w i k A B c d M ms (.slice Ab xs.length cb) xs W) : Lies W W.heap.size Ab (cells (nums xs)) := by
  obtain ⟨A', c', e, hl, _⟩ := h.r.liesN
  injection e with e1 e2 e3
  subst e1
  exact hl
theorem LSb.on8 {v : Value} {xs : List UInt8} (h : LSb w i k A B c d M ms v xs W) (hb : Below W.heap.size W W') : LSb w i k A B c d M ms v xs W' ∧ Eight w i k A B c d W' := ⟨h.on hb, (h.on hb).1.eight⟩
theorem LSb.drew8 {v : Value} {xs : List UInt8} (h : LSb w i k A B c d M ms v xs W) : LSb w i k A B c d M ms v xs W.drew ∧ Eight w i k A B c d W.drew := h.on8 (Below.refl _ _).drew
/-- At the law's end: what was read, too. -/
structure LEnd (w : World) (i k : I) (A B : Option Addr) (c d : Nat) (M : Option Addr) (ms : List UInt8) (v : Value) (xs : List UInt8) (g : Nat) (A2 : Option Addr) (c2 : Nat) (W : World) : Prop where
  b : LSb w i k A B c d M ms v xs W
  x : Whole W g 25 (insC i A2 c2)
  s : Whole W (g + 1) 38 #[.int .i64 0, .int .i64 0]
  l : LiesL W A2 i.l
theorem LEnd.on {v : Value} {xs : List UInt8} {g : Nat} {A2 : Option Addr} {c2 : Nat} (h : LEnd w i k A B c d M ms v xs g A2 c2 W) (hb : Below W.heap.size W W') : LEnd w i k A B c d M ms v xs g A2 c2 W' := ⟨h.b.on hb, h.x.below hb, h.s.below hb, h.l.below hb⟩
/-- .. and the cells. -/
abbrev Nine (w : World) (i : I) (A : Option Addr) (c : Nat) (Ab : Option Addr) (cb : Nat) (xs : List UInt8) (g : Nat) (A2 : Option Addr) (c2 : Nat) (W : World) : Prop :=
  (W.cell? ⟨w.heap.size, 0, none⟩ = some (.int .u8 i.op.toNat) ∧ W.cell? ⟨w.heap.size, 1, none⟩ = some (.int .u64 i.a) ∧ W.cell? ⟨w.heap.size, 2, none⟩ = some (.int .u64 i.b) ∧ W.cell? ⟨w.heap.size, 3, none⟩ = some (.slice A i.l.length c)) ∧
  (W.cell? ⟨g, 0, none⟩ = some (.int .u8 i.op.toNat) ∧ W.cell? ⟨g, 1, none⟩ = some (.int .u64 i.a) ∧ W.cell? ⟨g, 2, none⟩ = some (.int .u64 i.b) ∧ W.cell? ⟨g, 3, none⟩ = some (.slice A2 i.l.length c2)) ∧
  W.cell? ⟨g + 1, 0, none⟩ = some (.int .i64 0) ∧ (convert 30 9 (.slice Ab xs.length cb)).run Tryd.prog W = .ok (.string (S xs)) W
theorem LEnd.nine {Ab : Option Addr} {cb : Nat} {xs : List UInt8} {g : Nat} {A2 : Option Addr} {c2 : Nat} (h : LEnd w i k A B c d M ms (.slice Ab xs.length cb) xs g A2 c2 W) : LEnd w i k A B c d M ms (.slice Ab xs.length cb) xs g A2 c2 W ∧ Nine w i A c Ab cb xs g A2 c2 W := by
  obtain ⟨A', c', e, hc⟩ := h.b.2.str
  injection e with e1 e2 e3
  subst e1; subst e3
  exact ⟨h, ⟨h.b.1.bi.cell 0, h.b.1.bi.cell 1, h.b.1.bi.cell 2, h.b.1.bi.cell 3⟩, ⟨h.x.cell 0, h.x.cell 1, h.x.cell 2, h.x.cell 3⟩, h.s.cell 0, hc 9 Tryd.underlying9⟩
end
theorem LEnd.of {w : World} {i k : I} {A B M : Option Addr} {c d : Nat} {ms : List UInt8} {v : Value} {xs : List UInt8} {A2 : Option Addr} {c2 : Nat} {W : World} (h : LSb w i k A B c d M ms v xs W) (hl : LiesL W A2 i.l) :
    LEnd w i k A B c d M ms v xs W.heap.size A2 c2 ((W.alloc (.cells (insC i A2 c2) 25)).alloc (.cells #[.int .i64 0, .int .i64 0] 38)) := by
  have h2 := Whole.made (W.alloc (.cells (insC i A2 c2) 25)) 38 #[.int .i64 0, .int .i64 0]
  rw [size_box] at h2
  exact ⟨(h.on (below_box W _)).on (below_box _ _), (Whole.made W _ _).alloc _, h2, (hl.below (below_box W _)).below (below_box _ _)⟩
theorem sameZ_self (i : I) : sameZ i i = true := by unfold sameZ; simp

set_option maxHeartbeats 3000000 in
theorem law_any {w : World} {i k : I} {A B M : Option Addr} {c d cm : Nat} {ms : List UInt8} (hT : Tabs w) (oi : i.Ok) (ok : k.Ok) (hi : LiesL w A i.l) (hk : LiesL w B k.l) (hm : Lies w w.heap.size M (cells (nums ms))) (hM : M = none → cm = 0)
    (ni : (i.l.length : Int) ≤ 9223372036854775807) (nk : (k.l.length : Int) ≤ 9223372036854775807) (nm : (ms.length : Int) ≤ 9223372036854775807) :
    Calls Tryd.prog 6 #[insV i A c, insV k B d, .slice M ms.length cm] w (BoolPost true w) := by
  have h0 : LSt w i k A B c d M ms ((w.alloc (.cells (insC i A c) 25)).alloc (.cells (insC k B d) 25)) := .start hT hi hk hm
  have HAW := Lib.hid (awake_any _ h0.tb)
  have H0 := Lib.hid h0
  clear h0 hT hi hk hm
  by_cases g1 : 200 < i.l.length
  · have t1 : decide (200 < (i.l.length : Int)) = true := decide_eq_true (by omega)
    go_enter Tryd.func6, Tryd.ntmps6
    go_wp2_with (go_at_call 30; go_must ((with_reducible refine HAW.out.mono ?_); rintro e w1 ⟨rfl, hb⟩; have H1 := Lib.hid (H0.out.on hb); obtain ⟨⟨c0, c1, c2, c3⟩, ⟨k0, k1, k2, k3⟩⟩ := H1.out.eight; clear hb))
    go_ret
    exact ⟨rfl, H1.out.bel⟩
  have t1 : decide (200 < (i.l.length : Int)) = false := decide_eq_false (by omega)
  by_cases g2 : 200 < k.l.length
  · have t2 : decide (200 < (k.l.length : Int)) = true := decide_eq_true (by omega)
    go_enter Tryd.func6, Tryd.ntmps6
    go_wp2_with (go_at_call 30; go_must ((with_reducible refine HAW.out.mono ?_); rintro e w1 ⟨rfl, hb⟩; have H1 := Lib.hid (H0.out.on hb); obtain ⟨⟨c0, c1, c2, c3⟩, ⟨k0, k1, k2, k3⟩⟩ := H1.out.eight; clear hb))
    go_ret
    exact ⟨rfl, H1.out.bel⟩
  have t2 : decide (200 < (k.l.length : Int)) = false := decide_eq_false (by omega)
  by_cases g3 : 100 < ms.length
  · have t3 : decide (100 < (ms.length : Int)) = true := decide_eq_true (by omega)
    go_enter Tryd.func6, Tryd.ntmps6
    go_wp2_with (go_at_call 30; go_must ((with_reducible refine HAW.out.mono ?_); rintro e w1 ⟨rfl, hb⟩; have H1 := Lib.hid (H0.out.on hb); obtain ⟨⟨c0, c1, c2, c3⟩, ⟨k0, k1, k2, k3⟩⟩ := H1.out.eight; clear hb))
    go_ret
    exact ⟨rfl, H1.out.bel⟩
  have t3 : decide (100 < (ms.length : Int)) = false := decide_eq_false (by omega)
  have HRR := Lib.hid (fun W => refRight_any i A c W oi ni)
  have HPR := Lib.hid (fun W (h : Tabs W) => right_any i A c W oi h ni)
  have HPU := Lib.hid (fun W (h : Tabs W) (hl : LiesL W A i.l) => put_any i A c W oi h hl ni)
  have HS1 := Lib.hid (fun W (h1 : LiesL W A i.l) (h2 : LiesL W B k.l) => same_any (c := c) (d := d) h1 h2 (by omega) (by omega))
  have HS2 := Lib.hid (fun W (h1 : LiesL W A i.l) (h2 : LiesL W B k.l) => refSame_any (c := c) (d := d) h1 h2 (by omega) (by omega))
  obtain ⟨sz, hsz⟩ : ∃ sz, sz = sameZ i k := ⟨_, rfl⟩
  rw [← hsz] at HS1 HS2
  clear hsz
  by_cases hz : rightZ i = 0
  · have hlen : 0 < (putL i).length := by unfold putL; simp
    have hlen2 : (putL i).length ≤ 200001 := by have := immL_len oi hz; unfold putL; rw [List.length_cons]; omega
    have HPA := Lib.hid (fun W (A' : Option Addr) (c' : Nat) (h1 : Tabs W) (h2 : Lies W W.heap.size A' (cells (nums (putL i ++ ms)))) => parse2_ok (cap := c') h1 oi hz h2 (by rw [List.length_append]; omega) rfl)
    have HRP := Lib.hid (fun W (hl : LiesL W A i.l) => refPut_any i A c W oi hz hl)
    have HS3 := Lib.hid (fun W (A2 : Option Addr) (c2 : Nat) (h1 : LiesL W A2 i.l) (h2 : LiesL W A i.l) => (by have := refSame_any (c := c2) (d := c) (i := i) (k := i) h1 h2 (by omega) (by omega); rw [sameZ_self] at this; exact this))
    have HPU2 := Lib.hid (fun W (h : Tabs W) (hl : LiesL W A i.l) => show Calls Tryd.prog 32 #[insV i A c] W fun e w' => ∃ v, e = .returned (.tuple #[v, .int .i64 0]) ∧ Row w' W.heap.size v (putL i) ∧ Below W.heap.size W w' from (HPU.out W h hl).mono fun e w' ⟨v, h1, h2, h3⟩ => ⟨v, by rw [hz] at h1; exact h1, by rw [if_pos hz] at h2; exact h2, h3⟩)
    rw [hz] at HRR HPR
    obtain ⟨xs, hxs⟩ : ∃ xs, xs = putL i := ⟨_, rfl⟩
    rw [← hxs] at hlen hlen2 HPA HRP HPU2
    have HXA := Lib.hid (show xs.length + ms.length ≤ 1000000 by omega)
    obtain ⟨ys, hys⟩ : ∃ ys, ys = xs ++ ms := ⟨_, rfl⟩
    rw [← hys] at HPA
    have HYS := Lib.hid hys
    clear hys
    clear hz hxs g1 g2 g3 HPU
    go_enter Tryd.func6, Tryd.ntmps6
    go_wp2_with (first
      | (go_at_call 30; go_must ((with_reducible refine HAW.out.mono ?_); rintro e w1 ⟨rfl, hb⟩; have H1 := Lib.hid (H0.out.on hb); obtain ⟨⟨c0, c1, c2, c3⟩, ⟨k0, k1, k2, k3⟩⟩ := H1.out.eight; clear hb))
      | (go_at_call 31; go_must ((with_reducible refine (HRR.out _).mono ?_); rintro e w2 ⟨rfl, hb⟩; clear c0 c1 c2 c3 k0 k1 k2 k3; have H2 := Lib.hid (H1.out.on hb); obtain ⟨⟨c0, c1, c2, c3⟩, ⟨k0, k1, k2, k3⟩⟩ := H2.out.eight; clear hb))
      | (go_at_call 32; go_must ((with_reducible refine (HPU2.out _ H2.out.tb H2.out.li).mono ?_); intro e w3 hq; obtain ⟨v, rfl, hr, hb⟩ := hq; clear c0 c1 c2 c3 k0 k1 k2 k3; obtain ⟨Ab, cb, rfl, _, _⟩ := hr.liesN; have H3 := Lib.hid (show LSb w i k A B c d M ms (.slice Ab xs.length cb) xs w3 from ⟨H2.out.on hb, hr.mono H2.out.bel.size⟩); clear hb hr)))
    refine wp_region_noPanic ?_
    refine wp_region_held_drew (S := fun W => LSb w i k A B c d M ms (.slice Ab xs.length cb) xs W ∧ Eight w i k A B c d W) (by kernel_rfl) H3.out.drew8 (fun hHeld => ?_)
    (refine heldTake (i := 0) (oi := { dst := some 37, op := Op.load 25 (Operand.tmp 3), type := 25, pos := "law.go:29", after := #[], guard := none }) (v := ?_) rfl (by kernel_rfl) (by kernel_rfl) (by kernel_rfl) (by assumption) ?_ ?_; rotate_left; focus (refine .inl ⟨by kernel_rfl, ?_⟩; intro w hSw; (try dsimp only at hSw); go_simp; (try with_reducible rfl)); (try simp only [Act.put, List.setIfInBounds_toArray, List.set_cons_zero, List.set_cons_succ]))
    (refine heldTake (i := 2) (oi := { dst := some 39, op := Op.move (Operand.tmp 7), type := 3, pos := "law.go:29", after := #[], guard := none }) (v := ?_) rfl (by kernel_rfl) (by kernel_rfl) (by kernel_rfl) (by assumption) ?_ ?_; rotate_left; focus (refine .inl ⟨by kernel_rfl, ?_⟩; intro w hSw; (try dsimp only at hSw); go_simp; (try with_reducible rfl)); (try simp only [Act.put, List.setIfInBounds_toArray, List.set_cons_zero, List.set_cons_succ]))
    refine wpAnyH_ready (rs := [1]) (by kernel_rfl) (by simp) ?_
    refine AllReadyH.cons (o := { dst := some 38, op := Op.call { callee := Callee.value (Operand.func 33), args := #[Operand.tmp 37], argTypes := #[25] }, type := 31, pos := "law.go:29", after := #[{ on := 0, ground := Ground.data }], guard := none }) rfl (fun K hK => ?_) AllReadyH.nil
    go_simp
    (go_at_call 33; (with_reducible refine (HPR.out _ (And.left hHeld).1.tb).mono ?_); rintro e w4 ⟨rfl, hb⟩; have hk4 := LSb.on8 (And.left hHeld) hb; clear hb)
    refine hK.out _ _ hk4 (fun hHeld1 => ?_)
    clear hK K hHeld
    (try simp only [Act.put, List.setIfInBounds_toArray, List.set_cons_zero, List.set_cons_succ])
    (refine heldTake (i := 3) (oi := { dst := some 40, op := Op.binOp BinOp.neq 3 (Operand.tmp 38) (Operand.tmp 39) 3, type := 4, pos := "law.go:29", after := #[{ on := 1, ground := Ground.data }, { on := 2, ground := Ground.data }], guard := none }) (v := ?_) rfl (by kernel_rfl) (by kernel_rfl) (by kernel_rfl) (by assumption) ?_ ?_; rotate_left; focus (refine .inl ⟨by kernel_rfl, ?_⟩; intro w hSw; (try dsimp only at hSw); go_simp; (try with_reducible rfl)); (try simp only [Act.put, List.setIfInBounds_toArray, List.set_cons_zero, List.set_cons_succ]))
    (refine heldTake (i := 4) (oi := { dst := some 41, op := Op.move (Operand.tmp 40), type := 4, pos := "law.go:29", after := #[{ on := 3, ground := Ground.data }, { on := 1, ground := Ground.chain }], guard := none }) (v := ?_) rfl (by kernel_rfl) (by kernel_rfl) (by kernel_rfl) (by assumption) ?_ ?_; rotate_left; focus (refine .inl ⟨by kernel_rfl, ?_⟩; intro w hSw; (try dsimp only at hSw); go_simp; (try with_reducible rfl)); (try simp only [Act.put, List.setIfInBounds_toArray, List.set_cons_zero, List.set_cons_succ]))
    (refine heldTake (i := 5) (oi := { dst := some 42, op := Op.move (Operand.tmp 9), type := 31, pos := "law.go:29", after := #[{ on := 4, ground := Ground.guard }], guard := some (4, false) }) (v := ?_) rfl (by kernel_rfl) (by kernel_rfl) (by kernel_rfl) (by assumption) ?_ ?_; rotate_left; focus (refine .inl ⟨by kernel_rfl, ?_⟩; intro w hSw; (try dsimp only at hSw); go_simp; (try with_reducible rfl)); (try simp only [Act.put, List.setIfInBounds_toArray, List.set_cons_zero, List.set_cons_succ]))
    (refine heldTake (i := 6) (oi := { dst := some 43, op := Op.move (Operand.tmp 7), type := 3, pos := "law.go:29", after := #[{ on := 4, ground := Ground.guard }], guard := some (4, false) }) (v := ?_) rfl (by kernel_rfl) (by kernel_rfl) (by kernel_rfl) (by assumption) ?_ ?_; rotate_left; focus (refine .inl ⟨by kernel_rfl, ?_⟩; intro w hSw; (try dsimp only at hSw); go_simp; (try with_reducible rfl)); (try simp only [Act.put, List.setIfInBounds_toArray, List.set_cons_zero, List.set_cons_succ]))
    (refine heldTake (i := 7) (oi := { dst := some 44, op := Op.binOp BinOp.neq 3 (Operand.tmp 42) (Operand.tmp 43) 3, type := 4, pos := "law.go:29", after := #[{ on := 5, ground := Ground.data }, { on := 6, ground := Ground.data }, { on := 4, ground := Ground.guard }], guard := some (4, false) }) (v := ?_) rfl (by kernel_rfl) (by kernel_rfl) (by kernel_rfl) (by assumption) ?_ ?_; rotate_left; focus (refine .inl ⟨by kernel_rfl, ?_⟩; intro w hSw; (try dsimp only at hSw); go_simp; (try with_reducible rfl)); (try simp only [Act.put, List.setIfInBounds_toArray, List.set_cons_zero, List.set_cons_succ]))
    (refine heldTake (i := 8) (oi := { dst := some 45, op := Op.pick (Operand.tmp 41) (Operand.const (Value.bool true)) (Operand.tmp 44), type := 4, pos := "law.go:29", after := #[{ on := 4, ground := Ground.data }, { on := 7, ground := Ground.data }], guard := none }) (v := ?_) rfl (by kernel_rfl) (by kernel_rfl) (by kernel_rfl) (by assumption) ?_ ?_; rotate_left; focus (refine .inl ⟨by kernel_rfl, ?_⟩; intro w hSw; (try dsimp only at hSw); go_simp; (try with_reducible rfl)); (try simp only [Act.put, List.setIfInBounds_toArray, List.set_cons_zero, List.set_cons_succ]))
    (refine heldTake (i := 9) (oi := { dst := some 46, op := Op.move (Operand.tmp 45), type := 4, pos := "law.go:29", after := #[{ on := 8, ground := Ground.data }, { on := 4, ground := Ground.chain }], guard := none }) (v := ?_) rfl (by kernel_rfl) (by kernel_rfl) (by kernel_rfl) (by assumption) ?_ ?_; rotate_left; focus (refine .inl ⟨by kernel_rfl, ?_⟩; intro w hSw; (try dsimp only at hSw); go_simp; (try with_reducible rfl)); (try simp only [Act.put, List.setIfInBounds_toArray, List.set_cons_zero, List.set_cons_succ]))
    (refine heldTake (i := 10) (oi := { dst := some 47, op := Op.load 25 (Operand.tmp 3), type := 25, pos := "law.go:29", after := #[{ on := 9, ground := Ground.guard }], guard := some (9, false) }) (v := ?_) rfl (by kernel_rfl) (by kernel_rfl) (by kernel_rfl) (by assumption) ?_ ?_; rotate_left; focus (refine .inl ⟨by kernel_rfl, ?_⟩; intro w hSw; (try dsimp only at hSw); go_simp; (try with_reducible rfl)); (try simp only [Act.put, List.setIfInBounds_toArray, List.set_cons_zero, List.set_cons_succ]))
    (refine heldTake (i := 11) (oi := { dst := some 48, op := Op.load 25 (Operand.tmp 4), type := 25, pos := "law.go:29", after := #[{ on := 9, ground := Ground.guard }], guard := some (9, false) }) (v := ?_) rfl (by kernel_rfl) (by kernel_rfl) (by kernel_rfl) (by assumption) ?_ ?_; rotate_left; focus (refine .inl ⟨by kernel_rfl, ?_⟩; intro w hSw; (try dsimp only at hSw); go_simp; (try with_reducible rfl)); (try simp only [Act.put, List.setIfInBounds_toArray, List.set_cons_zero, List.set_cons_succ]))
    (refine heldTake (i := 13) (oi := { dst := some 50, op := Op.load 25 (Operand.tmp 3), type := 25, pos := "law.go:29", after := #[{ on := 9, ground := Ground.guard }], guard := some (9, false) }) (v := ?_) rfl (by kernel_rfl) (by kernel_rfl) (by kernel_rfl) (by assumption) ?_ ?_; rotate_left; focus (refine .inl ⟨by kernel_rfl, ?_⟩; intro w hSw; (try dsimp only at hSw); go_simp; (try with_reducible rfl)); (try simp only [Act.put, List.setIfInBounds_toArray, List.set_cons_zero, List.set_cons_succ]))
    (refine heldTake (i := 14) (oi := { dst := some 51, op := Op.load 25 (Operand.tmp 4), type := 25, pos := "law.go:29", after := #[{ on := 9, ground := Ground.guard }], guard := some (9, false) }) (v := ?_) rfl (by kernel_rfl) (by kernel_rfl) (by kernel_rfl) (by assumption) ?_ ?_; rotate_left; focus (refine .inl ⟨by kernel_rfl, ?_⟩; intro w hSw; (try dsimp only at hSw); go_simp; (try with_reducible rfl)); (try simp only [Act.put, List.setIfInBounds_toArray, List.set_cons_zero, List.set_cons_succ]))
    refine wpAnyH_ready (rs := [12]) (by kernel_rfl) (by simp) ?_
    refine AllReadyH.cons (o := { dst := some 49, op := Op.call { callee := Callee.value (Operand.func 34), args := #[Operand.tmp 47, Operand.tmp 48], argTypes := #[25, 25] }, type := 4, pos := "law.go:29", after := #[{ on := 10, ground := Ground.data }, { on := 11, ground := Ground.data }, { on := 9, ground := Ground.chain }, { on := 9, ground := Ground.guard }], guard := some (9, false) }) rfl (fun K hK => ?_) AllReadyH.nil
    go_simp
    (go_at_call 34; (with_reducible refine (HS1.out _ (And.left hHeld1).1.li (And.left hHeld1).1.lk).mono ?_); rintro e w5 ⟨rfl, hb⟩; have hk5 := LSb.on8 (And.left hHeld1) hb; clear hb)
    refine hK.out _ _ hk5 (fun hHeld12 => ?_)
    clear hK K hHeld1
    (try simp only [Act.put, List.setIfInBounds_toArray, List.set_cons_zero, List.set_cons_succ])
    refine wpAnyH_ready (rs := [15]) (by kernel_rfl) (by simp) ?_
    refine AllReadyH.cons (o := { dst := some 52, op := Op.call { callee := Callee.value (Operand.func 35), args := #[Operand.tmp 50, Operand.tmp 51], argTypes := #[25, 25] }, type := 4, pos := "law.go:29", after := #[{ on := 13, ground := Ground.data }, { on := 14, ground := Ground.data }, { on := 12, ground := Ground.chain }, { on := 9, ground := Ground.guard }], guard := some (9, false) }) rfl (fun K hK => ?_) AllReadyH.nil
    go_simp
    (go_at_call 35; (with_reducible refine (HS2.out _ (And.left hHeld12).1.li (And.left hHeld12).1.lk).mono ?_); rintro e w6 ⟨rfl, hb⟩; have hk6 := LSb.on8 (And.left hHeld12) hb; clear hb)
    refine hK.out _ _ hk6 (fun hHeld15 => ?_)
    clear hK K hHeld12
    (try simp only [Act.put, List.setIfInBounds_toArray, List.set_cons_zero, List.set_cons_succ])
    (refine heldTake (i := 16) (oi := { dst := some 53, op := Op.binOp BinOp.neq 4 (Operand.tmp 49) (Operand.tmp 52) 4, type := 4, pos := "law.go:29", after := #[{ on := 12, ground := Ground.data }, { on := 15, ground := Ground.data }, { on := 9, ground := Ground.guard }], guard := some (9, false) }) (v := ?_) rfl (by kernel_rfl) (by kernel_rfl) (by kernel_rfl) (by assumption) ?_ ?_; rotate_left; focus (refine .inl ⟨by kernel_rfl, ?_⟩; intro w hSw; (try dsimp only at hSw); go_simp; (try with_reducible rfl)); (try simp only [Act.put, List.setIfInBounds_toArray, List.set_cons_zero, List.set_cons_succ]))
    (refine heldTake (i := 17) (oi := { dst := some 54, op := Op.pick (Operand.tmp 46) (Operand.const (Value.bool true)) (Operand.tmp 53), type := 4, pos := "law.go:29", after := #[{ on := 9, ground := Ground.data }, { on := 16, ground := Ground.data }], guard := none }) (v := ?_) rfl (by kernel_rfl) (by kernel_rfl) (by kernel_rfl) (by assumption) ?_ ?_; rotate_left; focus (refine .inl ⟨by kernel_rfl, ?_⟩; intro w hSw; (try dsimp only at hSw); go_simp; (try with_reducible rfl)); (try simp only [Act.put, List.setIfInBounds_toArray, List.set_cons_zero, List.set_cons_succ]))
    refine wpAnyH_done (by kernel_rfl) ?_ _
    refine NoPanic.normal ?_
    have hLast := hHeld15
    clear hHeld15
    have H6 := Lib.hid (And.left hLast)
    obtain ⟨-, ⟨c0, c1, c2, c3⟩, ⟨k0, k1, k2, k3⟩⟩ := hLast
    go_wp2_with (first
      | (at_builtin; (refine row_any rfl _ _ rfl w6.heap.size _ xs rfl HR7.out M ms.length cm _ ms rfl rfl (H6.out.a.on HB7.out).lm hM HXA.out (Nat.le_trans (Nat.le_refl _) HB7.out.size) ?_; intro v8 w8 hr8 hb8; rw [← HYS.out] at hr8; obtain ⟨A8, c8, rfl, hl8, _⟩ := hr8.liesN; have HL8 := Lib.hid hl8; have HB8 := Lib.hid (HB7.out.trans hb8); clear hr8 hb8 hl8))
      | (at_builtin; (refine row_lies rfl _ _ rfl w6.heap.size _ [] rfl (Row.made w6 [] w6.heap.size w6.heap.size rfl (Nat.le_refl _) (by simp)) Ab xs.length cb _ xs rfl rfl (lies_box H6.out.lb _) hlen (by have := HXA.out; simp; omega) (by simp) ?_; intro v7 w7 hr7 hb7; have HR7 := Lib.hid (show Row w7 w6.heap.size v7 xs from hr7); have HB7 := Lib.hid ((below_box w6 (.cells #[] 5)).trans hb7); clear hr7 hb7))
      | (go_at_call 36; go_must ((with_reducible refine (HPA.out _ _ _ (H6.out.on HB8.out).a.tb HL8.out).mono ?_); intro e w9 hq; obtain ⟨A2, c2', rfl, hla, hb, hfar⟩ := hq; have H9 := Lib.hid ((H6.out.on HB8.out).on hb); have HLA := Lib.hid hla; clear c0 c1 c2 c3 k0 k1 k2 k3 hla hb hfar)))
    have HL9 := Lib.hid (show LEnd w i k A B c d M ms (.slice Ab xs.length cb) xs w9.heap.size A2 c2' ((w9.alloc (.cells (insC i A2 c2') 25)).alloc (.cells #[.int .i64 0, .int .i64 0] 38)) from .of H9.out HLA.out)
    refine wp_region_noPanic ?_
    refine wp_region_held_drew (S := fun W => LEnd w i k A B c d M ms (.slice Ab xs.length cb) xs w9.heap.size A2 c2' W ∧ Nine w i A c Ab cb xs w9.heap.size A2 c2' W) (by kernel_rfl) (LEnd.nine (HL9.out.on (Below.refl _ _).drew)) (fun hHeld => ?_)
    (refine heldTake (i := 0) (oi := { dst := some 70, op := Op.move (Operand.tmp 8), type := 30, pos := "law.go:36", after := #[], guard := none }) (v := ?_) rfl (by kernel_rfl) (by kernel_rfl) (by kernel_rfl) (by assumption) ?_ ?_; rotate_left; focus (refine .inl ⟨by kernel_rfl, ?_⟩; intro w hSw; (try dsimp only at hSw); go_simp; (try with_reducible rfl)); (try simp only [Act.put, List.setIfInBounds_toArray, List.set_cons_zero, List.set_cons_succ]))
    (refine heldTake (i := 1) (oi := { dst := some 71, op := Op.convert 30 9 (Operand.tmp 70), type := 9, pos := "law.go:36", after := #[{ on := 0, ground := Ground.data }], guard := none }) (v := ?_) rfl (by kernel_rfl) (by kernel_rfl) (by kernel_rfl) (by assumption) ?_ ?_; rotate_left; focus (refine .inl ⟨by kernel_rfl, ?_⟩; intro w hSw; (try dsimp only at hSw); go_simp; (try with_reducible rfl)); (try simp only [Act.put, List.setIfInBounds_toArray, List.set_cons_zero, List.set_cons_succ]))
    (refine heldTake (i := 2) (oi := { dst := some 72, op := Op.load 25 (Operand.tmp 3), type := 25, pos := "law.go:36", after := #[], guard := none }) (v := ?_) rfl (by kernel_rfl) (by kernel_rfl) (by kernel_rfl) (by assumption) ?_ ?_; rotate_left; focus (refine .inl ⟨by kernel_rfl, ?_⟩; intro w hSw; (try dsimp only at hSw); go_simp; (try with_reducible rfl)); (try simp only [Act.put, List.setIfInBounds_toArray, List.set_cons_zero, List.set_cons_succ]))
    refine wpAnyH_ready (rs := [3]) (by kernel_rfl) (by simp) ?_
    refine AllReadyH.cons (o := { dst := some 73, op := Op.call { callee := Callee.value (Operand.func 37), args := #[Operand.tmp 72], argTypes := #[25] }, type := 9, pos := "law.go:36", after := #[{ on := 2, ground := Ground.data }], guard := none }) rfl (fun K hK => ?_) AllReadyH.nil
    go_simp
    (go_at_call 37; (with_reducible refine (HRP.out _ (And.left hHeld).b.a.li).mono ?_); rintro e w10 ⟨rfl, hb⟩; have hk10 := LEnd.nine (LEnd.on (And.left hHeld) hb); clear hb)
    refine hK.out _ _ hk10 (fun hHeld3 => ?_)
    clear hK K hHeld
    (try simp only [Act.put, List.setIfInBounds_toArray, List.set_cons_zero, List.set_cons_succ])
    (refine heldTake (i := 4) (oi := { dst := some 74, op := Op.binOp BinOp.eql 9 (Operand.tmp 71) (Operand.tmp 73) 9, type := 4, pos := "law.go:36", after := #[{ on := 1, ground := Ground.data }, { on := 3, ground := Ground.data }], guard := none }) (v := ?_) rfl (by kernel_rfl) (by kernel_rfl) (by kernel_rfl) (by assumption) ?_ ?_; rotate_left; focus (refine .inl ⟨by kernel_rfl, ?_⟩; intro w hSw; (try dsimp only at hSw); go_simp; (try with_reducible rfl)); (try simp only [Act.put, List.setIfInBounds_toArray, List.set_cons_zero, List.set_cons_succ]))
    (refine heldTake (i := 5) (oi := { dst := some 75, op := Op.move (Operand.tmp 74), type := 4, pos := "law.go:36", after := #[{ on := 4, ground := Ground.data }, { on := 3, ground := Ground.chain }], guard := none }) (v := ?_) rfl (by kernel_rfl) (by kernel_rfl) (by kernel_rfl) (by assumption) ?_ ?_; rotate_left; focus (refine .inl ⟨by kernel_rfl, ?_⟩; intro w hSw; (try dsimp only at hSw); go_simp; (try with_reducible rfl)); (try simp only [Act.put, List.setIfInBounds_toArray, List.set_cons_zero, List.set_cons_succ]))
    (refine heldTake (i := 6) (oi := { dst := some 76, op := Op.fieldAddr 38 (Operand.tmp 12) 0, type := 0, pos := "law.go:36", after := #[{ on := 5, ground := Ground.guard }], guard := some (5, true) }) (v := ?_) rfl (by kernel_rfl) (by kernel_rfl) (by kernel_rfl) (by assumption) ?_ ?_; rotate_left; focus (refine .inl ⟨by kernel_rfl, ?_⟩; intro w hSw; (try dsimp only at hSw); go_simp; (try with_reducible rfl)); (try simp only [Act.put, List.setIfInBounds_toArray, List.set_cons_zero, List.set_cons_succ]))
    (refine heldTake (i := 7) (oi := { dst := some 77, op := Op.load 31 (Operand.tmp 76), type := 31, pos := "law.go:36", after := #[{ on := 6, ground := Ground.data }, { on := 5, ground := Ground.guard }], guard := some (5, true) }) (v := ?_) rfl (by kernel_rfl) (by kernel_rfl) (by kernel_rfl) (by assumption) ?_ ?_; rotate_left; focus (refine .inl ⟨by kernel_rfl, ?_⟩; intro w hSw; (try dsimp only at hSw); go_simp; (try with_reducible rfl)); (try simp only [Act.put, List.setIfInBounds_toArray, List.set_cons_zero, List.set_cons_succ]))
    (refine heldTake (i := 8) (oi := { dst := some 78, op := Op.binOp BinOp.eql 31 (Operand.tmp 77) (Operand.const (Value.int IntKind.i64 0)) 31, type := 4, pos := "law.go:36", after := #[{ on := 7, ground := Ground.data }, { on := 5, ground := Ground.guard }], guard := some (5, true) }) (v := ?_) rfl (by kernel_rfl) (by kernel_rfl) (by kernel_rfl) (by assumption) ?_ ?_; rotate_left; focus (refine .inl ⟨by kernel_rfl, ?_⟩; intro w hSw; (try dsimp only at hSw); go_simp; (try with_reducible rfl)); (try simp only [Act.put, List.setIfInBounds_toArray, List.set_cons_zero, List.set_cons_succ]))
    (refine heldTake (i := 9) (oi := { dst := some 79, op := Op.pick (Operand.tmp 75) (Operand.tmp 78) (Operand.const (Value.bool false)), type := 4, pos := "law.go:36", after := #[{ on := 5, ground := Ground.data }, { on := 8, ground := Ground.data }], guard := none }) (v := ?_) rfl (by kernel_rfl) (by kernel_rfl) (by kernel_rfl) (by assumption) ?_ ?_; rotate_left; focus (refine .inl ⟨by kernel_rfl, ?_⟩; intro w hSw; (try dsimp only at hSw); go_simp; (try with_reducible rfl)); (try simp only [Act.put, List.setIfInBounds_toArray, List.set_cons_zero, List.set_cons_succ]))
    (refine heldTake (i := 10) (oi := { dst := some 80, op := Op.move (Operand.tmp 79), type := 4, pos := "law.go:36", after := #[{ on := 9, ground := Ground.data }, { on := 5, ground := Ground.chain }], guard := none }) (v := ?_) rfl (by kernel_rfl) (by kernel_rfl) (by kernel_rfl) (by assumption) ?_ ?_; rotate_left; focus (refine .inl ⟨by kernel_rfl, ?_⟩; intro w hSw; (try dsimp only at hSw); go_simp; (try with_reducible rfl)); (try simp only [Act.put, List.setIfInBounds_toArray, List.set_cons_zero, List.set_cons_succ]))
    (refine heldTake (i := 11) (oi := { dst := some 81, op := Op.move (Operand.tmp 11), type := 3, pos := "law.go:36", after := #[{ on := 10, ground := Ground.guard }], guard := some (10, true) }) (v := ?_) rfl (by kernel_rfl) (by kernel_rfl) (by kernel_rfl) (by assumption) ?_ ?_; rotate_left; focus (refine .inl ⟨by kernel_rfl, ?_⟩; intro w hSw; (try dsimp only at hSw); go_simp; (try with_reducible rfl)); (try simp only [Act.put, List.setIfInBounds_toArray, List.set_cons_zero, List.set_cons_succ]))
    (refine heldTake (i := 12) (oi := { dst := some 82, op := Op.move (Operand.tmp 8), type := 30, pos := "law.go:36", after := #[{ on := 10, ground := Ground.guard }], guard := some (10, true) }) (v := ?_) rfl (by kernel_rfl) (by kernel_rfl) (by kernel_rfl) (by assumption) ?_ ?_; rotate_left; focus (refine .inl ⟨by kernel_rfl, ?_⟩; intro w hSw; (try dsimp only at hSw); go_simp; (try with_reducible rfl)); (try simp only [Act.put, List.setIfInBounds_toArray, List.set_cons_zero, List.set_cons_succ]))
    (refine heldTake (i := 13) (oi := { dst := some 83, op := Op.call { callee := Callee.builtin Builtin.len, args := #[Operand.tmp 82], argTypes := #[30] }, type := 3, pos := "law.go:36", after := #[{ on := 12, ground := Ground.data }, { on := 10, ground := Ground.guard }], guard := some (10, true) }) (v := ?_) rfl (by kernel_rfl) (by kernel_rfl) (by kernel_rfl) (by assumption) ?_ ?_; rotate_left; focus (refine .inl ⟨by kernel_rfl, ?_⟩; intro w hSw; (try dsimp only at hSw); go_simp; (try with_reducible rfl)); (try simp only [Act.put, List.setIfInBounds_toArray, List.set_cons_zero, List.set_cons_succ]))
    (refine heldTake (i := 14) (oi := { dst := some 84, op := Op.binOp BinOp.eql 3 (Operand.tmp 81) (Operand.tmp 83) 3, type := 4, pos := "law.go:36", after := #[{ on := 11, ground := Ground.data }, { on := 13, ground := Ground.data }, { on := 10, ground := Ground.guard }], guard := some (10, true) }) (v := ?_) rfl (by kernel_rfl) (by kernel_rfl) (by kernel_rfl) (by assumption) ?_ ?_; rotate_left; focus (refine .inl ⟨by kernel_rfl, ?_⟩; intro w hSw; (try dsimp only at hSw); go_simp; (try with_reducible rfl)); (try simp only [Act.put, List.setIfInBounds_toArray, List.set_cons_zero, List.set_cons_succ]))
    (refine heldTake (i := 15) (oi := { dst := some 85, op := Op.pick (Operand.tmp 80) (Operand.tmp 84) (Operand.const (Value.bool false)), type := 4, pos := "law.go:36", after := #[{ on := 10, ground := Ground.data }, { on := 14, ground := Ground.data }], guard := none }) (v := ?_) rfl (by kernel_rfl) (by kernel_rfl) (by kernel_rfl) (by assumption) ?_ ?_; rotate_left; focus (refine .inl ⟨by kernel_rfl, ?_⟩; intro w hSw; (try dsimp only at hSw); go_simp; (try with_reducible rfl)); (try simp only [Act.put, List.setIfInBounds_toArray, List.set_cons_zero, List.set_cons_succ]))
    (refine heldTake (i := 16) (oi := { dst := some 86, op := Op.move (Operand.tmp 85), type := 4, pos := "law.go:36", after := #[{ on := 15, ground := Ground.data }, { on := 10, ground := Ground.chain }], guard := none }) (v := ?_) rfl (by kernel_rfl) (by kernel_rfl) (by kernel_rfl) (by assumption) ?_ ?_; rotate_left; focus (refine .inl ⟨by kernel_rfl, ?_⟩; intro w hSw; (try dsimp only at hSw); go_simp; (try with_reducible rfl)); (try simp only [Act.put, List.setIfInBounds_toArray, List.set_cons_zero, List.set_cons_succ]))
    (refine heldTake (i := 17) (oi := { dst := some 87, op := Op.load 25 (Operand.tmp 10), type := 25, pos := "law.go:36", after := #[{ on := 16, ground := Ground.guard }], guard := some (16, true) }) (v := ?_) rfl (by kernel_rfl) (by kernel_rfl) (by kernel_rfl) (by assumption) ?_ ?_; rotate_left; focus (refine .inl ⟨by kernel_rfl, ?_⟩; intro w hSw; (try dsimp only at hSw); go_simp; (try with_reducible rfl)); (try simp only [Act.put, List.setIfInBounds_toArray, List.set_cons_zero, List.set_cons_succ]))
    (refine heldTake (i := 18) (oi := { dst := some 88, op := Op.load 25 (Operand.tmp 3), type := 25, pos := "law.go:36", after := #[{ on := 16, ground := Ground.guard }], guard := some (16, true) }) (v := ?_) rfl (by kernel_rfl) (by kernel_rfl) (by kernel_rfl) (by assumption) ?_ ?_; rotate_left; focus (refine .inl ⟨by kernel_rfl, ?_⟩; intro w hSw; (try dsimp only at hSw); go_simp; (try with_reducible rfl)); (try simp only [Act.put, List.setIfInBounds_toArray, List.set_cons_zero, List.set_cons_succ]))
    refine wpAnyH_ready (rs := [19]) (by kernel_rfl) (by simp) ?_
    refine AllReadyH.cons (o := { dst := some 89, op := Op.call { callee := Callee.value (Operand.func 35), args := #[Operand.tmp 87, Operand.tmp 88], argTypes := #[25, 25] }, type := 4, pos := "law.go:36", after := #[{ on := 17, ground := Ground.data }, { on := 18, ground := Ground.data }, { on := 16, ground := Ground.chain }, { on := 16, ground := Ground.guard }], guard := some (16, true) }) rfl (fun K hK => ?_) AllReadyH.nil
    go_simp
    (go_at_call 35; (with_reducible refine (HS3.out _ _ _ (And.left hHeld3).l (And.left hHeld3).b.a.li).mono ?_); rintro e w11 ⟨rfl, hb⟩; have hk11 := LEnd.nine (LEnd.on (And.left hHeld3) hb); clear hb)
    refine hK.out _ _ hk11 (fun hHeld19 => ?_)
    clear hK K hHeld3
    (try simp only [Act.put, List.setIfInBounds_toArray, List.set_cons_zero, List.set_cons_succ])
    (refine heldTake (i := 20) (oi := { dst := some 90, op := Op.pick (Operand.tmp 86) (Operand.tmp 89) (Operand.const (Value.bool false)), type := 4, pos := "law.go:36", after := #[{ on := 16, ground := Ground.data }, { on := 19, ground := Ground.data }], guard := none }) (v := ?_) rfl (by kernel_rfl) (by kernel_rfl) (by kernel_rfl) (by assumption) ?_ ?_; rotate_left; focus (refine .inl ⟨by kernel_rfl, ?_⟩; intro w hSw; (try dsimp only at hSw); go_simp; (try with_reducible rfl)); (try simp only [Act.put, List.setIfInBounds_toArray, List.set_cons_zero, List.set_cons_succ]))
    (refine heldTake (i := 21) (oi := { dst := some 6, op := Op.assign (Operand.tmp 90), type := 4, pos := "law.go:36", after := #[{ on := 20, ground := Ground.data }, { on := 19, ground := Ground.chain }, { on := 0, ground := Ground.phase }, { on := 1, ground := Ground.phase }, { on := 2, ground := Ground.phase }, { on := 3, ground := Ground.phase }, { on := 4, ground := Ground.phase }, { on := 5, ground := Ground.phase }, { on := 6, ground := Ground.phase }, { on := 7, ground := Ground.phase }, { on := 8, ground := Ground.phase }, { on := 9, ground := Ground.phase }, { on := 10, ground := Ground.phase }, { on := 11, ground := Ground.phase }, { on := 12, ground := Ground.phase }, { on := 13, ground := Ground.phase }, { on := 14, ground := Ground.phase }, { on := 15, ground := Ground.phase }, { on := 16, ground := Ground.phase }, { on := 17, ground := Ground.phase }, { on := 18, ground := Ground.phase }, { on := 19, ground := Ground.phase }, { on := 20, ground := Ground.phase }], guard := none }) (v := ?_) rfl (by kernel_rfl) (by kernel_rfl) (by kernel_rfl) (by assumption) ?_ ?_; rotate_left; focus (refine .inl ⟨by kernel_rfl, ?_⟩; intro w hSw; (try dsimp only at hSw); go_simp; (try with_reducible rfl)); (try simp only [Act.put, List.setIfInBounds_toArray, List.set_cons_zero, List.set_cons_succ]))
    refine wpAnyH_done (by kernel_rfl) ?_ _
    refine NoPanic.normal ?_
    have hLast := hHeld19
    clear hHeld19
    go_wp2
    go_ret
    exact ⟨rfl, (And.left hLast).b.a.bel⟩
  · have HPU2 := Lib.hid (fun W (h : Tabs W) (hl : LiesL W A i.l) => show Calls Tryd.prog 32 #[insV i A c] W fun e w' => ∃ v, e = .returned (.tuple #[v, .int .i64 (rightZ i)]) ∧ Row w' W.heap.size v [] ∧ Below W.heap.size W w' from (HPU.out W h hl).mono fun e w' ⟨v, h1, h2, h3⟩ => ⟨v, h1, by rw [if_neg hz] at h2; exact h2, h3⟩)
    obtain ⟨z, hzz⟩ : ∃ z, z = rightZ i := ⟨_, rfl⟩
    rw [← hzz] at HRR HPR HPU2 hz
    have hzb : (z != 0) = true := by simpa using hz
    obtain ⟨xs, hxs⟩ : ∃ xs : List UInt8, xs = [] := ⟨_, rfl⟩
    have hxl : (xs.length : Int) = 0 := by rw [hxs]; rfl
    rw [← hxs] at HPU2
    clear hz hzz hxs g1 g2 g3 HPU
    go_enter Tryd.func6, Tryd.ntmps6
    go_wp2_with (first
      | (go_at_call 30; go_must ((with_reducible refine HAW.out.mono ?_); rintro e w1 ⟨rfl, hb⟩; have H1 := Lib.hid (H0.out.on hb); obtain ⟨⟨c0, c1, c2, c3⟩, ⟨k0, k1, k2, k3⟩⟩ := H1.out.eight; clear hb))
      | (go_at_call 31; go_must ((with_reducible refine (HRR.out _).mono ?_); rintro e w2 ⟨rfl, hb⟩; clear c0 c1 c2 c3 k0 k1 k2 k3; have H2 := Lib.hid (H1.out.on hb); obtain ⟨⟨c0, c1, c2, c3⟩, ⟨k0, k1, k2, k3⟩⟩ := H2.out.eight; clear hb))
      | (go_at_call 32; go_must ((with_reducible refine (HPU2.out _ H2.out.tb H2.out.li).mono ?_); intro e w3 hq; obtain ⟨v, rfl, hr, hb⟩ := hq; clear c0 c1 c2 c3 k0 k1 k2 k3; obtain ⟨Ab, cb, rfl, _, _⟩ := hr.liesN; have H3 := Lib.hid (show LSb w i k A B c d M ms (.slice Ab xs.length cb) xs w3 from ⟨H2.out.on hb, hr.mono H2.out.bel.size⟩); clear hb hr)))
    refine wp_region_noPanic ?_
    refine wp_region_held_drew (S := fun W => LSb w i k A B c d M ms (.slice Ab xs.length cb) xs W ∧ Eight w i k A B c d W) (by kernel_rfl) H3.out.drew8 (fun hHeld => ?_)
    (refine heldTake (i := 0) (oi := { dst := some 37, op := Op.load 25 (Operand.tmp 3), type := 25, pos := "law.go:29", after := #[], guard := none }) (v := ?_) rfl (by kernel_rfl) (by kernel_rfl) (by kernel_rfl) (by assumption) ?_ ?_; rotate_left; focus (refine .inl ⟨by kernel_rfl, ?_⟩; intro w hSw; (try dsimp only at hSw); go_simp; (try with_reducible rfl)); (try simp only [Act.put, List.setIfInBounds_toArray, List.set_cons_zero, List.set_cons_succ]))
    (refine heldTake (i := 2) (oi := { dst := some 39, op := Op.move (Operand.tmp 7), type := 3, pos := "law.go:29", after := #[], guard := none }) (v := ?_) rfl (by kernel_rfl) (by kernel_rfl) (by kernel_rfl) (by assumption) ?_ ?_; rotate_left; focus (refine .inl ⟨by kernel_rfl, ?_⟩; intro w hSw; (try dsimp only at hSw); go_simp; (try with_reducible rfl)); (try simp only [Act.put, List.setIfInBounds_toArray, List.set_cons_zero, List.set_cons_succ]))
    refine wpAnyH_ready (rs := [1]) (by kernel_rfl) (by simp) ?_
    refine AllReadyH.cons (o := { dst := some 38, op := Op.call { callee := Callee.value (Operand.func 33), args := #[Operand.tmp 37], argTypes := #[25] }, type := 31, pos := "law.go:29", after := #[{ on := 0, ground := Ground.data }], guard := none }) rfl (fun K hK => ?_) AllReadyH.nil
    go_simp
    (go_at_call 33; (with_reducible refine (HPR.out _ (And.left hHeld).1.tb).mono ?_); rintro e w4 ⟨rfl, hb⟩; have hk4 := LSb.on8 (And.left hHeld) hb; clear hb)
    refine hK.out _ _ hk4 (fun hHeld1 => ?_)
    clear hK K hHeld
    (try simp only [Act.put, List.setIfInBounds_toArray, List.set_cons_zero, List.set_cons_succ])
    (refine heldTake (i := 3) (oi := { dst := some 40, op := Op.binOp BinOp.neq 3 (Operand.tmp 38) (Operand.tmp 39) 3, type := 4, pos := "law.go:29", after := #[{ on := 1, ground := Ground.data }, { on := 2, ground := Ground.data }], guard := none }) (v := ?_) rfl (by kernel_rfl) (by kernel_rfl) (by kernel_rfl) (by assumption) ?_ ?_; rotate_left; focus (refine .inl ⟨by kernel_rfl, ?_⟩; intro w hSw; (try dsimp only at hSw); go_simp; (try with_reducible rfl)); (try simp only [Act.put, List.setIfInBounds_toArray, List.set_cons_zero, List.set_cons_succ]))
    (refine heldTake (i := 4) (oi := { dst := some 41, op := Op.move (Operand.tmp 40), type := 4, pos := "law.go:29", after := #[{ on := 3, ground := Ground.data }, { on := 1, ground := Ground.chain }], guard := none }) (v := ?_) rfl (by kernel_rfl) (by kernel_rfl) (by kernel_rfl) (by assumption) ?_ ?_; rotate_left; focus (refine .inl ⟨by kernel_rfl, ?_⟩; intro w hSw; (try dsimp only at hSw); go_simp; (try with_reducible rfl)); (try simp only [Act.put, List.setIfInBounds_toArray, List.set_cons_zero, List.set_cons_succ]))
    (refine heldTake (i := 5) (oi := { dst := some 42, op := Op.move (Operand.tmp 9), type := 31, pos := "law.go:29", after := #[{ on := 4, ground := Ground.guard }], guard := some (4, false) }) (v := ?_) rfl (by kernel_rfl) (by kernel_rfl) (by kernel_rfl) (by assumption) ?_ ?_; rotate_left; focus (refine .inl ⟨by kernel_rfl, ?_⟩; intro w hSw; (try dsimp only at hSw); go_simp; (try with_reducible rfl)); (try simp only [Act.put, List.setIfInBounds_toArray, List.set_cons_zero, List.set_cons_succ]))
    (refine heldTake (i := 6) (oi := { dst := some 43, op := Op.move (Operand.tmp 7), type := 3, pos := "law.go:29", after := #[{ on := 4, ground := Ground.guard }], guard := some (4, false) }) (v := ?_) rfl (by kernel_rfl) (by kernel_rfl) (by kernel_rfl) (by assumption) ?_ ?_; rotate_left; focus (refine .inl ⟨by kernel_rfl, ?_⟩; intro w hSw; (try dsimp only at hSw); go_simp; (try with_reducible rfl)); (try simp only [Act.put, List.setIfInBounds_toArray, List.set_cons_zero, List.set_cons_succ]))
    (refine heldTake (i := 7) (oi := { dst := some 44, op := Op.binOp BinOp.neq 3 (Operand.tmp 42) (Operand.tmp 43) 3, type := 4, pos := "law.go:29", after := #[{ on := 5, ground := Ground.data }, { on := 6, ground := Ground.data }, { on := 4, ground := Ground.guard }], guard := some (4, false) }) (v := ?_) rfl (by kernel_rfl) (by kernel_rfl) (by kernel_rfl) (by assumption) ?_ ?_; rotate_left; focus (refine .inl ⟨by kernel_rfl, ?_⟩; intro w hSw; (try dsimp only at hSw); go_simp; (try with_reducible rfl)); (try simp only [Act.put, List.setIfInBounds_toArray, List.set_cons_zero, List.set_cons_succ]))
    (refine heldTake (i := 8) (oi := { dst := some 45, op := Op.pick (Operand.tmp 41) (Operand.const (Value.bool true)) (Operand.tmp 44), type := 4, pos := "law.go:29", after := #[{ on := 4, ground := Ground.data }, { on := 7, ground := Ground.data }], guard := none }) (v := ?_) rfl (by kernel_rfl) (by kernel_rfl) (by kernel_rfl) (by assumption) ?_ ?_; rotate_left; focus (refine .inl ⟨by kernel_rfl, ?_⟩; intro w hSw; (try dsimp only at hSw); go_simp; (try with_reducible rfl)); (try simp only [Act.put, List.setIfInBounds_toArray, List.set_cons_zero, List.set_cons_succ]))
    (refine heldTake (i := 9) (oi := { dst := some 46, op := Op.move (Operand.tmp 45), type := 4, pos := "law.go:29", after := #[{ on := 8, ground := Ground.data }, { on := 4, ground := Ground.chain }], guard := none }) (v := ?_) rfl (by kernel_rfl) (by kernel_rfl) (by kernel_rfl) (by assumption) ?_ ?_; rotate_left; focus (refine .inl ⟨by kernel_rfl, ?_⟩; intro w hSw; (try dsimp only at hSw); go_simp; (try with_reducible rfl)); (try simp only [Act.put, List.setIfInBounds_toArray, List.set_cons_zero, List.set_cons_succ]))
    (refine heldTake (i := 10) (oi := { dst := some 47, op := Op.load 25 (Operand.tmp 3), type := 25, pos := "law.go:29", after := #[{ on := 9, ground := Ground.guard }], guard := some (9, false) }) (v := ?_) rfl (by kernel_rfl) (by kernel_rfl) (by kernel_rfl) (by assumption) ?_ ?_; rotate_left; focus (refine .inl ⟨by kernel_rfl, ?_⟩; intro w hSw; (try dsimp only at hSw); go_simp; (try with_reducible rfl)); (try simp only [Act.put, List.setIfInBounds_toArray, List.set_cons_zero, List.set_cons_succ]))
    (refine heldTake (i := 11) (oi := { dst := some 48, op := Op.load 25 (Operand.tmp 4), type := 25, pos := "law.go:29", after := #[{ on := 9, ground := Ground.guard }], guard := some (9, false) }) (v := ?_) rfl (by kernel_rfl) (by kernel_rfl) (by kernel_rfl) (by assumption) ?_ ?_; rotate_left; focus (refine .inl ⟨by kernel_rfl, ?_⟩; intro w hSw; (try dsimp only at hSw); go_simp; (try with_reducible rfl)); (try simp only [Act.put, List.setIfInBounds_toArray, List.set_cons_zero, List.set_cons_succ]))
    (refine heldTake (i := 13) (oi := { dst := some 50, op := Op.load 25 (Operand.tmp 3), type := 25, pos := "law.go:29", after := #[{ on := 9, ground := Ground.guard }], guard := some (9, false) }) (v := ?_) rfl (by kernel_rfl) (by kernel_rfl) (by kernel_rfl) (by assumption) ?_ ?_; rotate_left; focus (refine .inl ⟨by kernel_rfl, ?_⟩; intro w hSw; (try dsimp only at hSw); go_simp; (try with_reducible rfl)); (try simp only [Act.put, List.setIfInBounds_toArray, List.set_cons_zero, List.set_cons_succ]))
    (refine heldTake (i := 14) (oi := { dst := some 51, op := Op.load 25 (Operand.tmp 4), type := 25, pos := "law.go:29", after := #[{ on := 9, ground := Ground.guard }], guard := some (9, false) }) (v := ?_) rfl (by kernel_rfl) (by kernel_rfl) (by kernel_rfl) (by assumption) ?_ ?_; rotate_left; focus (refine .inl ⟨by kernel_rfl, ?_⟩; intro w hSw; (try dsimp only at hSw); go_simp; (try with_reducible rfl)); (try simp only [Act.put, List.setIfInBounds_toArray, List.set_cons_zero, List.set_cons_succ]))
    refine wpAnyH_ready (rs := [12]) (by kernel_rfl) (by simp) ?_
    refine AllReadyH.cons (o := { dst := some 49, op := Op.call { callee := Callee.value (Operand.func 34), args := #[Operand.tmp 47, Operand.tmp 48], argTypes := #[25, 25] }, type := 4, pos := "law.go:29", after := #[{ on := 10, ground := Ground.data }, { on := 11, ground := Ground.data }, { on := 9, ground := Ground.chain }, { on := 9, ground := Ground.guard }], guard := some (9, false) }) rfl (fun K hK => ?_) AllReadyH.nil
    go_simp
    (go_at_call 34; (with_reducible refine (HS1.out _ (And.left hHeld1).1.li (And.left hHeld1).1.lk).mono ?_); rintro e w5 ⟨rfl, hb⟩; have hk5 := LSb.on8 (And.left hHeld1) hb; clear hb)
    refine hK.out _ _ hk5 (fun hHeld12 => ?_)
    clear hK K hHeld1
    (try simp only [Act.put, List.setIfInBounds_toArray, List.set_cons_zero, List.set_cons_succ])
    refine wpAnyH_ready (rs := [15]) (by kernel_rfl) (by simp) ?_
    refine AllReadyH.cons (o := { dst := some 52, op := Op.call { callee := Callee.value (Operand.func 35), args := #[Operand.tmp 50, Operand.tmp 51], argTypes := #[25, 25] }, type := 4, pos := "law.go:29", after := #[{ on := 13, ground := Ground.data }, { on := 14, ground := Ground.data }, { on := 12, ground := Ground.chain }, { on := 9, ground := Ground.guard }], guard := some (9, false) }) rfl (fun K hK => ?_) AllReadyH.nil
    go_simp
    (go_at_call 35; (with_reducible refine (HS2.out _ (And.left hHeld12).1.li (And.left hHeld12).1.lk).mono ?_); rintro e w6 ⟨rfl, hb⟩; have hk6 := LSb.on8 (And.left hHeld12) hb; clear hb)
    refine hK.out _ _ hk6 (fun hHeld15 => ?_)
    clear hK K hHeld12
    (try simp only [Act.put, List.setIfInBounds_toArray, List.set_cons_zero, List.set_cons_succ])
    (refine heldTake (i := 16) (oi := { dst := some 53, op := Op.binOp BinOp.neq 4 (Operand.tmp 49) (Operand.tmp 52) 4, type := 4, pos := "law.go:29", after := #[{ on := 12, ground := Ground.data }, { on := 15, ground := Ground.data }, { on := 9, ground := Ground.guard }], guard := some (9, false) }) (v := ?_) rfl (by kernel_rfl) (by kernel_rfl) (by kernel_rfl) (by assumption) ?_ ?_; rotate_left; focus (refine .inl ⟨by kernel_rfl, ?_⟩; intro w hSw; (try dsimp only at hSw); go_simp; (try with_reducible rfl)); (try simp only [Act.put, List.setIfInBounds_toArray, List.set_cons_zero, List.set_cons_succ]))
    (refine heldTake (i := 17) (oi := { dst := some 54, op := Op.pick (Operand.tmp 46) (Operand.const (Value.bool true)) (Operand.tmp 53), type := 4, pos := "law.go:29", after := #[{ on := 9, ground := Ground.data }, { on := 16, ground := Ground.data }], guard := none }) (v := ?_) rfl (by kernel_rfl) (by kernel_rfl) (by kernel_rfl) (by assumption) ?_ ?_; rotate_left; focus (refine .inl ⟨by kernel_rfl, ?_⟩; intro w hSw; (try dsimp only at hSw); go_simp; (try with_reducible rfl)); (try simp only [Act.put, List.setIfInBounds_toArray, List.set_cons_zero, List.set_cons_succ]))
    refine wpAnyH_done (by kernel_rfl) ?_ _
    refine NoPanic.normal ?_
    have hLast := hHeld15
    clear hHeld15
    go_wp2
    go_ret
    exact ⟨rfl, (And.left hLast).a.bel⟩
end Go.Proofs.YticgmfeihdankaaDoor
