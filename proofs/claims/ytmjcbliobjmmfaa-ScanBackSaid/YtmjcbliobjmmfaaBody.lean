/- The function within ScanBack. -/
import Derived.Test.YtmjcbliobjmmfaaWake
import Derived.Test.YtmjcbliobjmmfaaCuts
namespace Go.Proofs.Ytmjcbliobjmmfaa
open Go.RowKit
set_option linter.unusedVariables false

theorem cfB (cap : Array Value) (w : World) : (callFunc 12 cap).run Try.prog w = .ok (.enter 12 cap) w := by kernel_rfl

/-- What is written, one behind the other. -/
noncomputable def allL (p r : List UInt8) (a b : Int) (c : Bool) (t : UInt8) (m : Bool) : List UInt8 := encL p r ++ encLim a b c ++ encG t.toNat m
theorem allL_pos (p r : List UInt8) (a b : Int) (c : Bool) (t : UInt8) (m : Bool) : 0 < (allL p r a b c t m).length := by
  unfold allL encL
  simp
/-- The places behind each of the three. -/
theorem allL_reads {p r : List UInt8} {a b : Int} {c : Bool} {t : UInt8} {m : Bool} (hz : funcZ p r = 0) (a0 : 0 ≤ a) (a1 : a ≤ 4294967295) (b0 : 0 ≤ b) (b1 : b ≤ 4294967295) (hc : c = false → b = 0) (ht : valueZ t.toNat = 0) :
    ∃ k1 k2, funcR (allL p r a b c t m) 0 = .ok (p, r) k1 ∧ limR (allL p r a b c t m) k1 = .ok (a, b, c) k2 ∧ globR (allL p r a b c t m) k2 = .ok (t, m) (allL p r a b c t m).length := by
  have h0 : (allL p r a b c t m).drop 0 = encL p r ++ (encLim a b c ++ encG t.toNat m) := by unfold allL; simp
  have d1 := drop_past h0
  have d2 := drop_past d1
  have e : (allL p r a b c t m).length = 0 + (encL p r).length + (encLim a b c).length + 2 := by unfold allL encG; simp; omega
  refine ⟨_, _, funcR_at h0 hz, limR_at d1 a0 a1 b0 b1 hc, ?_⟩
  rw [e]
  exact globR_at (s := []) (by rw [d2]; simp) ht

/-- Two rows of the call's own, both written; what is older stays. -/
theorem below_row {B : Nat} {w w1 w2 : World} {g : Nat} (h : Below B w w1) (hw : B ≤ w.heap.size) (hg : w1.grownBy w2 (some g)) (hb : B ≤ g) : Below B w w2 :=
  Below.grown h hg (by have := h.size; omega) (fun k hk => by injection hk with hk; omega)

set_option maxRecDepth 100000 in
set_option maxHeartbeats 2000000 in
theorem body_any {w : World} {bs bb bf bm bh bst q : Nat} {p r : List UInt8} {a b : Int} {c : Bool} {t : UInt8} {m : Bool} {A : Option Addr} {cap : Nat} {y1 y2 y3 y4 y5 y6 y7 : Value}
    (hz : funcZ p r = 0) (a0 : 0 ≤ a) (a1 : a ≤ 4294967295) (b0 : 0 ≤ b) (b1 : b ≤ 4294967295) (hc : c = false → b = 0) (ht : valueZ t.toNat = 0)
    (hs : Sc w q (9 :: (allL p r a b c t m ++ [7])) 0) (hbs : Whole w bs 36 #[.pointer (some ⟨q, 0, none⟩)]) (hbb : Whole w bb 32 #[.slice A (allL p r a b c t m).length cap])
    (hbf : Whole w bf 23 #[y1, y2]) (hbm : Whole w bm 26 #[y3, y4, y5]) (hbh : Whole w bh 28 #[y6, y7]) (hst : Whole w bst 40 #[.int .i64 0, .int .i64 0])
    (o1 : q < bs) (o2 : bs < bf) (o3 : bf < bm) (o4 : bm < bh) (o5 : bh < bst) (o6 : bb < q) :
    Calls Try.prog 12 #[.pointer (some ⟨bs, 0, none⟩), .pointer (some ⟨bb, 0, none⟩), .pointer (some ⟨bf, 0, none⟩), .pointer (some ⟨bm, 0, none⟩), .pointer (some ⟨bh, 0, none⟩)] w fun e w' =>
      e = .returned (.tuple #[]) ∧ Below q w w' ∧ Sc w' q (9 :: (allL p r a b c t m ++ [7])) (1 + (allL p r a b c t m).length) ∧ Whole w' bs 36 #[.pointer (some ⟨q, 0, none⟩)] ∧
      Whole w' bf 23 #[.string (S p), .string (S r)] ∧ Whole w' bm 26 #[.int .u32 a, .int .u32 b, .bool c] ∧ Whole w' bh 28 #[.int .u8 t.toNat, .bool m] ∧ Whole w' bst 40 #[.int .i64 0, .int .i64 0] := by
  obtain ⟨k1, k2, r1, r2, r3⟩ := allL_reads (m := m) hz a0 a1 b0 b1 hc ht
  have hpos := allL_pos p r a b c t m
  obtain ⟨E, hE⟩ : ∃ E, E = allL p r a b c t m := ⟨_, rfl⟩
  rw [← hE] at r1 r2 r3 hs hbb hpos ⊢
  clear hE hz a0 a1 b0 b1 hc ht
  have hqlt := hs.lt
  have hle := hs.le
  simp only [List.length_cons, List.length_append, List.length_nil] at hle
  have hB := byte_any hs
  have eb : byteR (9 :: (E ++ [7])) 0 = .ok 9 1 := rfl
  rw [eb] at hB
  have HB := Lib.hid hB
  have HSub := Lib.hid (fun W (h : Sc W q (9 :: (E ++ [7])) 1) => sub_ok h E.length (by simp; omega))
  have HF := Lib.hid (fun W q2 (h : Sc W q2 E 0) => by have := funcType_scan h; rw [r1] at this; exact this)
  have HL := Lib.hid (fun W q2 (h : Sc W q2 E k1) => by have := limits_scan h; rw [r2] at this; exact this)
  have HGl := Lib.hid (fun W q2 (h : Sc W q2 E k2) => by have := global_scan h; rw [r3] at this; exact this)
  have HEnd := Lib.hid (fun W q2 (h : Hd W q2 E.length E.length) => end_hd h)
  have HE2 := Lib.hid (show (((9 :: (E ++ [7])).drop 1).take E.length) = E by simp)
  have HBS := Lib.hid hbs
  have HBB := Lib.hid hbb
  have HBF := Lib.hid hbf
  have HBM := Lib.hid hbm
  have HBH := Lib.hid hbh
  have HST := Lib.hid hst
  have bslt := hbs.lt
  have stlt := hst.lt
  have c0 := hbs.cell 0
  simp only [List.getElem?_toArray, List.getElem?_cons_zero] at c0
  clear hs hbs hbb hbf hbm hbh hst hB eb r1 r2 r3
  go_enter Try.func12, Try.ntmps12
  go_wp2_with (first
    | (go_at_call 13; go_must ((with_reducible refine HB.out.mono ?_); rintro e w1 ⟨rfl, hs, hg⟩; have HS1 := Lib.hid hs; have HG1 := Lib.hid hg; have c1 := (HBS.out.grown hg (by simp only [ne_eq, Option.some.injEq]; omega)).cell 0; have c2 := (HBB.out.grown hg (by simp only [ne_eq, Option.some.injEq]; omega)).cell 0; simp only [List.getElem?_toArray, List.getElem?_cons_zero] at c1 c2; clear hs hg))
    | (go_at_call 14; go_must ((with_reducible refine (HSub.out _ HS1.out).mono ?_); intro e w2 h; obtain ⟨q2, rfl, hq2, hs2, hs3, hg⟩ := h; rw [HE2.out] at hs2; have z1 := HG1.out.size; have z2 := hg.size; have HQ2 := Lib.hid hq2; have hq2' : w.heap.size ≤ q2 := (by omega); have HS2 := Lib.hid hs2; have HS3 := Lib.hid hs3; have HG2 := Lib.hid hg; clear hs2 hs3 hg hq2))
    | (go_at_call 15; go_must ((with_reducible refine (HF.out _ _ HS2.out).mono ?_); rintro e w3 ⟨rfl, hs, hg⟩; have z3 := hg.size; have HS4 := Lib.hid hs; have HG3 := Lib.hid hg; clear hs hg))
    | (go_at_call 16; go_must ((with_reducible refine (HL.out _ _ HS4.out).mono ?_); rintro e w4 ⟨rfl, hs, hg⟩; have z4 := hg.size; have HS5 := Lib.hid hs; have HG4 := Lib.hid hg; clear hs hg))
    | (go_at_call 17; go_must ((with_reducible refine (HGl.out _ _ HS5.out).mono ?_); rintro e w5 ⟨rfl, hs, hg⟩; have z5 := hg.size; have HS6 := Lib.hid hs; have HG5 := Lib.hid hg; clear hs hg; have HF5 := Lib.hid (HBF.out.grown (gb_before (gb_before (gb_before (gb_trans HG1.out HG2.out) HG3.out (fun g e => .inr (by injection e with e; omega))) HG4.out (fun g e => .inr (by injection e with e; omega))) HG5.out (fun g e => .inr (by injection e with e; omega))) (by simp only [ne_eq, Option.some.injEq]; omega)); have HM5 := Lib.hid (HBM.out.grown (gb_before (gb_before (gb_before (gb_trans HG1.out HG2.out) HG3.out (fun g e => .inr (by injection e with e; omega))) HG4.out (fun g e => .inr (by injection e with e; omega))) HG5.out (fun g e => .inr (by injection e with e; omega))) (by simp only [ne_eq, Option.some.injEq]; omega)); have HH5 := Lib.hid (HBH.out.grown (gb_before (gb_before (gb_before (gb_trans HG1.out HG2.out) HG3.out (fun g e => .inr (by injection e with e; omega))) HG4.out (fun g e => .inr (by injection e with e; omega))) HG5.out (fun g e => .inr (by injection e with e; omega))) (by simp only [ne_eq, Option.some.injEq]; omega)); have f0 := HF5.out.cell 0; have f1 := HF5.out.cell 1; have m0 := HM5.out.cell 0; have m1 := HM5.out.cell 1; have m2 := HM5.out.cell 2; have h0 := HH5.out.cell 0; have h1 := HH5.out.cell 1; have ff0 := HF5.out.frozen 0; have ff1 := HF5.out.frozen 1; have mf0 := HM5.out.frozen 0; have mf1 := HM5.out.frozen 1; have mf2 := HM5.out.frozen 2; have hf0 := HH5.out.frozen 0; have hf1 := HH5.out.frozen 1; simp only [List.getElem?_toArray, List.getElem?_cons_zero, List.getElem?_cons_succ] at f0 f1 m0 m1 m2 h0 h1; have n1 : ¬ bf = bm := (by omega); have n2 : ¬ bf = bh := (by omega); have n3 : ¬ bm = bh := (by omega); have n4 : ¬ bm = bf := (by omega); have n5 : ¬ bh = bf := (by omega); have n6 : ¬ bh = bm := (by omega)))
    | (go_at_call 18; go_must (
        obtain ⟨w6, hw6⟩ : ∃ w6, w6 = (w5.setCell ⟨bf, 0, none⟩ (.string (S p))).setCell ⟨bf, 1, none⟩ (.string (S r)) := ⟨_, rfl⟩
        rw [← hw6]
        obtain ⟨w7, hw7⟩ : ∃ w7, w7 = ((w6.setCell ⟨bm, 0, none⟩ (.int .u32 a)).setCell ⟨bm, 1, none⟩ (.int .u32 b)).setCell ⟨bm, 2, none⟩ (.bool c) := ⟨_, rfl⟩
        rw [← hw7]
        obtain ⟨w8, hw8⟩ : ∃ w8, w8 = (w7.setCell ⟨bh, 0, none⟩ (.int .u8 t.toNat)).setCell ⟨bh, 1, none⟩ (.bool m) := ⟨_, rfl⟩
        rw [← hw8]
        obtain ⟨F6, G6⟩ := two_put (u := .string (S p)) (v := .string (S r)) HF5.out (Below.refl _ _)
        rw [← hw6] at F6 G6
        obtain ⟨M7, G7⟩ := three_put (u := .int .u32 a) (v := .int .u32 b) (s := .bool c) (HM5.out.grown G6 (by simp only [ne_eq, Option.some.injEq]; omega))
        rw [← hw7] at M7 G7
        obtain ⟨H8, G8⟩ := two_put (u := .int .u8 t.toNat) (v := .bool m) ((HH5.out.grown G6 (by simp only [ne_eq, Option.some.injEq]; omega)).grown G7 (by simp only [ne_eq, Option.some.injEq]; omega)) (Below.refl _ _)
        rw [← hw8] at H8 G8
        have hd : Hd w8 q2 E.length E.length := ((HS6.out.hd.grown G6 (by simp only [ne_eq, Option.some.injEq]; omega)).grown G7 (by simp only [ne_eq, Option.some.injEq]; omega)).grown G8 (by simp only [ne_eq, Option.some.injEq]; omega)
        have hend := HEnd.out _ _ hd
        have K := Lib.hid (And.intro (And.intro F6 G6) (And.intro (And.intro M7 G7) (And.intro H8 G8)))
        clear F6 G6 M7 G7 H8 G8 hd hw6 hw7 hw8 f0 f1 m0 m1 m2 h0 h1 ff0 ff1 mf0 mf1 mf2 hf0 hf1 c1 c2
        (with_reducible refine hend.mono ?_); rintro e w9 ⟨rfl, mm, rfl⟩
        clear hend)))
  go_end0
  obtain ⟨⟨F6, G6⟩, ⟨M7, G7⟩, ⟨H8, G8⟩⟩ := K.out
  have e1 := HG1.out
  have e2 := HG2.out
  have e3 := HG3.out
  have e4 := HG4.out
  have e5 := HG5.out
  have b5 : w.grownBy w5 (some q) := gb_before (gb_before (gb_before (gb_trans e1 e2) e3 (fun g e => .inr (by injection e with e; omega))) e4 (fun g e => .inr (by injection e with e; omega))) e5 (fun g e => .inr (by injection e with e; omega))
  have hbel : Below q w w8 := below_row (below_row (below_row (below_row (Below.refl _ _) (by omega) b5 (Nat.le_refl _)) (by omega) G6 (by omega)) (by omega) G7 (by omega)) (by omega) G8 (by omega)
  have G9 := gb_drewN G8 mm
  refine ⟨rfl, below_drewN hbel _, ?_, ?_, ?_, ?_, H8, ?_⟩
  · exact (((((HS3.out.grown e3 (by simp only [ne_eq, Option.some.injEq]; omega) (fun g e => by injection e with e; omega)).grown e4 (by simp only [ne_eq, Option.some.injEq]; omega) (fun g e => by injection e with e; omega)).grown e5 (by simp only [ne_eq, Option.some.injEq]; omega) (fun g e => by injection e with e; omega)).grown G6 (by simp only [ne_eq, Option.some.injEq]; omega) (fun g e => by injection e with e; omega)).grown G7 (by simp only [ne_eq, Option.some.injEq]; omega) (fun g e => by injection e with e; omega)).grown G9 (by simp only [ne_eq, Option.some.injEq]; omega) (fun g e => by injection e with e; omega)
  · exact (((HBS.out.grown b5 (by simp only [ne_eq, Option.some.injEq]; omega)).grown G6 (by simp only [ne_eq, Option.some.injEq]; omega)).grown G7 (by simp only [ne_eq, Option.some.injEq]; omega)).grown G9 (by simp only [ne_eq, Option.some.injEq]; omega)
  · exact (F6.grown G7 (by simp only [ne_eq, Option.some.injEq]; omega)).grown G9 (by simp only [ne_eq, Option.some.injEq]; omega)
  · exact M7.grown G9 (by simp only [ne_eq, Option.some.injEq]; omega)
  · exact (((HST.out.grown b5 (by simp only [ne_eq, Option.some.injEq]; omega)).grown G6 (by simp only [ne_eq, Option.some.injEq]; omega)).grown G7 (by simp only [ne_eq, Option.some.injEq]; omega)).grown G9 (by simp only [ne_eq, Option.some.injEq]; omega)
end Go.Proofs.Ytmjcbliobjmmfaa

