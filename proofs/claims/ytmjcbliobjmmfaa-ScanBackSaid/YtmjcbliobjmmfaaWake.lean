/- awake: the chapter's example. -/
import Derived.Test.YtmjcbliobjmmfaaValF
import Derived.WalkLawsBesides
namespace Go.Proofs.Ytmjcbliobjmmfaa
open Go.RowKit
set_option linter.unusedVariables false

theorem cfW (cap : Array Value) (w : World) : (callFunc 21 cap).run Try.prog w = .ok (.enter 21 cap) w := by kernel_rfl

set_option maxHeartbeats 400000 in
theorem awake1_any {w : World} {b q : Nat} {l : List UInt8} {k k' : Nat} {x : List UInt8 × List UInt8} (hb : Whole w b 36 #[.pointer (some ⟨q, 0, none⟩)]) (hs : Sc w q l k) (hx : funcR l k = .ok x k') :
    Calls Try.prog 21 #[.pointer (some ⟨b, 0, none⟩)] w fun e w' => e = .returned (encF x) ∧ Sc w' q l k' ∧ w.grownBy w' (some q) := by
  have hF := funcType_scan (hs.alloc (.cells #[.string { data := #[] }, .string { data := #[] }] 23))
  rw [hx] at hF
  have HF := Lib.hid hF
  have hlt := hs.lt
  have c0 := hb.cell 0
  simp only [List.getElem?_toArray, List.getElem?_cons_zero] at c0
  have HWM := Lib.hid (Whole.made w 23 #[.string { data := #[] }, .string { data := #[] }])
  have hbl := hb.lt
  clear hF hs hb hx
  go_enter Try.func21, Try.ntmps21
  go_wp2_with (go_at_call 15; go_must ((with_reducible refine HF.out.mono ?_); rintro e w1 ⟨rfl, hs, hg⟩; have HS := Lib.hid hs; have HG := Lib.hid hg; have HW1 := Lib.hid (HWM.out.grown hg (by simp only [ne_eq, Option.some.injEq]; omega)); have g0 := HW1.out.frozen 0; have g1 := HW1.out.frozen 1; have k0 := HW1.out.cell 0; have k1' := HW1.out.cell 1; simp only [List.getElem?_toArray, List.getElem?_cons_zero, List.getElem?_cons_succ] at k0 k1'; clear hs hg))
  obtain ⟨hW, hG⟩ := two_put (u := .string (S x.1)) (v := .string (S x.2)) HW1.out (Below.refl _ _)
  have q0 := hW.cell 0
  have q1 := hW.cell 1
  simp only [List.getElem?_toArray, List.getElem?_cons_zero, List.getElem?_cons_succ] at q0 q1
  refine bodyPost_ret (v := .agg #[.string (S x.1), .string (S x.2)]) (by simp [results, Try.results21, go_sem, q0, q1]) rfl ⟨rfl, ?_, ?_⟩
  · exact HS.out.grown hG (by simp only [ne_eq, Option.some.injEq]; omega) (fun g e => by injection e with e; omega)
  · exact gb_before (gb_trans (gb_alloc (gb_refl w _) _) HG.out) hG (fun g e => .inr (by injection e with e; omega))

set_option maxHeartbeats 1000000 in
theorem awake_any (w : World) : Calls Try.prog 4 #[] w fun e w' => e = .returned (.bool true) ∧ Below w.heap.size w w' := by
  have hrow := Row.made w [96, 1, 127, 0] w.heap.size w.heap.size rfl (Nat.le_refl _) (by simp)
  obtain ⟨A, c, hA, _, _, hl, _⟩ := lies_own hrow
  injection hA with e1 e2 e3
  subst e1
  have hO := over_ok (cap := 4) hl (by simp) (by simp)
  have HO := Lib.hid (show Calls Try.prog 10 #[.slice (some ⟨w.heap.size, 0, none⟩) 4 4] (w.alloc (.cells #[.int .u8 96, .int .u8 1, .int .u8 127, .int .u8 0] 5)) (Overs [96, 1, 127, 0] (w.alloc (.cells #[.int .u8 96, .int .u8 1, .int .u8 127, .int .u8 0] 5))) from hO)
  clear hO hl hrow e2 e3
  have heq : ∀ w : World, (binOp BinOp.eql 40 (.agg #[.int .i64 0, .int .i64 0]) (.agg #[.int .i64 0, .int .i64 0])).run Try.prog w = .ok (.bool true) w := fun _ => by kernel_rfl
  have heq2 : ∀ w : World, (binOp BinOp.eql 23 (.agg #[.string (S [127]), .string (S [])]) (.agg #[.string { data := #[127] }, .string { data := #[] }])).run Try.prog w = .ok (.bool true) w := fun _ => by kernel_rfl
  have HD : Hid (∀ (W : World) (q : Nat), Sc W q [96, 1, 127, 0] 4 → Calls Try.prog 22 #[.pointer (some ⟨q, 0, none⟩)] W fun e w' => e = .returned (.bool true) ∧ ∃ m, w' = W.drewN m) := fun W q h => done_any h
  go_enter Try.func4, Try.ntmps4
  go_wp2_with (first
    | (go_at_call 10; go_must ((with_reducible refine HO.out.mono ?_); intro e w1 h; obtain ⟨q, rfl, hq, hs, hb⟩ := h; have HS := Lib.hid hs; have HB := Lib.hid hb; have HQ := Lib.hid hq; clear hs hb hq))
    | (go_at_call 20; go_must (
        have hlt := HS.out.lt
        have hV : Calls Try.prog 20 #[.func (.func 21) #[] #[.pointer (some ⟨w1.heap.size, 0, none⟩)]] (w1.alloc (.cells #[.pointer (some ⟨q, 0, none⟩)] 36)) fun e w' => e = .returned (.tuple #[.agg #[.string (S [127]), .string (S [])], .agg #[.int .i64 0, .int .i64 0]]) ∧ Sc w' q [96, 1, 127, 0] 4 ∧ (w1.alloc (.cells #[.pointer (some ⟨q, 0, none⟩)] 36)).grownBy w' (some q) := valueF_ok (x := ([127], [])) (cfW _) (by simp; omega) (fun W hW => awake1_any ((Whole.made w1 _ _).below hW) ((HS.out.alloc _).below hW) eg_read)
        (with_reducible refine hV.mono ?_); rintro e w2 ⟨rfl, hs2, hg2⟩
        have HS2 := Lib.hid hs2
        have HG2 := Lib.hid hg2
        have hw2 := (Whole.made w1 36 #[.pointer (some ⟨q, 0, none⟩)]).grown hg2 (by simp only [ne_eq, Option.some.injEq]; omega)
        have c1 := hw2.cell 0
        simp only [List.getElem?_toArray, List.getElem?_cons_zero] at c1
        have hz := hw2.lt
        clear hV hs2 hg2 hw2))
    | (go_at_call 22; go_must (with_reducible refine (HD.out _ _ ((HS2.out.alloc _).alloc _)).mono ?_; rintro e w3 ⟨rfl, m, rfl⟩)))
  go_ret
  refine ⟨rfl, ?_⟩
  have h1 := HB.out
  have hz1 := h1.size
  have hq := HQ.out
  have hq2 : w.heap.size ≤ q := by simp at hq; omega
  have h2 : w.grownBy w1 none := gb_before (gb_alloc (gb_refl w _) _) (gb_of_below none h1) (fun g e => by cases e)
  have h3 : w.grownBy w2 none := gb_before (gb_alloc h2 _) HG2.out (fun g e => .inr (by injection e with e; omega))
  exact below_of_gb (gb_drewN (gb_alloc (gb_alloc h3 _) _) _)
end Go.Proofs.Ytmjcbliobjmmfaa

