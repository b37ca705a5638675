/- Limits, Global. -/
import Derived.Test.YtmjcbliobjmmfaaFtype
namespace Go.Proofs.Ytmjcbliobjmmfaa
open Go.RowKit
set_option linter.unusedVariables false

/-- Three cells of one block, all written. -/
theorem three_put {w : World} {b : Nat} {t : TypeId} {x y z u v s : Value} (hb : Whole w b t #[x, y, z]) :
    Whole (((w.setCell ⟨b, 0, none⟩ u).setCell ⟨b, 1, none⟩ v).setCell ⟨b, 2, none⟩ s) b t #[u, v, s] ∧ w.grownBy (((w.setCell ⟨b, 0, none⟩ u).setCell ⟨b, 1, none⟩ v).setCell ⟨b, 2, none⟩ s) (some b) :=
  ⟨((hb.put 0 u).put 1 v).put 2 s, gb_put (p := ⟨b, 2, none⟩) (gb_put (p := ⟨b, 1, none⟩) (gb_put (p := ⟨b, 0, none⟩) (gb_refl w _) (.inl rfl) u) (.inl rfl) v) (.inl rfl) s⟩
abbrev encT (x : Int × Int × Bool) : Value := .agg #[.int .u32 x.1, .int .u32 x.2.1, .bool x.2.2]
/-- Limits. -/
noncomputable def limR (l : List UInt8) (k : Nat) : Res (Int × Int × Bool) :=
  (flagR l k).bind fun b k1 => (indexR l k1).bind fun mn k2 => if b then (indexR l k2).bind fun mx k3 => .ok (mn, mx, true) k3 else .ok (mn, 0, false) k2

set_option maxHeartbeats 1000000 in
theorem limits_scan {w : World} {p : Nat} {l : List UInt8} {k : Nat} (h : Sc w p l k) :
    Calls Try.prog 16 #[.pointer (some ⟨p, 0, none⟩)] w (Did encT p l w (limR l k)) := by
  have hlt := h.lt
  have hT := flag_scan (h.alloc (.cells #[.int .u32 0, .int .u32 0, .bool false] 26))
  have HWM := Lib.hid (Whole.made w 26 #[.int .u32 0, .int .u32 0, .bool false])
  unfold limR
  cases h1 : flagR l k with
  | err c a =>
    rw [h1] at hT
    rw [Res.bind_err]
    have HT := Lib.hid hT
    clear hT h1 h
    go_enter Try.func16, Try.ntmps16
    go_wp2_with (go_at_call 34; go_must ((with_reducible refine HT.out.mono ?_); rintro e w1 ⟨rfl, hg⟩; have HG := Lib.hid hg; clear hg))
    exact ⟨rfl, rfl, gb_trans (gb_alloc (gb_refl w _) _) HG.out⟩
  | ok b k1 =>
    rw [h1] at hT
    rw [Res.bind_ok]
    have HT := Lib.hid hT
    clear hT h1 h
    have V1 := Lib.hid (fun W (hs : Sc W p l k1) => index_scan hs)
    cases h2 : indexR l k1 with
    | err c a =>
      rw [h2] at V1
      rw [Res.bind_err]
      clear h2
      go_enter Try.func16, Try.ntmps16
      go_wp2_with (first
        | (go_at_call 34; go_must ((with_reducible refine HT.out.mono ?_); rintro e w1 ⟨rfl, hs, hg⟩; have HS := Lib.hid hs; have HG := Lib.hid hg; clear hs hg))
        | (go_at_call 35; go_must ((with_reducible refine (V1.out _ HS.out).mono ?_); rintro e w2 ⟨rfl, hg⟩; have HG2 := Lib.hid hg; clear hg)))
      exact ⟨rfl, rfl, gb_trans (gb_trans (gb_alloc (gb_refl w _) _) HG.out) HG2.out⟩
    | ok mn k2 =>
      rw [h2] at V1
      rw [Res.bind_ok]
      clear h2
      cases b with
      | false =>
        rw [if_neg (by simp)]
        go_enter Try.func16, Try.ntmps16
        go_wp2_with (first
          | (go_at_call 34; go_must ((with_reducible refine HT.out.mono ?_); rintro e w1 ⟨rfl, hs, hg⟩; have HS := Lib.hid hs; have HG := Lib.hid hg; have HW1 := Lib.hid (HWM.out.grown hg (by simp only [ne_eq, Option.some.injEq]; omega)); clear hs hg))
          | (go_at_call 35; go_must ((with_reducible refine (V1.out _ HS.out).mono ?_); rintro e w2 ⟨rfl, hs, hg⟩; have HS2 := Lib.hid hs; have HG2 := Lib.hid hg; have hz2 := HG2.out.size; have hz1 := HG.out.size; simp only [World.size_alloc] at hz1; have HW2 := Lib.hid ((HW1.out.grown hg (by simp only [ne_eq, Option.some.injEq]; omega)).alloc (.cells #[.int .u32 mn, .int .u32 0, .bool false] 26)); have g0 := HW2.out.frozen 0; have g1 := HW2.out.frozen 1; have g2 := HW2.out.frozen 2; have k0 := HW2.out.cell 0; have k1' := HW2.out.cell 1; have k2' := HW2.out.cell 2; simp only [List.getElem?_toArray, List.getElem?_cons_zero, List.getElem?_cons_succ] at k0 k1' k2'; clear hs hg)))
        obtain ⟨hW, hG⟩ := three_put (u := .int .u32 mn) (v := .int .u32 0) (s := .bool false) HW2.out
        have q0 := hW.cell 0
        have q1 := hW.cell 1
        have q2 := hW.cell 2
        simp only [List.getElem?_toArray, List.getElem?_cons_zero, List.getElem?_cons_succ] at q0 q1 q2
        have hall := gb_alloc (gb_trans (gb_trans (gb_alloc (gb_refl w _) _) HG.out) HG2.out) (.cells #[.int .u32 mn, .int .u32 0, .bool false] 26)
        refine bodyPost_ret (v := .agg #[.int .u32 mn, .int .u32 0, .bool false]) (by simp [results, Try.results16, go_sem, q0, q1, q2]) rfl ⟨rfl, ?_, ?_⟩
        · exact (HS2.out.alloc _).grown hG (by simp only [ne_eq, Option.some.injEq]; omega) (fun g e => by injection e with e; omega)
        · exact gb_put (p := ⟨w.heap.size, 2, none⟩) (gb_put (p := ⟨w.heap.size, 1, none⟩) (gb_put (p := ⟨w.heap.size, 0, none⟩) hall (.inr (Nat.le_refl _)) _) (.inr (Nat.le_refl _)) _) (.inr (Nat.le_refl _)) _
      | true =>
        rw [if_pos rfl]
        have V2 := Lib.hid (fun W (hs : Sc W p l k2) => index_scan hs)
        cases h3 : indexR l k2 with
        | err c x =>
          rw [h3] at V2
          rw [Res.bind_err]
          clear h3
          go_enter Try.func16, Try.ntmps16
          go_wp2_with (first
            | (go_at_call 34; go_must ((with_reducible refine HT.out.mono ?_); rintro e w1 ⟨rfl, hs, hg⟩; have HS := Lib.hid hs; have HG := Lib.hid hg; clear hs hg))
            | (have tok := HS2; go_at_call 35; go_must ((with_reducible refine (V2.out _ (HS2.out.alloc _)).mono ?_); rintro e w3 ⟨rfl, hg⟩; have HG3 := Lib.hid hg; clear hg))
            | (go_at_call 35; go_must ((with_reducible refine (V1.out _ HS.out).mono ?_); rintro e w2 ⟨rfl, hs, hg⟩; have HS2 := Lib.hid hs; have HG2 := Lib.hid hg; clear hs hg)))
          exact ⟨rfl, rfl, gb_trans (gb_alloc (gb_trans (gb_trans (gb_alloc (gb_refl w _) _) HG.out) HG2.out) _) HG3.out⟩
        | ok mx k3 =>
          rw [h3] at V2
          rw [Res.bind_ok]
          clear h3
          go_enter Try.func16, Try.ntmps16
          go_wp2_with (first
            | (go_at_call 34; go_must ((with_reducible refine HT.out.mono ?_); rintro e w1 ⟨rfl, hs, hg⟩; have HS := Lib.hid hs; have HG := Lib.hid hg; have HW1 := Lib.hid (HWM.out.grown hg (by simp only [ne_eq, Option.some.injEq]; omega)); clear hs hg))
            | (have tok := HS2; go_at_call 35; go_must ((with_reducible refine (V2.out _ (HS2.out.alloc _)).mono ?_); rintro e w3 ⟨rfl, hs, hg⟩; have HS3 := Lib.hid hs; have HG3 := Lib.hid hg; have hz3 := HG3.out.size; simp only [World.size_alloc] at hz3; have HW3 := Lib.hid (HW2.out.grown hg (by simp only [ne_eq, Option.some.injEq]; omega)); have HX3 := Lib.hid ((Whole.made w2 26 #[.int .u32 mn, .int .u32 0, .bool true]).grown hg (by simp only [ne_eq, Option.some.injEq]; omega)); have f1 := HX3.out.frozen 1; have c0 := HX3.out.cell 0; have c1 := HX3.out.cell 1; have c2 := HX3.out.cell 2; have g0 := HW3.out.frozen 0; have g1 := HW3.out.frozen 1; have g2 := HW3.out.frozen 2; have k0 := HW3.out.cell 0; have k1' := HW3.out.cell 1; have k2' := HW3.out.cell 2; simp only [List.getElem?_toArray, List.getElem?_cons_zero, List.getElem?_cons_succ] at c0 c1 c2 k0 k1' k2'; have hne : ¬ w2.heap.size = w.heap.size := (by omega); have hne2 : ¬ w.heap.size = w2.heap.size := (by omega); clear hs hg))
            | (go_at_call 35; go_must ((with_reducible refine (V1.out _ HS.out).mono ?_); rintro e w2 ⟨rfl, hs, hg⟩; have HS2 := Lib.hid hs; have HG2 := Lib.hid hg; have hz2 := HG2.out.size; have hz1 := HG.out.size; simp only [World.size_alloc] at hz1; have HW2 := Lib.hid ((HW1.out.grown hg (by simp only [ne_eq, Option.some.injEq]; omega)).alloc (.cells #[.int .u32 mn, .int .u32 0, .bool true] 26)); clear hs hg)))
          have hg4 : w3.grownBy (w3.setCell ⟨w2.heap.size, 1, none⟩ (.int .u32 mx)) (some w2.heap.size) := gb_put (p := ⟨w2.heap.size, 1, none⟩) (gb_refl w3 _) (.inl rfl) _
          have HW4 := HW3.out.grown hg4 (by simp only [ne_eq, Option.some.injEq]; omega)
          have HS4 := HS3.out.grown hg4 (by simp only [ne_eq, Option.some.injEq]; omega) (fun g e => by injection e with e; omega)
          have hall := gb_put (p := ⟨w2.heap.size, 1, none⟩) (gb_trans (gb_alloc (gb_trans (gb_trans (gb_alloc (gb_refl w _) _) HG.out) HG2.out) (.cells #[.int .u32 mn, .int .u32 0, .bool true] 26)) HG3.out) (.inr (show w.heap.size ≤ w2.heap.size by omega)) (.int .u32 mx)
          generalize w3.setCell ⟨w2.heap.size, 1, none⟩ (.int .u32 mx) = W at *
          obtain ⟨hW, hG⟩ := three_put (u := .int .u32 mn) (v := .int .u32 mx) (s := .bool true) HW4
          have q0 := hW.cell 0
          have q1 := hW.cell 1
          have q2 := hW.cell 2
          simp only [List.getElem?_toArray, List.getElem?_cons_zero, List.getElem?_cons_succ] at q0 q1 q2
          refine bodyPost_ret (v := .agg #[.int .u32 mn, .int .u32 mx, .bool true]) (by simp [results, Try.results16, go_sem, q0, q1, q2]) rfl ⟨rfl, ?_, ?_⟩
          · exact HS4.grown hG (by simp only [ne_eq, Option.some.injEq]; omega) (fun g e => by injection e with e; omega)
          · exact gb_put (p := ⟨w.heap.size, 2, none⟩) (gb_put (p := ⟨w.heap.size, 1, none⟩) (gb_put (p := ⟨w.heap.size, 0, none⟩) hall (.inr (Nat.le_refl _)) _) (.inr (Nat.le_refl _)) _) (.inr (Nat.le_refl _)) _

abbrev encGl (x : UInt8 × Bool) : Value := .agg #[.int .u8 x.1.toNat, .bool x.2]
/-- A global's type. -/
def globR (l : List UInt8) (k : Nat) : Res (UInt8 × Bool) := (valR l k).bind fun t k1 => (flagR l k1).bind fun m k2 => .ok (t, m) k2
set_option maxHeartbeats 1000000 in
theorem global_scan {w : World} {p : Nat} {l : List UInt8} {k : Nat} (h : Sc w p l k) :
    Calls Try.prog 17 #[.pointer (some ⟨p, 0, none⟩)] w (Did encGl p l w (globR l k)) := by
  have hlt := h.lt
  have hT := val_scan (h.alloc (.cells #[.int .u8 0, .bool false] 28))
  have HWM := Lib.hid (Whole.made w 28 #[.int .u8 0, .bool false])
  unfold globR
  cases h1 : valR l k with
  | err c a =>
    rw [h1] at hT
    rw [Res.bind_err]
    have HT := Lib.hid hT
    clear hT h1 h
    go_enter Try.func17, Try.ntmps17
    go_wp2_with (go_at_call 36; go_must ((with_reducible refine HT.out.mono ?_); rintro e w1 ⟨rfl, hg⟩; have HG := Lib.hid hg; clear hg))
    exact ⟨rfl, rfl, gb_trans (gb_alloc (gb_refl w _) _) HG.out⟩
  | ok t k1 =>
    rw [h1] at hT
    rw [Res.bind_ok]
    have HT := Lib.hid hT
    clear hT h1 h
    have V1 := Lib.hid (fun W (hs : Sc W p l k1) => flag_scan hs)
    cases h2 : flagR l k1 with
    | err c a =>
      rw [h2] at V1
      rw [Res.bind_err]
      clear h2
      go_enter Try.func17, Try.ntmps17
      go_wp2_with (first
        | (go_at_call 36; go_must ((with_reducible refine HT.out.mono ?_); rintro e w1 ⟨rfl, hs, hg⟩; have HS := Lib.hid hs; have HG := Lib.hid hg; clear hs hg))
        | (go_at_call 34; go_must ((with_reducible refine (V1.out _ HS.out).mono ?_); rintro e w2 ⟨rfl, hg⟩; have HG2 := Lib.hid hg; clear hg)))
      exact ⟨rfl, rfl, gb_trans (gb_trans (gb_alloc (gb_refl w _) _) HG.out) HG2.out⟩
    | ok m k2 =>
      rw [h2] at V1
      rw [Res.bind_ok]
      clear h2
      go_enter Try.func17, Try.ntmps17
      go_wp2_with (first
        | (go_at_call 36; go_must ((with_reducible refine HT.out.mono ?_); rintro e w1 ⟨rfl, hs, hg⟩; have HS := Lib.hid hs; have HG := Lib.hid hg; have HW1 := Lib.hid (HWM.out.grown hg (by simp only [ne_eq, Option.some.injEq]; omega)); clear hs hg))
        | (go_at_call 34; go_must ((with_reducible refine (V1.out _ HS.out).mono ?_); rintro e w2 ⟨rfl, hs, hg⟩; have HS2 := Lib.hid hs; have HG2 := Lib.hid hg; have HW2 := Lib.hid (HW1.out.grown hg (by simp only [ne_eq, Option.some.injEq]; omega)); have g0 := HW2.out.frozen 0; have g1 := HW2.out.frozen 1; have k0 := HW2.out.cell 0; have k1' := HW2.out.cell 1; simp only [List.getElem?_toArray, List.getElem?_cons_zero, List.getElem?_cons_succ] at k0 k1'; clear hs hg)))
      obtain ⟨hW, hG⟩ := two_put (u := .int .u8 t.toNat) (v := .bool m) HW2.out (Below.refl _ _)
      have q0 := hW.cell 0
      have q1 := hW.cell 1
      simp only [List.getElem?_toArray, List.getElem?_cons_zero, List.getElem?_cons_succ] at q0 q1
      have hall := gb_trans (gb_trans (gb_alloc (gb_refl w _) _) HG.out) HG2.out
      refine bodyPost_ret (v := .agg #[.int .u8 t.toNat, .bool m]) (by simp [results, Try.results17, go_sem, q0, q1]) rfl ⟨rfl, ?_, ?_⟩
      · exact HS2.out.grown hG (by simp only [ne_eq, Option.some.injEq]; omega) (fun g e => by injection e with e; omega)
      · exact gb_put (p := ⟨w.heap.size, 1, none⟩) (gb_put (p := ⟨w.heap.size, 0, none⟩) hall (.inr (Nat.le_refl _)) _) (.inr (Nat.le_refl _)) _
end Go.Proofs.Ytmjcbliobjmmfaa

