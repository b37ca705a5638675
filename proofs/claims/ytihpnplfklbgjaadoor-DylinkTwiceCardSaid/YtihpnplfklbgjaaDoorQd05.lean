/- valTypes. -/
import Derived.Test.YtihpnplfklbgjaaDoorQd04
import Derived.Laws.MakeOwn
import Derived.Laws.AppendOwnNone
import Derived.Test.YtihpnplfklbgjaaDoorQd01
import Derived.Lib.AppendZerosOnto
import Derived.Lib.AppendZeros
import Derived.Deep.DeepAppendWide
import Derived.LoopTactic
import Derived.Test.YtihpnplfklbgjaaDoorQd02
import Derived.Shelf.Unicode.WordAny
import Derived.Lib.ValidAsc
import Derived.Laws.BitsAllLaws
import Derived.Deep.QuietTactic
import Derived.BigQuiet
namespace Go.Proofs.YtihpnplfklbgjaaDoor
set_option maxRecDepth 100000
open Go.RowKit
set_option linter.unusedVariables false

abbrev encS (t : List UInt8) : Value := .string (S t)
/-- n more types, behind those that were read. -/
def valsK (l : List UInt8) : Nat → Nat → List UInt8 → Res (List UInt8)
  | 0, k, acc => .ok acc k
  | n + 1, k, acc => (valR l k).bind fun c k' => valsK l n k' (acc ++ [c])
/-- How many types there are, and these. -/
noncomputable def valsR (l : List UInt8) (k : Nat) : Res (List UInt8) := (countR l k).bind fun n k' => valsK l n.toNat k' []
theorem valsK_more {l : List UInt8} {n i k : Nat} {acc : List UInt8} (h : i < n) : valsK l (n - i) k acc = (valR l k).bind fun c k' => valsK l (n - (i + 1)) k' (acc ++ [c]) := by
  rw [show n - i = n - (i + 1) + 1 by omega]
  rfl
theorem countR_ok {l : List UInt8} {k : Nat} {v : Int} {k' : Nat} (h : countR l k = .ok v k') : 0 ≤ v ∧ v ≤ 10000 := by
  unfold countR atMostR at h
  cases hr : indexR l k with
  | ok u q =>
    rw [hr, Res.bind_ok] at h
    have hb := uintR_ok (show uintR l k 32 = .ok u q from hr)
    by_cases hm : u ≤ 10000
    · rw [if_pos hm] at h; injection h with h1 h2; omega
    · rw [if_neg hm] at h; cases h
  | err c a => rw [hr, Res.bind_err] at h; cases h

/-- Cells that are made, of one kind. -/
theorem made_one (v : Value) (n : Nat) : madeCells #[v] n = Array.replicate n v := by
  apply Array.ext
  · simp [madeCells]
  · intro i h1 h2
    simp [madeCells, Nat.mod_one]
theorem make_bytes (n : Nat) (hn : n ≤ 100000) (w : World) : (Instr.makeSlice 29 (.int .i64 (n : Int)) (.int .i64 (n : Int))).run Tryd.prog w = .ok (.slice (some ⟨w.heap.size, 0, none⟩) n n) (w.alloc (.cells (List.replicate n (.int .u8 0)).toArray 5)) := by
  obtain ⟨i0, hi0, hz0, hz1, hz2⟩ := info_parts infoB
  have hr := run_make (P := Tryd.prog) w 29 5 i0 _ Tryd.underlying29 hi0 hz0 .i64 .i64 (n : Int) (n : Int) (by omega) (Int.le_refl _) (by rw [hz2]; omega) (by omega)
  rw [hr, hz1]
  have e : (Value.int IntKind.u8 0).cells = #[.int .u8 0] := rfl
  rw [e, made_one]
  simp
/-- A block of n bytes, of which the first are written. -/
def Part (w : World) (g n : Nat) (acc : List UInt8) : Prop := Whole w g 5 (cells (nums acc) ++ List.replicate (n - acc.length) (Value.int .u8 0)).toArray ∧ acc.length ≤ n
theorem Part.start (w : World) (n : Nat) : Part (w.alloc (.cells (List.replicate n (.int .u8 0)).toArray 5)) w.heap.size n [] := ⟨Whole.made _ _ _, Nat.zero_le _⟩
theorem Part.put {w : World} {g n : Nat} {acc : List UInt8} (h : Part w g n acc) (c : UInt8) (hlt : acc.length < n) : Part (w.setCell ⟨g, acc.length, none⟩ (.int .u8 c.toNat)) g n (acc ++ [c]) := by
  refine ⟨?_, by simp; omega⟩
  have h1 := h.1.put acc.length (.int .u8 c.toNat)
  have e : ((cells (nums acc) ++ List.replicate (n - acc.length) (Value.int .u8 0)).toArray.setIfInBounds acc.length (.int .u8 c.toNat)) = (cells (nums (acc ++ [c])) ++ List.replicate (n - (acc ++ [c]).length) (Value.int .u8 0)).toArray := by
    have hl : (cells (nums acc)).length = acc.length := by rw [cells_length, nums_length]
    have hr : List.replicate (n - acc.length) (Value.int .u8 0) = .int .u8 0 :: List.replicate (n - (acc.length + 1)) (.int .u8 0) := by
      rw [show n - acc.length = n - (acc.length + 1) + 1 by omega]; rfl
    rw [hr, List.setIfInBounds_toArray, List.set_append_right _ _ (by omega), hl, Nat.sub_self, List.set_cons_zero, nums_append]
    simp [cells, nums]
  rw [e] at h1
  exact h1
theorem Part.row {w : World} {g n : Nat} {acc : List UInt8} (h : Part w g n acc) (hn : acc.length = n) (base : Nat) (hb : base ≤ g) (hm : n ≤ 100000) : Row w base (.slice (some ⟨g, 0, none⟩) n n) acc := by
  subst hn
  have h1 := h.1
  rw [Nat.sub_self, List.replicate_zero, List.append_nil] at h1
  have hl : (cells (nums acc)).length = acc.length := by rw [cells_length, nums_length]
  exact ⟨by omega, .inr ⟨g, acc.length, (cells (nums acc)).toArray, rfl, hb, h1, Nat.le_refl _, by unfold maxLen; omega, by simp [hl], by rw [List.take_of_length_le (by simp [hl])]⟩⟩
theorem Part.cell {w : World} {g n : Nat} {acc : List UInt8} (h : Part w g n acc) (hlt : acc.length < n) : ∃ u, w.cell? ⟨g, acc.length, none⟩ = some u := by
  have hl : (cells (nums acc)).length = acc.length := by rw [cells_length, nums_length]
  exact ⟨_, (h.1.cell acc.length).trans (Array.getElem?_eq_getElem (by simp [hl]; omega))⟩
end Go.Proofs.YtihpnplfklbgjaaDoor

/- FuncType. -/
namespace Go.Proofs.YtihpnplfklbgjaaDoor
set_option maxRecDepth 100000
open Go.RowKit
set_option linter.unusedVariables false

abbrev encF (x : List UInt8 × List UInt8) : Value := .agg #[.string (S x.1), .string (S x.2)]
/-- A function's type. -/
noncomputable def funcR (l : List UInt8) (k : Nat) : Res (List UInt8 × List UInt8) :=
  (tagR l k 96).bind fun _ k1 => (valsR l k1).bind fun a k2 => (valsR l k2).bind fun b k3 => if funcZ a b = 0 then .ok (a, b) k3 else .err (funcZ a b) k
theorem valsK_len {l : List UInt8} : ∀ (n k : Nat) (acc a : List UInt8) (q : Nat), valsK l n k acc = .ok a q → a.length = acc.length + n
  | 0, k, acc, a, q, h => by injection h with h1 h2; rw [← h1]; rfl
  | n + 1, k, acc, a, q, h => by
    unfold valsK at h
    cases hc : valR l k with
    | ok c q2 =>
      rw [hc, Res.bind_ok] at h
      have := valsK_len n q2 (acc ++ [c]) a q h
      simp at this; omega
    | err c x => rw [hc, Res.bind_err] at h; cases h
theorem valsR_len {l : List UInt8} {k : Nat} {a : List UInt8} {q : Nat} (h : valsR l k = .ok a q) : a.length ≤ 10000 := by
  unfold valsR at h
  cases hc : countR l k with
  | ok v q2 =>
    rw [hc, Res.bind_ok] at h
    have := countR_ok hc
    have := valsK_len _ _ _ _ _ h
    simp at this; omega
  | err c x => rw [hc, Res.bind_err] at h; cases h

end Go.Proofs.YtihpnplfklbgjaaDoor

/- Limits, Global. -/
namespace Go.Proofs.YtihpnplfklbgjaaDoor
set_option maxRecDepth 100000
open Go.RowKit
set_option linter.unusedVariables false

/-- Three cells of one block, all written. -/
theorem three_put {w : World} {b : Nat} {t : TypeId} {x y z u v s : Value} (hb : Whole w b t #[x, y, z]) :
    Whole (((w.setCell ⟨b, 0, none⟩ u).setCell ⟨b, 1, none⟩ v).setCell ⟨b, 2, none⟩ s) b t #[u, v, s] ∧ w.grownBy (((w.setCell ⟨b, 0, none⟩ u).setCell ⟨b, 1, none⟩ v).setCell ⟨b, 2, none⟩ s) (some b) :=
  ⟨((hb.put 0 u).put 1 v).put 2 s, gb_put (p := ⟨b, 2, none⟩) (gb_put (p := ⟨b, 1, none⟩) (gb_put (p := ⟨b, 0, none⟩) (gb_refl w _) (.inl rfl) u) (.inl rfl) v) (.inl rfl) s⟩
abbrev encT (x : Int × Int × Bool) : Value := .agg #[.int .u32 x.1, .int .u32 x.2.1, .bool x.2.2]
/-- Limits. -/
noncomputable def limR (l : List UInt8) (k : Nat) : Res (Int × Int × Bool) :=
  (flagR l k).bind fun b k1 => (indexR l k1).bind fun mn k2 => if b then (indexR l k2).bind fun mx k3 => .ok (mn, mx, true) k3 else .ok (mn, 0, false) k2

set_option maxHeartbeats 1000000 in
theorem limits_scan {w : World} {p : Nat} {l : List UInt8} {k : Nat} (h : Sc w p l k) :
    Calls Tryd.prog 97 #[.pointer (some ⟨p, 0, none⟩)] w (Did encT p l w (limR l k)) := by
  have hlt := h.lt
  have hT := flag_scan (h.alloc (.cells #[.int .u32 0, .int .u32 0, .bool false] 48))
  have HWM := Lib.hid (Whole.made w 48 #[.int .u32 0, .int .u32 0, .bool false])
  unfold limR
  cases h1 : flagR l k with
  | err c a =>
    rw [h1] at hT
    rw [Res.bind_err]
    have HT := Lib.hid hT
    clear hT h1 h
    go_enter Tryd.func97, Tryd.ntmps97
    go_wp2_with (go_at_call 121; go_must ((with_reducible refine HT.out.mono ?_); rintro e w1 ⟨rfl, hg⟩; have HG := Lib.hid hg; clear hg))
    exact ⟨rfl, rfl, gb_trans (gb_alloc (gb_refl w _) _) HG.out⟩
  | ok b k1 =>
    rw [h1] at hT
    rw [Res.bind_ok]
    have HT := Lib.hid hT
    clear hT h1 h
    have V1 := Lib.hid (fun W (hs : Sc W p l k1) => index_scan hs)
    cases h2 : indexR l k1 with
    | err c a =>
      rw [h2] at V1
      rw [Res.bind_err]
      clear h2
      go_enter Tryd.func97, Tryd.ntmps97
      go_wp2_with (first
        | (go_at_call 121; go_must ((with_reducible refine HT.out.mono ?_); rintro e w1 ⟨rfl, hs, hg⟩; have HS := Lib.hid hs; have HG := Lib.hid hg; clear hs hg))
        | (go_at_call 52; go_must ((with_reducible refine (V1.out _ HS.out).mono ?_); rintro e w2 ⟨rfl, hg⟩; have HG2 := Lib.hid hg; clear hg)))
      exact ⟨rfl, rfl, gb_trans (gb_trans (gb_alloc (gb_refl w _) _) HG.out) HG2.out⟩
    | ok mn k2 =>
      rw [h2] at V1
      rw [Res.bind_ok]
      clear h2
      cases b with
      | false =>
        rw [if_neg (by simp)]
        go_enter Tryd.func97, Tryd.ntmps97
        go_wp2_with (first
          | (go_at_call 121; go_must ((with_reducible refine HT.out.mono ?_); rintro e w1 ⟨rfl, hs, hg⟩; have HS := Lib.hid hs; have HG := Lib.hid hg; have HW1 := Lib.hid (HWM.out.grown hg (by simp only [ne_eq, Option.some.injEq]; omega)); clear hs hg))
          | (go_at_call 52; go_must ((with_reducible refine (V1.out _ HS.out).mono ?_); rintro e w2 ⟨rfl, hs, hg⟩; have HS2 := Lib.hid hs; have HG2 := Lib.hid hg; have hz2 := HG2.out.size; have hz1 := HG.out.size; simp only [World.size_alloc] at hz1; have HW2 := Lib.hid ((HW1.out.grown hg (by simp only [ne_eq, Option.some.injEq]; omega)).alloc (.cells #[.int .u32 mn, .int .u32 0, .bool false] 48)); have g0 := HW2.out.frozen 0; have g1 := HW2.out.frozen 1; have g2 := HW2.out.frozen 2; have k0 := HW2.out.cell 0; have k1' := HW2.out.cell 1; have k2' := HW2.out.cell 2; simp only [List.getElem?_toArray, List.getElem?_cons_zero, List.getElem?_cons_succ] at k0 k1' k2'; clear hs hg)))
        obtain ⟨hW, hG⟩ := three_put (u := .int .u32 mn) (v := .int .u32 0) (s := .bool false) HW2.out
        have q0 := hW.cell 0
        have q1 := hW.cell 1
        have q2 := hW.cell 2
        simp only [List.getElem?_toArray, List.getElem?_cons_zero, List.getElem?_cons_succ] at q0 q1 q2
        have hall := gb_alloc (gb_trans (gb_trans (gb_alloc (gb_refl w _) _) HG.out) HG2.out) (.cells #[.int .u32 mn, .int .u32 0, .bool false] 48)
        refine bodyPost_ret (v := .agg #[.int .u32 mn, .int .u32 0, .bool false]) (by simp [results, Tryd.results97, go_sem, q0, q1, q2]) rfl ⟨rfl, ?_, ?_⟩
        · exact (HS2.out.alloc _).grown hG (by simp only [ne_eq, Option.some.injEq]; omega) (fun g e => by injection e with e; omega)
        · exact gb_put (p := ⟨w.heap.size, 2, none⟩) (gb_put (p := ⟨w.heap.size, 1, none⟩) (gb_put (p := ⟨w.heap.size, 0, none⟩) hall (.inr (Nat.le_refl _)) _) (.inr (Nat.le_refl _)) _) (.inr (Nat.le_refl _)) _
      | true =>
        rw [if_pos rfl]
        have V2 := Lib.hid (fun W (hs : Sc W p l k2) => index_scan hs)
        cases h3 : indexR l k2 with
        | err c x =>
          rw [h3] at V2
          rw [Res.bind_err]
          clear h3
          go_enter Tryd.func97, Tryd.ntmps97
          go_wp2_with (first
            | (go_at_call 121; go_must ((with_reducible refine HT.out.mono ?_); rintro e w1 ⟨rfl, hs, hg⟩; have HS := Lib.hid hs; have HG := Lib.hid hg; clear hs hg))
            | (have tok := HS2; go_at_call 52; go_must ((with_reducible refine (V2.out _ (HS2.out.alloc _)).mono ?_); rintro e w3 ⟨rfl, hg⟩; have HG3 := Lib.hid hg; clear hg))
            | (go_at_call 52; go_must ((with_reducible refine (V1.out _ HS.out).mono ?_); rintro e w2 ⟨rfl, hs, hg⟩; have HS2 := Lib.hid hs; have HG2 := Lib.hid hg; clear hs hg)))
          exact ⟨rfl, rfl, gb_trans (gb_alloc (gb_trans (gb_trans (gb_alloc (gb_refl w _) _) HG.out) HG2.out) _) HG3.out⟩
        | ok mx k3 =>
          rw [h3] at V2
          rw [Res.bind_ok]
          clear h3
          go_enter Tryd.func97, Tryd.ntmps97
          go_wp2_with (first
            | (go_at_call 121; go_must ((with_reducible refine HT.out.mono ?_); rintro e w1 ⟨rfl, hs, hg⟩; have HS := Lib.hid hs; have HG := Lib.hid hg; have HW1 := Lib.hid (HWM.out.grown hg (by simp only [ne_eq, Option.some.injEq]; omega)); clear hs hg))
            | (have tok := HS2; go_at_call 52; go_must ((with_reducible refine (V2.out _ (HS2.out.alloc _)).mono ?_); rintro e w3 ⟨rfl, hs, hg⟩; have HS3 := Lib.hid hs; have HG3 := Lib.hid hg; have hz3 := HG3.out.size; simp only [World.size_alloc] at hz3; have HW3 := Lib.hid (HW2.out.grown hg (by simp only [ne_eq, Option.some.injEq]; omega)); have HX3 := Lib.hid ((Whole.made w2 48 #[.int .u32 mn, .int .u32 0, .bool true]).grown hg (by simp only [ne_eq, Option.some.injEq]; omega)); have f1 := HX3.out.frozen 1; have c0 := HX3.out.cell 0; have c1 := HX3.out.cell 1; have c2 := HX3.out.cell 2; have g0 := HW3.out.frozen 0; have g1 := HW3.out.frozen 1; have g2 := HW3.out.frozen 2; have k0 := HW3.out.cell 0; have k1' := HW3.out.cell 1; have k2' := HW3.out.cell 2; simp only [List.getElem?_toArray, List.getElem?_cons_zero, List.getElem?_cons_succ] at c0 c1 c2 k0 k1' k2'; have hne : ¬ w2.heap.size = w.heap.size := (by omega); have hne2 : ¬ w.heap.size = w2.heap.size := (by omega); clear hs hg))
            | (go_at_call 52; go_must ((with_reducible refine (V1.out _ HS.out).mono ?_); rintro e w2 ⟨rfl, hs, hg⟩; have HS2 := Lib.hid hs; have HG2 := Lib.hid hg; have hz2 := HG2.out.size; have hz1 := HG.out.size; simp only [World.size_alloc] at hz1; have HW2 := Lib.hid ((HW1.out.grown hg (by simp only [ne_eq, Option.some.injEq]; omega)).alloc (.cells #[.int .u32 mn, .int .u32 0, .bool true] 48)); clear hs hg)))
          have hg4 : w3.grownBy (w3.setCell ⟨w2.heap.size, 1, none⟩ (.int .u32 mx)) (some w2.heap.size) := gb_put (p := ⟨w2.heap.size, 1, none⟩) (gb_refl w3 _) (.inl rfl) _
          have HW4 := HW3.out.grown hg4 (by simp only [ne_eq, Option.some.injEq]; omega)
          have HS4 := HS3.out.grown hg4 (by simp only [ne_eq, Option.some.injEq]; omega) (fun g e => by injection e with e; omega)
          have hall := gb_put (p := ⟨w2.heap.size, 1, none⟩) (gb_trans (gb_alloc (gb_trans (gb_trans (gb_alloc (gb_refl w _) _) HG.out) HG2.out) (.cells #[.int .u32 mn, .int .u32 0, .bool true] 48)) HG3.out) (.inr (show w.heap.size ≤ w2.heap.size by omega)) (.int .u32 mx)
          generalize w3.setCell ⟨w2.heap.size, 1, none⟩ (.int .u32 mx) = W at *
          obtain ⟨hW, hG⟩ := three_put (u := .int .u32 mn) (v := .int .u32 mx) (s := .bool true) HW4
          have q0 := hW.cell 0
          have q1 := hW.cell 1
          have q2 := hW.cell 2
          simp only [List.getElem?_toArray, List.getElem?_cons_zero, List.getElem?_cons_succ] at q0 q1 q2
          refine bodyPost_ret (v := .agg #[.int .u32 mn, .int .u32 mx, .bool true]) (by simp [results, Tryd.results97, go_sem, q0, q1, q2]) rfl ⟨rfl, ?_, ?_⟩
          · exact HS4.grown hG (by simp only [ne_eq, Option.some.injEq]; omega) (fun g e => by injection e with e; omega)
          · exact gb_put (p := ⟨w.heap.size, 2, none⟩) (gb_put (p := ⟨w.heap.size, 1, none⟩) (gb_put (p := ⟨w.heap.size, 0, none⟩) hall (.inr (Nat.le_refl _)) _) (.inr (Nat.le_refl _)) _) (.inr (Nat.le_refl _)) _

abbrev encGl (x : UInt8 × Bool) : Value := .agg #[.int .u8 x.1.toNat, .bool x.2]
/-- A global's type. -/
def globR (l : List UInt8) (k : Nat) : Res (UInt8 × Bool) := (valR l k).bind fun t k1 => (flagR l k1).bind fun m k2 => .ok (t, m) k2
set_option maxHeartbeats 1000000 in
theorem global_scan {w : World} {p : Nat} {l : List UInt8} {k : Nat} (h : Sc w p l k) :
    Calls Tryd.prog 98 #[.pointer (some ⟨p, 0, none⟩)] w (Did encGl p l w (globR l k)) := by
  have hlt := h.lt
  have hT := val_scan (h.alloc (.cells #[.int .u8 0, .bool false] 50))
  have HWM := Lib.hid (Whole.made w 50 #[.int .u8 0, .bool false])
  unfold globR
  cases h1 : valR l k with
  | err c a =>
    rw [h1] at hT
    rw [Res.bind_err]
    have HT := Lib.hid hT
    clear hT h1 h
    go_enter Tryd.func98, Tryd.ntmps98
    go_wp2_with (go_at_call 122; go_must ((with_reducible refine HT.out.mono ?_); rintro e w1 ⟨rfl, hg⟩; have HG := Lib.hid hg; clear hg))
    exact ⟨rfl, rfl, gb_trans (gb_alloc (gb_refl w _) _) HG.out⟩
  | ok t k1 =>
    rw [h1] at hT
    rw [Res.bind_ok]
    have HT := Lib.hid hT
    clear hT h1 h
    have V1 := Lib.hid (fun W (hs : Sc W p l k1) => flag_scan hs)
    cases h2 : flagR l k1 with
    | err c a =>
      rw [h2] at V1
      rw [Res.bind_err]
      clear h2
      go_enter Tryd.func98, Tryd.ntmps98
      go_wp2_with (first
        | (go_at_call 122; go_must ((with_reducible refine HT.out.mono ?_); rintro e w1 ⟨rfl, hs, hg⟩; have HS := Lib.hid hs; have HG := Lib.hid hg; clear hs hg))
        | (go_at_call 121; go_must ((with_reducible refine (V1.out _ HS.out).mono ?_); rintro e w2 ⟨rfl, hg⟩; have HG2 := Lib.hid hg; clear hg)))
      exact ⟨rfl, rfl, gb_trans (gb_trans (gb_alloc (gb_refl w _) _) HG.out) HG2.out⟩
    | ok m k2 =>
      rw [h2] at V1
      rw [Res.bind_ok]
      clear h2
      go_enter Tryd.func98, Tryd.ntmps98
      go_wp2_with (first
        | (go_at_call 122; go_must ((with_reducible refine HT.out.mono ?_); rintro e w1 ⟨rfl, hs, hg⟩; have HS := Lib.hid hs; have HG := Lib.hid hg; have HW1 := Lib.hid (HWM.out.grown hg (by simp only [ne_eq, Option.some.injEq]; omega)); clear hs hg))
        | (go_at_call 121; go_must ((with_reducible refine (V1.out _ HS.out).mono ?_); rintro e w2 ⟨rfl, hs, hg⟩; have HS2 := Lib.hid hs; have HG2 := Lib.hid hg; have HW2 := Lib.hid (HW1.out.grown hg (by simp only [ne_eq, Option.some.injEq]; omega)); have g0 := HW2.out.frozen 0; have g1 := HW2.out.frozen 1; have k0 := HW2.out.cell 0; have k1' := HW2.out.cell 1; simp only [List.getElem?_toArray, List.getElem?_cons_zero, List.getElem?_cons_succ] at k0 k1'; clear hs hg)))
      obtain ⟨hW, hG⟩ := two_put (u := .int .u8 t.toNat) (v := .bool m) HW2.out (Below.refl _ _)
      have q0 := hW.cell 0
      have q1 := hW.cell 1
      simp only [List.getElem?_toArray, List.getElem?_cons_zero, List.getElem?_cons_succ] at q0 q1
      have hall := gb_trans (gb_trans (gb_alloc (gb_refl w _) _) HG.out) HG2.out
      refine bodyPost_ret (v := .agg #[.int .u8 t.toNat, .bool m]) (by simp [results, Tryd.results98, go_sem, q0, q1]) rfl ⟨rfl, ?_, ?_⟩
      · exact HS2.out.grown hG (by simp only [ne_eq, Option.some.injEq]; omega) (fun g e => by injection e with e; omega)
      · exact gb_put (p := ⟨w.heap.size, 1, none⟩) (gb_put (p := ⟨w.heap.size, 0, none⟩) hall (.inr (Nat.le_refl _)) _) (.inr (Nat.le_refl _)) _
end Go.Proofs.YtihpnplfklbgjaaDoor

/- Plain mathematics: the bits of a varint's number, with and without a sign; when it fits. -/
namespace Go.Proofs.YtihpnplfklbgjaaDoor
open Go.RowKit
set_option linter.unusedVariables false

theorem bit_step (d x : Int) (i : Nat) : bit (d % 128 + 128 * x) (7 + i) = bit x i := by
  rw [← bit_div]
  have e : (d % 128 + 128 * x) / 2 ^ 7 = x := by
    show (d % 128 + 128 * x) / 128 = x
    omega
  rw [e]
theorem bit_byte (d x : Int) (i : Nat) (hi : i < 7) : bit (d % 128 + 128 * x) i = bit d i := by
  unfold bit
  have h : i = 0 ∨ i = 1 ∨ i = 2 ∨ i = 3 ∨ i = 4 ∨ i = 5 ∨ i = 6 := by omega
  have key : (d % 128 + 128 * x) / 2 ^ i % 2 = d / 2 ^ i % 2 := by
    rcases h with rfl | rfl | rfl | rfl | rfl | rfl | rfl <;> simp <;> omega
  rw [key]
theorem bit_low : ∀ (l : List Int) (j i : Nat) (c : Int), i < 7 → l[j]? = some c → bit (low l) (7 * j + i) = bit c i
  | [], j, i, c, _, h => by simp at h
  | d :: r, 0, i, c, hi, h => by
    have : d = c := by simpa using h
    subst this
    rw [Nat.mul_zero, Nat.zero_add]
    exact bit_byte d _ i hi
  | d :: r, j + 1, i, c, hi, h => by
    have ih := bit_low r j i c hi (by simpa using h)
    rw [show 7 * (j + 1) + i = 7 + (7 * j + i) by omega, ← ih]
    exact bit_step d _ _

/-- The number of n bits, m of them known: with a sign, or without. -/
def ext (s : Bool) (N : Int) (m : Nat) : Int := if s && bit N (m - 1) then N - 2 ^ m else N
theorem ext_low (s : Bool) (N : Int) (m j : Nat) (h : j < m) : bit (ext s N m) j = bit N j := by
  unfold ext
  split
  · unfold bit
    have e : (2 : Int) ^ m = 2 ^ j * 2 * 2 ^ (m - j - 1) := by
      rw [show (2 : Int) ^ j * 2 = 2 ^ (j + 1) from (Int.pow_succ 2 j).symm, ← Int.pow_add]; congr 1; omega
    have hp := p2 j
    have e2 : N - 2 ^ m = N + 2 ^ j * (2 * -2 ^ (m - j - 1)) := by rw [e]; generalize (2 : Int) ^ (m - j - 1) = t; generalize (2 : Int) ^ j = u; grind
    rw [e2, Int.add_mul_ediv_left _ _ (Int.ne_of_gt hp)]
    congr 1
    omega
  · rfl
theorem ext_bd (s : Bool) {N : Int} {m : Nat} (hm : 1 ≤ m) (h0 : 0 ≤ N) (h1 : N < 2 ^ m) : -2 ^ m ≤ ext s N m ∧ ext s N m < 2 ^ m := by
  unfold ext
  have := p2 m
  split <;> omega
theorem bit_top {N : Int} {m : Nat} (hm : 1 ≤ m) (h0 : 0 ≤ N) (h1 : N < 2 ^ m) : bit N (m - 1) = decide (2 ^ (m - 1) ≤ N) := by
  have e : (2 : Int) ^ m = 2 * 2 ^ (m - 1) := by rw [show m = m - 1 + 1 by omega, Int.pow_succ, Int.mul_comm]; rfl
  have hp := p2 (m - 1)
  unfold bit
  by_cases h : 2 ^ (m - 1) ≤ N
  · have : N / 2 ^ (m - 1) = 1 := by rw [Int.ediv_eq_iff_of_pos hp]; constructor <;> omega
    rw [this]; simp [h]
  · have : N / 2 ^ (m - 1) = 0 := Int.ediv_eq_zero_of_lt h0 (by omega)
    rw [this]; simp [h]
theorem ext_over (s : Bool) {N : Int} {m : Nat} (hm : 1 ≤ m) (h0 : 0 ≤ N) (h1 : N < 2 ^ m) : ext s N m / 2 ^ m = if s && bit N (m - 1) then -1 else 0 := by
  unfold ext
  split
  · rw [Int.ediv_eq_iff_of_pos (p2 m)]; constructor <;> omega
  · exact Int.ediv_eq_zero_of_lt h0 h1
theorem ext_high (s : Bool) {N : Int} {m : Nat} (hm : 1 ≤ m) (h0 : 0 ≤ N) (h1 : N < 2 ^ m) (j : Nat) (hj : m ≤ j) : bit (ext s N m) j = (s && bit N (m - 1)) :=
  from_same (ext_over s hm h0 h1) j hj

/-- The sign that is asked for above the lowest n bits. -/
def topB (s : Bool) (N : Int) (m n : Nat) : Bool := s && bit N (min n m - 1)
/-- All known bits above the lowest n are the sign. -/
def Good (s : Bool) (N : Int) (m n : Nat) : Prop := ∀ j, n ≤ j → j < m → bit N j = topB s N m n

theorem good_ext {s : Bool} {N : Int} {m n : Nat} (hm : 1 ≤ m) (h0 : 0 ≤ N) (h1 : N < 2 ^ m) (hg : Good s N m n) (i : Nat) (hi : n ≤ i ∨ m ≤ i) : bit (ext s N m) i = topB s N m n := by
  rcases Nat.lt_or_ge i m with g | g
  · rw [ext_low s N m i g]; exact hg i (by omega) g
  · rw [ext_high s hm h0 h1 i g]
    rcases Nat.lt_or_ge n m with k | k
    · have h2 := hg (m - 1) (by omega) (by omega)
      rw [h2]
      unfold topB
      cases s <;> simp
    · unfold topB
      rw [Nat.min_eq_right k]
/-- It fits n bits. -/
def Fits (s : Bool) (X : Int) (n : Nat) : Prop := if s then X / 2 ^ (n - 1) = 0 ∨ X / 2 ^ (n - 1) = -1 else X / 2 ^ n = 0
theorem good_fits {s : Bool} {N : Int} {m n : Nat} (hm : 1 ≤ m) (hn : 1 ≤ n) (h0 : 0 ≤ N) (h1 : N < 2 ^ m) : Good s N m n ↔ Fits s (ext s N m) n := by
  obtain ⟨b1, b2⟩ := ext_bd s hm h0 h1
  have mm := mono2 (Nat.le_max_left m n)
  constructor
  · intro hg
    have hx := good_ext hm h0 h1 hg
    cases s
    · have h := same_from (x := ext false N m) (a := n) (b := max m n) (t := false) (by omega) (by omega) (by omega) (fun j hj _ => by rw [hx j (.inl hj)]; simp [topB])
      unfold Fits
      simpa using h
    · have h := same_from (x := ext true N m) (a := n - 1) (b := max m n) (t := topB true N m n) (by omega) (by omega) (by omega) (fun j hj _ => by
        rcases Nat.lt_or_ge j n with g | g
        · obtain rfl : j = n - 1 := by omega
          rcases Nat.lt_or_ge (n - 1) m with k | k
          · rw [ext_low _ _ _ _ k]; unfold topB; rw [Nat.min_eq_left (by omega)]; simp
          · exact hx _ (.inr k)
        · exact hx j (.inl g))
      unfold Fits
      rw [if_pos rfl, h]
      cases topB true N m n <;> simp
  · intro hf j hj hjm
    unfold Fits at hf
    rw [← ext_low s N m j hjm]
    cases s
    · simp only [Bool.false_eq_true, if_false] at hf
      rw [from_same (a := n) (t := false) (by simpa using hf) j hj]; simp [topB]
    · simp only [if_true] at hf
      have hb : ∀ i, n - 1 ≤ i → bit (ext true N m) i = bit (ext true N m) (n - 1) := fun i hi => by
        rcases hf with hf | hf
        · rw [from_same (a := n - 1) (t := false) (by simpa using hf) i hi, from_same (a := n - 1) (t := false) (by simpa using hf) (n - 1) (by omega)]
        · rw [from_same (a := n - 1) (t := true) (by simpa using hf) i hi, from_same (a := n - 1) (t := true) (by simpa using hf) (n - 1) (by omega)]
      rw [hb j (by omega), ext_low true N m (n - 1) (by omega)]
      unfold topB
      rw [Nat.min_eq_left (by omega)]
      simp
end Go.Proofs.YtihpnplfklbgjaaDoor

/- creelref02.Read. -/
namespace Go.Proofs.YtihpnplfklbgjaaDoor
open Go.RowKit
set_option linter.unusedVariables false

end Go.Proofs.YtihpnplfklbgjaaDoor

/- Both readers, each beside the reference: the same answer. -/
namespace Go.Proofs.YtihpnplfklbgjaaDoor
open Go.RowKit
set_option linter.unusedVariables false

theorem low_take {q : List Int} {p : Nat} {c : Int} (hpc : q[p]? = some c) (c0 : 0 ≤ c) (c2 : c < 128) : low (q.take (p + 1)) = numU (q.take p) c := by
  have hp := (List.getElem?_eq_some_iff.1 hpc).1
  rw [take_snoc hpc, low_snoc]
  unfold numU
  rw [Int.emod_eq_of_lt c0 c2]
theorem take_len {q : List Int} {p : Nat} {c : Int} (hpc : q[p]? = some c) : (q.take p).length = p := by
  have hp := (List.getElem?_eq_some_iff.1 hpc).1
  rw [List.length_take]; omega
theorem num_bd {q : List Int} {p : Nat} {c : Int} (hpc : q[p]? = some c) (c0 : 0 ≤ c) (c2 : c < 128) : 0 ≤ numU (q.take p) c ∧ numU (q.take p) c < 2 ^ (7 * (p + 1)) := by
  have hp := (List.getElem?_eq_some_iff.1 hpc).1
  have h := low_bd (q.take (p + 1))
  rw [low_take hpc c0 c2, List.length_take, show min (p + 1) q.length = p + 1 by omega] at h
  exact h
theorem ext_signed {q : List Int} {p : Nat} {c : Int} (hpc : q[p]? = some c) (c0 : 0 ≤ c) (c2 : c < 128) : ext true (numU (q.take p) c) (7 * (p + 1)) = numS (q.take p) c := by
  obtain ⟨b0, b1⟩ := num_bd hpc c0 c2
  have hb := bit_top (m := 7 * (p + 1)) (by omega) b0 b1
  obtain ⟨l0, l1⟩ := low_bd (q.take p)
  unfold ext
  unfold numS numU at *
  rw [take_len hpc] at *
  rw [hb]
  have e1 : (2 : Int) ^ (7 * (p + 1) - 1) = 64 * 2 ^ (7 * p) := by rw [show 7 * (p + 1) - 1 = 7 * p + 6 by omega, Int.pow_add, Int.mul_comm]; rfl
  have e2 : (2 : Int) ^ (7 * (p + 1)) = 128 * 2 ^ (7 * p) := by rw [show 7 * (p + 1) = 7 * p + 7 by omega, Int.pow_add, Int.mul_comm]; rfl
  rw [e1, e2]
  unfold sg
  generalize (2 : Int) ^ (7 * p) = t at *
  by_cases h : 64 ≤ c
  · have : 64 * t ≤ low (q.take p) + c * t := by
      have := Int.mul_le_mul_of_nonneg_right h (show 0 ≤ t by omega)
      omega
    simp only [this, decide_true, Bool.and_self, if_true, if_pos h]
    grind
  · have : ¬ 64 * t ≤ low (q.take p) + c * t := by
      have := Int.mul_le_mul_of_nonneg_right (show c ≤ 63 by omega) (show 0 ≤ t by omega)
      omega
    simp only [this, decide_false, Bool.and_false, Bool.false_eq_true, if_false, if_neg h]

/-- What is asked of a slice that comes in: it reads as these bytes. -/
structure Has (w : World) (B : Nat) (A : Option Addr) (cap : Nat) (r : List Int) : Prop where
  lies : Lies w B A (cells r)
  low_ : B ≤ w.heap.size
  room : r.length ≤ cap
  most : cap ≤ maxLen

end Go.Proofs.YtihpnplfklbgjaaDoor

/- The law LebReads. -/
namespace Go.Proofs.YtihpnplfklbgjaaDoor
open Go.RowKit
set_option linter.unusedVariables false

theorem Has.below {w w' : World} {B : Nat} {A : Option Addr} {cap : Nat} {r : List Int} (h : Has w B A cap r) (hb : Below w.heap.size w w') : Has w' B A cap r :=
  ⟨h.lies.below hb h.low_, Nat.le_trans h.low_ hb.size, h.room, h.most⟩
theorem back_s {V : Int} (h0 : -9223372036854775808 ≤ V) (h1 : V ≤ 9223372036854775807) : IntKind.i64.wrap (V % 2 ^ 64) = V := by
  have e : (2 : Int) ^ 64 = 18446744073709551616 := rfl
  rw [IntKind.wrap_i64, e]
  omega

end Go.Proofs.YtihpnplfklbgjaaDoor

/- What is written is read again: behind it, longer by a group, without its last byte. -/
namespace Go.Proofs.YtihpnplfklbgjaaDoor
open Go.RowKit
set_option linter.unusedVariables false

theorem p128_2 (k : Nat) : (128 : Int) ^ k = 2 ^ (7 * k) := (pow7 k).symm
theorem mod_step (x : Int) (k : Nat) : x % 2 ^ (7 * (k + 1)) = x % 2 ^ (7 * k) + x / 2 ^ (7 * k) % 128 * 2 ^ (7 * k) := by
  have hp := p2 (7 * k)
  have e4 : (2 : Int) ^ (7 * (k + 1)) = 128 * 2 ^ (7 * k) := by rw [show 7 * (k + 1) = 7 * k + 7 by omega, Int.pow_add, Int.mul_comm]; rfl
  have e3 : x / 2 ^ (7 * (k + 1)) = x / 2 ^ (7 * k) / 128 := by rw [show 7 * (k + 1) = 7 * k + 7 by omega, ← div_pow]; rfl
  have e1 := Int.emod_def x (2 ^ (7 * k))
  have e2 := Int.emod_def x (2 ^ (7 * (k + 1)))
  rw [e3, e4] at e2
  rw [e4, e2, e1]
  have h2 : x / 2 ^ (7 * k) = 128 * (x / 2 ^ (7 * k) / 128) + x / 2 ^ (7 * k) % 128 := by omega
  generalize x / 2 ^ (7 * k) / 128 = q at *
  generalize x / 2 ^ (7 * k) % 128 = m at *
  rw [h2]
  grind
theorem low_grps (x : Int) : ∀ k, low (grps x k) = x % 2 ^ (7 * k)
  | 0 => by simp [grps, low]
  | k + 1 => by
    rw [grps_snoc, low_snoc, low_grps x k, grps_length, mod_step, p128_2]
    congr 2
    omega
theorem grps_wf (x : Int) (k : Nat) : ∀ c ∈ grps x k, 0 ≤ c ∧ c ≤ 255 := by
  intro c hc
  obtain ⟨i, _, rfl⟩ := List.mem_map.1 hc
  omega
theorem grps_on (x : Int) (k : Nat) : ∀ c ∈ grps x k, 128 ≤ c := by
  intro c hc
  obtain ⟨i, _, rfl⟩ := List.mem_map.1 hc
  omega
theorem grps_at (x : Int) (p : Nat) (c : Int) (l : List Int) : (grps x p ++ c :: l)[p]? = some c := by
  have h : (grps x p).length = p := grps_length x p
  rw [List.getElem?_append_right (by omega), h]; simp
theorem grps_take (x : Int) (p : Nat) (c : Int) (l : List Int) : (grps x p ++ c :: l).take p = grps x p := by
  have h : (grps x p).length = p := grps_length x p
  rw [List.take_append_of_le_length (by omega), List.take_of_length_le (by omega)]
theorem grps_stop (x : Int) (p M : Nat) (c : Int) (l : List Int) (hc : c < 128) (hM : p ≤ M) : Stop M (grps x p ++ c :: l) p := by
  have h : (grps x p).length = p := grps_length x p
  refine ⟨hM, by simp; omega, fun i d hi hd => ?_, fun d _ hd => ?_⟩
  · rw [List.getElem?_append_left (by omega)] at hd
    exact grps_on x p d (List.mem_of_getElem? hd)
  · rw [grps_at] at hd; injection hd with hd; omega
theorem grps_short (x : Int) (p M : Nat) (hM : p ≤ M) : Stop M (grps x p) p := by
  have h : (grps x p).length = p := grps_length x p
  refine ⟨hM, by omega, fun i d hi hd => grps_on x p d (List.mem_of_getElem? hd), fun d _ hd => ?_⟩
  rw [List.getElem?_eq_none (by omega)] at hd; cases hd

theorem rdU (x c : Int) (p n : Nat) (l : List Int) (A : Option Addr) (cap B len : Nat) (w : World) (hlen : (grps x p ++ c :: l).length = len) (hh : Has w B A cap (grps x p ++ c :: l)) (hwf : ∀ d ∈ l, 0 ≤ d ∧ d ≤ 255)
    (hx : x % 2 ^ (7 * p) + c * 2 ^ (7 * p) = x) (c0 : 0 ≤ c) (c1 : c < 128) (hf : c / 2 ^ (n - 7 * p) = 0) (n1 : 1 ≤ n) (n2 : n ≤ 64) (hp : p < (n + 6) / 7) :
    Calls Tryd.prog 110 #[.slice A len cap, .int .i64 0, .int .i64 n] w fun e w' => e = .returned (.tuple #[.int .u64 x, .int .i64 ((p : Int) + 1), .int .i64 0]) ∧ w = w' := by
  subst hlen
  have hb : ∀ d ∈ grps x p ++ c :: l, 0 ≤ d ∧ d ≤ 255 := fun d hd => by
    rcases List.mem_append.1 hd with h | h
    · exact grps_wf x p d h
    · rcases List.mem_cons.1 h with rfl | h
      · omega
      · exact hwf d h
  have h := ru_ok (grps x p ++ c :: l) A cap B 0 n p c w hh.lies hb hh.room hh.most (Nat.zero_le _) n1 n2 (by rw [List.drop_zero]; exact grps_stop x p _ c l c1 (by omega)) hp (by rw [List.drop_zero]; exact grps_at x p c l) hf
  rw [List.drop_zero, grps_take] at h
  have e : numU (grps x p) c = x := by unfold numU; rw [low_grps, grps_length]; exact hx
  rw [e] at h
  refine h.mono fun e' w' he => ⟨?_, he.2⟩
  rw [he.1]; simp
theorem rdShort (x : Int) (p n : Nat) (A : Option Addr) (cap B : Nat) (w : World) (hh : Has w B A cap (grps x p)) (n1 : 1 ≤ n) (n2 : n ≤ 64) (hp : p < (n + 6) / 7) :
    Calls Tryd.prog 110 #[.slice A p cap, .int .i64 0, .int .i64 n] w fun e w' => e = .returned (.tuple #[.int .u64 0, .int .i64 0, .int .i64 2]) ∧ w = w' := by
  have hl := grps_length x p
  have h := length_right (grps x p) A cap B 0 n p w hh.lies (grps_wf x p) hh.room hh.most (Nat.zero_le _) n1 n2 (by rw [List.drop_zero]; exact grps_short x p _ (by omega))
  unfold lenN lenE at h
  have hne : ¬ p = (n + 6) / 7 := by omega
  rw [hl] at h
  simp [hne] at h
  exact ru_fail _ _ _ 2 w (.inr (.inl rfl)) h

/-- A number below 2^n and its least groups. -/
theorem least_u {x : Int} {n na : Nat} (h0 : 0 ≤ x) (h1 : x < 2 ^ n) (n1 : 1 ≤ n) (n2 : n ≤ 64) (hn : Least (fitU x) na) :
    ∃ p c, na = p + 1 ∧ grp x na = grps x p ++ [c] ∧ x % 2 ^ (7 * p) + c * 2 ^ (7 * p) = x ∧ 0 ≤ c ∧ c < 128 ∧ c / 2 ^ (n - 7 * p) = 0 ∧ p < (n + 6) / 7 := by
  have hle : na ≤ (n + 6) / 7 := by
    refine hn.le (by omega) ?_
    show x / 128 ^ ((n + 6) / 7 - 1) < 128
    have hM : 1 ≤ (n + 6) / 7 := by omega
    have hM2 : n ≤ 7 * ((n + 6) / 7) := by omega
    generalize (n + 6) / 7 = M at *
    have e : (128 : Int) * 128 ^ (M - 1) = 2 ^ (7 * M) := by rw [p128_2, show 7 * M = 7 * (M - 1) + 7 by omega, Int.pow_add, Int.mul_comm]; rfl
    rw [Int.ediv_lt_iff_lt_mul (p128 _), e]
    have := mono2 hM2
    omega
  have h1' := hn.1
  obtain ⟨p, rfl⟩ : ∃ p, na = p + 1 := ⟨na - 1, by omega⟩
  have hf : x / 128 ^ p < 128 := hn.2.1
  have hq : 0 ≤ x / 128 ^ p := Int.ediv_nonneg h0 (Int.le_of_lt (p128 _))
  have hc : x / 128 ^ p % 128 = x / 128 ^ p := Int.emod_eq_of_lt hq hf
  refine ⟨p, x / 128 ^ p, rfl, by rw [grp_snoc, hc], ?_, hq, hf, ?_, by omega⟩
  · rw [p128_2, Int.mul_comm]; exact Int.emod_add_mul_ediv x _
  · rw [p128_2, div_pow, show 7 * p + (n - 7 * p) = n by omega]; exact Int.ediv_eq_zero_of_lt h0 h1
theorem least_s {x : Int} {n na : Nat} (h0 : -2 ^ (n - 1) ≤ x) (h1 : x < 2 ^ (n - 1)) (n1 : 1 ≤ n) (n2 : n ≤ 64) (hn : Least (fitS x) na) :
    ∃ p c, na = p + 1 ∧ grp x na = grps x p ++ [c] ∧ x % 2 ^ (7 * p) + sg c * 2 ^ (7 * p) = x ∧ 0 ≤ c ∧ c < 128 ∧ (sg c / 2 ^ (n - 7 * p - 1) = 0 ∨ sg c / 2 ^ (n - 7 * p - 1) = -1) ∧ p < (n + 6) / 7 := by
  have hle : na ≤ (n + 6) / 7 := by
    refine hn.le (by omega) ?_
    have e : (64 : Int) * 128 ^ ((n + 6) / 7 - 1) = 2 ^ (7 * ((n + 6) / 7 - 1) + 6) := by rw [p128_2, Int.pow_add, Int.mul_comm]; rfl
    have := mono2 (a := n - 1) (b := 7 * ((n + 6) / 7 - 1) + 6) (by omega)
    refine ⟨(Int.le_ediv_iff_mul_le (p128 _)).2 ?_, (Int.ediv_lt_iff_lt_mul (p128 _)).2 ?_⟩
    · rw [Int.neg_mul, e]; omega
    · rw [e]; omega
  have h1' := hn.1
  obtain ⟨p, rfl⟩ : ∃ p, na = p + 1 := ⟨na - 1, by omega⟩
  obtain ⟨f0, f1⟩ : -64 ≤ x / 128 ^ p ∧ x / 128 ^ p < 64 := hn.2.1
  have hs : sg (x / 128 ^ p % 128) = x / 128 ^ p := by unfold sg; split <;> omega
  refine ⟨p, x / 128 ^ p % 128, rfl, by rw [grp_snoc], ?_, by omega, by omega, ?_, by omega⟩
  · rw [hs, p128_2, Int.mul_comm]; exact Int.emod_add_mul_ediv x _
  · rw [hs, p128_2, div_pow, show 7 * p + (n - 7 * p - 1) = n - 1 by omega]
    obtain ⟨b0, b1⟩ := div_bounds (x := x) (a := n - 1) (b := n - 1) (Nat.le_refl _) h0 h1
    simp at b0 b1
    omega

theorem Lies.cell_add {w : World} {B : Nat} {ad : Addr} {vs : List Value} (h : Lies w B (some ad) vs) : ∀ j u, vs[j]? = some u → w.cell? (ad.add j) = some u := fun j u hu => by
  obtain ⟨b, off, e, _, h2⟩ := h j u hu
  injection e with e
  subst e
  rw [Go.WideShapes.add_plain]; exact h2
/-- append of whatever lies somewhere, nil too. -/
theorem wpList_append_lies {P : Program} {w : World} {ops : Array Oper} {rest : List Oper} {o : Oper} {a : Act} {Q : Exit → Act → World → Prop} (hgd : o.guard = none) (s x : Operand) (t : TypeId)
    (ho : o.op = .call { callee := .builtin .append, args := #[s, x], argTypes := #[t, t] })
    (base : Nat) (e : TypeId) (i : TypeInfo) (z : Value) (ht : P.underlying t = some (.slice e)) (hi : P.info? e = some i) (hz : i.zero = some z)
    (hsize : i.size = 1) (hby : i.bytes = 1) (hzs : z.cells.size = 1)
    (v : Value) (n : Nat) (xs : List Value) (hs : a.eval s = v) (hown : w.ownsRow base e 1 v n xs)
    (A : Option Addr) (m c B : Nat) (news : List Value) (hx : a.eval x = .slice A m c) (hl : news.length = m) (hnews : Lies w B A news) (hA : A = none → m = 0 ∧ c = 0) (h1 : ∀ u ∈ news, u.oneCell' = true)
    (h63 : n + m ≤ 1000) (hbase : base ≤ w.heap.size)
    (h : ∀ v' w', w'.ownsRow base e 1 v' (n + m) (xs ++ news) → w.grownBy w' v.ownBlock → wpList P ops Q rest (a.put o.dst v') w') : wpList P ops Q (o :: rest) a w := by
  rcases A with _ | ad
  · obtain ⟨rfl, rfl⟩ := hA rfl
    have hn : news = [] := List.eq_nil_of_length_eq_zero hl
    subst hn
    refine wpList_append_own_none hgd s x t ho base e i 1 ht hi v n xs hs hown hx (h v w (by simpa using hown) (World.grownBy.refl w _))
  · exact wpList_append_own w hgd s x t ho base e i z 1 1 ht hi hz hsize hby hzs (by omega) v n xs hs hown ad m c news hx (by omega) hnews.cell_add h1 (by unfold maxLen; omega) (by omega) hbase (fun v' w' h2 h3 _ => h v' w' h2 h3)
end Go.Proofs.YtihpnplfklbgjaaDoor

/- What is written is read back: numbers, types, limits, globals. Of no program but for what a reading is. -/
namespace Go.Proofs.YtihpnplfklbgjaaDoor
set_option maxRecDepth 100000
open Go.RowKit
set_option linter.unusedVariables false

theorem Stop.unique {M : Nat} {r : List Int} {p q : Nat} (h : Stop M r p) (g : Stop M r q) : p = q := by
  have key : ∀ {p q : Nat}, Stop M r p → Stop M r q → ¬ p < q := by
    intro p q h g hlt
    have h1 := g.leM
    have h2 := g.leR
    have e : r[p]? = some r[p] := List.getElem?_eq_getElem (by omega)
    have a := g.on p _ hlt e
    have b := h.off _ (by omega) e
    omega
  have a := key h g
  have b := key g h
  omega
theorem drop_past {l a r : List UInt8} {k : Nat} (h : l.drop k = a ++ r) : l.drop (k + a.length) = r := by
  rw [← List.drop_drop, h, List.drop_left]
theorem byteR_at {l r : List UInt8} {k : Nat} {c : UInt8} (h : l.drop k = c :: r) : byteR l k = .ok c (k + 1) := by
  have e : l[k]? = some c := by
    have := congrArg (·[0]?) h
    simpa using this
  unfold byteR
  rw [e]
theorem uintR_at {l r : List UInt8} {k n : Nat} {x : Int} (h : l.drop k = lebL x ++ r) (h0 : 0 ≤ x) (h1 : x < 2 ^ n) (n1 : 1 ≤ n) (n2 : n ≤ 64) : uintR l k n = .ok x (k + (lebL x).length) := by
  have m64 := mono2 n2
  have e64 : (2 : Int) ^ 64 = 18446744073709551616 := rfl
  have hna := lebN_least x (by omega)
  have hlen := lebL_length x
  have hnl := nums_lebL x
  obtain ⟨p, c, he, hg, hx, c0, c1, hf, hp⟩ := least_u h0 h1 n1 n2 hna
  rw [he] at hlen hnl
  rw [he] at hg
  have hd : (nums l).drop k = grps x p ++ c :: nums r := by
    have : (nums l).drop k = nums (l.drop k) := by unfold nums; rw [List.map_drop]
    rw [this, h, nums_append, hnl, hg]
    simp
  have hq : onN l k n = p := by
    have := onN_stop l k n
    rw [hd] at this
    exact this.unique (grps_stop x p _ c _ c1 (by omega))
  unfold uintR
  rw [if_pos ⟨n1, n2⟩, hq, if_neg (by omega), hd, grps_at]
  simp only
  rw [if_pos hf, grps_take, hlen]
  have e : numU (grps x p) c = x := by unfold numU; rw [low_grps, grps_length]; exact hx
  rw [e]
theorem indexR_at {l r : List UInt8} {k : Nat} {x : Int} (h : l.drop k = lebL x ++ r) (h0 : 0 ≤ x) (h1 : x ≤ 4294967295) : indexR l k = .ok x (k + (lebL x).length) :=
  uintR_at h h0 (by show x < 4294967296; omega) (by omega) (by omega)
theorem countR_at {l r : List UInt8} {k : Nat} {x : Int} (h : l.drop k = lebL x ++ r) (h0 : 0 ≤ x) (h1 : x ≤ 10000) : countR l k = .ok x (k + (lebL x).length) := by
  unfold countR atMostR
  rw [indexR_at h h0 (by omega), Res.bind_ok, if_pos h1]
theorem valR_at {l r : List UInt8} {k : Nat} {c : UInt8} (h : l.drop k = c :: r) (hc : valueZ c.toNat = 0) : valR l k = .ok c (k + 1) := by
  unfold valR
  rw [byteR_at h, Res.bind_ok, if_pos hc]
theorem valuesZ_cons {c : UInt8} {t : List UInt8} (h : valuesZ (c :: t) = 0) : valueZ c.toNat = 0 ∧ valuesZ t = 0 := by
  unfold valuesZ at h
  by_cases hc : valueZ c.toNat = 0
  · rw [if_pos hc] at h; exact ⟨hc, h⟩
  · rw [if_neg hc] at h; exact absurd h hc
theorem valsK_at {l : List UInt8} : ∀ (t r : List UInt8) (k : Nat) (acc : List UInt8), l.drop k = t ++ r → valuesZ t = 0 → valsK l t.length k acc = .ok (acc ++ t) (k + t.length)
  | [], r, k, acc, _, _ => by simp [valsK]
  | c :: t, r, k, acc, h, hv => by
    obtain ⟨h1, h2⟩ := valuesZ_cons hv
    have hd : l.drop (k + 1) = t ++ r := drop_past (a := [c]) (by simpa using h)
    have ih := valsK_at t r (k + 1) (acc ++ [c]) hd h2
    show (valR l k).bind _ = _
    rw [valR_at (by simpa using h) h1, Res.bind_ok, ih, List.append_assoc]
    simp only [List.singleton_append, List.length_cons]
    congr 1
    omega
theorem valsR_at {l t r : List UInt8} {k : Nat} (h : l.drop k = lebL t.length ++ t ++ r) (hv : valuesZ t = 0) (hl : t.length ≤ 10000) : valsR l k = .ok t (k + (lebL t.length).length + t.length) := by
  unfold valsR
  rw [List.append_assoc] at h
  rw [countR_at h (by omega) (by omega), Res.bind_ok, Int.toNat_natCast, valsK_at t r _ [] (drop_past h) hv]
  rfl
theorem funcZ_zero {p r : List UInt8} (h : funcZ p r = 0) : p.length ≤ 1000 ∧ r.length ≤ 1 ∧ valuesZ p = 0 ∧ valuesZ r = 0 := by
  unfold funcZ at h
  by_cases h1 : 1000 < p.length ∨ 1 < r.length
  · rw [if_pos h1] at h; cases h
  · rw [if_neg h1] at h
    by_cases h2 : valuesZ p = 0
    · rw [if_pos h2] at h; exact ⟨by omega, by omega, h2, h⟩
    · rw [if_neg h2] at h; exact absurd h h2
theorem funcR_at {l p r s : List UInt8} {k : Nat} (h : l.drop k = encL p r ++ s) (hz : funcZ p r = 0) : funcR l k = .ok (p, r) (k + (encL p r).length) := by
  obtain ⟨h1, h2, h3, h4⟩ := funcZ_zero hz
  have e : l.drop k = 96 :: ((lebL p.length ++ p ++ (lebL r.length ++ r ++ s))) := by rw [h]; unfold encL; simp
  have d1 : l.drop (k + 1) = lebL p.length ++ p ++ (lebL r.length ++ r ++ s) := drop_past (a := [96]) (by simpa using e)
  have d2 : l.drop (k + 1 + (lebL p.length).length + p.length) = lebL r.length ++ r ++ s := by
    have := drop_past (a := lebL p.length ++ p) d1
    rw [List.length_append, ← Nat.add_assoc] at this
    exact this
  unfold funcR tagR
  rw [byteR_at e, Res.bind_ok, if_pos (by rfl), Res.bind_ok, valsR_at d1 h3 (by omega), Res.bind_ok, valsR_at d2 h4 (by omega), Res.bind_ok, if_pos hz]
  congr 1
  unfold encL
  simp only [List.length_append, List.length_cons, List.length_nil]
  omega
theorem flagR_at {l r : List UInt8} {k : Nat} (m : Bool) (h : l.drop k = (if m then 1 else 0) :: r) : flagR l k = .ok m (k + 1) := by
  unfold flagR
  rw [byteR_at h, Res.bind_ok]
  cases m
  · rfl
  · rfl
theorem limR_at {l s : List UInt8} {k : Nat} {a b : Int} {c : Bool} (h : l.drop k = encLim a b c ++ s) (a0 : 0 ≤ a) (a1 : a ≤ 4294967295) (b0 : 0 ≤ b) (b1 : b ≤ 4294967295) (hc : c = false → b = 0) :
    limR l k = .ok (a, b, c) (k + (encLim a b c).length) := by
  unfold limR
  cases c with
  | false =>
    obtain rfl := hc rfl
    have e : l.drop k = 0 :: (lebL a ++ s) := by rw [h]; unfold encLim; simp
    have d1 : l.drop (k + 1) = lebL a ++ s := drop_past (a := [0]) (by simpa using e)
    rw [flagR_at false (by simpa using e), Res.bind_ok, indexR_at d1 a0 a1, Res.bind_ok, if_neg (by simp)]
    congr 1
    unfold encLim
    simp only [Bool.false_eq_true, if_false, List.length_append, List.length_cons, List.length_nil]
    omega
  | true =>
    have e : l.drop k = 1 :: (lebL a ++ (lebL b ++ s)) := by rw [h]; unfold encLim; simp
    have d1 : l.drop (k + 1) = lebL a ++ (lebL b ++ s) := drop_past (a := [1]) (by simpa using e)
    have d2 := drop_past d1
    rw [flagR_at true (by simpa using e), Res.bind_ok, indexR_at d1 a0 a1, Res.bind_ok, if_pos rfl, indexR_at d2 b0 b1, Res.bind_ok]
    congr 1
    unfold encLim
    simp only [if_true, List.length_append, List.length_cons, List.length_nil]
    omega
theorem globR_at {l s : List UInt8} {k : Nat} {c : UInt8} {m : Bool} (h : l.drop k = encG c.toNat m ++ s) (hc : valueZ c.toNat = 0) : globR l k = .ok (c, m) (k + 2) := by
  have e : l.drop k = c :: ((if m then 1 else 0) :: s) := by rw [h]; unfold encG; simp
  have d1 : l.drop (k + 1) = (if m then 1 else 0) :: s := drop_past (a := [c]) (by simpa using e)
  unfold globR
  rw [valR_at e hc, Res.bind_ok, flagR_at m d1, Res.bind_ok]
end Go.Proofs.YtihpnplfklbgjaaDoor

/- slices.Grow, slices.Concat of bytes; append of whatever lies. -/
namespace Go.Proofs.YtihpnplfklbgjaaDoor
open Go.RowKit
set_option linter.unusedVariables false
set_option maxRecDepth 100000

/-- append of whatever lies somewhere, nothing at all too. -/
theorem row_any {w : World} {ops : Array Oper} {rest : List Oper} {o : Oper} {a : Act} {Q : Exit → Act → World → Prop} (hgd : o.guard = none) (s x : Operand)
    (ho : o.op = .call { callee := .builtin .append, args := #[s, x], argTypes := #[29, 29] })
    (B : Nat) (v : Value) (xs : List UInt8) (hs : a.eval s = v) (hr : Row w B v xs)
    (A : Option Addr) (m c B' : Nat) (news : List UInt8) (hx : a.eval x = .slice A m c) (hl : news.length = m) (hn : Lies w B' A (cells (nums news))) (hA : A = none → c = 0)
    (hb : xs.length + news.length ≤ 1000000) (hB : B ≤ w.heap.size)
    (h : ∀ v' w', Row w' B v' (xs ++ news) → Below B w w' → wpList Tryd.prog ops Q rest (a.put o.dst v') w') : wpList Tryd.prog ops Q (o :: rest) a w := by
  by_cases hm : 0 < m
  · exact row_lies hgd s x ho B v xs hs hr A m c B' news hx hl hn hm hb hB h
  · obtain rfl : m = 0 := by omega
    have he : news = [] := List.eq_nil_of_length_eq_zero hl
    subst he
    obtain ⟨i0, hi0, hz0, hz1, hz2⟩ := info_parts infoB
    rcases A with _ | ad
    · obtain rfl := hA rfl
      refine wpList_append_own_none hgd s x 29 ho B 5 i0 1 Tryd.underlying29 hi0 v xs.length (cells (nums xs)) hs hr hx (h v w (by simpa using hr) (Below.refl _ _))
    · refine wpList_append_own w hgd s x 29 ho B 5 i0 _ 1 1 Tryd.underlying29 hi0 hz0 hz1 hz2 rfl (by omega) v xs.length (cells (nums xs)) hs hr ad 0 c [] hx rfl (by intro j u hu; cases hu) (by intro u hu; cases hu) (by unfold maxLen; omega) (by omega) hB (fun v' w' h2 h3 _ => h v' w' ?_ (Row.below hr hB h3))
      show w'.ownsRow B 5 1 v' (xs ++ []).length (cells (nums (xs ++ [])))
      rw [List.append_nil]
      simpa using h2

/-- Grow of nil: room for n bytes, none of them read. -/
def Room (w : World) (e : Ending) (w' : World) : Prop := ∃ v, e = .returned v ∧ Row w' w.heap.size v [] ∧ Below w.heap.size w w'
theorem grow_any (n : Nat) (w : World) (h0 : 0 < n) (hn : n ≤ 1000000) : Calls Tryd.prog 74 #[.slice none 0 0, .int .i64 n] w (Room w) := by
  obtain ⟨i0, hi0, hz0, hz1, hz2⟩ := info_parts infoB
  have hrz : ∀ ty, (Builtin.append_ #[29, 3] ty #[.slice none 0 0, .int .i64 n]).run Tryd.prog w = _ := fun ty =>
    Lib.run_append_grow_zeros w 29 3 ty 5 i0 _ .i64 .i64 Tryd.underlying29 Tryd.underlying3 hi0 hz0 none 0 0 [] (run_firstCells_none w.drew i0.size 0 0 0) n h0 (by omega) (by omega) (by omega) (by rw [hz2]; omega) (growslice_fits_wide (by omega) (by rw [hz2]; omega))
  simp only [Nat.zero_add] at hrz
  have hGn : n ≤ grownCap w n 0 5 := grownCap_ge w _ _ _
  have hG63 : grownCap w n 0 5 ≤ maxLen := grownCap_le_maxLen w n 0 5 (by unfold maxLen; omega)
  obtain ⟨G, hG⟩ : ∃ G, G = grownCap w n 0 5 := ⟨_, rfl⟩
  rw [← hG] at hrz hGn hG63
  clear hG
  have hend : ∀ cs : Array Value, cs.size = G → Row (w.alloc (.cells cs 5)).drew w.heap.size (.slice (some ⟨w.heap.size, 0, none⟩) 0 G) [] := fun cs hc =>
    ⟨rfl, .inr ⟨w.heap.size, G, cs, rfl, Nat.le_refl _, heap_alloc_new w _, by simp, hG63, by simp [hc], by simp [cells, nums]⟩⟩
  have hcs : (Builtin.zeroCells #[Value.int .u8 0] n ++ Builtin.zeroCells #[Value.int .u8 0] (G - n)).size = G := by
    simp only [Array.size_append, size_zeroCells]
    simp
    omega
  have HEND := Lib.hid (hend _ hcs)
  have hG2 : (G : Int) ≤ 9223372036854775807 := by unfold maxLen at hG63; omega
  have n1 : ¬ ((n : Int) < 0) := by omega
  have n2 : (n : Int) > 0 := by omega
  clear hend hcs hG63
  go_enter Tryd.func74, Tryd.ntmps74
  go_wp2_with (at_builtin; refine Lib.wpList_append_run _ rfl _ _ _ _ rfl _ _ rfl rfl _ _ (hrz _) ?_)
  go_ret
  exact ⟨_, rfl, HEND.out, ((Below.refl _ _).alloc (Nat.le_refl _) _).drew⟩

/-- Bytes that lie somewhere lie at a block. -/
theorem no_block {w : World} {B : Nat} {A : Option Addr} {l : List UInt8} (h : Lies w B A (cells (nums l))) (hA : A = none) : ¬ 0 < l.length := fun hl => by
  obtain ⟨b, off, e, _⟩ := h.at_ (i := 0) (by rw [cells_length, nums_length]; exact hl)
  rw [hA] at e
  cases e
set_option maxHeartbeats 800000 in
/-- Concat of two pieces, the first one not empty. -/
theorem concat_any {w : World} {g : Nat} {A1 A2 : Option Addr} {c1 c2 : Nat} {l1 l2 : List UInt8} (hg : Whole w g 29 #[.slice A1 l1.length c1, .slice A2 l2.length c2])
    (h1 : Lies w w.heap.size A1 (cells (nums l1))) (h2 : Lies w w.heap.size A2 (cells (nums l2))) (hA : A2 = none → c2 = 0) (n1 : 0 < l1.length) (n2 : l1.length + l2.length ≤ 1000000) :
    Calls Tryd.prog 38 #[.slice (some ⟨g, 0, none⟩) 2 2] w (BytesL (l1 ++ l2) w) := by
  have g0 : w.cell? ⟨g, 0, none⟩ = some (.slice A1 l1.length c1) := hg.cell 0
  have g1 : w.cell? ⟨g, 1, none⟩ = some (.slice A2 l2.length c2) := hg.cell 1
  obtain ⟨m1, hm1⟩ : ∃ m, m = l1.length := ⟨_, rfl⟩
  obtain ⟨m2, hm2⟩ : ∃ m, m = l2.length := ⟨_, rfl⟩
  rw [← hm1] at g0 n1 n2
  rw [← hm2] at g1 n2
  have HG := Lib.hid hg
  have H1 := Lib.hid h1
  have H2 := Lib.hid h2
  have HA := Lib.hid hA
  have HM1 := Lib.hid hm1
  have HM2 := Lib.hid hm2
  clear hg h1 h2 hA hm1 hm2
  have HGr := Lib.hid (grow_any (m1 + m2) w (by omega) n2)
  go_enter Tryd.func38, Tryd.ntmps38
  go_wp2
  go_loop [3, 11] (fun s i => (s = .int .i64 0 ∧ i = .int .i64 0) ∨ (s = .int .i64 m1 ∧ i = .int .i64 1) ∨ (s = .int .i64 ((m1 + m2 : Nat) : Int) ∧ i = .int .i64 2)) (fun _ i => 2 - (intOf i).toNat)
  case atStart => exact .inl ⟨rfl, rfl⟩
  case round =>
    rcases hrel with ⟨rfl, rfl⟩ | ⟨rfl, rfl⟩ | ⟨rfl, rfl⟩
    · go_wp2
      go_round
      case rel => exact .inr (.inl ⟨by go_num, rfl⟩)
      case measure => simp [intOf]
    · go_wp2
      go_round
      case rel => exact .inr (.inr ⟨by go_num, rfl⟩)
      case measure => simp [intOf]
    · go_wp2_with (go_at_call 74; go_must (refine HGr.out.mono ?_; intro e w1 h; obtain ⟨v1, rfl, hr1, hb1⟩ := h; have HR1 := Lib.hid hr1; have HB1 := Lib.hid hb1; clear hr1 hb1))
      go_loopw [6, 27] (fun v i wr => Below w.heap.size w wr ∧ ((Row wr w.heap.size v [] ∧ i = .int .i64 0) ∨ (Row wr w.heap.size v l1 ∧ i = .int .i64 1) ∨ (Row wr w.heap.size v (l1 ++ l2) ∧ i = .int .i64 2))) (fun _ i _ => 2 - (intOf i).toNat)
      case atStart => exact ⟨HB1.out, .inl ⟨HR1.out, rfl⟩⟩
      case round =>
        obtain ⟨hb, ⟨hr, rfl⟩ | ⟨hr, rfl⟩ | ⟨hr, rfl⟩⟩ := hrel
        · have c0 : wr.cell? ⟨g, 0, none⟩ = some (.slice A1 m1 c1) := by have := (HG.out.below hb).cell 0; rw [HM1.out]; exact this
          have HR := Lib.hid hr
          have HB := Lib.hid hb
          have hz := hb.size
          clear hr hb
          go_wp2_with (at_builtin; (refine row_any rfl _ _ rfl w.heap.size _ [] rfl HR.out A1 m1 c1 w.heap.size l1 rfl HM1.out.symm (H1.out.below HB.out (Nat.le_refl _)) (fun h => absurd n1 (by have := H1.out; cases HM1.out; exact no_block this h)) (by have := HM1.out; simp; omega) hz ?_; intro v2 w2 hr2 hb2; have HR2 := Lib.hid hr2; have HB2 := Lib.hid hb2; clear hr2 hb2))
          go_roundw
          case rel => exact ⟨HB.out.trans HB2.out, .inr (.inl ⟨by simpa using HR2.out, rfl⟩)⟩
          case measure => simp [intOf]
        · have c0 : wr.cell? ⟨g, 1, none⟩ = some (.slice A2 m2 c2) := by have := (HG.out.below hb).cell 1; rw [HM2.out]; exact this
          have HR := Lib.hid hr
          have HB := Lib.hid hb
          have hz := hb.size
          clear hr hb
          go_wp2_with (at_builtin; (refine row_any rfl _ _ rfl w.heap.size _ l1 rfl HR.out A2 m2 c2 w.heap.size l2 rfl HM2.out.symm (H2.out.below HB.out (Nat.le_refl _)) HA.out (by have := HM1.out; have := HM2.out; omega) hz ?_; intro v2 w2 hr2 hb2; have HR2 := Lib.hid hr2; have HB2 := Lib.hid hb2; clear hr2 hb2))
          go_roundw
          case rel => exact ⟨HB.out.trans HB2.out, .inr (.inr ⟨HR2.out, rfl⟩)⟩
          case measure => simp [intOf]
        · have HR := Lib.hid hr
          have HB := Lib.hid hb
          clear hr hb
          go_wp2
          go_ret
          exact ⟨_, rfl, HR.out, HB.out⟩
end Go.Proofs.YtihpnplfklbgjaaDoor

/- unicode/utf8.word at a slice of bytes; cuts of a slice whose capacity is its length; what is left of a text. -/
namespace Go.Proofs.YtihpnplfklbgjaaDoor
set_option linter.unusedVariables false
set_option maxRecDepth 100000
open Go.RowKit Go.Lib

/-- The bytes of s lie at b, from off on. -/
def Bya (w : World) (b off : Nat) (s : ByteArray) : Prop := ∀ j, j < s.size → w.cell? ⟨b, off + j, none⟩ = some (.int .u8 ((s.get! j).toNat : Int))
theorem Bya.of_bys {w : World} {b off : Nat} {l : List UInt8} (h : Bys w b off l) : Bya w b off (S l) := fun j hj => by
  have hj' : j < l.length := by rw [S_size] at hj; exact hj
  rw [h j hj', show (S l).get! j = (S l)[j]'hj from Utf8W.get!_of_lt (S l) j hj, S_get]
theorem Bya.below {w w' : World} {b off : Nat} {s : ByteArray} (h : Bya w b off s) (hb : Below w.heap.size w w') (hlt : b < w.heap.size) : Bya w' b off s := fun j hj =>
  (hb.cell (p := ⟨b, off + j, none⟩) hlt).trans (h j hj)
theorem cell_heap {w w' : World} (h : w'.heap = w.heap) (p : Addr) : w'.cell? p = w.cell? p := by unfold World.cell?; rw [h]
/-- One byte, as a number. -/
theorem Bya.byte {w : World} {b off : Nat} {s : ByteArray} (h : Bya w b off s) (j : Nat) (hj : j < s.size) : ∃ a : Nat, a < 256 ∧ (s.get! j).toNat = a ∧ w.cell? ⟨b, off + j, none⟩ = some (.int .u8 (a : Int)) :=
  ⟨_, (s.get! j).toNat_lt, rfl, h j hj⟩

theorem elemB : Tryd.prog.elem 29 = 5 := by kernel_rfl
/-- p[k:] where the capacity is the length. -/
theorem run_cut (s : ByteArray) (k : Nat) (c : Int) (hc : c = (k : Int)) (hk : k ≤ s.size) (b o : Nat) :
    ∃ o', (∀ w, (Instr.slice 29 (.slice (some ⟨b, o, none⟩) s.size s.size) (some (.int .i64 c)) none none).run Tryd.prog w = .ok (.slice (some ⟨b, o', none⟩) (s.extract k s.size).size (s.extract k s.size).size) w) ∧
      ∀ w, Bya w b o s → Bya w b o' (s.extract k s.size) := by
  subst hc
  have hz : (s.extract k s.size).size = s.size - k := Lib.ext_size s k
  have h : ∀ w, _ := fun w => run_slice_l (P := Tryd.prog) w 29 (some ⟨b, o, none⟩) s.size s.size Tryd.underlying29 .i64 (k : Int) (by omega) (by omega)
  by_cases hks : s.size = k
  · refine ⟨o, fun w => ?_, fun w _ j hj => by rw [hz] at hj; omega⟩
    rw [h w, elemB, Tryd.sizeOf5]
    simp [sliced, hks]
  · refine ⟨o + k, fun w => ?_, fun w hp j hj => ?_⟩
    · rw [h w, elemB, Tryd.sizeOf5]
      simp [sliced, hks, hz, Go.WideShapes.add_plain]
    · rw [hz] at hj
      rw [Nat.add_assoc, hp (k + j) (by omega), Lib.tail_get!]
theorem run_full (n cap b o : Nat) (hn : n ≤ cap) (w : World) : (Instr.slice 29 (.slice (some ⟨b, o, none⟩) n cap) none (some (.int .i64 (n : Int))) (some (.int .i64 (n : Int)))).run Tryd.prog w = .ok (.slice (some ⟨b, o, none⟩) n n) w := by
  have h := run_slice_hm (P := Tryd.prog) w 29 (some ⟨b, o, none⟩) n cap Tryd.underlying29 .i64 .i64 (n : Int) (n : Int) (by omega) (by omega) (by omega)
  rw [h, elemB, Tryd.sizeOf5]
  simp [sliced, Go.WideShapes.add_plain]

/-- The number that the first eight bytes spell. -/
def spell (s : ByteArray) : Nat := leNat [s.get! 0, s.get! 1, s.get! 2, s.get! 3, s.get! 4, s.get! 5, s.get! 6, s.get! 7]
set_option maxHeartbeats 8000000 in
set_option maxRecDepth 100000 in
theorem wordU_any (s : ByteArray) (b off cap : Nat) (w : World) (hs : 8 ≤ s.size) (hp : Bya w b off s) :
    Calls Tryd.prog 132 #[.slice (some ⟨b, off, none⟩) s.size cap] w fun e w' => e = .returned (.int .u64 (spell s : Int)) ∧ ∃ q, w' = w.drewN q := by
  obtain ⟨a0, l0, e0, c0⟩ := hp.byte 0 (by omega)
  obtain ⟨a1, l1, e1, c1⟩ := hp.byte 1 (by omega)
  obtain ⟨a2, l2, e2, c2⟩ := hp.byte 2 (by omega)
  obtain ⟨a3, l3, e3, c3⟩ := hp.byte 3 (by omega)
  obtain ⟨a4, l4, e4, c4⟩ := hp.byte 4 (by omega)
  obtain ⟨a5, l5, e5, c5⟩ := hp.byte 5 (by omega)
  obtain ⟨a6, l6, e6, c6⟩ := hp.byte 6 (by omega)
  obtain ⟨a7, l7, e7, c7⟩ := hp.byte 7 (by omega)
  have hv : (spell s : Int) = (a0 : Int) + (a1 : Int) * 256 + (a2 : Int) * 65536 + (a3 : Int) * 16777216 + (a4 : Int) * 4294967296 + (a5 : Int) * 1099511627776 + (a6 : Int) * 281474976710656 + (a7 : Int) * 72057594037927936 := by
    simp only [spell, leNat, e0, e1, e2, e3, e4, e5, e6, e7]
    omega
  rw [Nat.add_zero] at c0
  have HV := Lib.hid hv
  clear hv hp e0 e1 e2 e3 e4 e5 e6 e7
  have i0 : (0 : Int) < (s.size : Int) := by omega
  have i1 : (1 : Int) < (s.size : Int) := by omega
  have i2 : (2 : Int) < (s.size : Int) := by omega
  have i3 : (3 : Int) < (s.size : Int) := by omega
  have i4 : (4 : Int) < (s.size : Int) := by omega
  have i5 : (5 : Int) < (s.size : Int) := by omega
  have i6 : (6 : Int) < (s.size : Int) := by omega
  have i7 : (7 : Int) < (s.size : Int) := by omega
  go_enter Tryd.func132, Tryd.ntmps132
  go_wp2
  go_quiet (fail)
  go_wp2
  go_ret
  exact ⟨by rw [HV.out]; simp (disch := omega) only [u64_or8, u64_or16, u64_or24, u64_or32, u64_or40, u64_or48, u64_or56]; rfl, _, rfl⟩

/-- What is left to read: t, at o; and what it answers. -/
structure Rest (w : World) (b o : Nat) (t : ByteArray) (ans : Bool) : Prop where
  lies : Bya w b o t
  same : validD t.data.toList = ans
  most : t.size ≤ 1000000
/-- The call of word at t, in every world that has this heap. -/
abbrev Words (wq : World) (b o : Nat) (t : ByteArray) (A : Nat) : Prop := ∀ W : World, W.heap = wq.heap → Calls Tryd.prog 132 #[.slice (some ⟨b, o, none⟩) t.size t.size] W fun e w' => e = .returned (.int .u64 (A : Int)) ∧ ∃ q, w' = W.drewN q
/-- p[k:] at t is t2, at o2. -/
abbrev Cuts (b o : Nat) (t : ByteArray) (k : Int) (o2 : Nat) (t2 : ByteArray) : Prop := ∀ w, (Instr.slice 29 (.slice (some ⟨b, o, none⟩) t.size t.size) (some (.int .i64 k)) none none).run Tryd.prog w = .ok (.slice (some ⟨b, o2, none⟩) t2.size t2.size) w

section
variable {w wq : World} {b o : Nat} {t : ByteArray} {ans : Bool}
theorem Rest.cut (h : Rest w b o t ans) (k : Nat) (c : Int) (hc : c = (k : Int)) (hk : k ≤ t.size) (hv : validD (t.extract k t.size).data.toList = validD t.data.toList) :
    ∃ o' t', Cuts b o t c o' t' ∧ Rest w b o' t' ans ∧ t'.size + k = t.size := by
  obtain ⟨o', h1, h2⟩ := run_cut t k c hc hk b o
  have hz : (t.extract k t.size).size = t.size - k := Lib.ext_size t k
  exact ⟨o', _, h1, ⟨h2 w h.lies, hv.trans h.same, by have := h.most; omega⟩, by omega⟩
theorem Rest.skip (h : Rest w b o t ans) (k : Nat) (c : Int) (hc : c = (k : Int)) (hk : k ≤ t.size) (ha : Asc t k) : ∃ o' t', Cuts b o t c o' t' ∧ Rest w b o' t' ans ∧ t'.size + k = t.size :=
  h.cut k c hc hk (valid_skip t k ha)
theorem words_of (hp : Bya w b o t) (hlt : b < w.heap.size) (hb : Below w.heap.size w wq) (h8 : 8 ≤ t.size) : Words wq b o t (spell t) := fun W hW =>
  wordU_any t b o t.size W h8 fun j hj => (cell_heap hW _).trans (hp.below hb hlt j hj)
theorem mask_int {A : Nat} (h : A < 18446744073709551616) : bits .and .u64 (A : Int) 9259542123273814144 = ((A &&& 9259542123273814144 : Nat) : Int) := u64_and_nat A 9259542123273814144 h (by omega)
/-- One word: its test says that eight bytes are below 128. -/
theorem Rest.one (h : Rest w b o t ans) (hlt : b < w.heap.size) (hb : Below w.heap.size w wq) (h8 : 8 ≤ t.size) :
    ∃ A Z, Words wq b o t A ∧ bits .and .u64 (A : Int) 9259542123273814144 = ((Z : Nat) : Int) ∧ (Z = 0 → Asc t 8) :=
  ⟨spell t, _, words_of h.lies hlt hb h8, mask_int (word_lt t), (word_asc t h8).1⟩
/-- Two words. -/
theorem Rest.two (h : Rest w b o t ans) (hlt : b < w.heap.size) (hb : Below w.heap.size w wq) (h8 : 16 ≤ t.size) :
    ∃ o2 t2 A B O Z, Cuts b o t 8 o2 t2 ∧ Words wq b o t A ∧ Words wq b o2 t2 B ∧ bits .or .u64 (A : Int) (B : Int) = ((O : Nat) : Int) ∧ bits .and .u64 (O : Int) 9259542123273814144 = ((Z : Nat) : Int) ∧ (Z = 0 → Asc t 16) ∧ t2.size + 8 = t.size ∧ (A < 18446744073709551616 ∧ B < 18446744073709551616 ∧ O < 18446744073709551616) ∧ O &&& 9259542123273814144 = Z := by
  obtain ⟨o2, h1, h2⟩ := run_cut t 8 8 rfl (by omega) b o
  have hz : (t.extract 8 t.size).size = t.size - 8 := Lib.ext_size t 8
  have hO := Nat.or_lt_two_pow (n := 64) (word_lt t) (word_lt (t.extract 8 t.size))
  refine ⟨o2, _, spell t, spell (t.extract 8 t.size), _, _, h1, words_of h.lies hlt hb (by omega), words_of (h2 w h.lies) hlt hb (by omega), u64_or_nat _ _ (word_lt _) (word_lt _), mask_int hO, fun h0 => ?_, by omega, ⟨word_lt _, word_lt _, hO⟩, rfl⟩
  obtain ⟨e1, e2⟩ := (or_mask _ _ _).1 h0
  exact asc_add t 8 8 ((word_asc t (by omega)).1 e1) ((word_asc _ (by omega)).1 e2)
/-- Four words. -/
theorem Rest.four (h : Rest w b o t ans) (hlt : b < w.heap.size) (hb : Below w.heap.size w wq) (h8 : 32 ≤ t.size) :
    ∃ o2 t2 o3 t3 o4 t4 A B C D O1 O2 O3 Z, (Cuts b o t 8 o2 t2 ∧ Cuts b o t 16 o3 t3 ∧ Cuts b o t 24 o4 t4) ∧ (Words wq b o t A ∧ Words wq b o2 t2 B ∧ Words wq b o3 t3 C ∧ Words wq b o4 t4 D) ∧
      (bits .or .u64 (A : Int) (B : Int) = ((O1 : Nat) : Int) ∧ bits .or .u64 (C : Int) (D : Int) = ((O2 : Nat) : Int) ∧ bits .or .u64 (O1 : Int) (O2 : Int) = ((O3 : Nat) : Int) ∧ bits .and .u64 (O3 : Int) 9259542123273814144 = ((Z : Nat) : Int)) ∧
      (Z = 0 → Asc t 32) ∧ (t2.size + 8 = t.size ∧ t3.size + 16 = t.size ∧ t4.size + 24 = t.size) := by
  obtain ⟨o2, t2, A, B, O, Z, h1, h2, h3, h4, _, h6, h7, ⟨_, _, h10⟩, e1⟩ := h.two hlt hb (by omega)
  obtain ⟨o3, k1, k2⟩ := run_cut t 16 16 rfl (by omega) b o
  obtain ⟨o4, m1, m2⟩ := run_cut t 24 24 rfl (by omega) b o
  have z3 : (t.extract 16 t.size).size = t.size - 16 := Lib.ext_size t 16
  have z4 : (t.extract 24 t.size).size = t.size - 24 := Lib.ext_size t 24
  have hO2 := Nat.or_lt_two_pow (n := 64) (word_lt (t.extract 16 t.size)) (word_lt (t.extract 24 t.size))
  refine ⟨o2, t2, o3, _, o4, _, A, B, spell (t.extract 16 t.size), spell (t.extract 24 t.size), O, _, _, _, ⟨h1, k1, m1⟩, ⟨h2, h3, words_of (k2 w h.lies) hlt hb (by omega), words_of (m2 w h.lies) hlt hb (by omega)⟩,
    ⟨h4, u64_or_nat _ _ (word_lt _) (word_lt _), u64_or_nat _ _ h10 hO2, mask_int (Nat.or_lt_two_pow (n := 64) h10 hO2)⟩, fun h0 => ?_, h7, by omega, by omega⟩
  obtain ⟨f1, f2⟩ := (or_mask _ _ _).1 h0
  obtain ⟨f3, f4⟩ := (or_mask _ _ _).1 f2
  have a16 : Asc t 16 := h6 (e1.symm.trans f1)
  have a24 : Asc t 24 := asc_add t 16 8 a16 ((word_asc _ (by omega)).1 f3)
  exact asc_add t 24 8 a24 ((word_asc _ (by omega)).1 f4)
end
end Go.Proofs.YtihpnplfklbgjaaDoor
