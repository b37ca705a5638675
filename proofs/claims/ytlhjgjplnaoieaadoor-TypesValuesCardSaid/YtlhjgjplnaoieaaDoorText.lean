/- types.appendList, types.Text, creelref04.names, creelref04.Text. -/
import Derived.Test.YtlhjgjplnaoieaaDoorVals
namespace Go.Proofs.YtlhjgjplnaoieaaDoor
open Go.RowKit

/-- The names of the first k types, commas between them. -/
def commaK (l : List UInt8) : Nat → List UInt8
  | 0 => []
  | k + 1 => match l[k]? with
    | none => commaK l k
    | some c => commaK l k ++ ((if k = 0 then [] else [44]) ++ nameZ c.toNat)
def listL (l : List UInt8) : List UInt8 := 40 :: (commaK l l.length ++ [41])
def textL (p r : List UInt8) : List UInt8 := listL p ++ ([45, 62] ++ listL r)
theorem commaK_len (l : List UInt8) : ∀ k, (commaK l k).length ≤ 8 * k
  | 0 => by simp [commaK]
  | k + 1 => by
    have ih := commaK_len l k
    unfold commaK
    split
    · omega
    · rename_i c _
      have := (nameZ_len c.toNat).2
      rw [List.length_append, List.length_append]
      split <;> simp <;> omega
theorem commaK_first {l : List UInt8} {c : UInt8} (h : l[0]? = some c) : commaK l 1 = nameZ c.toNat := by
  show (match l[0]? with | none => _ | some c => _) = _
  rw [h]
  simp [commaK]
theorem commaK_next {l : List UInt8} {c : UInt8} {k : Nat} (h : l[k]? = some c) (hk : k ≠ 0) : commaK l (k + 1) = commaK l k ++ ([44] ++ nameZ c.toNat) := by
  show (match l[k]? with | none => _ | some c => _) = _
  rw [h]
  simp [hk]
theorem listL_len (l : List UInt8) : (listL l).length ≤ 8 * l.length + 2 := by
  unfold listL
  have := commaK_len l l.length
  simp; omega

theorem Tab.far {w wr : World} {B : Nat} (h : Tab w) (hb : Below B w wr) (hB : 0 < B) : Tab wr := by
  obtain ⟨t, fr, h⟩ := h
  exact ⟨t, fr, (hb.block _ hB).trans h⟩
theorem Tab.lt {w : World} (h : Tab w) : 0 < w.heap.size := by
  obtain ⟨t, fr, h⟩ := h
  exact (Array.getElem?_eq_some_iff.1 h).1

/-- What appendList hands back. -/
def Onto (B : Nat) (l : List UInt8) (w : World) (e : Ending) (w' : World) : Prop := ∃ v, e = .returned v ∧ Row w' B v l ∧ Below B w w'

theorem S_at {l : List UInt8} {k : Nat} (h : k < l.length) : ∃ c : UInt8, l[k]? = some c ∧ ∀ hh : k < (S l).size, (S l)[k]'hh = c :=
  ⟨l[k], List.getElem?_eq_getElem h, fun hh => S_get l k hh⟩

set_option maxHeartbeats 1000000 in
theorem list_any (l xs : List UInt8) (v : Value) (B : Nat) (w : World) (hr : Row w B v xs) (hB : B ≤ w.heap.size) (hT : Tab w) (hg : 0 < B) (hl : xs.length + 8 * l.length ≤ 900000) :
    Calls Tryd.prog 35 #[v, .string (S l)] w (Onto B (xs ++ listL l) w) := by
  have hs := S_size l
  go_enter Tryd.func35, Tryd.ntmps35
  go_wp2_with (at_builtin; go_must (refine row_new rfl _ _ rfl B v xs rfl (hr.alloc _) w.heap.size 1 [40] rfl rfl (heap_alloc_new w _) (by omega) (by simp; omega) (by simp; omega) ?_; intro v1 w1 hr1 hb1; have HR1 := Lib.hid hr1; have HB1 := Lib.hid hb1; clear hr1 hb1))
  go_loopw [0, 11] (fun b i wr => ∃ k : Nat, k ≤ l.length ∧ i = .int .i64 k ∧ Row wr B b (xs ++ 40 :: commaK l k) ∧ Below B w wr) (fun _ i _ => l.length - (intOf i).toNat)
  case atStart => exact ⟨0, by omega, rfl, HR1.out, ((Below.refl _ _).alloc hB _).trans HB1.out⟩
  case round =>
    obtain ⟨k, hk, rfl, hown, hbe⟩ := hrel
    have hsz := hbe.size
    have HT := Lib.hid (hT.far hbe hg)
    have hlen := commaK_len l k
    by_cases hlt : k < l.length
    · obtain ⟨c, hc1, hc2⟩ := S_at hlt
      have hlt' : k < (S l).size := by rw [hs]; exact hlt
      have HG := Lib.hid (hc2 hlt')
      have hn := nameZ_len c.toNat
      by_cases h0 : k = 0
      · subst h0
        have HC := Lib.hid (commaK_first hc1)
        have HB := Lib.hid hbe
        clear hs hc1 hc2 hbe
        go_wp2_with (first
          | (go_at_call 18; go_must (rw [HG.out]; refine (name_any _ _ HT.out).mono ?_; rintro e w2 ⟨rfl, hb2⟩; have H2 := Lib.hid hb2; clear hb2))
          | (at_builtin; go_must (refine row_str rfl _ _ rfl B _ _ rfl (hown.later H2.out) _ rfl (by simp; omega) (by have := H2.out.size; omega) ?_; intro v3 w3 hr3 hb3; have HR3 := Lib.hid hr3; have HB3 := Lib.hid hb3; clear hr3 hb3)))
        go_roundw
        case rel => exact ⟨1, by omega, by go_num, by rw [HC.out]; have := HR3.out; simpa [commaK] using this, (HB.out.trans (H2.out.mono (by omega))).trans HB3.out⟩
        case measure => simp [intOf]; omega
      · have HC := Lib.hid (commaK_next hc1 h0)
        have HB := Lib.hid hbe
        have h0' : 0 < k := by omega
        clear hs hc1 hc2 hbe h0
        go_wp2_with (first
          | (at_builtin; (refine row_new rfl _ _ rfl B _ _ rfl (hown.alloc _) wr.heap.size 1 [44] rfl rfl (heap_alloc_new wr _) (by omega) (by simp; omega) (by simp; omega) ?_; intro v1 w1 hr1 hb1; have HR2 := Lib.hid hr1; have HB2 := Lib.hid hb1; clear hr1 hb1))
          | (go_at_call 18; go_must (rw [HG.out]; refine (name_any _ _ ((HT.out.alloc _).far HB2.out hg)).mono ?_; rintro e w2 ⟨rfl, hb2⟩; have H2 := Lib.hid hb2; clear hb2))
          | (at_builtin; go_must (refine row_str rfl _ _ rfl B _ _ rfl (HR2.out.later H2.out) _ rfl (by simp; omega) (by have := H2.out.size; have := HB2.out.size; simp at this; omega) ?_; intro v3 w3 hr3 hb3; have HR3 := Lib.hid hr3; have HB3 := Lib.hid hb3; clear hr3 hb3)))
        go_roundw
        case rel => exact ⟨k + 1, by omega, by go_num, by rw [HC.out]; have := HR3.out; simpa using this, ((HB.out.alloc (by omega) _).trans HB2.out).trans ((H2.out.mono (by have := HB2.out.size; simp at this; omega)).trans HB3.out)⟩
        case measure => simp [intOf]; omega
    · obtain rfl : k = l.length := by omega
      have HB := Lib.hid hbe
      clear hs hbe
      go_wp2_with (at_builtin; go_must (refine row_new rfl _ _ rfl B _ _ rfl (hown.alloc _) wr.heap.size 1 [41] rfl rfl (heap_alloc_new wr _) (by omega) (by simp; omega) (by simp; omega) ?_; intro v1 w1 hr1 hb1; have HR2 := Lib.hid hr1; have HB2 := Lib.hid hb1; clear hr1 hb1))
      go_ret
      exact ⟨_, rfl, by have := HR2.out; unfold listL; simpa using this, (HB.out.alloc (by omega) _).trans HB2.out⟩

set_option maxHeartbeats 1000000 in
theorem text_any (p r : List UInt8) (w : World) (hT : Tab w) (hp : p.length ≤ 10000) (hr : r.length ≤ 10000) : Calls Tryd.prog 16 #[ftV p r] w fun e w' => e = .returned (.string (S (textL p r))) ∧ Below w.heap.size w w' := by
  unfold ftV
  have hlt := hT.lt
  have l1 := listL_len p
  have l2 := listL_len r
  have HT := Lib.hid (hT.alloc (.cells #[.string (S p), .string (S r)] 23))
  have L1 := Lib.hid (list_any p [] _ (w.heap.size + 1) _ (Row.nil (w.alloc (.cells #[.string (S p), .string (S r)] 23)) _) (by simp) HT.out (by omega) (by simp; omega))
  have L2 := Lib.hid (fun xs v w2 L (hL : xs ++ listL r = L) (h : Row w2 (w.heap.size + 1) v xs) hs ht (hx : xs.length ≤ 100000) => hL ▸ list_any r xs v (w.heap.size + 1) w2 h hs ht (by omega) (by omega))
  clear hlt
  go_enter Tryd.func16, Tryd.ntmps16
  go_wp2_with (first
    | (go_at_call 35; ((with_reducible refine L1.out.mono ?_); rintro e w1 ⟨v1, rfl, hr1, hb1⟩; have hs1 := hb1.size; simp at hs1; have hc1 : w1.cell? ⟨w.heap.size, 1, none⟩ = some (.string (S r)) := (hb1.cell (p := ⟨w.heap.size, 1, none⟩) (by show w.heap.size < _; omega)).trans (cell_of_row _ _ _ _ _ _ (heap_alloc_new w _)); have HR1 := Lib.hid hr1; have HB1 := Lib.hid hb1; clear hr1 hb1))
    | (at_builtin; go_must (refine row_str rfl _ _ rfl (w.heap.size + 1) _ _ rfl HR1.out [45, 62] rfl (by simp; omega) (by omega) ?_; intro v2 w2 hr2 hb2; have hs2 := hb2.size; have hc2 : w2.cell? ⟨w.heap.size, 1, none⟩ = some (.string (S r)) := (hb2.cell (p := ⟨w.heap.size, 1, none⟩) (by show w.heap.size < _; omega)).trans hc1; have HR2 := Lib.hid hr2; have HB2 := Lib.hid hb2; clear hr2 hb2))
    | (go_at_call 35; go_must ((with_reducible refine (L2.out _ _ _ (textL p r) (by unfold textL; simp) HR2.out (by omega) ((HT.out.far HB1.out (by have := hT.lt; omega)).far HB2.out (by have := hT.lt; omega)) (by simp; omega)).mono ?_); rintro e w3 ⟨v3, rfl, hr3, hb3⟩; obtain ⟨A3, c3, rfl, hstr⟩ := hr3.str; have HB3 := Lib.hid hb3; clear hr3 hb3)))
  go_ret
  exact ⟨rfl, (below_box w _).trans (((HB1.out.trans HB2.out).trans HB3.out).mono (by omega))⟩
end Go.Proofs.YtlhjgjplnaoieaaDoor
