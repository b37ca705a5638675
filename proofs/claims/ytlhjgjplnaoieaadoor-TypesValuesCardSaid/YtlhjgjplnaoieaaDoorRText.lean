/- creelref04.names, creelref04.Text; awake. -/
import Derived.Test.YtlhjgjplnaoieaaDoorText
import Derived.Deep.RegionHeld3
namespace Go.Proofs.YtlhjgjplnaoieaaDoor
open Go.RowKit

theorem cat_comma (a b : List UInt8) : Value.string (S a ++ { data := #[44] } ++ S b) = .string (S (a ++ ([44] ++ b))) := by
  rw [show ({ data := #[44] } : ByteArray) = S [44] from rfl, S_append, S_append, List.append_assoc]
theorem cat_two (a b : List UInt8) : Value.string (S a ++ S b) = .string (S (a ++ b)) := by rw [S_append]

theorem cat_text (x y : List UInt8) : Ending.returned (.string ({ data := #[40] } ++ S x ++ { data := #[41, 45, 62, 40] } ++ S y ++ { data := #[41] })) = .returned (.string (S ([40] ++ x ++ [41, 45, 62, 40] ++ y ++ [41]))) := by
  rw [show ({ data := #[40] } : ByteArray) = S [40] from rfl, show ({ data := #[41] } : ByteArray) = S [41] from rfl, show ({ data := #[41, 45, 62, 40] } : ByteArray) = S [41, 45, 62, 40] from rfl, S_append, S_append, S_append, S_append]

set_option maxHeartbeats 1000000 in
theorem refNames_any (l : List UInt8) (w : World) (hl : l.length ≤ 100000) : Calls Tryd.prog 36 #[.string (S l)] w fun e w' => e = .returned (.string (S (commaK l l.length))) ∧ Below w.heap.size w w' := by
  have hs := S_size l
  go_enter Tryd.func36, Tryd.ntmps36
  go_wp2
  go_loopw [3, 4] (fun o i wr => ∃ k : Nat, k ≤ l.length ∧ i = .int .i64 k ∧ o = .string (S (commaK l k)) ∧ Below w.heap.size w wr) (fun _ i _ => l.length - (intOf i).toNat)
  case atStart => exact ⟨0, by omega, rfl, rfl, Below.refl _ _⟩
  case round =>
    obtain ⟨k, hk, rfl, rfl, hbe⟩ := hrel
    have hlen := commaK_len l k
    have hcs := S_size (commaK l k)
    by_cases hlt : k < l.length
    · obtain ⟨c, hc1, hc2⟩ := S_at hlt
      have hlt' : k < (S l).size := by rw [hs]; exact hlt
      have HG := Lib.hid (hc2 hlt')
      have hn := nameZ_len c.toNat
      have hns := S_size (nameZ c.toNat)
      have hcl := c.toNat_lt
      by_cases h0 : k = 0
      · subst h0
        have HC := Lib.hid (commaK_first hc1)
        have HB := Lib.hid hbe
        have q1 : (S (commaK l 0)).size + (S (nameZ c.toNat)).size ≤ 9223372036854775807 := by omega
        clear hs hc1 hc2 hbe hcs hns
        go_wp2_with (first
          | (go_at_call 7; go_must (rw [HG.out, wrap_byte]; refine (refName_any _ _ (by omega) (by omega)).mono ?_; rintro e w2 ⟨rfl, hb2⟩; have H2 := Lib.hid hb2; clear hb2)))
        go_roundw
        case rel => exact ⟨1, by omega, by go_num, by rw [cat_two, HC.out]; rfl, HB.out.trans (H2.out.mono HB.out.size)⟩
        case measure => simp [intOf]; omega
      · have HC := Lib.hid (commaK_next hc1 h0)
        have HB := Lib.hid hbe
        have h0' : 0 < k := by omega
        have q0 : (S (commaK l k)).size + 1 ≤ 9223372036854775807 := by omega
        have q1 : (S (commaK l k)).size + 1 + (S (nameZ c.toNat)).size ≤ 9223372036854775807 := by omega
        clear hs hc1 hc2 hbe h0 hcs hns
        go_wp2_with (first
          | (go_at_call 7; go_must (rw [HG.out, wrap_byte]; refine (refName_any _ _ (by omega) (by omega)).mono ?_; rintro e w2 ⟨rfl, hb2⟩; have H2 := Lib.hid hb2; clear hb2)))
        go_roundw
        case rel => exact ⟨k + 1, by omega, by go_num, by rw [cat_comma, HC.out], HB.out.trans (H2.out.mono HB.out.size)⟩
        case measure => simp [intOf]; omega
    · obtain rfl : k = l.length := by omega
      have hd : decide (((l.length : Nat) : Int) < ((S l).size : Int)) = false := by simp [hs]
      have HB := Lib.hid hbe
      clear hs hbe hcs
      go_wp2
      go_ret
      exact ⟨rfl, HB.out⟩

/-- What is held while a box of two values lies at the end of the world w: nothing below it turns, and both stay. -/
def Boxed (w : World) (o : Obj) (w' : World) : Prop := Below (w.heap.size + 1) (w.alloc o) w'
theorem Boxed.start (w : World) (o : Obj) : Boxed w o (w.alloc o).drew := (Below.refl _ _).drew
theorem Boxed.cell {w w' : World} {o : Obj} (h : Boxed w o w') (i : Nat) : w'.cell? ⟨w.heap.size, i, none⟩ = (w.alloc o).cell? ⟨w.heap.size, i, none⟩ := Below.cell (show Below _ _ _ from h) (p := ⟨w.heap.size, i, none⟩) (Nat.lt_succ_self _)
theorem Boxed.row {w w' : World} {cs : Array Value} {t : TypeId} (h : Boxed w (.cells cs t) w') (i : Nat) : w'.cell? ⟨w.heap.size, i, none⟩ = cs[i]? := (h.cell i).trans (cell_of_row _ _ _ _ _ _ (heap_alloc_new w _))
theorem Boxed.on {w w1 w2 : World} {o : Obj} (h : Boxed w o w1) (hb : Below w1.heap.size w1 w2) : Boxed w o w2 := Below.trans h (hb.mono (by have := Below.size h; simp at this; omega))
theorem Boxed.end {w w' : World} {o : Obj} (h : Boxed w o w') : Below w.heap.size w w' := (below_box w o).trans (Below.mono h (by omega))
theorem Boxed.room {w w' : World} {o : Obj} (h : Boxed w o w') : w.heap.size + 1 ≤ w'.heap.size := by
  have := Below.size h
  simp at this
  omega
/-- A call that leaves what there was, where two cells of a box are held. -/
theorem held_two {K : Nat} {args : Array Value} {w : World} {u v : Value} {t : TypeId} {R : Ending → Prop} (hN : ∀ w, Calls Tryd.prog K args w fun e w' => R e ∧ Below w.heap.size w w') {W : World}
    (h : Boxed w (.cells #[u, v] t) W ∧ W.cell? ⟨w.heap.size, 0, none⟩ = some u ∧ W.cell? ⟨w.heap.size, 1, none⟩ = some v) :
    Calls Tryd.prog K args W fun e w' => R e ∧ Boxed w (.cells #[u, v] t) w' ∧ w'.cell? ⟨w.heap.size, 0, none⟩ = some u ∧ w'.cell? ⟨w.heap.size, 1, none⟩ = some v :=
  (hN W).mono fun _ _ ⟨h1, h2⟩ => ⟨h1, h.1.on h2, (h.1.on h2).row 0, (h.1.on h2).row 1⟩

set_option maxHeartbeats 1000000 in
theorem refText_any (p r : List UInt8) (w : World) (hp : p.length ≤ 10000) (hr : r.length ≤ 10000) : Calls Tryd.prog 17 #[ftV p r] w fun e w' => e = .returned (.string (S (textL p r))) ∧ Below w.heap.size w w' := by
  unfold ftV
  have N1 := Lib.hid (fun w => refNames_any p w (by omega))
  have N2 := Lib.hid (fun w => refNames_any r w (by omega))
  have l1 := commaK_len p p.length
  have l2 := commaK_len r r.length
  obtain ⟨x, hx⟩ : ∃ x, x = commaK p p.length := ⟨_, rfl⟩
  obtain ⟨y, hy⟩ : ∃ y, y = commaK r r.length := ⟨_, rfl⟩
  rw [← hx] at N1 l1
  rw [← hy] at N2 l2
  have HE := Lib.hid (show textL p r = [40] ++ x ++ [41, 45, 62, 40] ++ y ++ [41] by unfold textL listL; rw [← hx, ← hy]; simp)
  clear hx hy
  have sx := S_size x
  have sy := S_size y
  have q1 : ¬ 9223372036854775807 < 1 + (S x).size := by omega
  have q2 : ¬ 9223372036854775807 < 1 + (S x).size + 4 := by omega
  have q3 : ¬ 9223372036854775807 < 1 + (S x).size + 4 + (S y).size := by omega
  have q4 : ¬ 9223372036854775807 < 1 + (S x).size + 4 + (S y).size + 1 := by omega
  clear sx sy
  go_enter Tryd.func17, Tryd.ntmps17
  go_wp2
  go_region_held3 (fun w' => Boxed w (.cells #[.string (S p), .string (S r)] 23) w' ∧ w'.cell? ⟨w.heap.size, 0, none⟩ = some (.string (S p)) ∧ w'.cell? ⟨w.heap.size, 1, none⟩ = some (.string (S r))) (first | assumption | (exact ⟨Boxed.start _ _, (Boxed.start _ _).row 0, (Boxed.start _ _).row 1⟩))
    (first | (go_at_call 36; first | ((with_reducible refine (held_two N1.out ‹_›).mono ?_); rintro e w1 ⟨rfl, hk1⟩) | ((with_reducible refine (held_two N2.out ‹_›).mono ?_); rintro e w2 ⟨rfl, hk2⟩)))
  go_wp2
  go_ret
  exact ⟨by rw [HE.out]; exact cat_text x y, hk2.1.end⟩

theorem eg_text : S (textL [127, 126] [127]) = { data := #[40, 105, 51, 50, 44, 105, 54, 52, 41, 45, 62, 40, 105, 51, 50, 41] } := by decide
theorem awake_any (w : World) (hT : Tab w) : Calls Tryd.prog 6 #[] w fun e w' => e = .returned (.bool true) ∧ Below w.heap.size w w' := by
  have ht := text_any [127, 126] [127] w hT (by simp) (by simp)
  rw [eg_text] at ht
  have HT := Lib.hid ht
  clear ht
  go_enter Tryd.func6, Tryd.ntmps6
  go_wp2_with (go_at_call 16; go_must (refine HT.out.mono ?_; rintro e w1 ⟨rfl, hb1⟩; have H1 := Lib.hid hb1; clear hb1))
  go_ret
  exact ⟨rfl, H1.out⟩
end Go.Proofs.YtlhjgjplnaoieaaDoor
