/- creelref03.Count. -/
import Derived.Test.YtdogjinjbnlgdaaDoorQz02
import Derived.Test.YtdogjinjbnlgdaaDoorShelf
import Derived.Test.YtdogjinjbnlgdaaDoorQz01
import Derived.Deep.RegionHeld3
import Derived.Deep.QuietTactic
import Derived.BigQuiet
import Derived.StillTailTactics
import Derived.Deep.DeepMust
import Derived.WalkLawsBesides
import Derived.Defers
import Derived.Recover
import Derived.Lib.Hide
namespace Go.Proofs.YtdogjinjbnlgdaaDoor
set_option linter.unusedVariables false
open Go.RowKit Go.Lib

def strLen : Value → Nat
  | .string s => s.size
  | _ => 0
theorem run_tail {n : Nat} {l : List UInt8} (h : n ≤ l.length) (w : World) : (Instr.slice 9 (.string (S l)) (some (.int .i64 (n : Int))) none none).run Tryd.prog w = .ok (.string (S (l.drop n))) w := by
  have h := run_slice_string_l (P := Tryd.prog) w 9 (S l) Tryd.underlying9 .i64 (n : Int) (by omega) (by rw [S_size]; omega)
  rw [h, S_extract, S_size, show ((n : Int)).toNat = n from rfl, List.take_of_length_le (by simp)]
theorem countZ_nil : countZ [] = 0 := by decide
theorem ret_val {k : IntKind} {a b : Int} (h : a = b) : Ending.returned (.int k a) = .returned (.int k b) := by rw [h]

set_option maxHeartbeats 1000000 in
theorem refCount_any (l : List UInt8) (w : World) (hl : l.length ≤ 1000000) : Calls Tryd.prog 50 #[.string (S l)] w fun e w' => e = .returned (.int .i64 (countZ l)) ∧ Below w.heap.size w w' := by
  go_enter Tryd.func50, Tryd.ntmps50
  go_wp2
  go_loopw [0, 3] (fun v c wr => ∃ (r : List UInt8) (k : Nat), v = .string (S r) ∧ c = .int .i64 k ∧ validD l = validD r ∧ runeCountL l = k + runeCountL r ∧ r.length ≤ 1000000 ∧ Below w.heap.size w wr) (fun v _ _ => strLen v)
  case atStart => exact ⟨l, 0, rfl, rfl, rfl, by omega, hl, Below.refl _ _⟩
  case round =>
    obtain ⟨r, k, rfl, rfl, hv, hc, hr, hbe⟩ := hrel
    have HB := Lib.hid hbe
    have hk : k ≤ 1000000 := by have := count_le l; omega
    clear hbe
    by_cases h0 : r = []
    · subst h0
      have e : countZ l = (k : Int) := by
        unfold countZ
        rw [if_pos (by rw [hv]; rfl), hc]
        have : runeCountL [] = 0 := rfl
        omega
      have HE := Lib.hid e
      have hz : (S []).size = 0 := rfl
      clear hv hc e
      go_wp2
      go_ret
      exact ⟨ret_val HE.out.symm, HB.out⟩
    · have hlen : 0 < r.length := List.length_pos_iff.2 h0
      have hz : 0 < (S r).size := by rw [S_size]; exact hlen
      have hle := firstN_le r
      by_cases hn : (firstN r).2 = 0
      · have e : countZ l = -1 := by
          unfold countZ
          rw [if_neg (by rw [hv, valid_none h0 hn]; simp)]
        have HE := Lib.hid e
        have HH := Lib.hid hn
        clear hv hc e hn
        go_wp2_with fail
        refine (refFirst_any r _ hr).mono ?_
        rintro e w1 ⟨rfl, hb1⟩
        rw [HH.out]
        have H1 := Lib.hid (two HB.out (Nat.le_refl _) hb1)
        clear hb1 HB
        go_wp2
        go_ret
        exact ⟨ret_val HE.out.symm, H1.out⟩
      · have hv2 := valid_some h0 hn
        have hc2 := count_some h0 hn
        have hsl := run_tail (n := (firstN r).2) (l := r) hle.2.1
        have hlt : strLen (.string (S (r.drop (firstN r).2))) < strLen (.string (S r)) := by
          show (S _).size < (S _).size
          rw [S_size, S_size, List.length_drop]; omega
        have hr2 : (r.drop (firstN r).2).length ≤ 1000000 := by rw [List.length_drop]; omega
        have HV := Lib.hid (hv.trans hv2)
        have HC := Lib.hid (show runeCountL l = (k + 1) + runeCountL (r.drop (firstN r).2) by omega)
        have HL := Lib.hid hlt
        have HR := Lib.hid hr2
        have hne : (((firstN r).2 : Int) == 0) = false := beq_eq_false_iff_ne.2 (by omega)
        clear hv hc hv2 hc2 hlt hr2
        go_wp2_with fail
        refine (refFirst_any r _ hr).mono ?_
        rintro e w1 ⟨rfl, hb1⟩
        have H1 := Lib.hid (two HB.out (Nat.le_refl _) hb1)
        clear hb1 HB
        generalize (firstN r).2 = n at *
        generalize (firstN r).1 = v at *
        go_wp2
        go_roundw
        case rel => exact ⟨_, k + 1, rfl, by go_num, HV.out, HC.out, HR.out, H1.out⟩
        case measure => exact HL.out
end Go.Proofs.YtdogjinjbnlgdaaDoor

/- utf.First, utf.Count, utf.Check over the library's contracts. -/
namespace Go.Proofs.YtdogjinjbnlgdaaDoor
set_option linter.unusedVariables false
set_option maxRecDepth 100000
open Go.RowKit Go.Lib

/-- The two tables of unicode/utf8 hold what they are laid with. -/
def Tabs (w : World) : Prop := Lib.Utf8Tabs 0 1 w
theorem Tabs.below {w wr : World} (h : Tabs w) (hb : Below w.heap.size w wr) : Tabs wr := Utf8Tabs_below h hb
theorem Tabs.on {B w wr : World} (h : Tabs B) (hB : Below B.heap.size B w) (hb : Below w.heap.size w wr) : Tabs wr := (h.below hB).below hb

theorem valid_any (l : List UInt8) (w : World) (hl : l.length ≤ 1000000) (hT : Tabs w) : Calls Tryd.prog 55 #[.string (S l)] w fun e w' => e = .returned (.bool (validD l)) ∧ Below w.heap.size w w' := by
  have h := Any.utf8_ValidString Tryd.lays196 (S l) w (by rw [S_size]; omega) hT
  rw [S_list] at h
  exact h
/-- api.ErrLong is 13, api.ErrUTF 4, api.OK 0. -/
def checkZ (l : List UInt8) : Int := if 200 < l.length then 13 else if validD l = true then 0 else 4
theorem check_any (l : List UInt8) (w : World) (hl : l.length ≤ 1000000) (hT : Tabs w) : Calls Tryd.prog 30 #[.string (S l)] w fun e w' => e = .returned (.int .i64 (checkZ l)) ∧ Below w.heap.size w w' := by
  have hs : (S l).size = l.length := S_size l
  by_cases h2 : 200 < l.length
  · have e : checkZ l = 13 := by unfold checkZ; rw [if_pos h2]
    have HE := Lib.hid e
    have hs2 : 200 < (S l).size := by omega
    clear e hs
    go_enter Tryd.func30, Tryd.ntmps30
    go_wp2
    go_ret
    exact ⟨ret_val HE.out.symm, Below.refl _ _⟩
  · have hd : decide ((200 : Int) < ((S l).size : Int)) = false := by simp; omega
    clear hs
    by_cases hv : validD l = true
    · have e : checkZ l = 0 := by unfold checkZ; rw [if_neg h2, if_pos hv]
      have HE := Lib.hid e
      clear e
      go_enter Tryd.func30, Tryd.ntmps30
      go_wp2_with (first
        | (go_at_call 55; go_must (refine (valid_any l _ hl hT).mono ?_; rintro e w1 ⟨rfl, hb1⟩; have H1 := Lib.hid hb1; clear hb1)))
      go_ret
      exact ⟨ret_val HE.out.symm, H1.out⟩
    · have hv' : validD l = false := by simpa using hv
      have e : checkZ l = 4 := by unfold checkZ; rw [if_neg h2, if_neg hv]
      have HE := Lib.hid e
      clear e hv
      go_enter Tryd.func30, Tryd.ntmps30
      go_wp2_with (first
        | (go_at_call 55; go_must (refine (valid_any l _ hl hT).mono ?_; rintro e w1 ⟨rfl, hb1⟩; have H1 := Lib.hid hb1; clear hb1)))
      go_ret
      exact ⟨ret_val HE.out.symm, H1.out⟩

/-- The bytes l lie at b, from off on. -/
def Bys (w : World) (b off : Nat) (l : List UInt8) : Prop := ∀ j (h : j < l.length), w.cell? ⟨b, off + j, none⟩ = some (.int .u8 ((l[j]'h).toNat : Int))
theorem Bys.below {w w' : World} {b off : Nat} {l : List UInt8} (h : Bys w b off l) (hb : Below w.heap.size w w') (hlt : b < w.heap.size) : Bys w' b off l := fun j hj =>
  (hb.cell (p := ⟨b, off + j, none⟩) hlt).trans (h j hj)
end Go.Proofs.YtdogjinjbnlgdaaDoor

/- types.appendList, types.Text, creelref04.names, creelref04.Text. -/
namespace Go.Proofs.YtdogjinjbnlgdaaDoor
set_option linter.unusedVariables false
open Go.RowKit

/-- The names of the first k types, commas between them. -/
def commaK (l : List UInt8) : Nat → List UInt8
  | 0 => []
  | k + 1 => match l[k]? with
    | none => commaK l k
    | some c => commaK l k ++ ((if k = 0 then [] else [44]) ++ nameZ c.toNat)
def listL (l : List UInt8) : List UInt8 := 40 :: (commaK l l.length ++ [41])
def textL (p r : List UInt8) : List UInt8 := listL p ++ ([45, 62] ++ listL r)
theorem commaK_len (l : List UInt8) : ∀ k, (commaK l k).length ≤ 8 * k
  | 0 => by simp [commaK]
  | k + 1 => by
    have ih := commaK_len l k
    unfold commaK
    split
    · omega
    · rename_i c _
      have := (nameZ_len c.toNat).2
      rw [List.length_append, List.length_append]
      split <;> simp <;> omega
theorem commaK_first {l : List UInt8} {c : UInt8} (h : l[0]? = some c) : commaK l 1 = nameZ c.toNat := by
  show (match l[0]? with | none => _ | some c => _) = _
  rw [h]
  simp [commaK]
theorem commaK_next {l : List UInt8} {c : UInt8} {k : Nat} (h : l[k]? = some c) (hk : k ≠ 0) : commaK l (k + 1) = commaK l k ++ ([44] ++ nameZ c.toNat) := by
  show (match l[k]? with | none => _ | some c => _) = _
  rw [h]
  simp [hk]
theorem listL_len (l : List UInt8) : (listL l).length ≤ 8 * l.length + 2 := by
  unfold listL
  have := commaK_len l l.length
  simp; omega

/-- What appendList hands back. -/
def Onto (B : Nat) (l : List UInt8) (w : World) (e : Ending) (w' : World) : Prop := ∃ v, e = .returned v ∧ Row w' B v l ∧ Below B w w'

theorem S_at {l : List UInt8} {k : Nat} (h : k < l.length) : ∃ c : UInt8, l[k]? = some c ∧ ∀ hh : k < (S l).size, (S l)[k]'hh = c :=
  ⟨l[k], List.getElem?_eq_getElem h, fun hh => S_get l k hh⟩

end Go.Proofs.YtdogjinjbnlgdaaDoor

/- creelref04.names, creelref04.Text; awake. -/
namespace Go.Proofs.YtdogjinjbnlgdaaDoor
set_option linter.unusedVariables false
open Go.RowKit

theorem cat_comma (a b : List UInt8) : Value.string (S a ++ { data := #[44] } ++ S b) = .string (S (a ++ ([44] ++ b))) := by
  rw [show ({ data := #[44] } : ByteArray) = S [44] from rfl, S_append, S_append, List.append_assoc]
theorem cat_two (a b : List UInt8) : Value.string (S a ++ S b) = .string (S (a ++ b)) := by rw [S_append]

theorem cat_text (x y : List UInt8) : Ending.returned (.string ({ data := #[40] } ++ S x ++ { data := #[41, 45, 62, 40] } ++ S y ++ { data := #[41] })) = .returned (.string (S ([40] ++ x ++ [41, 45, 62, 40] ++ y ++ [41]))) := by
  rw [show ({ data := #[40] } : ByteArray) = S [40] from rfl, show ({ data := #[41] } : ByteArray) = S [41] from rfl, show ({ data := #[41, 45, 62, 40] } : ByteArray) = S [41, 45, 62, 40] from rfl, S_append, S_append, S_append, S_append]

/-- What is held while a box of two values lies at the end of the world w: nothing below it turns, and both stay. -/
def Boxed (w : World) (o : Obj) (w' : World) : Prop := Below (w.heap.size + 1) (w.alloc o) w'
theorem Boxed.start (w : World) (o : Obj) : Boxed w o (w.alloc o).drew := (Below.refl _ _).drew
theorem Boxed.cell {w w' : World} {o : Obj} (h : Boxed w o w') (i : Nat) : w'.cell? ⟨w.heap.size, i, none⟩ = (w.alloc o).cell? ⟨w.heap.size, i, none⟩ := Below.cell (show Below _ _ _ from h) (p := ⟨w.heap.size, i, none⟩) (Nat.lt_succ_self _)
theorem Boxed.row {w w' : World} {cs : Array Value} {t : TypeId} (h : Boxed w (.cells cs t) w') (i : Nat) : w'.cell? ⟨w.heap.size, i, none⟩ = cs[i]? := (h.cell i).trans (cell_of_row _ _ _ _ _ _ (heap_alloc_new w _))
theorem Boxed.on {w w1 w2 : World} {o : Obj} (h : Boxed w o w1) (hb : Below w1.heap.size w1 w2) : Boxed w o w2 := Below.trans h (hb.mono (by have := Below.size h; simp at this; omega))
theorem Boxed.end {w w' : World} {o : Obj} (h : Boxed w o w') : Below w.heap.size w w' := (below_box w o).trans (Below.mono h (by omega))
theorem Boxed.room {w w' : World} {o : Obj} (h : Boxed w o w') : w.heap.size + 1 ≤ w'.heap.size := by
  have := Below.size h
  simp at this
  omega
/-- A call that leaves what there was, where two cells of a box are held. -/
theorem held_two {K : Nat} {args : Array Value} {w : World} {u v : Value} {t : TypeId} {R : Ending → Prop} (hN : ∀ w, Calls Tryd.prog K args w fun e w' => R e ∧ Below w.heap.size w w') {W : World}
    (h : Boxed w (.cells #[u, v] t) W ∧ W.cell? ⟨w.heap.size, 0, none⟩ = some u ∧ W.cell? ⟨w.heap.size, 1, none⟩ = some v) :
    Calls Tryd.prog K args W fun e w' => R e ∧ Boxed w (.cells #[u, v] t) w' ∧ w'.cell? ⟨w.heap.size, 0, none⟩ = some u ∧ w'.cell? ⟨w.heap.size, 1, none⟩ = some v :=
  (hN W).mono fun _ _ ⟨h1, h2⟩ => ⟨h1, h.1.on h2, (h.1.on h2).row 0, (h.1.on h2).row 1⟩

theorem eg_text : S (textL [127, 126] [127]) = { data := #[40, 105, 51, 50, 44, 105, 54, 52, 41, 45, 62, 40, 105, 51, 50, 41] } := by decide
end Go.Proofs.YtdogjinjbnlgdaaDoor

/- imports.Right. -/
namespace Go.Proofs.YtdogjinjbnlgdaaDoor
open Go.RowKit
set_option linter.unusedVariables false
set_option maxRecDepth 100000

/-- A block that holds an import, in a world grown from B: what is held of it. -/
abbrev Bx (B : World) (b : Nat) (x : Im) (W : World) : Prop := (Whole W b 28 (imC x) ∧ Below B.heap.size B W) ∧
  W.cell? ⟨b, 0, none⟩ = some (.string (S x.mod)) ∧ W.cell? ⟨b, 1, none⟩ = some (.string (S x.nam)) ∧ W.cell? ⟨b, 2, none⟩ = some (.int .u8 x.kind.toNat) ∧ W.cell? ⟨b, 3, none⟩ = some (.int .u32 x.typ.toNat) ∧
    W.cell? ⟨b, 4, none⟩ = some (.int .u32 x.mn.toNat) ∧ W.cell? ⟨b, 5, none⟩ = some (.int .u32 x.mx.toNat) ∧ W.cell? ⟨b, 6, none⟩ = some (.bool x.bd) ∧ W.cell? ⟨b, 7, none⟩ = some (.int .u8 x.gt.toNat) ∧ W.cell? ⟨b, 8, none⟩ = some (.bool x.gm)
section
variable {B W W' : World} {b : Nat} {x : Im}
theorem bx_on (h : Bx B b x W) (hb : Below W.heap.size W W') : Bx B b x W' := ⟨⟨h.1.1.below hb, h.1.2.trans (hb.mono h.1.2.size)⟩, (h.1.1.below hb).im⟩
theorem bx_start (w : World) (x : Im) : Bx w w.heap.size x (w.alloc (.cells (imC x) 28)) := ⟨⟨Whole.made _ _ _, below_box _ _⟩, (Whole.made w 28 (imC x)).im⟩
theorem bx_bel (h : Bx B b x W) : Below B.heap.size B W := h.1.2
theorem bx_held {K : Nat} {args : Array Value} {R : Ending → Prop} (hN : ∀ w, Calls Tryd.prog K args w fun e w' => R e ∧ Below w.heap.size w w') (h : Bx B b x W) : Calls Tryd.prog K args W fun e w' => R e ∧ Bx B b x w' :=
  (hN W).mono fun _ _ ⟨h1, h2⟩ => ⟨h1, bx_on h h2⟩
end
/-- May it be? -/
def rZ (x : Im) : Int := if checkZ x.mod ≠ 0 then checkZ x.mod else if checkZ x.nam ≠ 0 then checkZ x.nam else if 3 < x.kind.toNat then 43 else
  if x ≠ ofK x ∨ (x.bd = false ∧ x.mx.toNat ≠ 0) then 1 else if x.kind.toNat = 3 then valueZ x.gt.toNat else 0
theorem nb_of {a : Nat} {b : Int} {c : Bool} (h : decide ((a : Int) ≠ b) = c) : ((a : Int) != b) = c := by rw [← h]; by_cases e : (a : Int) = b <;> simp [bne, e]
theorem zb_of {a : Int} {c : Bool} (h : decide (a ≠ 0) = c) : (a != 0) = c := by rw [← h]; by_cases e : a = 0 <;> simp [bne, e]
set_option maxHeartbeats 2000000 in
theorem iright_any (x : Im) (w : World) (h1 : x.mod.length ≤ 1000000) (h2 : x.nam.length ≤ 1000000) (hT : Tabs w) :
    Calls Tryd.prog 9 #[imV x] w fun e w' => e = .returned (.int .i64 (rZ x)) ∧ Below w.heap.size w w' := by
  have hT0 : Tabs (w.alloc (.cells (imC x) 28)) := hT.below (below_box _ _)
  have HC1 := Lib.hid (check_any x.mod _ h1 hT0)
  have HC2 := Lib.hid (fun W (hT : Tabs W) => check_any x.nam W h2 hT)
  have H0 := Lib.hid (bx_start w x)
  have HT := Lib.hid hT0
  clear hT hT0 h1 h2
  by_cases z1 : checkZ x.mod = 0
  · rw [z1] at HC1
    by_cases z2 : checkZ x.nam = 0
    · rw [z2] at HC2
      by_cases k3 : 3 < x.kind.toNat
      · have hr : rZ x = 43 := by unfold rZ; rw [if_neg (by simpa using z1), if_neg (by simpa using z2), if_pos k3]
        rw [hr]
        have d3 : decide ((3 : Int) < (x.kind.toNat : Int)) = true := decide_eq_true (by omega)
        clear hr k3 z1 z2
        go_enter Tryd.func9, Tryd.ntmps9
        go_wp2_with (go_at_call 30; go_must (first
          | ((with_reducible refine HC1.out.mono ?_); rintro e w1 ⟨rfl, hb⟩; have H1 := Lib.hid (bx_on H0.out hb); have HT1 := Lib.hid (HT.out.below hb); have c1 := H1.out.1.1.cell 1; simp only [List.getElem?_toArray, List.getElem?_cons_zero, List.getElem?_cons_succ] at c1; clear hb)
          | ((with_reducible refine (HC2.out _ HT1.out).mono ?_); rintro e w2 ⟨rfl, hb⟩; have H2 := Lib.hid (bx_on H1.out hb); have c2 := H2.out.1.1.cell 2; simp only [List.getElem?_toArray, List.getElem?_cons_zero, List.getElem?_cons_succ] at c2; clear hb c1)))
        go_ret
        exact ⟨rfl, bx_bel H2.out⟩
      · have d3 : decide ((3 : Int) < (x.kind.toNat : Int)) = false := decide_eq_false (by omega)
        have HO := Lib.hid (fun W => ofKind_any x W)
        by_cases ho : x = ofK x
        · have he : ∀ W, (binOp BinOp.neq 28 (imV x) (imV (ofK x))).run Tryd.prog W = .ok (.bool false) W := fun W => by rw [neq_im, decide_eq_true ho]; rfl
          have hrz : rZ x = if x.bd = false ∧ x.mx.toNat ≠ 0 then 1 else if x.kind.toNat = 3 then valueZ x.gt.toNat else 0 := by
            unfold rZ; rw [if_neg (by simpa using z1), if_neg (by simpa using z2), if_neg k3]; simp [← ho]
          rw [hrz]
          clear hrz
          generalize ofK x = y at *
          clear ho z1 z2
          by_cases hbd : x.bd = false
          · have HBD := Lib.hid hbd
            by_cases hmx : x.mx.toNat = 0
            · rw [if_neg (fun h => h.2 hmx)]
              clear hbd
              have d5 : ((x.mx.toNat : Int) != 0) = false := nb_of (by simp; omega)
              by_cases hk : x.kind.toNat = 3
              · rw [if_pos hk]
                have d6 : ((x.kind.toNat : Int) == 3) = true := be_of (by simp; omega)
                have HV := Lib.hid (fun W => value_any (x.gt.toNat : Int) W)
                clear hk hmx k3
                go_enter Tryd.func9, Tryd.ntmps9
                go_wp2_with (go_at_call 30; go_must (first
                  | ((with_reducible refine HC1.out.mono ?_); rintro e w1 ⟨rfl, hb⟩; have H1 := Lib.hid (bx_on H0.out hb); have HT1 := Lib.hid (HT.out.below hb); have c1 := H1.out.1.1.cell 1; simp only [List.getElem?_toArray, List.getElem?_cons_zero, List.getElem?_cons_succ] at c1; clear hb)
                  | ((with_reducible refine (HC2.out _ HT1.out).mono ?_); rintro e w2 ⟨rfl, hb⟩; have H2 := Lib.hid (bx_on H1.out hb); have c2 := H2.out.1.1.cell 2; simp only [List.getElem?_toArray, List.getElem?_cons_zero, List.getElem?_cons_succ] at c2; clear hb c1)))
                go_region_held3 (fun W => Bx w w.heap.size x W) (first | assumption | (exact bx_on H2.out (Below.refl _ _).drew))
                  (first | (go_at_call 31; ((with_reducible refine (bx_held HO.out ‹_›).mono ?_); rintro e w3 ⟨rfl, hk3⟩)))
                all_goals
                  obtain ⟨hk4, k0, k1, k2, k3', k4, k5, k6, k7, k8⟩ := hk3
                  have hbd := HBD.out
                  go_wp2_with (go_at_call 32; go_must ((with_reducible refine (HV.out _).mono ?_); rintro e w4 ⟨rfl, rfl⟩))
                  go_ret
                  exact ⟨rfl, hk4.2⟩
              · rw [if_neg hk]
                have d6 : ((x.kind.toNat : Int) == 3) = false := be_of (by simp; omega)
                clear hk hmx k3
                go_enter Tryd.func9, Tryd.ntmps9
                go_wp2_with (go_at_call 30; go_must (first
                  | ((with_reducible refine HC1.out.mono ?_); rintro e w1 ⟨rfl, hb⟩; have H1 := Lib.hid (bx_on H0.out hb); have HT1 := Lib.hid (HT.out.below hb); have c1 := H1.out.1.1.cell 1; simp only [List.getElem?_toArray, List.getElem?_cons_zero, List.getElem?_cons_succ] at c1; clear hb)
                  | ((with_reducible refine (HC2.out _ HT1.out).mono ?_); rintro e w2 ⟨rfl, hb⟩; have H2 := Lib.hid (bx_on H1.out hb); have c2 := H2.out.1.1.cell 2; simp only [List.getElem?_toArray, List.getElem?_cons_zero, List.getElem?_cons_succ] at c2; clear hb c1)))
                go_region_held3 (fun W => Bx w w.heap.size x W) (first | assumption | (exact bx_on H2.out (Below.refl _ _).drew))
                  (first | (go_at_call 31; ((with_reducible refine (bx_held HO.out ‹_›).mono ?_); rintro e w3 ⟨rfl, hk3⟩)))
                all_goals
                  obtain ⟨hk4, k0, k1, k2, k3', k4, k5, k6, k7, k8⟩ := hk3
                  have hbd := HBD.out
                  go_wp2
                  go_ret
                  exact ⟨rfl, hk4.2⟩
            · rw [if_pos ⟨hbd, hmx⟩]
              clear hbd
              have d5 : ((x.mx.toNat : Int) != 0) = true := nb_of (by simp; omega)
              clear hmx k3
              go_enter Tryd.func9, Tryd.ntmps9
              go_wp2_with (go_at_call 30; go_must (first
                | ((with_reducible refine HC1.out.mono ?_); rintro e w1 ⟨rfl, hb⟩; have H1 := Lib.hid (bx_on H0.out hb); have HT1 := Lib.hid (HT.out.below hb); have c1 := H1.out.1.1.cell 1; simp only [List.getElem?_toArray, List.getElem?_cons_zero, List.getElem?_cons_succ] at c1; clear hb)
                | ((with_reducible refine (HC2.out _ HT1.out).mono ?_); rintro e w2 ⟨rfl, hb⟩; have H2 := Lib.hid (bx_on H1.out hb); have c2 := H2.out.1.1.cell 2; simp only [List.getElem?_toArray, List.getElem?_cons_zero, List.getElem?_cons_succ] at c2; clear hb c1)))
              go_region_held3 (fun W => Bx w w.heap.size x W) (first | assumption | (exact bx_on H2.out (Below.refl _ _).drew))
                (first | (go_at_call 31; ((with_reducible refine (bx_held HO.out ‹_›).mono ?_); rintro e w3 ⟨rfl, hk3⟩)))
              all_goals
                obtain ⟨hk4, k0, k1, k2, k3', k4, k5, k6, k7, k8⟩ := hk3
                have hbd := HBD.out
                go_wp2
                go_ret
                exact ⟨rfl, hk4.2⟩
          · have hbt : x.bd = true := by simpa using hbd
            rw [if_neg (fun h => hbd h.1)]
            have HBD := Lib.hid hbt
            clear hbd hbt
            by_cases hk : x.kind.toNat = 3
            · rw [if_pos hk]
              have d6 : ((x.kind.toNat : Int) == 3) = true := be_of (by simp; omega)
              have HV := Lib.hid (fun W => value_any (x.gt.toNat : Int) W)
              clear hk k3
              go_enter Tryd.func9, Tryd.ntmps9
              go_wp2_with (go_at_call 30; go_must (first
                | ((with_reducible refine HC1.out.mono ?_); rintro e w1 ⟨rfl, hb⟩; have H1 := Lib.hid (bx_on H0.out hb); have HT1 := Lib.hid (HT.out.below hb); have c1 := H1.out.1.1.cell 1; simp only [List.getElem?_toArray, List.getElem?_cons_zero, List.getElem?_cons_succ] at c1; clear hb)
                | ((with_reducible refine (HC2.out _ HT1.out).mono ?_); rintro e w2 ⟨rfl, hb⟩; have H2 := Lib.hid (bx_on H1.out hb); have c2 := H2.out.1.1.cell 2; simp only [List.getElem?_toArray, List.getElem?_cons_zero, List.getElem?_cons_succ] at c2; clear hb c1)))
              go_region_held3 (fun W => Bx w w.heap.size x W) (first | assumption | (exact bx_on H2.out (Below.refl _ _).drew))
                (first | (go_at_call 31; ((with_reducible refine (bx_held HO.out ‹_›).mono ?_); rintro e w3 ⟨rfl, hk3⟩)))
              all_goals
                obtain ⟨hk4, k0, k1, k2, k3', k4, k5, k6, k7, k8⟩ := hk3
                have hbd := HBD.out
                go_wp2_with (go_at_call 32; go_must ((with_reducible refine (HV.out _).mono ?_); rintro e w4 ⟨rfl, rfl⟩))
                go_ret
                exact ⟨rfl, hk4.2⟩
            · rw [if_neg hk]
              have d6 : ((x.kind.toNat : Int) == 3) = false := be_of (by simp; omega)
              clear hk k3
              go_enter Tryd.func9, Tryd.ntmps9
              go_wp2_with (go_at_call 30; go_must (first
                | ((with_reducible refine HC1.out.mono ?_); rintro e w1 ⟨rfl, hb⟩; have H1 := Lib.hid (bx_on H0.out hb); have HT1 := Lib.hid (HT.out.below hb); have c1 := H1.out.1.1.cell 1; simp only [List.getElem?_toArray, List.getElem?_cons_zero, List.getElem?_cons_succ] at c1; clear hb)
                | ((with_reducible refine (HC2.out _ HT1.out).mono ?_); rintro e w2 ⟨rfl, hb⟩; have H2 := Lib.hid (bx_on H1.out hb); have c2 := H2.out.1.1.cell 2; simp only [List.getElem?_toArray, List.getElem?_cons_zero, List.getElem?_cons_succ] at c2; clear hb c1)))
              go_region_held3 (fun W => Bx w w.heap.size x W) (first | assumption | (exact bx_on H2.out (Below.refl _ _).drew))
                (first | (go_at_call 31; ((with_reducible refine (bx_held HO.out ‹_›).mono ?_); rintro e w3 ⟨rfl, hk3⟩)))
              all_goals
                obtain ⟨hk4, k0, k1, k2, k3', k4, k5, k6, k7, k8⟩ := hk3
                have hbd := HBD.out
                go_wp2
                go_ret
                exact ⟨rfl, hk4.2⟩
        · have he : ∀ W, (binOp BinOp.neq 28 (imV x) (imV (ofK x))).run Tryd.prog W = .ok (.bool true) W := fun W => by rw [neq_im, decide_eq_false ho]; rfl
          have hr : rZ x = 1 := by unfold rZ; rw [if_neg (by simpa using z1), if_neg (by simpa using z2), if_neg k3, if_pos (.inl ho)]
          rw [hr]
          clear hr
          generalize ofK x = y at *
          clear ho z1 z2 k3
          go_enter Tryd.func9, Tryd.ntmps9
          go_wp2_with (go_at_call 30; go_must (first
            | ((with_reducible refine HC1.out.mono ?_); rintro e w1 ⟨rfl, hb⟩; have H1 := Lib.hid (bx_on H0.out hb); have HT1 := Lib.hid (HT.out.below hb); have c1 := H1.out.1.1.cell 1; simp only [List.getElem?_toArray, List.getElem?_cons_zero, List.getElem?_cons_succ] at c1; clear hb)
            | ((with_reducible refine (HC2.out _ HT1.out).mono ?_); rintro e w2 ⟨rfl, hb⟩; have H2 := Lib.hid (bx_on H1.out hb); have c2 := H2.out.1.1.cell 2; simp only [List.getElem?_toArray, List.getElem?_cons_zero, List.getElem?_cons_succ] at c2; clear hb c1)))
          go_region_held3 (fun W => Bx w w.heap.size x W) (first | assumption | (exact bx_on H2.out (Below.refl _ _).drew))
            (first | (go_at_call 31; ((with_reducible refine (bx_held HO.out ‹_›).mono ?_); rintro e w3 ⟨rfl, hk3⟩)))
          all_goals
            go_wp2
            go_ret
            exact ⟨rfl, bx_bel (by assumption)⟩
    · have hr : rZ x = checkZ x.nam := by unfold rZ; rw [if_neg (by simpa using z1), if_pos z2]
      rw [hr]
      have d3 : (checkZ x.nam != 0) = true := zb_of (by simpa using z2)
      clear hr z1 z2
      generalize checkZ x.nam = z at *
      go_enter Tryd.func9, Tryd.ntmps9
      go_wp2_with (go_at_call 30; go_must (first
          | ((with_reducible refine HC1.out.mono ?_); rintro e w1 ⟨rfl, hb⟩; have H1 := Lib.hid (bx_on H0.out hb); have HT1 := Lib.hid (HT.out.below hb); have c1 := H1.out.1.1.cell 1; simp only [List.getElem?_toArray, List.getElem?_cons_zero, List.getElem?_cons_succ] at c1; clear hb)
          | ((with_reducible refine (HC2.out _ HT1.out).mono ?_); rintro e w2 ⟨rfl, hb⟩; have H2 := Lib.hid (bx_on H1.out hb); clear hb c1)))
      go_ret
      exact ⟨rfl, bx_bel H2.out⟩
  · have hr : rZ x = checkZ x.mod := by unfold rZ; rw [if_pos z1]
    rw [hr]
    have d3 : (checkZ x.mod != 0) = true := zb_of (by simpa using z1)
    clear hr z1 HC2
    generalize checkZ x.mod = z at *
    go_enter Tryd.func9, Tryd.ntmps9
    go_wp2_with (go_at_call 30; go_must (first
          | ((with_reducible refine HC1.out.mono ?_); rintro e w1 ⟨rfl, hb⟩; have H1 := Lib.hid (bx_on H0.out hb); clear hb)))
    go_ret
    exact ⟨rfl, bx_bel H1.out⟩
end Go.Proofs.YtdogjinjbnlgdaaDoor

/- The contracts of package abort: Now, Unless, stopOf, call, Out. -/
namespace Go.Proofs.YtdogjinjbnlgdaaDoor
set_option linter.unusedVariables false
open Go.RowKit

/-- The panic with which a Stop aborts. -/
def stopP (c a : Int) : List PanicEntry := [{ v := .iface 39 (.agg #[.int .i64 c, .int .i64 a]), recovered := false }]

/-- How a step ends: with code 0 it returns, else it panics with its Stop. -/
def Ended (c a : Int) (e : Ending) : Prop := (c = 0 ∧ a = 0 ∧ e = .returned (.tuple #[])) ∨ (¬ c = 0 ∧ e = .panicked (stopP c a))

theorem now_any (c a : Int) (w : World) :
    Calls Tryd.prog 75 #[.int .i64 c, .int .i64 a] w fun e w' => e = .panicked (stopP c a) ∧ w' = w := by
  go_enter Tryd.func75, Tryd.ntmps75
  go_wp2
  exact ⟨rfl, rfl, rfl⟩

theorem unless_true (c a : Int) (w : World) :
    Calls Tryd.prog 61 #[.bool true, .int .i64 c, .int .i64 a] w fun e w' => e = .returned (.tuple #[]) ∧ w' = w := by
  go_enter Tryd.func61, Tryd.ntmps61
  go_wp2_with fail
  go_end0
  exact ⟨rfl, rfl⟩

theorem unless_false (c a : Int) (w : World) :
    Calls Tryd.prog 61 #[.bool false, .int .i64 c, .int .i64 a] w fun e w' => e = .panicked (stopP c a) ∧ w' = w := by
  go_enter Tryd.func61, Tryd.ntmps61
  go_wp2_with (go_at_call 75; refine (now_any _ _ _).mono ?_; rintro e w' ⟨rfl, rfl⟩)
  exact ⟨rfl, rfl, rfl⟩

theorem stopOf_any (c a : Int) (w : World) :
    Calls Tryd.prog 57 #[.iface 39 (.agg #[.int .i64 c, .int .i64 a])] w fun e w' => e = .returned (.agg #[.int .i64 c, .int .i64 a]) ∧ Below w.heap.size w w' := by
  have hta : ∀ w : World, (Instr.typeAssert (Value.iface 39 (Value.agg #[Value.int IntKind.i64 c, Value.int IntKind.i64 a])) 20 39 true).run Tryd.prog w = .ok (.tuple #[.agg #[Value.int IntKind.i64 c, Value.int IntKind.i64 a], .bool true]) w := fun _ => by kernel_rfl
  go_enter Tryd.func57, Tryd.ntmps57
  go_wp2
  exact bodyPost_ret (v := .agg #[.int .i64 c, .int .i64 a]) (by simp [results, Tryd.results57, go_sem]) rfl ⟨rfl, ((Below.refl _ _).alloc (Nat.le_refl _) _).alloc (by simp) _⟩

theorem call_any (g : FuncId) (cap : Array Value) (w : World) (R : Ending → World → Prop) (hcf : ∀ w : World, (callFunc g cap).run Tryd.prog w = .ok (.enter g cap) w) (h : Calls Tryd.prog g cap w R)
    (hR : ∀ v w', R (.returned v) w' → R (.returned (.tuple #[])) w') (hO : ∀ w', R .outgrown w' → False) :
    Calls Tryd.prog 58 #[.func (.func g) #[] cap] w R := by
  have hnil : ∀ w : World, (binOp BinOp.neq 1 (.func (.func g) #[] cap) .nilFunc).run Tryd.prog w = .ok (.bool true) w := fun _ => by kernel_rfl
  go_enter Tryd.func58, Tryd.ntmps58
  go_wp2_with fail
  refine h.mono ?_
  intro e w' hr
  cases e with
  | returned v =>
    have hr2 := hR v w' hr
    clear hr hR h
    go_wp2_with fail
    exact bodyPost_ret (v := .tuple #[]) (by simp [results, Tryd.results58, go_sem]) rfl hr2
  | panicked ch => exact ⟨rfl, hr⟩
  | outgrown => exact (hO _ hr).elim

theorem catch_panicking (b : Nat) (c a x y : Int) (older : List PanicEntry) (w : World) (hb : Whole w b 39 #[.int .i64 x, .int .i64 y]) :
    CallsD Tryd.prog 56 #[.pointer (some ⟨b, 0, none⟩)] (.panicking ({ v := .iface 39 (.agg #[.int .i64 c, .int .i64 a]), recovered := false } :: older)) w fun e u' w' =>
      e = .returned (.tuple #[]) ∧ u' = .panicking ({ v := .iface 39 (.agg #[.int .i64 c, .int .i64 a]), recovered := true } :: older) ∧ Whole w' b 39 #[.int .i64 c, .int .i64 a] ∧ w.grownBy w' (some b) := by
  refine callsD_of_wpS Tryd.func56 rfl fun c₀ cs hu => ?_
  apply wpS_seq
  apply wpS_region
  simp [wpOpsS, go_sem, recoverD, hu, Tryd.ntmps56, Exit.thenS]
  apply wpS_seq
  apply wpS_region
  simp [wpOpsS, go_sem, Exit.thenS]
  refine wpS_cond (t := true) (by simp [Act.eval, Array.replicate]) ?_
  simp only [if_true]
  apply wpS_region
  simp [wpOpsS, go_sem]
  refine (stopOf_any c a w).mono ?_
  rintro e w1 ⟨rfl, hb1⟩
  have hw1 := hb.below hb1
  have h0 := hw1.cell 0
  have h1 := hw1.cell 1
  have f0 := hw1.frozen 0
  have f1 := hw1.frozen 1
  simp [go_sem, h0, h1, f0, f1]
  obtain ⟨hW, hG⟩ := two_put (u := .int .i64 c) (v := .int .i64 a) hb hb1
  clear h0 h1 f0 f1 hw1 hb1 hb
  refine ⟨rfl, .panicking ({ v := .iface 39 (.agg #[.int .i64 c, .int .i64 a]), recovered := true } :: older), rfl, .tuple #[], ?_, rfl, rfl, hW, hG⟩
  simp [results, Tryd.results56]

theorem catch_idle (p : Addr) (w : World) :
    CallsD Tryd.prog 56 #[.pointer (some p)] .returning w fun e u' w' => e = .returned (.tuple #[]) ∧ u' = .returning ∧ w' = w := by
  refine callsD_of_wpS Tryd.func56 rfl fun c₀ cs hu => ?_
  apply wpS_seq
  apply wpS_region
  simp [wpOpsS, go_sem, recoverD, hu, Tryd.ntmps56, Exit.thenS]
  apply wpS_seq
  apply wpS_region
  simp [wpOpsS, go_sem, Exit.thenS]
  refine wpS_cond (t := false) (by simp [Act.eval, Array.replicate]) ?_
  simp only [Bool.false_eq_true, if_false]
  refine wpS_of_wp (wp_skip ?_)
  cases c₀
  simp_all [bodyPostS, results, Tryd.results56]

set_option maxHeartbeats 400000 in
/-- Out of a function that ends by returning, or with a Stop. -/
theorem out_any (g : FuncId) (cap : Array Value) (c a : Int) (w : World) (S : World → Prop) (hcf : ∀ w : World, (callFunc g cap).run Tryd.prog w = .ok (.enter g cap) w)
    (h : Calls Tryd.prog g cap (w.alloc (.cells #[.int .i64 0, .int .i64 0] 39)) (fun e w' => Ended c a e ∧ S w'))
    (hS : ∀ w', S w' → Whole w' w.heap.size 39 #[.int .i64 0, .int .i64 0]) :
    Calls Tryd.prog 34 #[.func (.func g) #[] cap] w fun e w' => e = .returned (.agg #[.int .i64 c, .int .i64 a]) ∧ ∃ w1, S w1 ∧ w1.grownBy w' (some w.heap.size) := by
  have hmf : ∀ (fn : Fn) (first cap : Array Value) (w : World), (Instr.makeFunc fn first cap).run Tryd.prog w = .ok (.func fn first cap) w := fun _ _ _ _ => rfl
  go_enter_defers Tryd.func34, Tryd.ntmps34
  go_wp2_with (go_at_call 58; refine (call_any g cap _ _ hcf h ?_ ?_).mono ?_)
  · rintro v w' ⟨he, hs⟩
    rcases he with ⟨h0, h1, _⟩ | ⟨_, h1⟩
    · exact ⟨.inl ⟨h0, h1, rfl⟩, hs⟩
    · cases h1
  · rintro w' ⟨he, _⟩
    rcases he with ⟨_, _, h1⟩ | ⟨_, h1⟩ <;> cases h1
  · rintro e w1 ⟨he, hs⟩
    have hw1 := hS _ hs
    have h0 := hw1.cell 0
    have h1 := hw1.cell 1
    have f0 := hw1.frozen 0
    have f1 := hw1.frozen 1
    clear h hS
    rcases he with ⟨rfl, rfl, rfl⟩ | ⟨hc, rfl⟩
    · simp at h0 h1
      go_wp2_with fail
      refine leaves_cons (f := 56) (args := #[.pointer (some ⟨w.heap.size, 0, none⟩)]) (by simp) (by simp [go_sem]) ?_
      refine (catch_idle ⟨w.heap.size, 0, none⟩ _).mono ?_
      rintro e u' w2 ⟨rfl, rfl, rfl⟩
      simp [Leaves, settle, results, Tryd.results34, go_sem, h0, h1]
      have g1 : w1.grownBy (w1.setCell ⟨w.heap.size, 0, none⟩ (.int .i64 0)) (some w.heap.size) := gb_put (p := ⟨w.heap.size, 0, none⟩) (gb_refl w1 _) (.inl rfl) _
      exact ⟨w1, hs, gb_put (p := ⟨w.heap.size, 1, none⟩) g1 (.inl rfl) _⟩
    · have H := Lib.hid hc
      clear hc
      simp at h0 h1
      go_wp2_with fail
      refine leaves_cons (f := 56) (args := #[.pointer (some ⟨w.heap.size, 0, none⟩)]) (by simp) (by simp [go_sem]) ?_
      refine (catch_panicking w.heap.size c a 0 0 [] _ hw1).mono ?_
      rintro e u' w2 ⟨rfl, rfl, hw2, hg2⟩
      have k0 := hw2.cell 0
      have k1 := hw2.cell 1
      simp at k0 k1
      simp [Leaves, settle, results, Tryd.results34, go_sem, k0, k1]
      exact ⟨w1, hs, hg2⟩

end Go.Proofs.YtdogjinjbnlgdaaDoor

/- A block of one, two, four cells, all written. -/
namespace Go.Proofs.YtdogjinjbnlgdaaDoor
open Go.RowKit
set_option linter.unusedVariables false

theorem put1 {w : World} {b : Nat} {t : TypeId} {x0 u0 : Value} (hb : Whole w b t #[x0]) : Whole (w.setCell ⟨b, 0, none⟩ u0) b t #[u0] ∧ w.grownBy (w.setCell ⟨b, 0, none⟩ u0) (some b) := ⟨(hb.put 0 u0), (gb_put (p := ⟨b, 0, none⟩) (gb_refl w _) (.inl rfl) u0)⟩
theorem put2 {w : World} {b : Nat} {t : TypeId} {x0 x1 u0 u1 : Value} (hb : Whole w b t #[x0, x1]) : Whole ((w.setCell ⟨b, 0, none⟩ u0).setCell ⟨b, 1, none⟩ u1) b t #[u0, u1] ∧ w.grownBy ((w.setCell ⟨b, 0, none⟩ u0).setCell ⟨b, 1, none⟩ u1) (some b) := ⟨((hb.put 0 u0).put 1 u1), (gb_put (p := ⟨b, 1, none⟩) (gb_put (p := ⟨b, 0, none⟩) (gb_refl w _) (.inl rfl) u0) (.inl rfl) u1)⟩
theorem put4 {w : World} {b : Nat} {t : TypeId} {x0 x1 x2 x3 u0 u1 u2 u3 : Value} (hb : Whole w b t #[x0, x1, x2, x3]) : Whole ((((w.setCell ⟨b, 0, none⟩ u0).setCell ⟨b, 1, none⟩ u1).setCell ⟨b, 2, none⟩ u2).setCell ⟨b, 3, none⟩ u3) b t #[u0, u1, u2, u3] ∧ w.grownBy ((((w.setCell ⟨b, 0, none⟩ u0).setCell ⟨b, 1, none⟩ u1).setCell ⟨b, 2, none⟩ u2).setCell ⟨b, 3, none⟩ u3) (some b) := ⟨((((hb.put 0 u0).put 1 u1).put 2 u2).put 3 u3), (gb_put (p := ⟨b, 3, none⟩) (gb_put (p := ⟨b, 2, none⟩) (gb_put (p := ⟨b, 1, none⟩) (gb_put (p := ⟨b, 0, none⟩) (gb_refl w _) (.inl rfl) u0) (.inl rfl) u1) (.inl rfl) u2) (.inl rfl) u3)⟩
end Go.Proofs.YtdogjinjbnlgdaaDoor
