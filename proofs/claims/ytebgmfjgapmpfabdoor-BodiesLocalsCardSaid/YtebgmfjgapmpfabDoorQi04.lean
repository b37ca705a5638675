/- atMost, Count, flag, tag, ValType. -/
import Derived.Test.YtebgmfjgapmpfabDoorQi03
import Derived.Laws.MakeOwn
import Derived.Laws.AppendOwnNone
import Derived.Test.YtebgmfjgapmpfabDoorQi01
import Derived.Lib.AppendZerosOnto
import Derived.Lib.AppendZeros
import Derived.Deep.DeepAppendWide
import Derived.LoopTactic
import Derived.Test.YtebgmfjgapmpfabDoorQi02
namespace Go.Proofs.YtebgmfjgapmpfabDoor
set_option maxRecDepth 100000
open Go.RowKit
set_option linter.unusedVariables false

abbrev encI (v : Int) : Value := .int .i64 v
abbrev encO (v : Bool) : Value := .bool v
abbrev encU (v : Unit) : Value := .tuple #[]
theorem Res.bind_ok {α β : Type} (v : α) (k : Nat) (f : α → Nat → Res β) : (Res.ok v k).bind f = f v k := rfl
theorem Res.bind_err {α β : Type} (c a : Int) (f : α → Nat → Res β) : (Res.err (α := α) c a).bind f = .err c a := rfl

/-- An index that is at most m. -/
noncomputable def atMostR (l : List UInt8) (k : Nat) (m c : Int) : Res Int := (indexR l k).bind fun v k' => if v ≤ m then .ok v k' else .err c k
theorem atMost_scan {w : World} {p : Nat} {l : List UInt8} {k : Nat} (h : Sc w p l k) (m c : Int) :
    Calls Tryd.prog 122 #[.pointer (some ⟨p, 0, none⟩), .int .u32 m, .int .i64 c] w (Did encI p l w (atMostR l k m c)) := by
  have hN := index_scan h
  have c1 := h.at
  unfold atMostR
  cases hr : indexR l k with
  | ok v k' =>
    rw [hr] at hN
    rw [Res.bind_ok]
    have HN := Lib.hid hN
    obtain ⟨hk, v0, v1⟩ := uintR_ok (show uintR l k 32 = .ok v k' from hr)
    have v2 : v < 4294967296 := v1
    have hw : IntKind.i64.wrap v = v := by rw [IntKind.wrap_i64]; omega
    clear hN hr h v1
    by_cases hm : v ≤ m
    · rw [if_pos hm]
      have HM := Lib.hid hm
      have d1 : decide (v ≤ m) = true := by simpa using hm
      go_enter Tryd.func122, Tryd.ntmps122
      go_wp2_with (first
        | (go_at_call 53; go_must ((with_reducible refine HN.out.mono ?_); rintro e w1 ⟨rfl, hs, hg⟩; have HS := Lib.hid hs; have HG := Lib.hid hg; clear hs hg))
        | (go_at_call 55; go_must ((with_reducible refine (unlessT _ _ _).mono ?_); rintro e w' ⟨rfl, rfl⟩)))
      go_ret
      exact ⟨rfl, HS.out, HG.out⟩
    · rw [if_neg hm]
      have HM := Lib.hid hm
      have d1 : decide (v ≤ m) = false := by simpa using hm
      clear hm
      go_enter Tryd.func122, Tryd.ntmps122
      go_wp2_with (first
        | (go_at_call 53; go_must ((with_reducible refine HN.out.mono ?_); rintro e w1 ⟨rfl, hs, hg⟩; have HS := Lib.hid hs; have HG := Lib.hid hg; clear hs hg))
        | (go_at_call 55; go_must ((with_reducible refine (unlessF _ _ _).mono ?_); rintro e w' ⟨rfl, rfl⟩)))
      exact ⟨rfl, rfl, HG.out⟩
  | err c2 a =>
    rw [hr] at hN
    rw [Res.bind_err]
    have HN := Lib.hid hN
    clear hN hr h
    go_enter Tryd.func122, Tryd.ntmps122
    go_wp2_with (go_at_call 53; go_must ((with_reducible refine HN.out.mono ?_); rintro e w1 ⟨rfl, hg⟩; have HG := Lib.hid hg; clear hg))
    exact ⟨rfl, rfl, HG.out⟩
/-- How many things follow. -/
noncomputable def countR (l : List UInt8) (k : Nat) : Res Int := atMostR l k 10000 29
theorem count_scan {w : World} {p : Nat} {l : List UInt8} {k : Nat} (h : Sc w p l k) :
    Calls Tryd.prog 120 #[.pointer (some ⟨p, 0, none⟩)] w (Did encI p l w (countR l k)) := by
  have hN := atMost_scan h 10000 29
  unfold countR
  cases hr : atMostR l k 10000 29 with
  | ok v k' =>
    rw [hr] at hN
    have HN := Lib.hid hN
    clear hN hr h
    go_enter Tryd.func120, Tryd.ntmps120
    go_wp2_with (go_at_call 122; go_must ((with_reducible refine HN.out.mono ?_); rintro e w1 ⟨rfl, hs, hg⟩; have HS := Lib.hid hs; have HG := Lib.hid hg; clear hs hg))
    go_ret
    exact ⟨rfl, HS.out, HG.out⟩
  | err c2 a =>
    rw [hr] at hN
    have HN := Lib.hid hN
    clear hN hr h
    go_enter Tryd.func120, Tryd.ntmps120
    go_wp2_with (go_at_call 122; go_must ((with_reducible refine HN.out.mono ?_); rintro e w1 ⟨rfl, hg⟩; have HG := Lib.hid hg; clear hg))
    exact ⟨rfl, rfl, HG.out⟩

/-- A byte that is 0 or 1. -/
def flagR (l : List UInt8) (k : Nat) : Res Bool := (byteR l k).bind fun c k' => if (c.toNat : Int) ≤ 1 then .ok ((c.toNat : Int) == 1) k' else .err 10 k
/-- A byte that can only be one. -/
def tagR (l : List UInt8) (k : Nat) (t : Int) : Res Unit := (byteR l k).bind fun c k' => if (c.toNat : Int) = t then .ok () k' else .err 7 k
/-- A type of values. -/
def valR (l : List UInt8) (k : Nat) : Res UInt8 := (byteR l k).bind fun c k' => if valueZ c.toNat = 0 then .ok c k' else .err (valueZ c.toNat) k
end Go.Proofs.YtebgmfjgapmpfabDoor

/- valTypes. -/
namespace Go.Proofs.YtebgmfjgapmpfabDoor
set_option maxRecDepth 100000
open Go.RowKit
set_option linter.unusedVariables false

abbrev encS (t : List UInt8) : Value := .string (S t)
/-- n more types, behind those that were read. -/
def valsK (l : List UInt8) : Nat → Nat → List UInt8 → Res (List UInt8)
  | 0, k, acc => .ok acc k
  | n + 1, k, acc => (valR l k).bind fun c k' => valsK l n k' (acc ++ [c])
/-- How many types there are, and these. -/
noncomputable def valsR (l : List UInt8) (k : Nat) : Res (List UInt8) := (countR l k).bind fun n k' => valsK l n.toNat k' []
theorem valsK_more {l : List UInt8} {n i k : Nat} {acc : List UInt8} (h : i < n) : valsK l (n - i) k acc = (valR l k).bind fun c k' => valsK l (n - (i + 1)) k' (acc ++ [c]) := by
  rw [show n - i = n - (i + 1) + 1 by omega]
  rfl
theorem countR_ok {l : List UInt8} {k : Nat} {v : Int} {k' : Nat} (h : countR l k = .ok v k') : 0 ≤ v ∧ v ≤ 10000 := by
  unfold countR atMostR at h
  cases hr : indexR l k with
  | ok u q =>
    rw [hr, Res.bind_ok] at h
    have hb := uintR_ok (show uintR l k 32 = .ok u q from hr)
    by_cases hm : u ≤ 10000
    · rw [if_pos hm] at h; injection h with h1 h2; omega
    · rw [if_neg hm] at h; cases h
  | err c a => rw [hr, Res.bind_err] at h; cases h

/-- Cells that are made, of one kind. -/
theorem made_one (v : Value) (n : Nat) : madeCells #[v] n = Array.replicate n v := by
  apply Array.ext
  · simp [madeCells]
  · intro i h1 h2
    simp [madeCells, Nat.mod_one]
theorem make_bytes (n : Nat) (hn : n ≤ 100000) (w : World) : (Instr.makeSlice 41 (.int .i64 (n : Int)) (.int .i64 (n : Int))).run Tryd.prog w = .ok (.slice (some ⟨w.heap.size, 0, none⟩) n n) (w.alloc (.cells (List.replicate n (.int .u8 0)).toArray 5)) := by
  obtain ⟨i0, hi0, hz0, hz1, hz2⟩ := info_parts infoB
  have hr := run_make (P := Tryd.prog) w 41 5 i0 _ Tryd.underlying41 hi0 hz0 .i64 .i64 (n : Int) (n : Int) (by omega) (Int.le_refl _) (by rw [hz2]; omega) (by omega)
  rw [hr, hz1]
  have e : (Value.int IntKind.u8 0).cells = #[.int .u8 0] := rfl
  rw [e, made_one]
  simp
/-- A block of n bytes, of which the first are written. -/
def Part (w : World) (g n : Nat) (acc : List UInt8) : Prop := Whole w g 5 (cells (nums acc) ++ List.replicate (n - acc.length) (Value.int .u8 0)).toArray ∧ acc.length ≤ n
theorem Part.start (w : World) (n : Nat) : Part (w.alloc (.cells (List.replicate n (.int .u8 0)).toArray 5)) w.heap.size n [] := ⟨Whole.made _ _ _, Nat.zero_le _⟩
theorem Part.put {w : World} {g n : Nat} {acc : List UInt8} (h : Part w g n acc) (c : UInt8) (hlt : acc.length < n) : Part (w.setCell ⟨g, acc.length, none⟩ (.int .u8 c.toNat)) g n (acc ++ [c]) := by
  refine ⟨?_, by simp; omega⟩
  have h1 := h.1.put acc.length (.int .u8 c.toNat)
  have e : ((cells (nums acc) ++ List.replicate (n - acc.length) (Value.int .u8 0)).toArray.setIfInBounds acc.length (.int .u8 c.toNat)) = (cells (nums (acc ++ [c])) ++ List.replicate (n - (acc ++ [c]).length) (Value.int .u8 0)).toArray := by
    have hl : (cells (nums acc)).length = acc.length := by rw [cells_length, nums_length]
    have hr : List.replicate (n - acc.length) (Value.int .u8 0) = .int .u8 0 :: List.replicate (n - (acc.length + 1)) (.int .u8 0) := by
      rw [show n - acc.length = n - (acc.length + 1) + 1 by omega]; rfl
    rw [hr, List.setIfInBounds_toArray, List.set_append_right _ _ (by omega), hl, Nat.sub_self, List.set_cons_zero, nums_append]
    simp [cells, nums]
  rw [e] at h1
  exact h1
theorem Part.row {w : World} {g n : Nat} {acc : List UInt8} (h : Part w g n acc) (hn : acc.length = n) (base : Nat) (hb : base ≤ g) (hm : n ≤ 100000) : Row w base (.slice (some ⟨g, 0, none⟩) n n) acc := by
  subst hn
  have h1 := h.1
  rw [Nat.sub_self, List.replicate_zero, List.append_nil] at h1
  have hl : (cells (nums acc)).length = acc.length := by rw [cells_length, nums_length]
  exact ⟨by omega, .inr ⟨g, acc.length, (cells (nums acc)).toArray, rfl, hb, h1, Nat.le_refl _, by unfold maxLen; omega, by simp [hl], by rw [List.take_of_length_le (by simp [hl])]⟩⟩
theorem Part.cell {w : World} {g n : Nat} {acc : List UInt8} (h : Part w g n acc) (hlt : acc.length < n) : ∃ u, w.cell? ⟨g, acc.length, none⟩ = some u := by
  have hl : (cells (nums acc)).length = acc.length := by rw [cells_length, nums_length]
  exact ⟨_, (h.1.cell acc.length).trans (Array.getElem?_eq_getElem (by simp [hl]; omega))⟩
end Go.Proofs.YtebgmfjgapmpfabDoor

/- FuncType. -/
namespace Go.Proofs.YtebgmfjgapmpfabDoor
set_option maxRecDepth 100000
open Go.RowKit
set_option linter.unusedVariables false

abbrev encF (x : List UInt8 × List UInt8) : Value := .agg #[.string (S x.1), .string (S x.2)]
/-- A function's type. -/
noncomputable def funcR (l : List UInt8) (k : Nat) : Res (List UInt8 × List UInt8) :=
  (tagR l k 96).bind fun _ k1 => (valsR l k1).bind fun a k2 => (valsR l k2).bind fun b k3 => if funcZ a b = 0 then .ok (a, b) k3 else .err (funcZ a b) k
theorem valsK_len {l : List UInt8} : ∀ (n k : Nat) (acc a : List UInt8) (q : Nat), valsK l n k acc = .ok a q → a.length = acc.length + n
  | 0, k, acc, a, q, h => by injection h with h1 h2; rw [← h1]; rfl
  | n + 1, k, acc, a, q, h => by
    unfold valsK at h
    cases hc : valR l k with
    | ok c q2 =>
      rw [hc, Res.bind_ok] at h
      have := valsK_len n q2 (acc ++ [c]) a q h
      simp at this; omega
    | err c x => rw [hc, Res.bind_err] at h; cases h
theorem valsR_len {l : List UInt8} {k : Nat} {a : List UInt8} {q : Nat} (h : valsR l k = .ok a q) : a.length ≤ 10000 := by
  unfold valsR at h
  cases hc : countR l k with
  | ok v q2 =>
    rw [hc, Res.bind_ok] at h
    have := countR_ok hc
    have := valsK_len _ _ _ _ _ h
    simp at this; omega
  | err c x => rw [hc, Res.bind_err] at h; cases h

end Go.Proofs.YtebgmfjgapmpfabDoor

/- Limits, Global. -/
namespace Go.Proofs.YtebgmfjgapmpfabDoor
set_option maxRecDepth 100000
open Go.RowKit
set_option linter.unusedVariables false

/-- Three cells of one block, all written. -/
theorem three_put {w : World} {b : Nat} {t : TypeId} {x y z u v s : Value} (hb : Whole w b t #[x, y, z]) :
    Whole (((w.setCell ⟨b, 0, none⟩ u).setCell ⟨b, 1, none⟩ v).setCell ⟨b, 2, none⟩ s) b t #[u, v, s] ∧ w.grownBy (((w.setCell ⟨b, 0, none⟩ u).setCell ⟨b, 1, none⟩ v).setCell ⟨b, 2, none⟩ s) (some b) :=
  ⟨((hb.put 0 u).put 1 v).put 2 s, gb_put (p := ⟨b, 2, none⟩) (gb_put (p := ⟨b, 1, none⟩) (gb_put (p := ⟨b, 0, none⟩) (gb_refl w _) (.inl rfl) u) (.inl rfl) v) (.inl rfl) s⟩
abbrev encT (x : Int × Int × Bool) : Value := .agg #[.int .u32 x.1, .int .u32 x.2.1, .bool x.2.2]
/-- Limits. -/
noncomputable def limR (l : List UInt8) (k : Nat) : Res (Int × Int × Bool) :=
  (flagR l k).bind fun b k1 => (indexR l k1).bind fun mn k2 => if b then (indexR l k2).bind fun mx k3 => .ok (mn, mx, true) k3 else .ok (mn, 0, false) k2

abbrev encGl (x : UInt8 × Bool) : Value := .agg #[.int .u8 x.1.toNat, .bool x.2]
/-- A global's type. -/
def globR (l : List UInt8) (k : Nat) : Res (UInt8 × Bool) := (valR l k).bind fun t k1 => (flagR l k1).bind fun m k2 => .ok (t, m) k2
end Go.Proofs.YtebgmfjgapmpfabDoor

/- Plain mathematics: the bits of a varint's number, with and without a sign; when it fits. -/
namespace Go.Proofs.YtebgmfjgapmpfabDoor
open Go.RowKit
set_option linter.unusedVariables false

theorem bit_step (d x : Int) (i : Nat) : bit (d % 128 + 128 * x) (7 + i) = bit x i := by
  rw [← bit_div]
  have e : (d % 128 + 128 * x) / 2 ^ 7 = x := by
    show (d % 128 + 128 * x) / 128 = x
    omega
  rw [e]
theorem bit_byte (d x : Int) (i : Nat) (hi : i < 7) : bit (d % 128 + 128 * x) i = bit d i := by
  unfold bit
  have h : i = 0 ∨ i = 1 ∨ i = 2 ∨ i = 3 ∨ i = 4 ∨ i = 5 ∨ i = 6 := by omega
  have key : (d % 128 + 128 * x) / 2 ^ i % 2 = d / 2 ^ i % 2 := by
    rcases h with rfl | rfl | rfl | rfl | rfl | rfl | rfl <;> simp <;> omega
  rw [key]
theorem bit_low : ∀ (l : List Int) (j i : Nat) (c : Int), i < 7 → l[j]? = some c → bit (low l) (7 * j + i) = bit c i
  | [], j, i, c, _, h => by simp at h
  | d :: r, 0, i, c, hi, h => by
    have : d = c := by simpa using h
    subst this
    rw [Nat.mul_zero, Nat.zero_add]
    exact bit_byte d _ i hi
  | d :: r, j + 1, i, c, hi, h => by
    have ih := bit_low r j i c hi (by simpa using h)
    rw [show 7 * (j + 1) + i = 7 + (7 * j + i) by omega, ← ih]
    exact bit_step d _ _

/-- The number of n bits, m of them known: with a sign, or without. -/
def ext (s : Bool) (N : Int) (m : Nat) : Int := if s && bit N (m - 1) then N - 2 ^ m else N
theorem ext_low (s : Bool) (N : Int) (m j : Nat) (h : j < m) : bit (ext s N m) j = bit N j := by
  unfold ext
  split
  · unfold bit
    have e : (2 : Int) ^ m = 2 ^ j * 2 * 2 ^ (m - j - 1) := by
      rw [show (2 : Int) ^ j * 2 = 2 ^ (j + 1) from (Int.pow_succ 2 j).symm, ← Int.pow_add]; congr 1; omega
    have hp := p2 j
    have e2 : N - 2 ^ m = N + 2 ^ j * (2 * -2 ^ (m - j - 1)) := by rw [e]; generalize (2 : Int) ^ (m - j - 1) = t; generalize (2 : Int) ^ j = u; grind
    rw [e2, Int.add_mul_ediv_left _ _ (Int.ne_of_gt hp)]
    congr 1
    omega
  · rfl
theorem ext_bd (s : Bool) {N : Int} {m : Nat} (hm : 1 ≤ m) (h0 : 0 ≤ N) (h1 : N < 2 ^ m) : -2 ^ m ≤ ext s N m ∧ ext s N m < 2 ^ m := by
  unfold ext
  have := p2 m
  split <;> omega
theorem bit_top {N : Int} {m : Nat} (hm : 1 ≤ m) (h0 : 0 ≤ N) (h1 : N < 2 ^ m) : bit N (m - 1) = decide (2 ^ (m - 1) ≤ N) := by
  have e : (2 : Int) ^ m = 2 * 2 ^ (m - 1) := by rw [show m = m - 1 + 1 by omega, Int.pow_succ, Int.mul_comm]; rfl
  have hp := p2 (m - 1)
  unfold bit
  by_cases h : 2 ^ (m - 1) ≤ N
  · have : N / 2 ^ (m - 1) = 1 := by rw [Int.ediv_eq_iff_of_pos hp]; constructor <;> omega
    rw [this]; simp [h]
  · have : N / 2 ^ (m - 1) = 0 := Int.ediv_eq_zero_of_lt h0 (by omega)
    rw [this]; simp [h]
theorem ext_over (s : Bool) {N : Int} {m : Nat} (hm : 1 ≤ m) (h0 : 0 ≤ N) (h1 : N < 2 ^ m) : ext s N m / 2 ^ m = if s && bit N (m - 1) then -1 else 0 := by
  unfold ext
  split
  · rw [Int.ediv_eq_iff_of_pos (p2 m)]; constructor <;> omega
  · exact Int.ediv_eq_zero_of_lt h0 h1
theorem ext_high (s : Bool) {N : Int} {m : Nat} (hm : 1 ≤ m) (h0 : 0 ≤ N) (h1 : N < 2 ^ m) (j : Nat) (hj : m ≤ j) : bit (ext s N m) j = (s && bit N (m - 1)) :=
  from_same (ext_over s hm h0 h1) j hj

/-- The sign that is asked for above the lowest n bits. -/
def topB (s : Bool) (N : Int) (m n : Nat) : Bool := s && bit N (min n m - 1)
/-- All known bits above the lowest n are the sign. -/
def Good (s : Bool) (N : Int) (m n : Nat) : Prop := ∀ j, n ≤ j → j < m → bit N j = topB s N m n

theorem good_ext {s : Bool} {N : Int} {m n : Nat} (hm : 1 ≤ m) (h0 : 0 ≤ N) (h1 : N < 2 ^ m) (hg : Good s N m n) (i : Nat) (hi : n ≤ i ∨ m ≤ i) : bit (ext s N m) i = topB s N m n := by
  rcases Nat.lt_or_ge i m with g | g
  · rw [ext_low s N m i g]; exact hg i (by omega) g
  · rw [ext_high s hm h0 h1 i g]
    rcases Nat.lt_or_ge n m with k | k
    · have h2 := hg (m - 1) (by omega) (by omega)
      rw [h2]
      unfold topB
      cases s <;> simp
    · unfold topB
      rw [Nat.min_eq_right k]
/-- It fits n bits. -/
def Fits (s : Bool) (X : Int) (n : Nat) : Prop := if s then X / 2 ^ (n - 1) = 0 ∨ X / 2 ^ (n - 1) = -1 else X / 2 ^ n = 0
theorem good_fits {s : Bool} {N : Int} {m n : Nat} (hm : 1 ≤ m) (hn : 1 ≤ n) (h0 : 0 ≤ N) (h1 : N < 2 ^ m) : Good s N m n ↔ Fits s (ext s N m) n := by
  obtain ⟨b1, b2⟩ := ext_bd s hm h0 h1
  have mm := mono2 (Nat.le_max_left m n)
  constructor
  · intro hg
    have hx := good_ext hm h0 h1 hg
    cases s
    · have h := same_from (x := ext false N m) (a := n) (b := max m n) (t := false) (by omega) (by omega) (by omega) (fun j hj _ => by rw [hx j (.inl hj)]; simp [topB])
      unfold Fits
      simpa using h
    · have h := same_from (x := ext true N m) (a := n - 1) (b := max m n) (t := topB true N m n) (by omega) (by omega) (by omega) (fun j hj _ => by
        rcases Nat.lt_or_ge j n with g | g
        · obtain rfl : j = n - 1 := by omega
          rcases Nat.lt_or_ge (n - 1) m with k | k
          · rw [ext_low _ _ _ _ k]; unfold topB; rw [Nat.min_eq_left (by omega)]; simp
          · exact hx _ (.inr k)
        · exact hx j (.inl g))
      unfold Fits
      rw [if_pos rfl, h]
      cases topB true N m n <;> simp
  · intro hf j hj hjm
    unfold Fits at hf
    rw [← ext_low s N m j hjm]
    cases s
    · simp only [Bool.false_eq_true, if_false] at hf
      rw [from_same (a := n) (t := false) (by simpa using hf) j hj]; simp [topB]
    · simp only [if_true] at hf
      have hb : ∀ i, n - 1 ≤ i → bit (ext true N m) i = bit (ext true N m) (n - 1) := fun i hi => by
        rcases hf with hf | hf
        · rw [from_same (a := n - 1) (t := false) (by simpa using hf) i hi, from_same (a := n - 1) (t := false) (by simpa using hf) (n - 1) (by omega)]
        · rw [from_same (a := n - 1) (t := true) (by simpa using hf) i hi, from_same (a := n - 1) (t := true) (by simpa using hf) (n - 1) (by omega)]
      rw [hb j (by omega), ext_low true N m (n - 1) (by omega)]
      unfold topB
      rw [Nat.min_eq_left (by omega)]
      simp
end Go.Proofs.YtebgmfjgapmpfabDoor

/- creelref02.Read. -/
namespace Go.Proofs.YtebgmfjgapmpfabDoor
open Go.RowKit
set_option linter.unusedVariables false

end Go.Proofs.YtebgmfjgapmpfabDoor

/- Both readers, each beside the reference: the same answer. -/
namespace Go.Proofs.YtebgmfjgapmpfabDoor
open Go.RowKit
set_option linter.unusedVariables false

theorem low_take {q : List Int} {p : Nat} {c : Int} (hpc : q[p]? = some c) (c0 : 0 ≤ c) (c2 : c < 128) : low (q.take (p + 1)) = numU (q.take p) c := by
  have hp := (List.getElem?_eq_some_iff.1 hpc).1
  rw [take_snoc hpc, low_snoc]
  unfold numU
  rw [Int.emod_eq_of_lt c0 c2]
theorem take_len {q : List Int} {p : Nat} {c : Int} (hpc : q[p]? = some c) : (q.take p).length = p := by
  have hp := (List.getElem?_eq_some_iff.1 hpc).1
  rw [List.length_take]; omega
theorem num_bd {q : List Int} {p : Nat} {c : Int} (hpc : q[p]? = some c) (c0 : 0 ≤ c) (c2 : c < 128) : 0 ≤ numU (q.take p) c ∧ numU (q.take p) c < 2 ^ (7 * (p + 1)) := by
  have hp := (List.getElem?_eq_some_iff.1 hpc).1
  have h := low_bd (q.take (p + 1))
  rw [low_take hpc c0 c2, List.length_take, show min (p + 1) q.length = p + 1 by omega] at h
  exact h
theorem ext_signed {q : List Int} {p : Nat} {c : Int} (hpc : q[p]? = some c) (c0 : 0 ≤ c) (c2 : c < 128) : ext true (numU (q.take p) c) (7 * (p + 1)) = numS (q.take p) c := by
  obtain ⟨b0, b1⟩ := num_bd hpc c0 c2
  have hb := bit_top (m := 7 * (p + 1)) (by omega) b0 b1
  obtain ⟨l0, l1⟩ := low_bd (q.take p)
  unfold ext
  unfold numS numU at *
  rw [take_len hpc] at *
  rw [hb]
  have e1 : (2 : Int) ^ (7 * (p + 1) - 1) = 64 * 2 ^ (7 * p) := by rw [show 7 * (p + 1) - 1 = 7 * p + 6 by omega, Int.pow_add, Int.mul_comm]; rfl
  have e2 : (2 : Int) ^ (7 * (p + 1)) = 128 * 2 ^ (7 * p) := by rw [show 7 * (p + 1) = 7 * p + 7 by omega, Int.pow_add, Int.mul_comm]; rfl
  rw [e1, e2]
  unfold sg
  generalize (2 : Int) ^ (7 * p) = t at *
  by_cases h : 64 ≤ c
  · have : 64 * t ≤ low (q.take p) + c * t := by
      have := Int.mul_le_mul_of_nonneg_right h (show 0 ≤ t by omega)
      omega
    simp only [this, decide_true, Bool.and_self, if_true, if_pos h]
    grind
  · have : ¬ 64 * t ≤ low (q.take p) + c * t := by
      have := Int.mul_le_mul_of_nonneg_right (show c ≤ 63 by omega) (show 0 ≤ t by omega)
      omega
    simp only [this, decide_false, Bool.and_false, Bool.false_eq_true, if_false, if_neg h]

/-- What is asked of a slice that comes in: it reads as these bytes. -/
structure Has (w : World) (B : Nat) (A : Option Addr) (cap : Nat) (r : List Int) : Prop where
  lies : Lies w B A (cells r)
  low_ : B ≤ w.heap.size
  room : r.length ≤ cap
  most : cap ≤ maxLen

end Go.Proofs.YtebgmfjgapmpfabDoor

/- The law LebReads. -/
namespace Go.Proofs.YtebgmfjgapmpfabDoor
open Go.RowKit
set_option linter.unusedVariables false

theorem Has.below {w w' : World} {B : Nat} {A : Option Addr} {cap : Nat} {r : List Int} (h : Has w B A cap r) (hb : Below w.heap.size w w') : Has w' B A cap r :=
  ⟨h.lies.below hb h.low_, Nat.le_trans h.low_ hb.size, h.room, h.most⟩
theorem back_s {V : Int} (h0 : -9223372036854775808 ≤ V) (h1 : V ≤ 9223372036854775807) : IntKind.i64.wrap (V % 2 ^ 64) = V := by
  have e : (2 : Int) ^ 64 = 18446744073709551616 := rfl
  rw [IntKind.wrap_i64, e]
  omega

end Go.Proofs.YtebgmfjgapmpfabDoor

/- What is written is read again: behind it, longer by a group, without its last byte. -/
namespace Go.Proofs.YtebgmfjgapmpfabDoor
open Go.RowKit
set_option linter.unusedVariables false

theorem p128_2 (k : Nat) : (128 : Int) ^ k = 2 ^ (7 * k) := (pow7 k).symm
theorem mod_step (x : Int) (k : Nat) : x % 2 ^ (7 * (k + 1)) = x % 2 ^ (7 * k) + x / 2 ^ (7 * k) % 128 * 2 ^ (7 * k) := by
  have hp := p2 (7 * k)
  have e4 : (2 : Int) ^ (7 * (k + 1)) = 128 * 2 ^ (7 * k) := by rw [show 7 * (k + 1) = 7 * k + 7 by omega, Int.pow_add, Int.mul_comm]; rfl
  have e3 : x / 2 ^ (7 * (k + 1)) = x / 2 ^ (7 * k) / 128 := by rw [show 7 * (k + 1) = 7 * k + 7 by omega, ← div_pow]; rfl
  have e1 := Int.emod_def x (2 ^ (7 * k))
  have e2 := Int.emod_def x (2 ^ (7 * (k + 1)))
  rw [e3, e4] at e2
  rw [e4, e2, e1]
  have h2 : x / 2 ^ (7 * k) = 128 * (x / 2 ^ (7 * k) / 128) + x / 2 ^ (7 * k) % 128 := by omega
  generalize x / 2 ^ (7 * k) / 128 = q at *
  generalize x / 2 ^ (7 * k) % 128 = m at *
  rw [h2]
  grind
theorem low_grps (x : Int) : ∀ k, low (grps x k) = x % 2 ^ (7 * k)
  | 0 => by simp [grps, low]
  | k + 1 => by
    rw [grps_snoc, low_snoc, low_grps x k, grps_length, mod_step, p128_2]
    congr 2
    omega
theorem grps_wf (x : Int) (k : Nat) : ∀ c ∈ grps x k, 0 ≤ c ∧ c ≤ 255 := by
  intro c hc
  obtain ⟨i, _, rfl⟩ := List.mem_map.1 hc
  omega
theorem grps_on (x : Int) (k : Nat) : ∀ c ∈ grps x k, 128 ≤ c := by
  intro c hc
  obtain ⟨i, _, rfl⟩ := List.mem_map.1 hc
  omega
theorem grps_at (x : Int) (p : Nat) (c : Int) (l : List Int) : (grps x p ++ c :: l)[p]? = some c := by
  have h : (grps x p).length = p := grps_length x p
  rw [List.getElem?_append_right (by omega), h]; simp
theorem grps_take (x : Int) (p : Nat) (c : Int) (l : List Int) : (grps x p ++ c :: l).take p = grps x p := by
  have h : (grps x p).length = p := grps_length x p
  rw [List.take_append_of_le_length (by omega), List.take_of_length_le (by omega)]
theorem grps_stop (x : Int) (p M : Nat) (c : Int) (l : List Int) (hc : c < 128) (hM : p ≤ M) : Stop M (grps x p ++ c :: l) p := by
  have h : (grps x p).length = p := grps_length x p
  refine ⟨hM, by simp; omega, fun i d hi hd => ?_, fun d _ hd => ?_⟩
  · rw [List.getElem?_append_left (by omega)] at hd
    exact grps_on x p d (List.mem_of_getElem? hd)
  · rw [grps_at] at hd; injection hd with hd; omega
theorem grps_short (x : Int) (p M : Nat) (hM : p ≤ M) : Stop M (grps x p) p := by
  have h : (grps x p).length = p := grps_length x p
  refine ⟨hM, by omega, fun i d hi hd => grps_on x p d (List.mem_of_getElem? hd), fun d _ hd => ?_⟩
  rw [List.getElem?_eq_none (by omega)] at hd; cases hd

theorem rdU (x c : Int) (p n : Nat) (l : List Int) (A : Option Addr) (cap B len : Nat) (w : World) (hlen : (grps x p ++ c :: l).length = len) (hh : Has w B A cap (grps x p ++ c :: l)) (hwf : ∀ d ∈ l, 0 ≤ d ∧ d ≤ 255)
    (hx : x % 2 ^ (7 * p) + c * 2 ^ (7 * p) = x) (c0 : 0 ≤ c) (c1 : c < 128) (hf : c / 2 ^ (n - 7 * p) = 0) (n1 : 1 ≤ n) (n2 : n ≤ 64) (hp : p < (n + 6) / 7) :
    Calls Tryd.prog 101 #[.slice A len cap, .int .i64 0, .int .i64 n] w fun e w' => e = .returned (.tuple #[.int .u64 x, .int .i64 ((p : Int) + 1), .int .i64 0]) ∧ w = w' := by
  subst hlen
  have hb : ∀ d ∈ grps x p ++ c :: l, 0 ≤ d ∧ d ≤ 255 := fun d hd => by
    rcases List.mem_append.1 hd with h | h
    · exact grps_wf x p d h
    · rcases List.mem_cons.1 h with rfl | h
      · omega
      · exact hwf d h
  have h := ru_ok (grps x p ++ c :: l) A cap B 0 n p c w hh.lies hb hh.room hh.most (Nat.zero_le _) n1 n2 (by rw [List.drop_zero]; exact grps_stop x p _ c l c1 (by omega)) hp (by rw [List.drop_zero]; exact grps_at x p c l) hf
  rw [List.drop_zero, grps_take] at h
  have e : numU (grps x p) c = x := by unfold numU; rw [low_grps, grps_length]; exact hx
  rw [e] at h
  refine h.mono fun e' w' he => ⟨?_, he.2⟩
  rw [he.1]; simp
theorem rdS (x c : Int) (p n : Nat) (l : List Int) (A : Option Addr) (cap B len : Nat) (w : World) (hlen : (grps x p ++ c :: l).length = len) (hh : Has w B A cap (grps x p ++ c :: l)) (hwf : ∀ d ∈ l, 0 ≤ d ∧ d ≤ 255)
    (hx : x % 2 ^ (7 * p) + sg c * 2 ^ (7 * p) = x) (c0 : 0 ≤ c) (c1 : c < 128) (hf : sg c / 2 ^ (n - 7 * p - 1) = 0 ∨ sg c / 2 ^ (n - 7 * p - 1) = -1) (n1 : 1 ≤ n) (n2 : n ≤ 64) (hp : p < (n + 6) / 7) :
    Calls Tryd.prog 115 #[.slice A len cap, .int .i64 0, .int .i64 n] w fun e w' => e = .returned (.tuple #[.int .i64 x, .int .i64 ((p : Int) + 1), .int .i64 0]) ∧ w = w' := by
  subst hlen
  have hb : ∀ d ∈ grps x p ++ c :: l, 0 ≤ d ∧ d ≤ 255 := fun d hd => by
    rcases List.mem_append.1 hd with h | h
    · exact grps_wf x p d h
    · rcases List.mem_cons.1 h with rfl | h
      · omega
      · exact hwf d h
  have h := ri_ok (grps x p ++ c :: l) A cap B 0 n p c w hh.lies hb hh.room hh.most (Nat.zero_le _) n1 n2 (by rw [List.drop_zero]; exact grps_stop x p _ c l c1 (by omega)) hp (by rw [List.drop_zero]; exact grps_at x p c l) hf
  rw [List.drop_zero, grps_take] at h
  have e : numS (grps x p) c = x := by unfold numS; rw [low_grps, grps_length]; exact hx
  rw [e] at h
  refine h.mono fun e' w' he => ⟨?_, he.2⟩
  rw [he.1]; simp
theorem rdShort (x : Int) (p n : Nat) (A : Option Addr) (cap B : Nat) (w : World) (hh : Has w B A cap (grps x p)) (n1 : 1 ≤ n) (n2 : n ≤ 64) (hp : p < (n + 6) / 7) :
    Calls Tryd.prog 101 #[.slice A p cap, .int .i64 0, .int .i64 n] w fun e w' => e = .returned (.tuple #[.int .u64 0, .int .i64 0, .int .i64 2]) ∧ w = w' := by
  have hl := grps_length x p
  have h := length_right (grps x p) A cap B 0 n p w hh.lies (grps_wf x p) hh.room hh.most (Nat.zero_le _) n1 n2 (by rw [List.drop_zero]; exact grps_short x p _ (by omega))
  unfold lenN lenE at h
  have hne : ¬ p = (n + 6) / 7 := by omega
  rw [hl] at h
  simp [hne] at h
  exact ru_fail _ _ _ 2 w (.inr (.inl rfl)) h

/-- A number below 2^n and its least groups. -/
theorem least_u {x : Int} {n na : Nat} (h0 : 0 ≤ x) (h1 : x < 2 ^ n) (n1 : 1 ≤ n) (n2 : n ≤ 64) (hn : Least (fitU x) na) :
    ∃ p c, na = p + 1 ∧ grp x na = grps x p ++ [c] ∧ x % 2 ^ (7 * p) + c * 2 ^ (7 * p) = x ∧ 0 ≤ c ∧ c < 128 ∧ c / 2 ^ (n - 7 * p) = 0 ∧ p < (n + 6) / 7 := by
  have hle : na ≤ (n + 6) / 7 := by
    refine hn.le (by omega) ?_
    show x / 128 ^ ((n + 6) / 7 - 1) < 128
    have hM : 1 ≤ (n + 6) / 7 := by omega
    have hM2 : n ≤ 7 * ((n + 6) / 7) := by omega
    generalize (n + 6) / 7 = M at *
    have e : (128 : Int) * 128 ^ (M - 1) = 2 ^ (7 * M) := by rw [p128_2, show 7 * M = 7 * (M - 1) + 7 by omega, Int.pow_add, Int.mul_comm]; rfl
    rw [Int.ediv_lt_iff_lt_mul (p128 _), e]
    have := mono2 hM2
    omega
  have h1' := hn.1
  obtain ⟨p, rfl⟩ : ∃ p, na = p + 1 := ⟨na - 1, by omega⟩
  have hf : x / 128 ^ p < 128 := hn.2.1
  have hq : 0 ≤ x / 128 ^ p := Int.ediv_nonneg h0 (Int.le_of_lt (p128 _))
  have hc : x / 128 ^ p % 128 = x / 128 ^ p := Int.emod_eq_of_lt hq hf
  refine ⟨p, x / 128 ^ p, rfl, by rw [grp_snoc, hc], ?_, hq, hf, ?_, by omega⟩
  · rw [p128_2, Int.mul_comm]; exact Int.emod_add_mul_ediv x _
  · rw [p128_2, div_pow, show 7 * p + (n - 7 * p) = n by omega]; exact Int.ediv_eq_zero_of_lt h0 h1
theorem least_s {x : Int} {n na : Nat} (h0 : -2 ^ (n - 1) ≤ x) (h1 : x < 2 ^ (n - 1)) (n1 : 1 ≤ n) (n2 : n ≤ 64) (hn : Least (fitS x) na) :
    ∃ p c, na = p + 1 ∧ grp x na = grps x p ++ [c] ∧ x % 2 ^ (7 * p) + sg c * 2 ^ (7 * p) = x ∧ 0 ≤ c ∧ c < 128 ∧ (sg c / 2 ^ (n - 7 * p - 1) = 0 ∨ sg c / 2 ^ (n - 7 * p - 1) = -1) ∧ p < (n + 6) / 7 := by
  have hle : na ≤ (n + 6) / 7 := by
    refine hn.le (by omega) ?_
    have e : (64 : Int) * 128 ^ ((n + 6) / 7 - 1) = 2 ^ (7 * ((n + 6) / 7 - 1) + 6) := by rw [p128_2, Int.pow_add, Int.mul_comm]; rfl
    have := mono2 (a := n - 1) (b := 7 * ((n + 6) / 7 - 1) + 6) (by omega)
    refine ⟨(Int.le_ediv_iff_mul_le (p128 _)).2 ?_, (Int.ediv_lt_iff_lt_mul (p128 _)).2 ?_⟩
    · rw [Int.neg_mul, e]; omega
    · rw [e]; omega
  have h1' := hn.1
  obtain ⟨p, rfl⟩ : ∃ p, na = p + 1 := ⟨na - 1, by omega⟩
  obtain ⟨f0, f1⟩ : -64 ≤ x / 128 ^ p ∧ x / 128 ^ p < 64 := hn.2.1
  have hs : sg (x / 128 ^ p % 128) = x / 128 ^ p := by unfold sg; split <;> omega
  refine ⟨p, x / 128 ^ p % 128, rfl, by rw [grp_snoc], ?_, by omega, by omega, ?_, by omega⟩
  · rw [hs, p128_2, Int.mul_comm]; exact Int.emod_add_mul_ediv x _
  · rw [hs, p128_2, div_pow, show 7 * p + (n - 7 * p - 1) = n - 1 by omega]
    obtain ⟨b0, b1⟩ := div_bounds (x := x) (a := n - 1) (b := n - 1) (Nat.le_refl _) h0 h1
    simp at b0 b1
    omega

theorem Lies.cell_add {w : World} {B : Nat} {ad : Addr} {vs : List Value} (h : Lies w B (some ad) vs) : ∀ j u, vs[j]? = some u → w.cell? (ad.add j) = some u := fun j u hu => by
  obtain ⟨b, off, e, _, h2⟩ := h j u hu
  injection e with e
  subst e
  rw [Go.WideShapes.add_plain]; exact h2
/-- append of whatever lies somewhere, nil too. -/
theorem wpList_append_lies {P : Program} {w : World} {ops : Array Oper} {rest : List Oper} {o : Oper} {a : Act} {Q : Exit → Act → World → Prop} (hgd : o.guard = none) (s x : Operand) (t : TypeId)
    (ho : o.op = .call { callee := .builtin .append, args := #[s, x], argTypes := #[t, t] })
    (base : Nat) (e : TypeId) (i : TypeInfo) (z : Value) (ht : P.underlying t = some (.slice e)) (hi : P.info? e = some i) (hz : i.zero = some z)
    (hsize : i.size = 1) (hby : i.bytes = 1) (hzs : z.cells.size = 1)
    (v : Value) (n : Nat) (xs : List Value) (hs : a.eval s = v) (hown : w.ownsRow base e 1 v n xs)
    (A : Option Addr) (m c B : Nat) (news : List Value) (hx : a.eval x = .slice A m c) (hl : news.length = m) (hnews : Lies w B A news) (hA : A = none → m = 0 ∧ c = 0) (h1 : ∀ u ∈ news, u.oneCell' = true)
    (h63 : n + m ≤ 1000) (hbase : base ≤ w.heap.size)
    (h : ∀ v' w', w'.ownsRow base e 1 v' (n + m) (xs ++ news) → w.grownBy w' v.ownBlock → wpList P ops Q rest (a.put o.dst v') w') : wpList P ops Q (o :: rest) a w := by
  rcases A with _ | ad
  · obtain ⟨rfl, rfl⟩ := hA rfl
    have hn : news = [] := List.eq_nil_of_length_eq_zero hl
    subst hn
    refine wpList_append_own_none hgd s x t ho base e i 1 ht hi v n xs hs hown hx (h v w (by simpa using hown) (World.grownBy.refl w _))
  · exact wpList_append_own w hgd s x t ho base e i z 1 1 ht hi hz hsize hby hzs (by omega) v n xs hs hown ad m c news hx (by omega) hnews.cell_add h1 (by unfold maxLen; omega) (by omega) hbase (fun v' w' h2 h3 _ => h v' w' h2 h3)
end Go.Proofs.YtebgmfjgapmpfabDoor

/- What is written is read back: numbers, types, limits, globals. Of no program but for what a reading is. -/
namespace Go.Proofs.YtebgmfjgapmpfabDoor
set_option maxRecDepth 100000
open Go.RowKit
set_option linter.unusedVariables false

theorem Stop.unique {M : Nat} {r : List Int} {p q : Nat} (h : Stop M r p) (g : Stop M r q) : p = q := by
  have key : ∀ {p q : Nat}, Stop M r p → Stop M r q → ¬ p < q := by
    intro p q h g hlt
    have h1 := g.leM
    have h2 := g.leR
    have e : r[p]? = some r[p] := List.getElem?_eq_getElem (by omega)
    have a := g.on p _ hlt e
    have b := h.off _ (by omega) e
    omega
  have a := key h g
  have b := key g h
  omega
theorem drop_past {l a r : List UInt8} {k : Nat} (h : l.drop k = a ++ r) : l.drop (k + a.length) = r := by
  rw [← List.drop_drop, h, List.drop_left]
theorem byteR_at {l r : List UInt8} {k : Nat} {c : UInt8} (h : l.drop k = c :: r) : byteR l k = .ok c (k + 1) := by
  have e : l[k]? = some c := by
    have := congrArg (·[0]?) h
    simpa using this
  unfold byteR
  rw [e]
theorem uintR_at {l r : List UInt8} {k n : Nat} {x : Int} (h : l.drop k = lebL x ++ r) (h0 : 0 ≤ x) (h1 : x < 2 ^ n) (n1 : 1 ≤ n) (n2 : n ≤ 64) : uintR l k n = .ok x (k + (lebL x).length) := by
  have m64 := mono2 n2
  have e64 : (2 : Int) ^ 64 = 18446744073709551616 := rfl
  have hna := lebN_least x (by omega)
  have hlen := lebL_length x
  have hnl := nums_lebL x
  obtain ⟨p, c, he, hg, hx, c0, c1, hf, hp⟩ := least_u h0 h1 n1 n2 hna
  rw [he] at hlen hnl
  rw [he] at hg
  have hd : (nums l).drop k = grps x p ++ c :: nums r := by
    have : (nums l).drop k = nums (l.drop k) := by unfold nums; rw [List.map_drop]
    rw [this, h, nums_append, hnl, hg]
    simp
  have hq : onN l k n = p := by
    have := onN_stop l k n
    rw [hd] at this
    exact this.unique (grps_stop x p _ c _ c1 (by omega))
  unfold uintR
  rw [if_pos ⟨n1, n2⟩, hq, if_neg (by omega), hd, grps_at]
  simp only
  rw [if_pos hf, grps_take, hlen]
  have e : numU (grps x p) c = x := by unfold numU; rw [low_grps, grps_length]; exact hx
  rw [e]
theorem indexR_at {l r : List UInt8} {k : Nat} {x : Int} (h : l.drop k = lebL x ++ r) (h0 : 0 ≤ x) (h1 : x ≤ 4294967295) : indexR l k = .ok x (k + (lebL x).length) :=
  uintR_at h h0 (by show x < 4294967296; omega) (by omega) (by omega)
theorem countR_at {l r : List UInt8} {k : Nat} {x : Int} (h : l.drop k = lebL x ++ r) (h0 : 0 ≤ x) (h1 : x ≤ 10000) : countR l k = .ok x (k + (lebL x).length) := by
  unfold countR atMostR
  rw [indexR_at h h0 (by omega), Res.bind_ok, if_pos h1]
theorem valR_at {l r : List UInt8} {k : Nat} {c : UInt8} (h : l.drop k = c :: r) (hc : valueZ c.toNat = 0) : valR l k = .ok c (k + 1) := by
  unfold valR
  rw [byteR_at h, Res.bind_ok, if_pos hc]
theorem valuesZ_cons {c : UInt8} {t : List UInt8} (h : valuesZ (c :: t) = 0) : valueZ c.toNat = 0 ∧ valuesZ t = 0 := by
  unfold valuesZ at h
  by_cases hc : valueZ c.toNat = 0
  · rw [if_pos hc] at h; exact ⟨hc, h⟩
  · rw [if_neg hc] at h; exact absurd h hc
theorem valsK_at {l : List UInt8} : ∀ (t r : List UInt8) (k : Nat) (acc : List UInt8), l.drop k = t ++ r → valuesZ t = 0 → valsK l t.length k acc = .ok (acc ++ t) (k + t.length)
  | [], r, k, acc, _, _ => by simp [valsK]
  | c :: t, r, k, acc, h, hv => by
    obtain ⟨h1, h2⟩ := valuesZ_cons hv
    have hd : l.drop (k + 1) = t ++ r := drop_past (a := [c]) (by simpa using h)
    have ih := valsK_at t r (k + 1) (acc ++ [c]) hd h2
    show (valR l k).bind _ = _
    rw [valR_at (by simpa using h) h1, Res.bind_ok, ih, List.append_assoc]
    simp only [List.singleton_append, List.length_cons]
    congr 1
    omega
theorem valsR_at {l t r : List UInt8} {k : Nat} (h : l.drop k = lebL t.length ++ t ++ r) (hv : valuesZ t = 0) (hl : t.length ≤ 10000) : valsR l k = .ok t (k + (lebL t.length).length + t.length) := by
  unfold valsR
  rw [List.append_assoc] at h
  rw [countR_at h (by omega) (by omega), Res.bind_ok, Int.toNat_natCast, valsK_at t r _ [] (drop_past h) hv]
  rfl
theorem funcZ_zero {p r : List UInt8} (h : funcZ p r = 0) : p.length ≤ 1000 ∧ r.length ≤ 1 ∧ valuesZ p = 0 ∧ valuesZ r = 0 := by
  unfold funcZ at h
  by_cases h1 : 1000 < p.length ∨ 1 < r.length
  · rw [if_pos h1] at h; cases h
  · rw [if_neg h1] at h
    by_cases h2 : valuesZ p = 0
    · rw [if_pos h2] at h; exact ⟨by omega, by omega, h2, h⟩
    · rw [if_neg h2] at h; exact absurd h h2
theorem funcR_at {l p r s : List UInt8} {k : Nat} (h : l.drop k = encL p r ++ s) (hz : funcZ p r = 0) : funcR l k = .ok (p, r) (k + (encL p r).length) := by
  obtain ⟨h1, h2, h3, h4⟩ := funcZ_zero hz
  have e : l.drop k = 96 :: ((lebL p.length ++ p ++ (lebL r.length ++ r ++ s))) := by rw [h]; unfold encL; simp
  have d1 : l.drop (k + 1) = lebL p.length ++ p ++ (lebL r.length ++ r ++ s) := drop_past (a := [96]) (by simpa using e)
  have d2 : l.drop (k + 1 + (lebL p.length).length + p.length) = lebL r.length ++ r ++ s := by
    have := drop_past (a := lebL p.length ++ p) d1
    rw [List.length_append, ← Nat.add_assoc] at this
    exact this
  unfold funcR tagR
  rw [byteR_at e, Res.bind_ok, if_pos (by rfl), Res.bind_ok, valsR_at d1 h3 (by omega), Res.bind_ok, valsR_at d2 h4 (by omega), Res.bind_ok, if_pos hz]
  congr 1
  unfold encL
  simp only [List.length_append, List.length_cons, List.length_nil]
  omega
theorem flagR_at {l r : List UInt8} {k : Nat} (m : Bool) (h : l.drop k = (if m then 1 else 0) :: r) : flagR l k = .ok m (k + 1) := by
  unfold flagR
  rw [byteR_at h, Res.bind_ok]
  cases m
  · rfl
  · rfl
theorem limR_at {l s : List UInt8} {k : Nat} {a b : Int} {c : Bool} (h : l.drop k = encLim a b c ++ s) (a0 : 0 ≤ a) (a1 : a ≤ 4294967295) (b0 : 0 ≤ b) (b1 : b ≤ 4294967295) (hc : c = false → b = 0) :
    limR l k = .ok (a, b, c) (k + (encLim a b c).length) := by
  unfold limR
  cases c with
  | false =>
    obtain rfl := hc rfl
    have e : l.drop k = 0 :: (lebL a ++ s) := by rw [h]; unfold encLim; simp
    have d1 : l.drop (k + 1) = lebL a ++ s := drop_past (a := [0]) (by simpa using e)
    rw [flagR_at false (by simpa using e), Res.bind_ok, indexR_at d1 a0 a1, Res.bind_ok, if_neg (by simp)]
    congr 1
    unfold encLim
    simp only [Bool.false_eq_true, if_false, List.length_append, List.length_cons, List.length_nil]
    omega
  | true =>
    have e : l.drop k = 1 :: (lebL a ++ (lebL b ++ s)) := by rw [h]; unfold encLim; simp
    have d1 : l.drop (k + 1) = lebL a ++ (lebL b ++ s) := drop_past (a := [1]) (by simpa using e)
    have d2 := drop_past d1
    rw [flagR_at true (by simpa using e), Res.bind_ok, indexR_at d1 a0 a1, Res.bind_ok, if_pos rfl, indexR_at d2 b0 b1, Res.bind_ok]
    congr 1
    unfold encLim
    simp only [if_true, List.length_append, List.length_cons, List.length_nil]
    omega
theorem globR_at {l s : List UInt8} {k : Nat} {c : UInt8} {m : Bool} (h : l.drop k = encG c.toNat m ++ s) (hc : valueZ c.toNat = 0) : globR l k = .ok (c, m) (k + 2) := by
  have e : l.drop k = c :: ((if m then 1 else 0) :: s) := by rw [h]; unfold encG; simp
  have d1 : l.drop (k + 1) = (if m then 1 else 0) :: s := drop_past (a := [c]) (by simpa using e)
  unfold globR
  rw [valR_at e hc, Res.bind_ok, flagR_at m d1, Res.bind_ok]
end Go.Proofs.YtebgmfjgapmpfabDoor

/- slices.Grow, slices.Concat of bytes; append of whatever lies. -/
namespace Go.Proofs.YtebgmfjgapmpfabDoor
open Go.RowKit
set_option linter.unusedVariables false
set_option maxRecDepth 100000

/-- append of whatever lies somewhere, nothing at all too. -/
theorem row_any {w : World} {ops : Array Oper} {rest : List Oper} {o : Oper} {a : Act} {Q : Exit → Act → World → Prop} (hgd : o.guard = none) (s x : Operand)
    (ho : o.op = .call { callee := .builtin .append, args := #[s, x], argTypes := #[41, 41] })
    (B : Nat) (v : Value) (xs : List UInt8) (hs : a.eval s = v) (hr : Row w B v xs)
    (A : Option Addr) (m c B' : Nat) (news : List UInt8) (hx : a.eval x = .slice A m c) (hl : news.length = m) (hn : Lies w B' A (cells (nums news))) (hA : A = none → c = 0)
    (hb : xs.length + news.length ≤ 1000000) (hB : B ≤ w.heap.size)
    (h : ∀ v' w', Row w' B v' (xs ++ news) → Below B w w' → wpList Tryd.prog ops Q rest (a.put o.dst v') w') : wpList Tryd.prog ops Q (o :: rest) a w := by
  by_cases hm : 0 < m
  · exact row_lies hgd s x ho B v xs hs hr A m c B' news hx hl hn hm hb hB h
  · obtain rfl : m = 0 := by omega
    have he : news = [] := List.eq_nil_of_length_eq_zero hl
    subst he
    obtain ⟨i0, hi0, hz0, hz1, hz2⟩ := info_parts infoB
    rcases A with _ | ad
    · obtain rfl := hA rfl
      refine wpList_append_own_none hgd s x 41 ho B 5 i0 1 Tryd.underlying41 hi0 v xs.length (cells (nums xs)) hs hr hx (h v w (by simpa using hr) (Below.refl _ _))
    · refine wpList_append_own w hgd s x 41 ho B 5 i0 _ 1 1 Tryd.underlying41 hi0 hz0 hz1 hz2 rfl (by omega) v xs.length (cells (nums xs)) hs hr ad 0 c [] hx rfl (by intro j u hu; cases hu) (by intro u hu; cases hu) (by unfold maxLen; omega) (by omega) hB (fun v' w' h2 h3 _ => h v' w' ?_ (Row.below hr hB h3))
      show w'.ownsRow B 5 1 v' (xs ++ []).length (cells (nums (xs ++ [])))
      rw [List.append_nil]
      simpa using h2

/-- Grow of nil: room for n bytes, none of them read. -/
def Room (w : World) (e : Ending) (w' : World) : Prop := ∃ v, e = .returned v ∧ Row w' w.heap.size v [] ∧ Below w.heap.size w w'
theorem grow_any (n : Nat) (w : World) (h0 : 0 < n) (hn : n ≤ 1000000) : Calls Tryd.prog 69 #[.slice none 0 0, .int .i64 n] w (Room w) := by
  obtain ⟨i0, hi0, hz0, hz1, hz2⟩ := info_parts infoB
  have hrz : ∀ ty, (Builtin.append_ #[41, 3] ty #[.slice none 0 0, .int .i64 n]).run Tryd.prog w = _ := fun ty =>
    Lib.run_append_grow_zeros w 41 3 ty 5 i0 _ .i64 .i64 Tryd.underlying41 Tryd.underlying3 hi0 hz0 none 0 0 [] (run_firstCells_none w.drew i0.size 0 0 0) n h0 (by omega) (by omega) (by omega) (by rw [hz2]; omega) (growslice_fits_wide (by omega) (by rw [hz2]; omega))
  simp only [Nat.zero_add] at hrz
  have hGn : n ≤ grownCap w n 0 5 := grownCap_ge w _ _ _
  have hG63 : grownCap w n 0 5 ≤ maxLen := grownCap_le_maxLen w n 0 5 (by unfold maxLen; omega)
  obtain ⟨G, hG⟩ : ∃ G, G = grownCap w n 0 5 := ⟨_, rfl⟩
  rw [← hG] at hrz hGn hG63
  clear hG
  have hend : ∀ cs : Array Value, cs.size = G → Row (w.alloc (.cells cs 5)).drew w.heap.size (.slice (some ⟨w.heap.size, 0, none⟩) 0 G) [] := fun cs hc =>
    ⟨rfl, .inr ⟨w.heap.size, G, cs, rfl, Nat.le_refl _, heap_alloc_new w _, by simp, hG63, by simp [hc], by simp [cells, nums]⟩⟩
  have hcs : (Builtin.zeroCells #[Value.int .u8 0] n ++ Builtin.zeroCells #[Value.int .u8 0] (G - n)).size = G := by
    simp only [Array.size_append, size_zeroCells]
    simp
    omega
  have HEND := Lib.hid (hend _ hcs)
  have hG2 : (G : Int) ≤ 9223372036854775807 := by unfold maxLen at hG63; omega
  have n1 : ¬ ((n : Int) < 0) := by omega
  have n2 : (n : Int) > 0 := by omega
  clear hend hcs hG63
  go_enter Tryd.func69, Tryd.ntmps69
  go_wp2_with (at_builtin; refine Lib.wpList_append_run _ rfl _ _ _ _ rfl _ _ rfl rfl _ _ (hrz _) ?_)
  go_ret
  exact ⟨_, rfl, HEND.out, ((Below.refl _ _).alloc (Nat.le_refl _) _).drew⟩

/-- Bytes that lie somewhere lie at a block. -/
theorem no_block {w : World} {B : Nat} {A : Option Addr} {l : List UInt8} (h : Lies w B A (cells (nums l))) (hA : A = none) : ¬ 0 < l.length := fun hl => by
  obtain ⟨b, off, e, _⟩ := h.at_ (i := 0) (by rw [cells_length, nums_length]; exact hl)
  rw [hA] at e
  cases e
set_option maxHeartbeats 800000 in
/-- Concat of two pieces, the first one not empty. -/
theorem concat_any {w : World} {g : Nat} {A1 A2 : Option Addr} {c1 c2 : Nat} {l1 l2 : List UInt8} (hg : Whole w g 41 #[.slice A1 l1.length c1, .slice A2 l2.length c2])
    (h1 : Lies w w.heap.size A1 (cells (nums l1))) (h2 : Lies w w.heap.size A2 (cells (nums l2))) (hA : A2 = none → c2 = 0) (n1 : 0 < l1.length) (n2 : l1.length + l2.length ≤ 1000000) :
    Calls Tryd.prog 45 #[.slice (some ⟨g, 0, none⟩) 2 2] w (BytesL (l1 ++ l2) w) := by
  have g0 : w.cell? ⟨g, 0, none⟩ = some (.slice A1 l1.length c1) := hg.cell 0
  have g1 : w.cell? ⟨g, 1, none⟩ = some (.slice A2 l2.length c2) := hg.cell 1
  obtain ⟨m1, hm1⟩ : ∃ m, m = l1.length := ⟨_, rfl⟩
  obtain ⟨m2, hm2⟩ : ∃ m, m = l2.length := ⟨_, rfl⟩
  rw [← hm1] at g0 n1 n2
  rw [← hm2] at g1 n2
  have HG := Lib.hid hg
  have H1 := Lib.hid h1
  have H2 := Lib.hid h2
  have HA := Lib.hid hA
  have HM1 := Lib.hid hm1
  have HM2 := Lib.hid hm2
  clear hg h1 h2 hA hm1 hm2
  have HGr := Lib.hid (grow_any (m1 + m2) w (by omega) n2)
  go_enter Tryd.func45, Tryd.ntmps45
  go_wp2
  go_loop [3, 11] (fun s i => (s = .int .i64 0 ∧ i = .int .i64 0) ∨ (s = .int .i64 m1 ∧ i = .int .i64 1) ∨ (s = .int .i64 ((m1 + m2 : Nat) : Int) ∧ i = .int .i64 2)) (fun _ i => 2 - (intOf i).toNat)
  case atStart => exact .inl ⟨rfl, rfl⟩
  case round =>
    rcases hrel with ⟨rfl, rfl⟩ | ⟨rfl, rfl⟩ | ⟨rfl, rfl⟩
    · go_wp2
      go_round
      case rel => exact .inr (.inl ⟨by go_num, rfl⟩)
      case measure => simp [intOf]
    · go_wp2
      go_round
      case rel => exact .inr (.inr ⟨by go_num, rfl⟩)
      case measure => simp [intOf]
    · go_wp2_with (go_at_call 69; go_must (refine HGr.out.mono ?_; intro e w1 h; obtain ⟨v1, rfl, hr1, hb1⟩ := h; have HR1 := Lib.hid hr1; have HB1 := Lib.hid hb1; clear hr1 hb1))
      go_loopw [6, 27] (fun v i wr => Below w.heap.size w wr ∧ ((Row wr w.heap.size v [] ∧ i = .int .i64 0) ∨ (Row wr w.heap.size v l1 ∧ i = .int .i64 1) ∨ (Row wr w.heap.size v (l1 ++ l2) ∧ i = .int .i64 2))) (fun _ i _ => 2 - (intOf i).toNat)
      case atStart => exact ⟨HB1.out, .inl ⟨HR1.out, rfl⟩⟩
      case round =>
        obtain ⟨hb, ⟨hr, rfl⟩ | ⟨hr, rfl⟩ | ⟨hr, rfl⟩⟩ := hrel
        · have c0 : wr.cell? ⟨g, 0, none⟩ = some (.slice A1 m1 c1) := by have := (HG.out.below hb).cell 0; rw [HM1.out]; exact this
          have HR := Lib.hid hr
          have HB := Lib.hid hb
          have hz := hb.size
          clear hr hb
          go_wp2_with (at_builtin; (refine row_any rfl _ _ rfl w.heap.size _ [] rfl HR.out A1 m1 c1 w.heap.size l1 rfl HM1.out.symm (H1.out.below HB.out (Nat.le_refl _)) (fun h => absurd n1 (by have := H1.out; cases HM1.out; exact no_block this h)) (by have := HM1.out; simp; omega) hz ?_; intro v2 w2 hr2 hb2; have HR2 := Lib.hid hr2; have HB2 := Lib.hid hb2; clear hr2 hb2))
          go_roundw
          case rel => exact ⟨HB.out.trans HB2.out, .inr (.inl ⟨by simpa using HR2.out, rfl⟩)⟩
          case measure => simp [intOf]
        · have c0 : wr.cell? ⟨g, 1, none⟩ = some (.slice A2 m2 c2) := by have := (HG.out.below hb).cell 1; rw [HM2.out]; exact this
          have HR := Lib.hid hr
          have HB := Lib.hid hb
          have hz := hb.size
          clear hr hb
          go_wp2_with (at_builtin; (refine row_any rfl _ _ rfl w.heap.size _ l1 rfl HR.out A2 m2 c2 w.heap.size l2 rfl HM2.out.symm (H2.out.below HB.out (Nat.le_refl _)) HA.out (by have := HM1.out; have := HM2.out; omega) hz ?_; intro v2 w2 hr2 hb2; have HR2 := Lib.hid hr2; have HB2 := Lib.hid hb2; clear hr2 hb2))
          go_roundw
          case rel => exact ⟨HB.out.trans HB2.out, .inr (.inr ⟨HR2.out, rfl⟩)⟩
          case measure => simp [intOf]
        · have HR := Lib.hid hr
          have HB := Lib.hid hb
          clear hr hb
          go_wp2
          go_ret
          exact ⟨_, rfl, HR.out, HB.out⟩
end Go.Proofs.YtebgmfjgapmpfabDoor

/- leb.Int and creelref02.Int (from the leb layer): the least number of groups of seven bits. -/
namespace Go.Proofs.YtebgmfjgapmpfabDoor
set_option linter.unusedVariables false
open Go.RowKit
set_option maxRecDepth 100000

theorem no_moreS {x : Int} {k : Nat} (h : ∀ m, 1 ≤ m → m ≤ k → ¬ fitS x m) (hq : x / 128 ^ k < -64 ∨ 64 ≤ x / 128 ^ k) : ∀ m, 1 ≤ m → m ≤ k + 1 → ¬ fitS x m := by
  intro m h1 h2 h3
  rcases Nat.lt_or_ge m (k + 1) with g | g
  · exact h m h1 (by omega) h3
  · obtain rfl : m = k + 1 := by omega
    obtain ⟨a, b⟩ : -64 ≤ x / 128 ^ k ∧ x / 128 ^ k < 64 := h3
    omega
theorem bytes_endS {x q : Int} {n k : Nat} {w w2 : World} {v : Value} (hq : q = x / 128 ^ k) (hn : Least (fitS x) n) (hno : ∀ m, 1 ≤ m → m ≤ k → ¬ fitS x m) (hf : -64 ≤ q) (hf2 : q < 64)
    (ho : w2.ownsRow w.heap.size 5 1 v (k + 1) (cells (grps x k) ++ [.int .u8 (q % 128)])) (hb : Below w.heap.size w w2) : Bytes (grp x n) w (.returned v) w2 := by
  have hk : Least (fitS x) (k + 1) := ⟨by omega, by show -64 ≤ x / 128 ^ k ∧ x / 128 ^ k < 64; omega, fun m h1 h2 => hno m h1 (by omega)⟩
  obtain rfl := hk.unique hn
  have e : cells (grp x (k + 1)) = cells (grps x k) ++ [.int .u8 (q % 128)] := by rw [grp_snoc, cells_snoc, ← hq]
  exact bytes_own (by rw [e]; exact ho) (grp_length _ _) hb
theorem div_small {x q : Int} {k : Nat} (h0 : -9223372036854775808 ≤ x) (h1 : x ≤ 9223372036854775807) (hq : q = x / 128 ^ k) : -9223372036854775808 ≤ q ∧ q ≤ 9223372036854775807 := by
  have hp := p128 k
  subst hq
  refine ⟨(Int.le_ediv_iff_mul_le hp).2 ?_, ?_⟩
  · have := Int.mul_le_mul_of_nonneg_left (show (1 : Int) ≤ 128 ^ k by omega) (show (0 : Int) ≤ 9223372036854775808 by omega)
    omega
  · rcases Int.lt_or_le x 0 with g | g
    · have := Int.ediv_neg_of_neg_of_pos g hp; omega
    · exact Int.le_trans (Int.ediv_le_self _ g) h1

set_option maxHeartbeats 800000 in
theorem int_any (x : Int) (w : World) (h0 : -9223372036854775808 ≤ x) (h1 : x ≤ 9223372036854775807) {n : Nat} (hn : Least (fitS x) n) :
    Calls Tryd.prog 107 #[.int .i64 x] w (Bytes (grp x n) w) := by
  obtain ⟨i0, hi0, hz0, hz1, hz2⟩ := info_parts infoB
  have HN := Lib.hid hn
  clear hn
  go_enter Tryd.func107, Tryd.ntmps107
  go_wp2
  go_loopw [3, 0] (fun b v wr => ∃ k : Nat, v = .int .i64 (x / 128 ^ k) ∧ wr.ownsRow w.heap.size 5 1 b k (cells (grps x k)) ∧ Below w.heap.size w wr ∧ ∀ m, 1 ≤ m → m ≤ k → ¬ fitS x m) (fun _ v _ => (intOf v).natAbs)
  case atStart => exact ⟨0, by simp, World.ownsRow_nil _ _ _ _, Below.refl _ _, fun m h1 h2 => by omega⟩
  case round =>
    obtain ⟨k, rfl, hown, hbe, hno⟩ := hrel
    obtain ⟨q, hq⟩ : ∃ q, q = x / 128 ^ k := ⟨_, rfl⟩
    obtain ⟨hq0, hq1⟩ := div_small h0 h1 hq
    have hk : k ≤ 9 := by
      rcases Nat.lt_or_ge k 10 with g | g
      · omega
      · exact absurd (fitS_ten x h0 (by omega)) (hno 10 (by omega) g)
    have hsz := hbe.size
    rw [← hq]
    have HQ := Lib.hid hq
    have HBE := Lib.hid hbe
    have HNO := Lib.hid hno
    have hor : bits .or .u8 (q % 256) 128 = q % 128 + 128 := byte_or q
    have hnot : bits .andNot .u8 (q % 256) 128 = q % 128 := byte_not q
    clear hq hbe hno
    have hparts : q < -64 ∨ 64 ≤ q ∨ (-64 ≤ q ∧ q < 64) := by omega
    rcases hparts with hlt | hlt | ⟨hge, hlt⟩
    · go_wp2_with (at_builtin; refine wpList_append_own _ rfl _ _ _ rfl w.heap.size 5 i0 _ 1 1 Tryd.underlying41 hi0 hz0 hz1 hz2 rfl (by omega) _ _ _ rfl (hown.alloc _) ⟨wr.heap.size, 0, none⟩ 1 1 [.int .u8 (q % 128 + 128)] rfl rfl (World.news_of_block (cs := #[.int .u8 (q % 128 + 128)]) (t := 5) (fr := (0, 0)) (heap_alloc_new wr _)) (by simp [Value.oneCell']) (by unfold maxLen; omega) (by omega) (by simp; omega) ?_; intro v' w2 hown2 hgrow2 _; have HO2 := Lib.hid hown2; have HG2 := Lib.hid hgrow2; clear hown2 hgrow2)
      go_roundw
      case rel => exact ⟨k + 1, by rw [pow_out, HQ.out], by rw [grps_snoc, cells_snoc, ← HQ.out]; exact HO2.out, below_append HBE.out hown HG2.out, no_moreS HNO.out (by rw [← HQ.out]; omega)⟩
      case measure => simp [intOf]; omega
    · have hn0 : ¬ q < -64 := by omega
      go_wp2_with (at_builtin; refine wpList_append_own _ rfl _ _ _ rfl w.heap.size 5 i0 _ 1 1 Tryd.underlying41 hi0 hz0 hz1 hz2 rfl (by omega) _ _ _ rfl (hown.alloc _) ⟨wr.heap.size, 0, none⟩ 1 1 [.int .u8 (q % 128 + 128)] rfl rfl (World.news_of_block (cs := #[.int .u8 (q % 128 + 128)]) (t := 5) (fr := (0, 0)) (heap_alloc_new wr _)) (by simp [Value.oneCell']) (by unfold maxLen; omega) (by omega) (by simp; omega) ?_; intro v' w2 hown2 hgrow2 _; have HO2 := Lib.hid hown2; have HG2 := Lib.hid hgrow2; clear hown2 hgrow2)
      go_roundw
      case rel => exact ⟨k + 1, by rw [pow_out, HQ.out], by rw [grps_snoc, cells_snoc, ← HQ.out]; exact HO2.out, below_append HBE.out hown HG2.out, no_moreS HNO.out (by rw [← HQ.out]; omega)⟩
      case measure => simp [intOf]; omega
    · have hd : decide (64 ≤ q) = false := by simpa using hlt
      go_wp2_with (at_builtin; refine wpList_append_own _ rfl _ _ _ rfl w.heap.size 5 i0 _ 1 1 Tryd.underlying41 hi0 hz0 hz1 hz2 rfl (by omega) _ _ _ rfl (hown.alloc _) ⟨wr.heap.size, 0, none⟩ 1 1 [.int .u8 (q % 128)] rfl rfl (World.news_of_block (cs := #[.int .u8 (q % 128)]) (t := 5) (fr := (0, 0)) (heap_alloc_new wr _)) (by simp [Value.oneCell']) (by unfold maxLen; omega) (by omega) (by simp; omega) ?_; intro v' w2 hown2 hgrow2 _; have HO2 := Lib.hid hown2; have HG2 := Lib.hid hgrow2; clear hown2 hgrow2)
      go_ret
      exact bytes_endS HQ.out HN.out HNO.out (by omega) (by omega) HO2.out (below_append HBE.out hown HG2.out)
theorem fitS_any {x : Int} (h0 : -9223372036854775808 ≤ x) (h1 : x ≤ 9223372036854775807) (k : Nat) (a : 1 ≤ k) (b : k ≤ 9) : fitS x k ↔ anyB x (bit x 63) (7 * k - 1) 64 = false := by
  rw [any_none]; exact fitS_bits (by show -9223372036854775808 ≤ x; omega) (by show x < 9223372036854775808; omega) a b
theorem mod64_bit (x : Int) (j : Nat) (hj : j < 64) : bit (x % 18446744073709551616) j = bit x j := by
  unfold bit
  have e : (18446744073709551616 : Int) = 2 ^ j * 2 * 2 ^ (63 - j) := by
    rw [show (2 : Int) ^ j * 2 = 2 ^ (j + 1) from (Int.pow_succ 2 j).symm, ← Int.pow_add, show j + 1 + (63 - j) = 64 by omega]; rfl
  have hp := p2 j
  have e2 : x = x % 18446744073709551616 + 2 ^ j * (2 * 2 ^ (63 - j) * (x / 18446744073709551616)) := by
    rw [← Int.mul_assoc, ← Int.mul_assoc, ← e]; exact (Int.emod_add_mul_ediv x _).symm
  generalize x % 18446744073709551616 = y at *
  generalize x / 18446744073709551616 = z at *
  rw [e2, Int.add_mul_ediv_left _ _ (Int.ne_of_gt hp), Int.mul_assoc 2]
  congr 1
  omega
theorem bools_mod (x : Int) : bools (x % 18446744073709551616) 64 = bools x 64 := by
  unfold bools
  apply List.map_congr_left
  intro j hj
  rw [mod64_bit x j (List.mem_range.1 hj)]
theorem sign_bits {x : Int} (h0 : -9223372036854775808 ≤ x) (h1 : x ≤ 9223372036854775807) (j : Nat) (hj : 63 ≤ j) : bit x j = bit x 63 := by
  have h : x / 2 ^ 63 = 0 ∨ x / 2 ^ 63 = -1 := by
    show x / 9223372036854775808 = 0 ∨ x / 9223372036854775808 = -1
    omega
  rcases h with h | h
  · rw [from_same (a := 63) (t := false) (by simpa using h) j hj, from_same (a := 63) (t := false) (by simpa using h) 63 (by omega)]
  · rw [from_same (a := 63) (t := true) (by simpa using h) j hj, from_same (a := 63) (t := true) (by simpa using h) 63 (by omega)]

set_option maxHeartbeats 1000000 in
theorem refInt_any (x : Int) (w : World) (h0 : -9223372036854775808 ≤ x) (h1 : x ≤ 9223372036854775807) {n : Nat} (hn : Least (fitS x) n) :
    Calls Tryd.prog 102 #[.int .i64 x] w (Bytes (grp x n) w) := by
  have h10 : n ≤ 10 := hn.le (by omega) (fitS_ten x h0 (by omega))
  have hn1 := hn.1
  have HA := Lib.hid (fitS_any h0 h1)
  have HN := Lib.hid hn
  have H64 := Lib.hid (fun j hj => sign_bits h0 h1 j (Nat.le_trans (by omega : 63 ≤ 64) hj))
  have HM := Lib.hid (bools_mod x)
  clear hn
  obtain ⟨y, hy⟩ : ∃ y, y = x % 18446744073709551616 := ⟨_, rfl⟩
  have hwr : IntKind.u64.wrap x = y := by rw [hy]; simp [IntKind.wrap, IntKind.bits, IntKind.signed]
  rw [← hy] at HM
  have hy0 : 0 ≤ y := by omega
  have hy1 : y ≤ 18446744073709551615 := by omega
  clear hy
  go_enter Tryd.func102, Tryd.ntmps102
  go_wp2_with (go_at_call 80; go_must (refine (bits_any _ _ hy0 hy1).mono ?_; rw [HM.out]; rintro e w1 ⟨A, c, rfl, hc1, hc2, hl, hlo, hbe⟩; rw [bools_length] at hc1; simp only [bools_length]; have HL := Lib.hid hl; have HBE := Lib.hid hbe; clear hl hlo hbe))
  clear hwr
  obtain ⟨b, off, rfl, hb, hc63⟩ := HL.out _ _ (bools_get x (show 63 < 64 by omega))
  have HC0 : ∀ j, j < 64 → w1.cell? ⟨b, off + j, none⟩ = some (.bool (bit x j)) := fun j hj => by
    obtain ⟨b', off', e', _, h2⟩ := HL.out _ _ (bools_get x hj)
    simp only [Option.some.injEq, Addr.mk.injEq] at e'
    obtain ⟨rfl, rfl, _⟩ := e'
    exact h2
  have HC := Lib.hid HC0
  clear HC0
  obtain ⟨t, ht⟩ : ∃ t, t = bit x 63 := ⟨_, rfl⟩
  rw [← ht] at hc63 HA H64
  have HT := Lib.hid ht
  clear ht
  go_loopw [4] (fun i wr => ∃ k d : Nat, 1 ≤ k ∧ k ≤ n ∧ i = .int .i64 k ∧ wr = w1.drewN d) (fun i _ => 10 - (intOf i).toNat)
  case atStart => exact ⟨1, 0, by omega, by omega, rfl, rfl⟩
  case round =>
    obtain ⟨k, d, hk1, hkn, rfl, rfl⟩ := hrel
    by_cases hk9 : k < 10
    · have hk9' : (k : Int) < 10 := by omega
      go_wp2
      go_loopw [5, 6] (fun m i wr => ∃ j d : Nat, 7 * k - 1 ≤ j ∧ j ≤ 64 ∧ i = .int .i64 j ∧ m = .bool (anyB x t (7 * k - 1) j) ∧ wr = w1.drewN d) (fun _ i _ => 64 - (intOf i).toNat)
      case atStart => exact ⟨7 * k - 1, d, by omega, by omega, by go_num, by rw [any_start _ _ _ _ (by omega)], rfl⟩
      case round =>
        obtain ⟨j, d2, hj1, hj2, rfl, rfl, rfl⟩ := hrel
        by_cases hj : j < 64
        · have hc := HC.out j hj
          have hs := any_snoc x t hj1
          generalize anyB x t (7 * k - 1) j = s at *
          generalize bit x j = bt at *
          have HS := Lib.hid hs
          clear hs
          have hj' : (j : Int) < 64 := by omega
          cases s
          all_goals go_wp2
          all_goals go_quiet (fail)
          all_goals go_wp2
          all_goals
            go_roundw
            case rel => exact ⟨j + 1, _, by omega, by omega, by go_num, by rw [HS.out]; cases bt <;> cases t <;> rfl, rfl⟩
            case measure => simp [intOf]; omega
        · obtain rfl : j = 64 := by omega
          by_cases hkn2 : k = n
          · subst hkn2
            have hf : anyB x t (7 * k - 1) 64 = false := (HA.out k hk1 (by omega)).1 HN.out.2.1
            rw [hf]
            clear hf
            go_wp2_with (go_at_call 81; go_must (refine (group_any x k t (some ⟨b, off, none⟩) c _ (w1.drewN d2) HL.out (Nat.le_refl _) H64.out h10).mono ?_; intro e w2 hb2; have HB2 := Lib.hid (bytes_made hb2 (below_drewN HBE.out d2)); obtain ⟨A2, c2, rfl, -⟩ := hb2))
            go_ret
            exact HB2.out
          · have hf : anyB x t (7 * k - 1) 64 = true := by
              have := mt (HA.out k hk1 (by omega)).2 (HN.out.2.2 k hk1 (by omega))
              simpa using this
            rw [hf]
            clear hf
            go_wp2
            go_roundw
            case rel => exact ⟨k + 1, d2, by omega, by omega, by go_num, rfl⟩
            case measure => simp [intOf]; omega
    · obtain rfl : k = 10 := by omega
      obtain rfl : n = 10 := by omega
      obtain ⟨d2, rfl⟩ : ∃ d2, d2 = d := ⟨_, rfl⟩
      go_wp2_with (go_at_call 81; go_must (refine (group_any x 10 t (some ⟨b, off, none⟩) c _ (w1.drewN d2) HL.out (Nat.le_refl _) H64.out h10).mono ?_; intro e w2 hb2; have HB2 := Lib.hid (bytes_made hb2 (below_drewN HBE.out d2)); obtain ⟨A2, c2, rfl, -⟩ := hb2))
      go_ret
      exact HB2.out
end Go.Proofs.YtebgmfjgapmpfabDoor
