/- atMost, Count, flag, tag, ValType. -/
import Derived.Test.YtapgfapplafepaaDoorZq05
import Derived.Laws.MakeOwn
import Derived.Laws.AppendOwnNone
namespace Go.Proofs.YtapgfapplafepaaDoor
set_option maxRecDepth 100000
open Go.RowKit
set_option linter.unusedVariables false

abbrev encI (v : Int) : Value := .int .i64 v
abbrev encO (v : Bool) : Value := .bool v
abbrev encU (v : Unit) : Value := .tuple #[]
theorem Res.bind_ok {α β : Type} (v : α) (k : Nat) (f : α → Nat → Res β) : (Res.ok v k).bind f = f v k := rfl
theorem Res.bind_err {α β : Type} (c a : Int) (f : α → Nat → Res β) : (Res.err (α := α) c a).bind f = .err c a := rfl

/-- An index that is at most m. -/
noncomputable def atMostR (l : List UInt8) (k : Nat) (m c : Int) : Res Int := (indexR l k).bind fun v k' => if v ≤ m then .ok v k' else .err c k
theorem atMost_scan {w : World} {p : Nat} {l : List UInt8} {k : Nat} (h : Sc w p l k) (m c : Int) :
    Calls Tryd.prog 86 #[.pointer (some ⟨p, 0, none⟩), .int .u32 m, .int .i64 c] w (Did encI p l w (atMostR l k m c)) := by
  have hN := index_scan h
  have c1 := h.at
  unfold atMostR
  cases hr : indexR l k with
  | ok v k' =>
    rw [hr] at hN
    rw [Res.bind_ok]
    have HN := Lib.hid hN
    obtain ⟨hk, v0, v1⟩ := uintR_ok (show uintR l k 32 = .ok v k' from hr)
    have v2 : v < 4294967296 := v1
    have hw : IntKind.i64.wrap v = v := by rw [IntKind.wrap_i64]; omega
    clear hN hr h v1
    by_cases hm : v ≤ m
    · rw [if_pos hm]
      have HM := Lib.hid hm
      have d1 : decide (v ≤ m) = true := by simpa using hm
      go_enter Tryd.func86, Tryd.ntmps86
      go_wp2_with (first
        | (go_at_call 61; go_must ((with_reducible refine HN.out.mono ?_); rintro e w1 ⟨rfl, hs, hg⟩; have HS := Lib.hid hs; have HG := Lib.hid hg; clear hs hg))
        | (go_at_call 88; go_must ((with_reducible refine (unlessT _ _ _).mono ?_); rintro e w' ⟨rfl, rfl⟩)))
      go_ret
      exact ⟨rfl, HS.out, HG.out⟩
    · rw [if_neg hm]
      have HM := Lib.hid hm
      have d1 : decide (v ≤ m) = false := by simpa using hm
      clear hm
      go_enter Tryd.func86, Tryd.ntmps86
      go_wp2_with (first
        | (go_at_call 61; go_must ((with_reducible refine HN.out.mono ?_); rintro e w1 ⟨rfl, hs, hg⟩; have HS := Lib.hid hs; have HG := Lib.hid hg; clear hs hg))
        | (go_at_call 88; go_must ((with_reducible refine (unlessF _ _ _).mono ?_); rintro e w' ⟨rfl, rfl⟩)))
      exact ⟨rfl, rfl, HG.out⟩
  | err c2 a =>
    rw [hr] at hN
    rw [Res.bind_err]
    have HN := Lib.hid hN
    clear hN hr h
    go_enter Tryd.func86, Tryd.ntmps86
    go_wp2_with (go_at_call 61; go_must ((with_reducible refine HN.out.mono ?_); rintro e w1 ⟨rfl, hg⟩; have HG := Lib.hid hg; clear hg))
    exact ⟨rfl, rfl, HG.out⟩
/-- How many things follow. -/
noncomputable def countR (l : List UInt8) (k : Nat) : Res Int := atMostR l k 10000 29
theorem count_scan {w : World} {p : Nat} {l : List UInt8} {k : Nat} (h : Sc w p l k) :
    Calls Tryd.prog 97 #[.pointer (some ⟨p, 0, none⟩)] w (Did encI p l w (countR l k)) := by
  have hN := atMost_scan h 10000 29
  unfold countR
  cases hr : atMostR l k 10000 29 with
  | ok v k' =>
    rw [hr] at hN
    have HN := Lib.hid hN
    clear hN hr h
    go_enter Tryd.func97, Tryd.ntmps97
    go_wp2_with (go_at_call 86; go_must ((with_reducible refine HN.out.mono ?_); rintro e w1 ⟨rfl, hs, hg⟩; have HS := Lib.hid hs; have HG := Lib.hid hg; clear hs hg))
    go_ret
    exact ⟨rfl, HS.out, HG.out⟩
  | err c2 a =>
    rw [hr] at hN
    have HN := Lib.hid hN
    clear hN hr h
    go_enter Tryd.func97, Tryd.ntmps97
    go_wp2_with (go_at_call 86; go_must ((with_reducible refine HN.out.mono ?_); rintro e w1 ⟨rfl, hg⟩; have HG := Lib.hid hg; clear hg))
    exact ⟨rfl, rfl, HG.out⟩

/-- A byte that is 0 or 1. -/
def flagR (l : List UInt8) (k : Nat) : Res Bool := (byteR l k).bind fun c k' => if (c.toNat : Int) ≤ 1 then .ok ((c.toNat : Int) == 1) k' else .err 10 k
theorem flag_scan {w : World} {p : Nat} {l : List UInt8} {k : Nat} (h : Sc w p l k) :
    Calls Tryd.prog 94 #[.pointer (some ⟨p, 0, none⟩)] w (Did encO p l w (flagR l k)) := by
  have hN := byte_any h
  have c1 := h.at
  unfold flagR
  cases hr : byteR l k with
  | ok c k' =>
    rw [hr] at hN
    rw [Res.bind_ok]
    have HN := Lib.hid hN
    clear hN hr h
    by_cases hm : (c.toNat : Int) ≤ 1
    · rw [if_pos hm]
      have d1 : decide ((c.toNat : Int) ≤ 1) = true := by simpa using hm
      have d2 : decide (c.toNat ≤ 1) = true := by simp; omega
      clear hm
      go_enter Tryd.func94, Tryd.ntmps94
      go_wp2_with (first
        | (go_at_call 91; go_must ((with_reducible refine HN.out.mono ?_); rintro e w1 ⟨rfl, hs, hg⟩; have HS := Lib.hid hs; have HG := Lib.hid hg; clear hs hg))
        | (go_at_call 88; go_must ((with_reducible refine (unlessT _ _ _).mono ?_); rintro e w' ⟨rfl, rfl⟩)))
      go_ret
      exact ⟨rfl, HS.out, HG.out⟩
    · rw [if_neg hm]
      have d1 : decide ((c.toNat : Int) ≤ 1) = false := by simpa using hm
      have d2 : decide (c.toNat ≤ 1) = false := by simp; omega
      clear hm
      go_enter Tryd.func94, Tryd.ntmps94
      go_wp2_with (first
        | (go_at_call 91; go_must ((with_reducible refine HN.out.mono ?_); rintro e w1 ⟨rfl, hs, hg⟩; have HS := Lib.hid hs; have HG := Lib.hid hg; clear hs hg))
        | (go_at_call 88; go_must ((with_reducible refine (unlessF _ _ _).mono ?_); rintro e w' ⟨rfl, rfl⟩)))
      exact ⟨rfl, rfl, HG.out⟩
  | err c2 a =>
    rw [hr] at hN
    rw [Res.bind_err]
    have HN := Lib.hid hN
    clear hN hr h
    go_enter Tryd.func94, Tryd.ntmps94
    go_wp2_with (go_at_call 91; go_must ((with_reducible refine HN.out.mono ?_); rintro e w1 ⟨rfl, hg⟩; have HG := Lib.hid hg; clear hg))
    exact ⟨rfl, rfl, HG.out⟩

/-- A byte that can only be one. -/
def tagR (l : List UInt8) (k : Nat) (t : Int) : Res Unit := (byteR l k).bind fun c k' => if (c.toNat : Int) = t then .ok () k' else .err 7 k
theorem tag_scan {w : World} {p : Nat} {l : List UInt8} {k : Nat} (h : Sc w p l k) (t : Int) :
    Calls Tryd.prog 93 #[.pointer (some ⟨p, 0, none⟩), .int .u8 t] w (Did encU p l w (tagR l k t)) := by
  have hN := byte_any h
  have c1 := h.at
  unfold tagR
  cases hr : byteR l k with
  | ok c k' =>
    rw [hr] at hN
    rw [Res.bind_ok]
    have HN := Lib.hid hN
    clear hN hr h
    by_cases hm : (c.toNat : Int) = t
    · rw [if_pos hm]
      have d1 : ((c.toNat : Int) == t) = true := by simpa using hm
      clear hm
      go_enter Tryd.func93, Tryd.ntmps93
      go_wp2_with (first
        | (go_at_call 91; go_must ((with_reducible refine HN.out.mono ?_); rintro e w1 ⟨rfl, hs, hg⟩; have HS := Lib.hid hs; have HG := Lib.hid hg; clear hs hg))
        | (go_at_call 88; go_must ((with_reducible refine (unlessT _ _ _).mono ?_); rintro e w' ⟨rfl, rfl⟩)))
      go_end0
      exact ⟨rfl, HS.out, HG.out⟩
    · rw [if_neg hm]
      have d1 : ((c.toNat : Int) == t) = false := by simpa using hm
      clear hm
      go_enter Tryd.func93, Tryd.ntmps93
      go_wp2_with (first
        | (go_at_call 91; go_must ((with_reducible refine HN.out.mono ?_); rintro e w1 ⟨rfl, hs, hg⟩; have HS := Lib.hid hs; have HG := Lib.hid hg; clear hs hg))
        | (go_at_call 88; go_must ((with_reducible refine (unlessF _ _ _).mono ?_); rintro e w' ⟨rfl, rfl⟩)))
      exact ⟨rfl, rfl, HG.out⟩
  | err c2 a =>
    rw [hr] at hN
    rw [Res.bind_err]
    have HN := Lib.hid hN
    clear hN hr h
    go_enter Tryd.func93, Tryd.ntmps93
    go_wp2_with (go_at_call 91; go_must ((with_reducible refine HN.out.mono ?_); rintro e w1 ⟨rfl, hg⟩; have HG := Lib.hid hg; clear hg))
    exact ⟨rfl, rfl, HG.out⟩

/-- A type of values. -/
def valR (l : List UInt8) (k : Nat) : Res UInt8 := (byteR l k).bind fun c k' => if valueZ c.toNat = 0 then .ok c k' else .err (valueZ c.toNat) k
theorem val_scan {w : World} {p : Nat} {l : List UInt8} {k : Nat} (h : Sc w p l k) :
    Calls Tryd.prog 95 #[.pointer (some ⟨p, 0, none⟩)] w (Did encB p l w (valR l k)) := by
  have hN := byte_any h
  have c1 := h.at
  unfold valR
  cases hr : byteR l k with
  | ok c k' =>
    rw [hr] at hN
    rw [Res.bind_ok]
    have HN := Lib.hid hN
    have HV := Lib.hid (fun w => value_any (c.toNat : Int) w)
    obtain ⟨z, hz⟩ : ∃ z, z = valueZ c.toNat := ⟨_, rfl⟩
    rw [← hz] at HV ⊢
    clear hN hr h hz
    by_cases hm : z = 0
    · rw [if_pos hm]
      subst hm
      go_enter Tryd.func95, Tryd.ntmps95
      go_wp2_with (first
        | (go_at_call 91; go_must ((with_reducible refine HN.out.mono ?_); rintro e w1 ⟨rfl, hs, hg⟩; have HS := Lib.hid hs; have HG := Lib.hid hg; clear hs hg))
        | (go_at_call 55; go_must ((with_reducible refine (HV.out _).mono ?_); rintro e w' ⟨rfl, rfl⟩))
        | (go_at_call 88; go_must ((with_reducible refine (unlessT _ _ _).mono ?_); rintro e w' ⟨rfl, rfl⟩)))
      go_ret
      exact ⟨rfl, HS.out, HG.out⟩
    · rw [if_neg hm]
      have d1 : (z == 0) = false := by simpa using hm
      clear hm
      go_enter Tryd.func95, Tryd.ntmps95
      go_wp2_with (first
        | (go_at_call 91; go_must ((with_reducible refine HN.out.mono ?_); rintro e w1 ⟨rfl, hs, hg⟩; have HS := Lib.hid hs; have HG := Lib.hid hg; clear hs hg))
        | (go_at_call 55; go_must ((with_reducible refine (HV.out _).mono ?_); rintro e w' ⟨rfl, rfl⟩))
        | (go_at_call 88; go_must ((with_reducible refine (unlessF _ _ _).mono ?_); rintro e w' ⟨rfl, rfl⟩)))
      exact ⟨rfl, rfl, HG.out⟩
  | err c2 a =>
    rw [hr] at hN
    rw [Res.bind_err]
    have HN := Lib.hid hN
    clear hN hr h
    go_enter Tryd.func95, Tryd.ntmps95
    go_wp2_with (go_at_call 91; go_must ((with_reducible refine HN.out.mono ?_); rintro e w1 ⟨rfl, hg⟩; have HG := Lib.hid hg; clear hg))
    exact ⟨rfl, rfl, HG.out⟩
end Go.Proofs.YtapgfapplafepaaDoor

/- valTypes. -/
namespace Go.Proofs.YtapgfapplafepaaDoor
set_option maxRecDepth 100000
open Go.RowKit
set_option linter.unusedVariables false

abbrev encS (t : List UInt8) : Value := .string (S t)
/-- n more types, behind those that were read. -/
def valsK (l : List UInt8) : Nat → Nat → List UInt8 → Res (List UInt8)
  | 0, k, acc => .ok acc k
  | n + 1, k, acc => (valR l k).bind fun c k' => valsK l n k' (acc ++ [c])
/-- How many types there are, and these. -/
noncomputable def valsR (l : List UInt8) (k : Nat) : Res (List UInt8) := (countR l k).bind fun n k' => valsK l n.toNat k' []
theorem valsK_more {l : List UInt8} {n i k : Nat} {acc : List UInt8} (h : i < n) : valsK l (n - i) k acc = (valR l k).bind fun c k' => valsK l (n - (i + 1)) k' (acc ++ [c]) := by
  rw [show n - i = n - (i + 1) + 1 by omega]
  rfl
theorem countR_ok {l : List UInt8} {k : Nat} {v : Int} {k' : Nat} (h : countR l k = .ok v k') : 0 ≤ v ∧ v ≤ 10000 := by
  unfold countR atMostR at h
  cases hr : indexR l k with
  | ok u q =>
    rw [hr, Res.bind_ok] at h
    have hb := uintR_ok (show uintR l k 32 = .ok u q from hr)
    by_cases hm : u ≤ 10000
    · rw [if_pos hm] at h; injection h with h1 h2; omega
    · rw [if_neg hm] at h; cases h
  | err c a => rw [hr, Res.bind_err] at h; cases h

/-- Cells that are made, of one kind. -/
theorem made_one (v : Value) (n : Nat) : madeCells #[v] n = Array.replicate n v := by
  apply Array.ext
  · simp [madeCells]
  · intro i h1 h2
    simp [madeCells, Nat.mod_one]
theorem make_bytes (n : Nat) (hn : n ≤ 100000) (w : World) : (Instr.makeSlice 31 (.int .i64 (n : Int)) (.int .i64 (n : Int))).run Tryd.prog w = .ok (.slice (some ⟨w.heap.size, 0, none⟩) n n) (w.alloc (.cells (List.replicate n (.int .u8 0)).toArray 5)) := by
  obtain ⟨i0, hi0, hz0, hz1, hz2⟩ := info_parts infoB
  have hr := run_make (P := Tryd.prog) w 31 5 i0 _ Tryd.underlying31 hi0 hz0 .i64 .i64 (n : Int) (n : Int) (by omega) (Int.le_refl _) (by rw [hz2]; omega) (by omega)
  rw [hr, hz1]
  have e : (Value.int IntKind.u8 0).cells = #[.int .u8 0] := rfl
  rw [e, made_one]
  simp
/-- A block of n bytes, of which the first are written. -/
def Part (w : World) (g n : Nat) (acc : List UInt8) : Prop := Whole w g 5 (cells (nums acc) ++ List.replicate (n - acc.length) (Value.int .u8 0)).toArray ∧ acc.length ≤ n
theorem Part.start (w : World) (n : Nat) : Part (w.alloc (.cells (List.replicate n (.int .u8 0)).toArray 5)) w.heap.size n [] := ⟨Whole.made _ _ _, Nat.zero_le _⟩
theorem Part.put {w : World} {g n : Nat} {acc : List UInt8} (h : Part w g n acc) (c : UInt8) (hlt : acc.length < n) : Part (w.setCell ⟨g, acc.length, none⟩ (.int .u8 c.toNat)) g n (acc ++ [c]) := by
  refine ⟨?_, by simp; omega⟩
  have h1 := h.1.put acc.length (.int .u8 c.toNat)
  have e : ((cells (nums acc) ++ List.replicate (n - acc.length) (Value.int .u8 0)).toArray.setIfInBounds acc.length (.int .u8 c.toNat)) = (cells (nums (acc ++ [c])) ++ List.replicate (n - (acc ++ [c]).length) (Value.int .u8 0)).toArray := by
    have hl : (cells (nums acc)).length = acc.length := by rw [cells_length, nums_length]
    have hr : List.replicate (n - acc.length) (Value.int .u8 0) = .int .u8 0 :: List.replicate (n - (acc.length + 1)) (.int .u8 0) := by
      rw [show n - acc.length = n - (acc.length + 1) + 1 by omega]; rfl
    rw [hr, List.setIfInBounds_toArray, List.set_append_right _ _ (by omega), hl, Nat.sub_self, List.set_cons_zero, nums_append]
    simp [cells, nums]
  rw [e] at h1
  exact h1
theorem Part.row {w : World} {g n : Nat} {acc : List UInt8} (h : Part w g n acc) (hn : acc.length = n) (base : Nat) (hb : base ≤ g) (hm : n ≤ 100000) : Row w base (.slice (some ⟨g, 0, none⟩) n n) acc := by
  subst hn
  have h1 := h.1
  rw [Nat.sub_self, List.replicate_zero, List.append_nil] at h1
  have hl : (cells (nums acc)).length = acc.length := by rw [cells_length, nums_length]
  exact ⟨by omega, .inr ⟨g, acc.length, (cells (nums acc)).toArray, rfl, hb, h1, Nat.le_refl _, by unfold maxLen; omega, by simp [hl], by rw [List.take_of_length_le (by simp [hl])]⟩⟩
theorem Part.cell {w : World} {g n : Nat} {acc : List UInt8} (h : Part w g n acc) (hlt : acc.length < n) : ∃ u, w.cell? ⟨g, acc.length, none⟩ = some u := by
  have hl : (cells (nums acc)).length = acc.length := by rw [cells_length, nums_length]
  exact ⟨_, (h.1.cell acc.length).trans (Array.getElem?_eq_getElem (by simp [hl]; omega))⟩
end Go.Proofs.YtapgfapplafepaaDoor

/- FuncType. -/
namespace Go.Proofs.YtapgfapplafepaaDoor
set_option maxRecDepth 100000
open Go.RowKit
set_option linter.unusedVariables false

abbrev encF (x : List UInt8 × List UInt8) : Value := .agg #[.string (S x.1), .string (S x.2)]
/-- A function's type. -/
noncomputable def funcR (l : List UInt8) (k : Nat) : Res (List UInt8 × List UInt8) :=
  (tagR l k 96).bind fun _ k1 => (valsR l k1).bind fun a k2 => (valsR l k2).bind fun b k3 => if funcZ a b = 0 then .ok (a, b) k3 else .err (funcZ a b) k
theorem valsK_len {l : List UInt8} : ∀ (n k : Nat) (acc a : List UInt8) (q : Nat), valsK l n k acc = .ok a q → a.length = acc.length + n
  | 0, k, acc, a, q, h => by injection h with h1 h2; rw [← h1]; rfl
  | n + 1, k, acc, a, q, h => by
    unfold valsK at h
    cases hc : valR l k with
    | ok c q2 =>
      rw [hc, Res.bind_ok] at h
      have := valsK_len n q2 (acc ++ [c]) a q h
      simp at this; omega
    | err c x => rw [hc, Res.bind_err] at h; cases h
theorem valsR_len {l : List UInt8} {k : Nat} {a : List UInt8} {q : Nat} (h : valsR l k = .ok a q) : a.length ≤ 10000 := by
  unfold valsR at h
  cases hc : countR l k with
  | ok v q2 =>
    rw [hc, Res.bind_ok] at h
    have := countR_ok hc
    have := valsK_len _ _ _ _ _ h
    simp at this; omega
  | err c x => rw [hc, Res.bind_err] at h; cases h

end Go.Proofs.YtapgfapplafepaaDoor

/- Limits, Global. -/
namespace Go.Proofs.YtapgfapplafepaaDoor
set_option maxRecDepth 100000
open Go.RowKit
set_option linter.unusedVariables false

/-- Three cells of one block, all written. -/
theorem three_put {w : World} {b : Nat} {t : TypeId} {x y z u v s : Value} (hb : Whole w b t #[x, y, z]) :
    Whole (((w.setCell ⟨b, 0, none⟩ u).setCell ⟨b, 1, none⟩ v).setCell ⟨b, 2, none⟩ s) b t #[u, v, s] ∧ w.grownBy (((w.setCell ⟨b, 0, none⟩ u).setCell ⟨b, 1, none⟩ v).setCell ⟨b, 2, none⟩ s) (some b) :=
  ⟨((hb.put 0 u).put 1 v).put 2 s, gb_put (p := ⟨b, 2, none⟩) (gb_put (p := ⟨b, 1, none⟩) (gb_put (p := ⟨b, 0, none⟩) (gb_refl w _) (.inl rfl) u) (.inl rfl) v) (.inl rfl) s⟩
abbrev encT (x : Int × Int × Bool) : Value := .agg #[.int .u32 x.1, .int .u32 x.2.1, .bool x.2.2]
/-- Limits. -/
noncomputable def limR (l : List UInt8) (k : Nat) : Res (Int × Int × Bool) :=
  (flagR l k).bind fun b k1 => (indexR l k1).bind fun mn k2 => if b then (indexR l k2).bind fun mx k3 => .ok (mn, mx, true) k3 else .ok (mn, 0, false) k2

set_option maxHeartbeats 1000000 in
theorem limits_scan {w : World} {p : Nat} {l : List UInt8} {k : Nat} (h : Sc w p l k) :
    Calls Tryd.prog 63 #[.pointer (some ⟨p, 0, none⟩)] w (Did encT p l w (limR l k)) := by
  have hlt := h.lt
  have hT := flag_scan (h.alloc (.cells #[.int .u32 0, .int .u32 0, .bool false] 24))
  have HWM := Lib.hid (Whole.made w 24 #[.int .u32 0, .int .u32 0, .bool false])
  unfold limR
  cases h1 : flagR l k with
  | err c a =>
    rw [h1] at hT
    rw [Res.bind_err]
    have HT := Lib.hid hT
    clear hT h1 h
    go_enter Tryd.func63, Tryd.ntmps63
    go_wp2_with (go_at_call 94; go_must ((with_reducible refine HT.out.mono ?_); rintro e w1 ⟨rfl, hg⟩; have HG := Lib.hid hg; clear hg))
    exact ⟨rfl, rfl, gb_trans (gb_alloc (gb_refl w _) _) HG.out⟩
  | ok b k1 =>
    rw [h1] at hT
    rw [Res.bind_ok]
    have HT := Lib.hid hT
    clear hT h1 h
    have V1 := Lib.hid (fun W (hs : Sc W p l k1) => index_scan hs)
    cases h2 : indexR l k1 with
    | err c a =>
      rw [h2] at V1
      rw [Res.bind_err]
      clear h2
      go_enter Tryd.func63, Tryd.ntmps63
      go_wp2_with (first
        | (go_at_call 94; go_must ((with_reducible refine HT.out.mono ?_); rintro e w1 ⟨rfl, hs, hg⟩; have HS := Lib.hid hs; have HG := Lib.hid hg; clear hs hg))
        | (go_at_call 61; go_must ((with_reducible refine (V1.out _ HS.out).mono ?_); rintro e w2 ⟨rfl, hg⟩; have HG2 := Lib.hid hg; clear hg)))
      exact ⟨rfl, rfl, gb_trans (gb_trans (gb_alloc (gb_refl w _) _) HG.out) HG2.out⟩
    | ok mn k2 =>
      rw [h2] at V1
      rw [Res.bind_ok]
      clear h2
      cases b with
      | false =>
        rw [if_neg (by simp)]
        go_enter Tryd.func63, Tryd.ntmps63
        go_wp2_with (first
          | (go_at_call 94; go_must ((with_reducible refine HT.out.mono ?_); rintro e w1 ⟨rfl, hs, hg⟩; have HS := Lib.hid hs; have HG := Lib.hid hg; have HW1 := Lib.hid (HWM.out.grown hg (by simp only [ne_eq, Option.some.injEq]; omega)); clear hs hg))
          | (go_at_call 61; go_must ((with_reducible refine (V1.out _ HS.out).mono ?_); rintro e w2 ⟨rfl, hs, hg⟩; have HS2 := Lib.hid hs; have HG2 := Lib.hid hg; have hz2 := HG2.out.size; have hz1 := HG.out.size; simp only [World.size_alloc] at hz1; have HW2 := Lib.hid ((HW1.out.grown hg (by simp only [ne_eq, Option.some.injEq]; omega)).alloc (.cells #[.int .u32 mn, .int .u32 0, .bool false] 24)); have g0 := HW2.out.frozen 0; have g1 := HW2.out.frozen 1; have g2 := HW2.out.frozen 2; have k0 := HW2.out.cell 0; have k1' := HW2.out.cell 1; have k2' := HW2.out.cell 2; simp only [List.getElem?_toArray, List.getElem?_cons_zero, List.getElem?_cons_succ] at k0 k1' k2'; clear hs hg)))
        obtain ⟨hW, hG⟩ := three_put (u := .int .u32 mn) (v := .int .u32 0) (s := .bool false) HW2.out
        have q0 := hW.cell 0
        have q1 := hW.cell 1
        have q2 := hW.cell 2
        simp only [List.getElem?_toArray, List.getElem?_cons_zero, List.getElem?_cons_succ] at q0 q1 q2
        have hall := gb_alloc (gb_trans (gb_trans (gb_alloc (gb_refl w _) _) HG.out) HG2.out) (.cells #[.int .u32 mn, .int .u32 0, .bool false] 24)
        refine bodyPost_ret (v := .agg #[.int .u32 mn, .int .u32 0, .bool false]) (by simp [results, Tryd.results63, go_sem, q0, q1, q2]) rfl ⟨rfl, ?_, ?_⟩
        · exact (HS2.out.alloc _).grown hG (by simp only [ne_eq, Option.some.injEq]; omega) (fun g e => by injection e with e; omega)
        · exact gb_put (p := ⟨w.heap.size, 2, none⟩) (gb_put (p := ⟨w.heap.size, 1, none⟩) (gb_put (p := ⟨w.heap.size, 0, none⟩) hall (.inr (Nat.le_refl _)) _) (.inr (Nat.le_refl _)) _) (.inr (Nat.le_refl _)) _
      | true =>
        rw [if_pos rfl]
        have V2 := Lib.hid (fun W (hs : Sc W p l k2) => index_scan hs)
        cases h3 : indexR l k2 with
        | err c x =>
          rw [h3] at V2
          rw [Res.bind_err]
          clear h3
          go_enter Tryd.func63, Tryd.ntmps63
          go_wp2_with (first
            | (go_at_call 94; go_must ((with_reducible refine HT.out.mono ?_); rintro e w1 ⟨rfl, hs, hg⟩; have HS := Lib.hid hs; have HG := Lib.hid hg; clear hs hg))
            | (have tok := HS2; go_at_call 61; go_must ((with_reducible refine (V2.out _ (HS2.out.alloc _)).mono ?_); rintro e w3 ⟨rfl, hg⟩; have HG3 := Lib.hid hg; clear hg))
            | (go_at_call 61; go_must ((with_reducible refine (V1.out _ HS.out).mono ?_); rintro e w2 ⟨rfl, hs, hg⟩; have HS2 := Lib.hid hs; have HG2 := Lib.hid hg; clear hs hg)))
          exact ⟨rfl, rfl, gb_trans (gb_alloc (gb_trans (gb_trans (gb_alloc (gb_refl w _) _) HG.out) HG2.out) _) HG3.out⟩
        | ok mx k3 =>
          rw [h3] at V2
          rw [Res.bind_ok]
          clear h3
          go_enter Tryd.func63, Tryd.ntmps63
          go_wp2_with (first
            | (go_at_call 94; go_must ((with_reducible refine HT.out.mono ?_); rintro e w1 ⟨rfl, hs, hg⟩; have HS := Lib.hid hs; have HG := Lib.hid hg; have HW1 := Lib.hid (HWM.out.grown hg (by simp only [ne_eq, Option.some.injEq]; omega)); clear hs hg))
            | (have tok := HS2; go_at_call 61; go_must ((with_reducible refine (V2.out _ (HS2.out.alloc _)).mono ?_); rintro e w3 ⟨rfl, hs, hg⟩; have HS3 := Lib.hid hs; have HG3 := Lib.hid hg; have hz3 := HG3.out.size; simp only [World.size_alloc] at hz3; have HW3 := Lib.hid (HW2.out.grown hg (by simp only [ne_eq, Option.some.injEq]; omega)); have HX3 := Lib.hid ((Whole.made w2 24 #[.int .u32 mn, .int .u32 0, .bool true]).grown hg (by simp only [ne_eq, Option.some.injEq]; omega)); have f1 := HX3.out.frozen 1; have c0 := HX3.out.cell 0; have c1 := HX3.out.cell 1; have c2 := HX3.out.cell 2; have g0 := HW3.out.frozen 0; have g1 := HW3.out.frozen 1; have g2 := HW3.out.frozen 2; have k0 := HW3.out.cell 0; have k1' := HW3.out.cell 1; have k2' := HW3.out.cell 2; simp only [List.getElem?_toArray, List.getElem?_cons_zero, List.getElem?_cons_succ] at c0 c1 c2 k0 k1' k2'; have hne : ¬ w2.heap.size = w.heap.size := (by omega); have hne2 : ¬ w.heap.size = w2.heap.size := (by omega); clear hs hg))
            | (go_at_call 61; go_must ((with_reducible refine (V1.out _ HS.out).mono ?_); rintro e w2 ⟨rfl, hs, hg⟩; have HS2 := Lib.hid hs; have HG2 := Lib.hid hg; have hz2 := HG2.out.size; have hz1 := HG.out.size; simp only [World.size_alloc] at hz1; have HW2 := Lib.hid ((HW1.out.grown hg (by simp only [ne_eq, Option.some.injEq]; omega)).alloc (.cells #[.int .u32 mn, .int .u32 0, .bool true] 24)); clear hs hg)))
          have hg4 : w3.grownBy (w3.setCell ⟨w2.heap.size, 1, none⟩ (.int .u32 mx)) (some w2.heap.size) := gb_put (p := ⟨w2.heap.size, 1, none⟩) (gb_refl w3 _) (.inl rfl) _
          have HW4 := HW3.out.grown hg4 (by simp only [ne_eq, Option.some.injEq]; omega)
          have HS4 := HS3.out.grown hg4 (by simp only [ne_eq, Option.some.injEq]; omega) (fun g e => by injection e with e; omega)
          have hall := gb_put (p := ⟨w2.heap.size, 1, none⟩) (gb_trans (gb_alloc (gb_trans (gb_trans (gb_alloc (gb_refl w _) _) HG.out) HG2.out) (.cells #[.int .u32 mn, .int .u32 0, .bool true] 24)) HG3.out) (.inr (show w.heap.size ≤ w2.heap.size by omega)) (.int .u32 mx)
          generalize w3.setCell ⟨w2.heap.size, 1, none⟩ (.int .u32 mx) = W at *
          obtain ⟨hW, hG⟩ := three_put (u := .int .u32 mn) (v := .int .u32 mx) (s := .bool true) HW4
          have q0 := hW.cell 0
          have q1 := hW.cell 1
          have q2 := hW.cell 2
          simp only [List.getElem?_toArray, List.getElem?_cons_zero, List.getElem?_cons_succ] at q0 q1 q2
          refine bodyPost_ret (v := .agg #[.int .u32 mn, .int .u32 mx, .bool true]) (by simp [results, Tryd.results63, go_sem, q0, q1, q2]) rfl ⟨rfl, ?_, ?_⟩
          · exact HS4.grown hG (by simp only [ne_eq, Option.some.injEq]; omega) (fun g e => by injection e with e; omega)
          · exact gb_put (p := ⟨w.heap.size, 2, none⟩) (gb_put (p := ⟨w.heap.size, 1, none⟩) (gb_put (p := ⟨w.heap.size, 0, none⟩) hall (.inr (Nat.le_refl _)) _) (.inr (Nat.le_refl _)) _) (.inr (Nat.le_refl _)) _

abbrev encGl (x : UInt8 × Bool) : Value := .agg #[.int .u8 x.1.toNat, .bool x.2]
/-- A global's type. -/
def globR (l : List UInt8) (k : Nat) : Res (UInt8 × Bool) := (valR l k).bind fun t k1 => (flagR l k1).bind fun m k2 => .ok (t, m) k2
set_option maxHeartbeats 1000000 in
theorem global_scan {w : World} {p : Nat} {l : List UInt8} {k : Nat} (h : Sc w p l k) :
    Calls Tryd.prog 64 #[.pointer (some ⟨p, 0, none⟩)] w (Did encGl p l w (globR l k)) := by
  have hlt := h.lt
  have hT := val_scan (h.alloc (.cells #[.int .u8 0, .bool false] 26))
  have HWM := Lib.hid (Whole.made w 26 #[.int .u8 0, .bool false])
  unfold globR
  cases h1 : valR l k with
  | err c a =>
    rw [h1] at hT
    rw [Res.bind_err]
    have HT := Lib.hid hT
    clear hT h1 h
    go_enter Tryd.func64, Tryd.ntmps64
    go_wp2_with (go_at_call 95; go_must ((with_reducible refine HT.out.mono ?_); rintro e w1 ⟨rfl, hg⟩; have HG := Lib.hid hg; clear hg))
    exact ⟨rfl, rfl, gb_trans (gb_alloc (gb_refl w _) _) HG.out⟩
  | ok t k1 =>
    rw [h1] at hT
    rw [Res.bind_ok]
    have HT := Lib.hid hT
    clear hT h1 h
    have V1 := Lib.hid (fun W (hs : Sc W p l k1) => flag_scan hs)
    cases h2 : flagR l k1 with
    | err c a =>
      rw [h2] at V1
      rw [Res.bind_err]
      clear h2
      go_enter Tryd.func64, Tryd.ntmps64
      go_wp2_with (first
        | (go_at_call 95; go_must ((with_reducible refine HT.out.mono ?_); rintro e w1 ⟨rfl, hs, hg⟩; have HS := Lib.hid hs; have HG := Lib.hid hg; clear hs hg))
        | (go_at_call 94; go_must ((with_reducible refine (V1.out _ HS.out).mono ?_); rintro e w2 ⟨rfl, hg⟩; have HG2 := Lib.hid hg; clear hg)))
      exact ⟨rfl, rfl, gb_trans (gb_trans (gb_alloc (gb_refl w _) _) HG.out) HG2.out⟩
    | ok m k2 =>
      rw [h2] at V1
      rw [Res.bind_ok]
      clear h2
      go_enter Tryd.func64, Tryd.ntmps64
      go_wp2_with (first
        | (go_at_call 95; go_must ((with_reducible refine HT.out.mono ?_); rintro e w1 ⟨rfl, hs, hg⟩; have HS := Lib.hid hs; have HG := Lib.hid hg; have HW1 := Lib.hid (HWM.out.grown hg (by simp only [ne_eq, Option.some.injEq]; omega)); clear hs hg))
        | (go_at_call 94; go_must ((with_reducible refine (V1.out _ HS.out).mono ?_); rintro e w2 ⟨rfl, hs, hg⟩; have HS2 := Lib.hid hs; have HG2 := Lib.hid hg; have HW2 := Lib.hid (HW1.out.grown hg (by simp only [ne_eq, Option.some.injEq]; omega)); have g0 := HW2.out.frozen 0; have g1 := HW2.out.frozen 1; have k0 := HW2.out.cell 0; have k1' := HW2.out.cell 1; simp only [List.getElem?_toArray, List.getElem?_cons_zero, List.getElem?_cons_succ] at k0 k1'; clear hs hg)))
      obtain ⟨hW, hG⟩ := two_put (u := .int .u8 t.toNat) (v := .bool m) HW2.out (Below.refl _ _)
      have q0 := hW.cell 0
      have q1 := hW.cell 1
      simp only [List.getElem?_toArray, List.getElem?_cons_zero, List.getElem?_cons_succ] at q0 q1
      have hall := gb_trans (gb_trans (gb_alloc (gb_refl w _) _) HG.out) HG2.out
      refine bodyPost_ret (v := .agg #[.int .u8 t.toNat, .bool m]) (by simp [results, Tryd.results64, go_sem, q0, q1]) rfl ⟨rfl, ?_, ?_⟩
      · exact HS2.out.grown hG (by simp only [ne_eq, Option.some.injEq]; omega) (fun g e => by injection e with e; omega)
      · exact gb_put (p := ⟨w.heap.size, 1, none⟩) (gb_put (p := ⟨w.heap.size, 0, none⟩) hall (.inr (Nat.le_refl _)) _) (.inr (Nat.le_refl _)) _
end Go.Proofs.YtapgfapplafepaaDoor

/- Plain mathematics: the bits of a varint's number, with and without a sign; when it fits. -/
namespace Go.Proofs.YtapgfapplafepaaDoor
open Go.RowKit
set_option linter.unusedVariables false

theorem bit_step (d x : Int) (i : Nat) : bit (d % 128 + 128 * x) (7 + i) = bit x i := by
  rw [← bit_div]
  have e : (d % 128 + 128 * x) / 2 ^ 7 = x := by
    show (d % 128 + 128 * x) / 128 = x
    omega
  rw [e]
theorem bit_byte (d x : Int) (i : Nat) (hi : i < 7) : bit (d % 128 + 128 * x) i = bit d i := by
  unfold bit
  have h : i = 0 ∨ i = 1 ∨ i = 2 ∨ i = 3 ∨ i = 4 ∨ i = 5 ∨ i = 6 := by omega
  have key : (d % 128 + 128 * x) / 2 ^ i % 2 = d / 2 ^ i % 2 := by
    rcases h with rfl | rfl | rfl | rfl | rfl | rfl | rfl <;> simp <;> omega
  rw [key]
theorem bit_low : ∀ (l : List Int) (j i : Nat) (c : Int), i < 7 → l[j]? = some c → bit (low l) (7 * j + i) = bit c i
  | [], j, i, c, _, h => by simp at h
  | d :: r, 0, i, c, hi, h => by
    have : d = c := by simpa using h
    subst this
    rw [Nat.mul_zero, Nat.zero_add]
    exact bit_byte d _ i hi
  | d :: r, j + 1, i, c, hi, h => by
    have ih := bit_low r j i c hi (by simpa using h)
    rw [show 7 * (j + 1) + i = 7 + (7 * j + i) by omega, ← ih]
    exact bit_step d _ _

/-- The number of n bits, m of them known: with a sign, or without. -/
def ext (s : Bool) (N : Int) (m : Nat) : Int := if s && bit N (m - 1) then N - 2 ^ m else N
theorem ext_low (s : Bool) (N : Int) (m j : Nat) (h : j < m) : bit (ext s N m) j = bit N j := by
  unfold ext
  split
  · unfold bit
    have e : (2 : Int) ^ m = 2 ^ j * 2 * 2 ^ (m - j - 1) := by
      rw [show (2 : Int) ^ j * 2 = 2 ^ (j + 1) from (Int.pow_succ 2 j).symm, ← Int.pow_add]; congr 1; omega
    have hp := p2 j
    have e2 : N - 2 ^ m = N + 2 ^ j * (2 * -2 ^ (m - j - 1)) := by rw [e]; generalize (2 : Int) ^ (m - j - 1) = t; generalize (2 : Int) ^ j = u; grind
    rw [e2, Int.add_mul_ediv_left _ _ (Int.ne_of_gt hp)]
    congr 1
    omega
  · rfl
theorem ext_bd (s : Bool) {N : Int} {m : Nat} (hm : 1 ≤ m) (h0 : 0 ≤ N) (h1 : N < 2 ^ m) : -2 ^ m ≤ ext s N m ∧ ext s N m < 2 ^ m := by
  unfold ext
  have := p2 m
  split <;> omega
theorem bit_top {N : Int} {m : Nat} (hm : 1 ≤ m) (h0 : 0 ≤ N) (h1 : N < 2 ^ m) : bit N (m - 1) = decide (2 ^ (m - 1) ≤ N) := by
  have e : (2 : Int) ^ m = 2 * 2 ^ (m - 1) := by rw [show m = m - 1 + 1 by omega, Int.pow_succ, Int.mul_comm]; rfl
  have hp := p2 (m - 1)
  unfold bit
  by_cases h : 2 ^ (m - 1) ≤ N
  · have : N / 2 ^ (m - 1) = 1 := by rw [Int.ediv_eq_iff_of_pos hp]; constructor <;> omega
    rw [this]; simp [h]
  · have : N / 2 ^ (m - 1) = 0 := Int.ediv_eq_zero_of_lt h0 (by omega)
    rw [this]; simp [h]
theorem ext_over (s : Bool) {N : Int} {m : Nat} (hm : 1 ≤ m) (h0 : 0 ≤ N) (h1 : N < 2 ^ m) : ext s N m / 2 ^ m = if s && bit N (m - 1) then -1 else 0 := by
  unfold ext
  split
  · rw [Int.ediv_eq_iff_of_pos (p2 m)]; constructor <;> omega
  · exact Int.ediv_eq_zero_of_lt h0 h1
theorem ext_high (s : Bool) {N : Int} {m : Nat} (hm : 1 ≤ m) (h0 : 0 ≤ N) (h1 : N < 2 ^ m) (j : Nat) (hj : m ≤ j) : bit (ext s N m) j = (s && bit N (m - 1)) :=
  from_same (ext_over s hm h0 h1) j hj

/-- The sign that is asked for above the lowest n bits. -/
def topB (s : Bool) (N : Int) (m n : Nat) : Bool := s && bit N (min n m - 1)
/-- All known bits above the lowest n are the sign. -/
def Good (s : Bool) (N : Int) (m n : Nat) : Prop := ∀ j, n ≤ j → j < m → bit N j = topB s N m n

theorem good_ext {s : Bool} {N : Int} {m n : Nat} (hm : 1 ≤ m) (h0 : 0 ≤ N) (h1 : N < 2 ^ m) (hg : Good s N m n) (i : Nat) (hi : n ≤ i ∨ m ≤ i) : bit (ext s N m) i = topB s N m n := by
  rcases Nat.lt_or_ge i m with g | g
  · rw [ext_low s N m i g]; exact hg i (by omega) g
  · rw [ext_high s hm h0 h1 i g]
    rcases Nat.lt_or_ge n m with k | k
    · have h2 := hg (m - 1) (by omega) (by omega)
      rw [h2]
      unfold topB
      cases s <;> simp
    · unfold topB
      rw [Nat.min_eq_right k]
/-- It fits n bits. -/
def Fits (s : Bool) (X : Int) (n : Nat) : Prop := if s then X / 2 ^ (n - 1) = 0 ∨ X / 2 ^ (n - 1) = -1 else X / 2 ^ n = 0
theorem good_fits {s : Bool} {N : Int} {m n : Nat} (hm : 1 ≤ m) (hn : 1 ≤ n) (h0 : 0 ≤ N) (h1 : N < 2 ^ m) : Good s N m n ↔ Fits s (ext s N m) n := by
  obtain ⟨b1, b2⟩ := ext_bd s hm h0 h1
  have mm := mono2 (Nat.le_max_left m n)
  constructor
  · intro hg
    have hx := good_ext hm h0 h1 hg
    cases s
    · have h := same_from (x := ext false N m) (a := n) (b := max m n) (t := false) (by omega) (by omega) (by omega) (fun j hj _ => by rw [hx j (.inl hj)]; simp [topB])
      unfold Fits
      simpa using h
    · have h := same_from (x := ext true N m) (a := n - 1) (b := max m n) (t := topB true N m n) (by omega) (by omega) (by omega) (fun j hj _ => by
        rcases Nat.lt_or_ge j n with g | g
        · obtain rfl : j = n - 1 := by omega
          rcases Nat.lt_or_ge (n - 1) m with k | k
          · rw [ext_low _ _ _ _ k]; unfold topB; rw [Nat.min_eq_left (by omega)]; simp
          · exact hx _ (.inr k)
        · exact hx j (.inl g))
      unfold Fits
      rw [if_pos rfl, h]
      cases topB true N m n <;> simp
  · intro hf j hj hjm
    unfold Fits at hf
    rw [← ext_low s N m j hjm]
    cases s
    · simp only [Bool.false_eq_true, if_false] at hf
      rw [from_same (a := n) (t := false) (by simpa using hf) j hj]; simp [topB]
    · simp only [if_true] at hf
      have hb : ∀ i, n - 1 ≤ i → bit (ext true N m) i = bit (ext true N m) (n - 1) := fun i hi => by
        rcases hf with hf | hf
        · rw [from_same (a := n - 1) (t := false) (by simpa using hf) i hi, from_same (a := n - 1) (t := false) (by simpa using hf) (n - 1) (by omega)]
        · rw [from_same (a := n - 1) (t := true) (by simpa using hf) i hi, from_same (a := n - 1) (t := true) (by simpa using hf) (n - 1) (by omega)]
      rw [hb j (by omega), ext_low true N m (n - 1) (by omega)]
      unfold topB
      rw [Nat.min_eq_left (by omega)]
      simp
end Go.Proofs.YtapgfapplafepaaDoor

/- creelref02.Read. -/
namespace Go.Proofs.YtapgfapplafepaaDoor
open Go.RowKit
set_option linter.unusedVariables false

end Go.Proofs.YtapgfapplafepaaDoor

/- Both readers, each beside the reference: the same answer. -/
namespace Go.Proofs.YtapgfapplafepaaDoor
open Go.RowKit
set_option linter.unusedVariables false

theorem low_take {q : List Int} {p : Nat} {c : Int} (hpc : q[p]? = some c) (c0 : 0 ≤ c) (c2 : c < 128) : low (q.take (p + 1)) = numU (q.take p) c := by
  have hp := (List.getElem?_eq_some_iff.1 hpc).1
  rw [take_snoc hpc, low_snoc]
  unfold numU
  rw [Int.emod_eq_of_lt c0 c2]
theorem take_len {q : List Int} {p : Nat} {c : Int} (hpc : q[p]? = some c) : (q.take p).length = p := by
  have hp := (List.getElem?_eq_some_iff.1 hpc).1
  rw [List.length_take]; omega
theorem num_bd {q : List Int} {p : Nat} {c : Int} (hpc : q[p]? = some c) (c0 : 0 ≤ c) (c2 : c < 128) : 0 ≤ numU (q.take p) c ∧ numU (q.take p) c < 2 ^ (7 * (p + 1)) := by
  have hp := (List.getElem?_eq_some_iff.1 hpc).1
  have h := low_bd (q.take (p + 1))
  rw [low_take hpc c0 c2, List.length_take, show min (p + 1) q.length = p + 1 by omega] at h
  exact h
theorem ext_signed {q : List Int} {p : Nat} {c : Int} (hpc : q[p]? = some c) (c0 : 0 ≤ c) (c2 : c < 128) : ext true (numU (q.take p) c) (7 * (p + 1)) = numS (q.take p) c := by
  obtain ⟨b0, b1⟩ := num_bd hpc c0 c2
  have hb := bit_top (m := 7 * (p + 1)) (by omega) b0 b1
  obtain ⟨l0, l1⟩ := low_bd (q.take p)
  unfold ext
  unfold numS numU at *
  rw [take_len hpc] at *
  rw [hb]
  have e1 : (2 : Int) ^ (7 * (p + 1) - 1) = 64 * 2 ^ (7 * p) := by rw [show 7 * (p + 1) - 1 = 7 * p + 6 by omega, Int.pow_add, Int.mul_comm]; rfl
  have e2 : (2 : Int) ^ (7 * (p + 1)) = 128 * 2 ^ (7 * p) := by rw [show 7 * (p + 1) = 7 * p + 7 by omega, Int.pow_add, Int.mul_comm]; rfl
  rw [e1, e2]
  unfold sg
  generalize (2 : Int) ^ (7 * p) = t at *
  by_cases h : 64 ≤ c
  · have : 64 * t ≤ low (q.take p) + c * t := by
      have := Int.mul_le_mul_of_nonneg_right h (show 0 ≤ t by omega)
      omega
    simp only [this, decide_true, Bool.and_self, if_true, if_pos h]
    grind
  · have : ¬ 64 * t ≤ low (q.take p) + c * t := by
      have := Int.mul_le_mul_of_nonneg_right (show c ≤ 63 by omega) (show 0 ≤ t by omega)
      omega
    simp only [this, decide_false, Bool.and_false, Bool.false_eq_true, if_false, if_neg h]

/-- What is asked of a slice that comes in: it reads as these bytes. -/
structure Has (w : World) (B : Nat) (A : Option Addr) (cap : Nat) (r : List Int) : Prop where
  lies : Lies w B A (cells r)
  low_ : B ≤ w.heap.size
  room : r.length ≤ cap
  most : cap ≤ maxLen

end Go.Proofs.YtapgfapplafepaaDoor

/- The law LebReads. -/
namespace Go.Proofs.YtapgfapplafepaaDoor
open Go.RowKit
set_option linter.unusedVariables false

theorem Has.below {w w' : World} {B : Nat} {A : Option Addr} {cap : Nat} {r : List Int} (h : Has w B A cap r) (hb : Below w.heap.size w w') : Has w' B A cap r :=
  ⟨h.lies.below hb h.low_, Nat.le_trans h.low_ hb.size, h.room, h.most⟩
theorem back_s {V : Int} (h0 : -9223372036854775808 ≤ V) (h1 : V ≤ 9223372036854775807) : IntKind.i64.wrap (V % 2 ^ 64) = V := by
  have e : (2 : Int) ^ 64 = 18446744073709551616 := rfl
  rw [IntKind.wrap_i64, e]
  omega

end Go.Proofs.YtapgfapplafepaaDoor

/- What is written is read again: behind it, longer by a group, without its last byte. -/
namespace Go.Proofs.YtapgfapplafepaaDoor
open Go.RowKit
set_option linter.unusedVariables false

theorem p128_2 (k : Nat) : (128 : Int) ^ k = 2 ^ (7 * k) := (pow7 k).symm
theorem mod_step (x : Int) (k : Nat) : x % 2 ^ (7 * (k + 1)) = x % 2 ^ (7 * k) + x / 2 ^ (7 * k) % 128 * 2 ^ (7 * k) := by
  have hp := p2 (7 * k)
  have e4 : (2 : Int) ^ (7 * (k + 1)) = 128 * 2 ^ (7 * k) := by rw [show 7 * (k + 1) = 7 * k + 7 by omega, Int.pow_add, Int.mul_comm]; rfl
  have e3 : x / 2 ^ (7 * (k + 1)) = x / 2 ^ (7 * k) / 128 := by rw [show 7 * (k + 1) = 7 * k + 7 by omega, ← div_pow]; rfl
  have e1 := Int.emod_def x (2 ^ (7 * k))
  have e2 := Int.emod_def x (2 ^ (7 * (k + 1)))
  rw [e3, e4] at e2
  rw [e4, e2, e1]
  have h2 : x / 2 ^ (7 * k) = 128 * (x / 2 ^ (7 * k) / 128) + x / 2 ^ (7 * k) % 128 := by omega
  generalize x / 2 ^ (7 * k) / 128 = q at *
  generalize x / 2 ^ (7 * k) % 128 = m at *
  rw [h2]
  grind
theorem low_grps (x : Int) : ∀ k, low (grps x k) = x % 2 ^ (7 * k)
  | 0 => by simp [grps, low]
  | k + 1 => by
    rw [grps_snoc, low_snoc, low_grps x k, grps_length, mod_step, p128_2]
    congr 2
    omega
theorem grps_wf (x : Int) (k : Nat) : ∀ c ∈ grps x k, 0 ≤ c ∧ c ≤ 255 := by
  intro c hc
  obtain ⟨i, _, rfl⟩ := List.mem_map.1 hc
  omega
theorem grps_on (x : Int) (k : Nat) : ∀ c ∈ grps x k, 128 ≤ c := by
  intro c hc
  obtain ⟨i, _, rfl⟩ := List.mem_map.1 hc
  omega
theorem grps_at (x : Int) (p : Nat) (c : Int) (l : List Int) : (grps x p ++ c :: l)[p]? = some c := by
  have h : (grps x p).length = p := grps_length x p
  rw [List.getElem?_append_right (by omega), h]; simp
theorem grps_take (x : Int) (p : Nat) (c : Int) (l : List Int) : (grps x p ++ c :: l).take p = grps x p := by
  have h : (grps x p).length = p := grps_length x p
  rw [List.take_append_of_le_length (by omega), List.take_of_length_le (by omega)]
theorem grps_stop (x : Int) (p M : Nat) (c : Int) (l : List Int) (hc : c < 128) (hM : p ≤ M) : Stop M (grps x p ++ c :: l) p := by
  have h : (grps x p).length = p := grps_length x p
  refine ⟨hM, by simp; omega, fun i d hi hd => ?_, fun d _ hd => ?_⟩
  · rw [List.getElem?_append_left (by omega)] at hd
    exact grps_on x p d (List.mem_of_getElem? hd)
  · rw [grps_at] at hd; injection hd with hd; omega
theorem grps_short (x : Int) (p M : Nat) (hM : p ≤ M) : Stop M (grps x p) p := by
  have h : (grps x p).length = p := grps_length x p
  refine ⟨hM, by omega, fun i d hi hd => grps_on x p d (List.mem_of_getElem? hd), fun d _ hd => ?_⟩
  rw [List.getElem?_eq_none (by omega)] at hd; cases hd

theorem rdU (x c : Int) (p n : Nat) (l : List Int) (A : Option Addr) (cap B len : Nat) (w : World) (hlen : (grps x p ++ c :: l).length = len) (hh : Has w B A cap (grps x p ++ c :: l)) (hwf : ∀ d ∈ l, 0 ≤ d ∧ d ≤ 255)
    (hx : x % 2 ^ (7 * p) + c * 2 ^ (7 * p) = x) (c0 : 0 ≤ c) (c1 : c < 128) (hf : c / 2 ^ (n - 7 * p) = 0) (n1 : 1 ≤ n) (n2 : n ≤ 64) (hp : p < (n + 6) / 7) :
    Calls Tryd.prog 106 #[.slice A len cap, .int .i64 0, .int .i64 n] w fun e w' => e = .returned (.tuple #[.int .u64 x, .int .i64 ((p : Int) + 1), .int .i64 0]) ∧ w = w' := by
  subst hlen
  have hb : ∀ d ∈ grps x p ++ c :: l, 0 ≤ d ∧ d ≤ 255 := fun d hd => by
    rcases List.mem_append.1 hd with h | h
    · exact grps_wf x p d h
    · rcases List.mem_cons.1 h with rfl | h
      · omega
      · exact hwf d h
  have h := ru_ok (grps x p ++ c :: l) A cap B 0 n p c w hh.lies hb hh.room hh.most (Nat.zero_le _) n1 n2 (by rw [List.drop_zero]; exact grps_stop x p _ c l c1 (by omega)) hp (by rw [List.drop_zero]; exact grps_at x p c l) hf
  rw [List.drop_zero, grps_take] at h
  have e : numU (grps x p) c = x := by unfold numU; rw [low_grps, grps_length]; exact hx
  rw [e] at h
  refine h.mono fun e' w' he => ⟨?_, he.2⟩
  rw [he.1]; simp
theorem rdShort (x : Int) (p n : Nat) (A : Option Addr) (cap B : Nat) (w : World) (hh : Has w B A cap (grps x p)) (n1 : 1 ≤ n) (n2 : n ≤ 64) (hp : p < (n + 6) / 7) :
    Calls Tryd.prog 106 #[.slice A p cap, .int .i64 0, .int .i64 n] w fun e w' => e = .returned (.tuple #[.int .u64 0, .int .i64 0, .int .i64 2]) ∧ w = w' := by
  have hl := grps_length x p
  have h := length_right (grps x p) A cap B 0 n p w hh.lies (grps_wf x p) hh.room hh.most (Nat.zero_le _) n1 n2 (by rw [List.drop_zero]; exact grps_short x p _ (by omega))
  unfold lenN lenE at h
  have hne : ¬ p = (n + 6) / 7 := by omega
  rw [hl] at h
  simp [hne] at h
  exact ru_fail _ _ _ 2 w (.inr (.inl rfl)) h

/-- A number below 2^n and its least groups. -/
theorem least_u {x : Int} {n na : Nat} (h0 : 0 ≤ x) (h1 : x < 2 ^ n) (n1 : 1 ≤ n) (n2 : n ≤ 64) (hn : Least (fitU x) na) :
    ∃ p c, na = p + 1 ∧ grp x na = grps x p ++ [c] ∧ x % 2 ^ (7 * p) + c * 2 ^ (7 * p) = x ∧ 0 ≤ c ∧ c < 128 ∧ c / 2 ^ (n - 7 * p) = 0 ∧ p < (n + 6) / 7 := by
  have hle : na ≤ (n + 6) / 7 := by
    refine hn.le (by omega) ?_
    show x / 128 ^ ((n + 6) / 7 - 1) < 128
    have hM : 1 ≤ (n + 6) / 7 := by omega
    have hM2 : n ≤ 7 * ((n + 6) / 7) := by omega
    generalize (n + 6) / 7 = M at *
    have e : (128 : Int) * 128 ^ (M - 1) = 2 ^ (7 * M) := by rw [p128_2, show 7 * M = 7 * (M - 1) + 7 by omega, Int.pow_add, Int.mul_comm]; rfl
    rw [Int.ediv_lt_iff_lt_mul (p128 _), e]
    have := mono2 hM2
    omega
  have h1' := hn.1
  obtain ⟨p, rfl⟩ : ∃ p, na = p + 1 := ⟨na - 1, by omega⟩
  have hf : x / 128 ^ p < 128 := hn.2.1
  have hq : 0 ≤ x / 128 ^ p := Int.ediv_nonneg h0 (Int.le_of_lt (p128 _))
  have hc : x / 128 ^ p % 128 = x / 128 ^ p := Int.emod_eq_of_lt hq hf
  refine ⟨p, x / 128 ^ p, rfl, by rw [grp_snoc, hc], ?_, hq, hf, ?_, by omega⟩
  · rw [p128_2, Int.mul_comm]; exact Int.emod_add_mul_ediv x _
  · rw [p128_2, div_pow, show 7 * p + (n - 7 * p) = n by omega]; exact Int.ediv_eq_zero_of_lt h0 h1
theorem least_s {x : Int} {n na : Nat} (h0 : -2 ^ (n - 1) ≤ x) (h1 : x < 2 ^ (n - 1)) (n1 : 1 ≤ n) (n2 : n ≤ 64) (hn : Least (fitS x) na) :
    ∃ p c, na = p + 1 ∧ grp x na = grps x p ++ [c] ∧ x % 2 ^ (7 * p) + sg c * 2 ^ (7 * p) = x ∧ 0 ≤ c ∧ c < 128 ∧ (sg c / 2 ^ (n - 7 * p - 1) = 0 ∨ sg c / 2 ^ (n - 7 * p - 1) = -1) ∧ p < (n + 6) / 7 := by
  have hle : na ≤ (n + 6) / 7 := by
    refine hn.le (by omega) ?_
    have e : (64 : Int) * 128 ^ ((n + 6) / 7 - 1) = 2 ^ (7 * ((n + 6) / 7 - 1) + 6) := by rw [p128_2, Int.pow_add, Int.mul_comm]; rfl
    have := mono2 (a := n - 1) (b := 7 * ((n + 6) / 7 - 1) + 6) (by omega)
    refine ⟨(Int.le_ediv_iff_mul_le (p128 _)).2 ?_, (Int.ediv_lt_iff_lt_mul (p128 _)).2 ?_⟩
    · rw [Int.neg_mul, e]; omega
    · rw [e]; omega
  have h1' := hn.1
  obtain ⟨p, rfl⟩ : ∃ p, na = p + 1 := ⟨na - 1, by omega⟩
  obtain ⟨f0, f1⟩ : -64 ≤ x / 128 ^ p ∧ x / 128 ^ p < 64 := hn.2.1
  have hs : sg (x / 128 ^ p % 128) = x / 128 ^ p := by unfold sg; split <;> omega
  refine ⟨p, x / 128 ^ p % 128, rfl, by rw [grp_snoc], ?_, by omega, by omega, ?_, by omega⟩
  · rw [hs, p128_2, Int.mul_comm]; exact Int.emod_add_mul_ediv x _
  · rw [hs, p128_2, div_pow, show 7 * p + (n - 7 * p - 1) = n - 1 by omega]
    obtain ⟨b0, b1⟩ := div_bounds (x := x) (a := n - 1) (b := n - 1) (Nat.le_refl _) h0 h1
    simp at b0 b1
    omega

theorem Lies.cell_add {w : World} {B : Nat} {ad : Addr} {vs : List Value} (h : Lies w B (some ad) vs) : ∀ j u, vs[j]? = some u → w.cell? (ad.add j) = some u := fun j u hu => by
  obtain ⟨b, off, e, _, h2⟩ := h j u hu
  injection e with e
  subst e
  rw [Go.WideShapes.add_plain]; exact h2
/-- append of whatever lies somewhere, nil too. -/
theorem wpList_append_lies {P : Program} {w : World} {ops : Array Oper} {rest : List Oper} {o : Oper} {a : Act} {Q : Exit → Act → World → Prop} (hgd : o.guard = none) (s x : Operand) (t : TypeId)
    (ho : o.op = .call { callee := .builtin .append, args := #[s, x], argTypes := #[t, t] })
    (base : Nat) (e : TypeId) (i : TypeInfo) (z : Value) (ht : P.underlying t = some (.slice e)) (hi : P.info? e = some i) (hz : i.zero = some z)
    (hsize : i.size = 1) (hby : i.bytes = 1) (hzs : z.cells.size = 1)
    (v : Value) (n : Nat) (xs : List Value) (hs : a.eval s = v) (hown : w.ownsRow base e 1 v n xs)
    (A : Option Addr) (m c B : Nat) (news : List Value) (hx : a.eval x = .slice A m c) (hl : news.length = m) (hnews : Lies w B A news) (hA : A = none → m = 0 ∧ c = 0) (h1 : ∀ u ∈ news, u.oneCell' = true)
    (h63 : n + m ≤ 1000) (hbase : base ≤ w.heap.size)
    (h : ∀ v' w', w'.ownsRow base e 1 v' (n + m) (xs ++ news) → w.grownBy w' v.ownBlock → wpList P ops Q rest (a.put o.dst v') w') : wpList P ops Q (o :: rest) a w := by
  rcases A with _ | ad
  · obtain ⟨rfl, rfl⟩ := hA rfl
    have hn : news = [] := List.eq_nil_of_length_eq_zero hl
    subst hn
    refine wpList_append_own_none hgd s x t ho base e i 1 ht hi v n xs hs hown hx (h v w (by simpa using hown) (World.grownBy.refl w _))
  · exact wpList_append_own w hgd s x t ho base e i z 1 1 ht hi hz hsize hby hzs (by omega) v n xs hs hown ad m c news hx (by omega) hnews.cell_add h1 (by unfold maxLen; omega) (by omega) hbase (fun v' w' h2 h3 _ => h v' w' h2 h3)
end Go.Proofs.YtapgfapplafepaaDoor
