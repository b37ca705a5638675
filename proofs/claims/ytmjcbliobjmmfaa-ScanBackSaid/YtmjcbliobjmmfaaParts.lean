/- atMost, Count, flag, tag, ValType. -/
import Derived.Test.YtmjcbliobjmmfaaNumb
namespace Go.Proofs.Ytmjcbliobjmmfaa
open Go.RowKit
set_option linter.unusedVariables false

abbrev encI (v : Int) : Value := .int .i64 v
abbrev encO (v : Bool) : Value := .bool v
abbrev encU (v : Unit) : Value := .tuple #[]
theorem Res.bind_ok {α β : Type} (v : α) (k : Nat) (f : α → Nat → Res β) : (Res.ok v k).bind f = f v k := rfl
theorem Res.bind_err {α β : Type} (c a : Int) (f : α → Nat → Res β) : (Res.err (α := α) c a).bind f = .err c a := rfl

/-- An index that is at most m. -/
noncomputable def atMostR (l : List UInt8) (k : Nat) (m c : Int) : Res Int := (indexR l k).bind fun v k' => if v ≤ m then .ok v k' else .err c k
theorem atMost_scan {w : World} {p : Nat} {l : List UInt8} {k : Nat} (h : Sc w p l k) (m c : Int) :
    Calls Try.prog 46 #[.pointer (some ⟨p, 0, none⟩), .int .u32 m, .int .i64 c] w (Did encI p l w (atMostR l k m c)) := by
  have hN := index_scan h
  have c1 := h.at
  unfold atMostR
  cases hr : indexR l k with
  | ok v k' =>
    rw [hr] at hN
    rw [Res.bind_ok]
    have HN := Lib.hid hN
    obtain ⟨hk, v0, v1⟩ := uintR_ok (show uintR l k 32 = .ok v k' from hr)
    have v2 : v < 4294967296 := v1
    have hw : IntKind.i64.wrap v = v := by rw [IntKind.wrap_i64]; omega
    clear hN hr h v1
    by_cases hm : v ≤ m
    · rw [if_pos hm]
      have HM := Lib.hid hm
      have d1 : decide (v ≤ m) = true := by simpa using hm
      go_enter Try.func46, Try.ntmps46
      go_wp2_with (first
        | (go_at_call 35; go_must ((with_reducible refine HN.out.mono ?_); rintro e w1 ⟨rfl, hs, hg⟩; have HS := Lib.hid hs; have HG := Lib.hid hg; clear hs hg))
        | (go_at_call 33; go_must ((with_reducible refine (unlessT _ _ _).mono ?_); rintro e w' ⟨rfl, rfl⟩)))
      go_ret
      exact ⟨rfl, HS.out, HG.out⟩
    · rw [if_neg hm]
      have HM := Lib.hid hm
      have d1 : decide (v ≤ m) = false := by simpa using hm
      clear hm
      go_enter Try.func46, Try.ntmps46
      go_wp2_with (first
        | (go_at_call 35; go_must ((with_reducible refine HN.out.mono ?_); rintro e w1 ⟨rfl, hs, hg⟩; have HS := Lib.hid hs; have HG := Lib.hid hg; clear hs hg))
        | (go_at_call 33; go_must ((with_reducible refine (unlessF _ _ _).mono ?_); rintro e w' ⟨rfl, rfl⟩)))
      exact ⟨rfl, rfl, HG.out⟩
  | err c2 a =>
    rw [hr] at hN
    rw [Res.bind_err]
    have HN := Lib.hid hN
    clear hN hr h
    go_enter Try.func46, Try.ntmps46
    go_wp2_with (go_at_call 35; go_must ((with_reducible refine HN.out.mono ?_); rintro e w1 ⟨rfl, hg⟩; have HG := Lib.hid hg; clear hg))
    exact ⟨rfl, rfl, HG.out⟩
/-- How many things follow. -/
noncomputable def countR (l : List UInt8) (k : Nat) : Res Int := atMostR l k 10000 29
theorem count_scan {w : World} {p : Nat} {l : List UInt8} {k : Nat} (h : Sc w p l k) :
    Calls Try.prog 39 #[.pointer (some ⟨p, 0, none⟩)] w (Did encI p l w (countR l k)) := by
  have hN := atMost_scan h 10000 29
  unfold countR
  cases hr : atMostR l k 10000 29 with
  | ok v k' =>
    rw [hr] at hN
    have HN := Lib.hid hN
    clear hN hr h
    go_enter Try.func39, Try.ntmps39
    go_wp2_with (go_at_call 46; go_must ((with_reducible refine HN.out.mono ?_); rintro e w1 ⟨rfl, hs, hg⟩; have HS := Lib.hid hs; have HG := Lib.hid hg; clear hs hg))
    go_ret
    exact ⟨rfl, HS.out, HG.out⟩
  | err c2 a =>
    rw [hr] at hN
    have HN := Lib.hid hN
    clear hN hr h
    go_enter Try.func39, Try.ntmps39
    go_wp2_with (go_at_call 46; go_must ((with_reducible refine HN.out.mono ?_); rintro e w1 ⟨rfl, hg⟩; have HG := Lib.hid hg; clear hg))
    exact ⟨rfl, rfl, HG.out⟩

/-- A byte that is 0 or 1. -/
def flagR (l : List UInt8) (k : Nat) : Res Bool := (byteR l k).bind fun c k' => if (c.toNat : Int) ≤ 1 then .ok ((c.toNat : Int) == 1) k' else .err 10 k
theorem flag_scan {w : World} {p : Nat} {l : List UInt8} {k : Nat} (h : Sc w p l k) :
    Calls Try.prog 34 #[.pointer (some ⟨p, 0, none⟩)] w (Did encO p l w (flagR l k)) := by
  have hN := byte_any h
  have c1 := h.at
  unfold flagR
  cases hr : byteR l k with
  | ok c k' =>
    rw [hr] at hN
    rw [Res.bind_ok]
    have HN := Lib.hid hN
    clear hN hr h
    by_cases hm : (c.toNat : Int) ≤ 1
    · rw [if_pos hm]
      have d1 : decide ((c.toNat : Int) ≤ 1) = true := by simpa using hm
      have d2 : decide (c.toNat ≤ 1) = true := by simp; omega
      clear hm
      go_enter Try.func34, Try.ntmps34
      go_wp2_with (first
        | (go_at_call 13; go_must ((with_reducible refine HN.out.mono ?_); rintro e w1 ⟨rfl, hs, hg⟩; have HS := Lib.hid hs; have HG := Lib.hid hg; clear hs hg))
        | (go_at_call 33; go_must ((with_reducible refine (unlessT _ _ _).mono ?_); rintro e w' ⟨rfl, rfl⟩)))
      go_ret
      exact ⟨rfl, HS.out, HG.out⟩
    · rw [if_neg hm]
      have d1 : decide ((c.toNat : Int) ≤ 1) = false := by simpa using hm
      have d2 : decide (c.toNat ≤ 1) = false := by simp; omega
      clear hm
      go_enter Try.func34, Try.ntmps34
      go_wp2_with (first
        | (go_at_call 13; go_must ((with_reducible refine HN.out.mono ?_); rintro e w1 ⟨rfl, hs, hg⟩; have HS := Lib.hid hs; have HG := Lib.hid hg; clear hs hg))
        | (go_at_call 33; go_must ((with_reducible refine (unlessF _ _ _).mono ?_); rintro e w' ⟨rfl, rfl⟩)))
      exact ⟨rfl, rfl, HG.out⟩
  | err c2 a =>
    rw [hr] at hN
    rw [Res.bind_err]
    have HN := Lib.hid hN
    clear hN hr h
    go_enter Try.func34, Try.ntmps34
    go_wp2_with (go_at_call 13; go_must ((with_reducible refine HN.out.mono ?_); rintro e w1 ⟨rfl, hg⟩; have HG := Lib.hid hg; clear hg))
    exact ⟨rfl, rfl, HG.out⟩

/-- A byte that can only be one. -/
def tagR (l : List UInt8) (k : Nat) (t : Int) : Res Unit := (byteR l k).bind fun c k' => if (c.toNat : Int) = t then .ok () k' else .err 7 k
theorem tag_scan {w : World} {p : Nat} {l : List UInt8} {k : Nat} (h : Sc w p l k) (t : Int) :
    Calls Try.prog 30 #[.pointer (some ⟨p, 0, none⟩), .int .u8 t] w (Did encU p l w (tagR l k t)) := by
  have hN := byte_any h
  have c1 := h.at
  unfold tagR
  cases hr : byteR l k with
  | ok c k' =>
    rw [hr] at hN
    rw [Res.bind_ok]
    have HN := Lib.hid hN
    clear hN hr h
    by_cases hm : (c.toNat : Int) = t
    · rw [if_pos hm]
      have d1 : ((c.toNat : Int) == t) = true := by simpa using hm
      clear hm
      go_enter Try.func30, Try.ntmps30
      go_wp2_with (first
        | (go_at_call 13; go_must ((with_reducible refine HN.out.mono ?_); rintro e w1 ⟨rfl, hs, hg⟩; have HS := Lib.hid hs; have HG := Lib.hid hg; clear hs hg))
        | (go_at_call 33; go_must ((with_reducible refine (unlessT _ _ _).mono ?_); rintro e w' ⟨rfl, rfl⟩)))
      go_end0
      exact ⟨rfl, HS.out, HG.out⟩
    · rw [if_neg hm]
      have d1 : ((c.toNat : Int) == t) = false := by simpa using hm
      clear hm
      go_enter Try.func30, Try.ntmps30
      go_wp2_with (first
        | (go_at_call 13; go_must ((with_reducible refine HN.out.mono ?_); rintro e w1 ⟨rfl, hs, hg⟩; have HS := Lib.hid hs; have HG := Lib.hid hg; clear hs hg))
        | (go_at_call 33; go_must ((with_reducible refine (unlessF _ _ _).mono ?_); rintro e w' ⟨rfl, rfl⟩)))
      exact ⟨rfl, rfl, HG.out⟩
  | err c2 a =>
    rw [hr] at hN
    rw [Res.bind_err]
    have HN := Lib.hid hN
    clear hN hr h
    go_enter Try.func30, Try.ntmps30
    go_wp2_with (go_at_call 13; go_must ((with_reducible refine HN.out.mono ?_); rintro e w1 ⟨rfl, hg⟩; have HG := Lib.hid hg; clear hg))
    exact ⟨rfl, rfl, HG.out⟩

/-- A type of values. -/
def valR (l : List UInt8) (k : Nat) : Res UInt8 := (byteR l k).bind fun c k' => if valueZ c.toNat = 0 then .ok c k' else .err (valueZ c.toNat) k
theorem val_scan {w : World} {p : Nat} {l : List UInt8} {k : Nat} (h : Sc w p l k) :
    Calls Try.prog 36 #[.pointer (some ⟨p, 0, none⟩)] w (Did encB p l w (valR l k)) := by
  have hN := byte_any h
  have c1 := h.at
  unfold valR
  cases hr : byteR l k with
  | ok c k' =>
    rw [hr] at hN
    rw [Res.bind_ok]
    have HN := Lib.hid hN
    have HV := Lib.hid (fun w => value_any (c.toNat : Int) w)
    obtain ⟨z, hz⟩ : ∃ z, z = valueZ c.toNat := ⟨_, rfl⟩
    rw [← hz] at HV ⊢
    clear hN hr h hz
    by_cases hm : z = 0
    · rw [if_pos hm]
      subst hm
      go_enter Try.func36, Try.ntmps36
      go_wp2_with (first
        | (go_at_call 13; go_must ((with_reducible refine HN.out.mono ?_); rintro e w1 ⟨rfl, hs, hg⟩; have HS := Lib.hid hs; have HG := Lib.hid hg; clear hs hg))
        | (go_at_call 43; go_must ((with_reducible refine (HV.out _).mono ?_); rintro e w' ⟨rfl, rfl⟩))
        | (go_at_call 33; go_must ((with_reducible refine (unlessT _ _ _).mono ?_); rintro e w' ⟨rfl, rfl⟩)))
      go_ret
      exact ⟨rfl, HS.out, HG.out⟩
    · rw [if_neg hm]
      have d1 : (z == 0) = false := by simpa using hm
      clear hm
      go_enter Try.func36, Try.ntmps36
      go_wp2_with (first
        | (go_at_call 13; go_must ((with_reducible refine HN.out.mono ?_); rintro e w1 ⟨rfl, hs, hg⟩; have HS := Lib.hid hs; have HG := Lib.hid hg; clear hs hg))
        | (go_at_call 43; go_must ((with_reducible refine (HV.out _).mono ?_); rintro e w' ⟨rfl, rfl⟩))
        | (go_at_call 33; go_must ((with_reducible refine (unlessF _ _ _).mono ?_); rintro e w' ⟨rfl, rfl⟩)))
      exact ⟨rfl, rfl, HG.out⟩
  | err c2 a =>
    rw [hr] at hN
    rw [Res.bind_err]
    have HN := Lib.hid hN
    clear hN hr h
    go_enter Try.func36, Try.ntmps36
    go_wp2_with (go_at_call 13; go_must ((with_reducible refine HN.out.mono ?_); rintro e w1 ⟨rfl, hg⟩; have HG := Lib.hid hg; clear hg))
    exact ⟨rfl, rfl, HG.out⟩
end Go.Proofs.Ytmjcbliobjmmfaa

