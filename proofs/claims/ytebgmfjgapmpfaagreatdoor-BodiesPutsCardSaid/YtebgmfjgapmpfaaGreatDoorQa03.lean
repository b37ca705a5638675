/- leb.ReadUint of any bytes; number, Uint, Index. -/
import Derived.Test.YtebgmfjgapmpfaaGreatDoorQa02
import Derived.Laws.MakeOwn
import Derived.Laws.AppendOwnNone
namespace Go.Proofs.YtebgmfjgapmpfaaGreatDoor
set_option maxRecDepth 100000
open Go.RowKit
set_option linter.unusedVariables false

/-- How many bytes of a varint of n bits go on. -/
noncomputable def onN (l : List UInt8) (k n : Nat) : Nat := (stop_ex ((nums l).drop k) ((n + 6) / 7)).choose
theorem onN_stop (l : List UInt8) (k n : Nat) : Stop ((n + 6) / 7) ((nums l).drop k) (onN l k n) := (stop_ex ((nums l).drop k) ((n + 6) / 7)).choose_spec
/-- A number of n bits. -/
noncomputable def uintR (l : List UInt8) (k n : Nat) : Res Int :=
  if 1 ≤ n ∧ n ≤ 64 then
    if onN l k n = (n + 6) / 7 then .err 3 k else
      match ((nums l).drop k)[onN l k n]? with
      | none => .err 2 k
      | some c => if c / 2 ^ (n - 7 * onN l k n) = 0 then .ok (numU (((nums l).drop k).take (onN l k n)) c) (k + (onN l k n + 1)) else .err 3 k
  else .err 1 k
theorem uintR_err {l : List UInt8} {k n : Nat} {c a : Int} (h : uintR l k n = .err c a) : a = k ∧ (c = 1 ∨ c = 2 ∨ c = 3) := by
  unfold uintR at h
  repeat' split at h
  all_goals first | (injection h with h1 h2; subst h1; subst h2; exact ⟨rfl, by omega⟩) | cases h
theorem nums_wf (l : List UInt8) : ∀ c ∈ nums l, 0 ≤ c ∧ c ≤ 255 := by
  intro c hc
  obtain ⟨b, _, rfl⟩ := List.mem_map.1 hc
  have := b.toNat_lt
  omega
theorem uintR_ok {l : List UInt8} {k n : Nat} {v : Int} {k' : Nat} (h : uintR l k n = .ok v k') : k' ≤ l.length ∧ 0 ≤ v ∧ v < 2 ^ n := by
  have hp := onN_stop l k n
  unfold uintR at h
  by_cases h64 : 1 ≤ n ∧ n ≤ 64
  · rw [if_pos h64] at h
    by_cases h1 : onN l k n = (n + 6) / 7
    · rw [if_pos h1] at h; cases h
    · rw [if_neg h1] at h
      cases hpc : ((nums l).drop k)[onN l k n]? with
      | none => rw [hpc] at h; cases h
      | some c =>
        rw [hpc] at h
        by_cases hf : c / 2 ^ (n - 7 * onN l k n) = 0
        · simp only [if_pos hf] at h
          injection h with e1 e2
          subst e1; subst e2
          have hlen := (List.getElem?_eq_some_iff.1 hpc).1
          rw [List.length_drop, nums_length] at hlen
          have hl : (((nums l).drop k).take (onN l k n)).length = onN l k n := by rw [List.length_take, List.length_drop, nums_length]; omega
          obtain ⟨l0, l1⟩ := low_bd (((nums l).drop k).take (onN l k n))
          rw [hl] at l1
          have hM := hp.leM
          have c0 := (nums_wf l c (List.mem_of_mem_drop (List.mem_of_getElem? hpc))).1
          have := bdU l0 l1 c0 (b := n) (by omega) hf
          unfold numU
          rw [hl]
          exact ⟨by omega, this.1, this.2⟩
        · simp only [if_neg hf] at h; cases h
  · rw [if_neg h64] at h; cases h
/-- What leb.ReadUint hands back. -/
def readT : Res Int → Value
  | .ok v k => .tuple #[.int .u64 v, .int .i64 k, .int .i64 0]
  | .err c _ => .tuple #[.int .u64 0, .int .i64 0, .int .i64 c]
theorem readU_any {w : World} {B : Nat} {A : Option Addr} {cap : Nat} {l : List UInt8} (hl : Lies w B A (cells (nums l))) (hc : l.length ≤ cap) (hm : cap ≤ maxLen) (k n : Nat) (hk : k ≤ l.length) :
    Calls Tryz.prog 166 #[.slice A l.length cap, .int .i64 k, .int .i64 n] w fun x w' => x = .returned (readT (uintR l k n)) ∧ w = w' := by
  have hlen := nums_length l
  have hb := nums_wf l
  have hp := onN_stop l k n
  have hpM := hp.leM
  have hpR := hp.leR
  rw [List.length_drop, hlen] at hpR
  rw [← hlen] at hc hk ⊢
  unfold uintR
  by_cases h64 : 1 ≤ n ∧ n ≤ 64
  · rw [if_pos h64]
    obtain ⟨n1, n2⟩ := h64
    by_cases h1 : onN l k n = (n + 6) / 7
    · rw [if_pos h1]
      refine ru_fail _ _ _ 3 w (.inr (.inr rfl)) ?_
      have := length_right (nums l) A cap B k n _ w hl hb hc hm hk n1 n2 hp
      unfold lenN lenE at this
      rwa [if_pos h1, if_pos h1] at this
    · rw [if_neg h1]
      by_cases h2 : onN l k n = (nums l).length - k
      · have e : ((nums l).drop k)[onN l k n]? = none := List.getElem?_eq_none (by rw [List.length_drop]; omega)
        rw [e]
        refine ru_fail _ _ _ 2 w (.inr (.inl rfl)) ?_
        have := length_right (nums l) A cap B k n _ w hl hb hc hm hk n1 n2 hp
        unfold lenN lenE at this
        rwa [if_neg h1, if_neg h1, if_pos h2, if_pos h2] at this
      · obtain ⟨c, hpc⟩ : ∃ c, ((nums l).drop k)[onN l k n]? = some c := ⟨_, List.getElem?_eq_getElem (by rw [List.length_drop]; omega)⟩
        rw [hpc]
        by_cases hf : c / 2 ^ (n - 7 * onN l k n) = 0
        · simp only [if_pos hf]
          exact ru_ok (nums l) A cap B k n _ c w hl hb hc hm hk n1 n2 hp (by omega) hpc hf
        · simp only [if_neg hf]
          exact ru_far (nums l) A cap B k n _ c w hl hb hc hm hk n1 n2 hp (by omega) hpc hf
  · rw [if_neg h64]
    exact ru_fail _ _ _ 1 w (.inl rfl) (length_wrong (nums l) A cap _ _ w (by omega))
abbrev enc64 (v : Int) : Value := .int .u64 v
set_option maxHeartbeats 800000 in
theorem number_scan {w : World} {p : Nat} {l : List UInt8} {k : Nat} (h : Sc w p l k) (n : Nat) :
    Calls Tryz.prog 165 #[.pointer (some ⟨p, 0, none⟩), .int .i64 n, .func (.func 166) #[] #[]] w (Did enc64 p l w (uintR l k n)) := by
  have c1 := h.at
  obtain ⟨A, cap, c0, hl, hc, hm⟩ := h.data
  have hU : ∀ m, _ := fun m => readU_any (w := w.drewN m) hl hc hm k n h.le.1
  cases hr : uintR l k n with
  | ok v k' =>
    simp only [hr, readT] at hU
    have HU := Lib.hid hU
    have HS := Lib.hid h
    have f1 := h.free
    have HK := Lib.hid (uintR_ok hr).1
    clear hU hr hl h
    go_enter Tryz.func165, Tryz.ntmps165
    go_wp2
    go_quiet (first
      | (go_at_call 166; exact (HU.out _).mono fun _ _ h => ⟨h.1, _, h.2.symm⟩))
    go_wp2_with (go_at_call 80; go_must ((with_reducible refine (unlessT _ _ _).mono ?_); rintro e w' ⟨rfl, rfl⟩))
    go_ret
    exact ⟨rfl, HS.out.moved nq k' k' rfl HK.out⟩
  | err c a =>
    simp only [hr, readT] at hU
    have HU := Lib.hid hU
    obtain ⟨rfl, hcs⟩ := uintR_err hr
    have e2 : (c == 0) = false := by simp; omega
    clear hU hr hl h hcs
    go_enter Tryz.func165, Tryz.ntmps165
    go_wp2
    go_quiet (first
      | (go_at_call 166; exact (HU.out _).mono fun _ _ h => ⟨h.1, _, h.2.symm⟩))
    go_wp2_with (go_at_call 80; go_must ((with_reducible refine (unlessF _ _ _).mono ?_); rintro e w' ⟨rfl, rfl⟩))
    exact ⟨rfl, rfl, gb_drewN (gb_refl _ _) _⟩
/-- Scanner.Uint. -/
theorem uint_scan {w : World} {p : Nat} {l : List UInt8} {k : Nat} (h : Sc w p l k) (n : Nat) :
    Calls Tryz.prog 149 #[.pointer (some ⟨p, 0, none⟩), .int .i64 n] w (Did enc64 p l w (uintR l k n)) := by
  have hN := number_scan h n
  cases hr : uintR l k n with
  | ok v k' =>
    rw [hr] at hN
    have HN := Lib.hid hN
    clear hN hr h
    go_enter Tryz.func149, Tryz.ntmps149
    go_wp2_with (go_at_call 165; go_must ((with_reducible refine HN.out.mono ?_); rintro e w1 ⟨rfl, hs, hg⟩; have HS := Lib.hid hs; have HG := Lib.hid hg; clear hs hg))
    go_ret
    exact ⟨rfl, HS.out, HG.out⟩
  | err c a =>
    rw [hr] at hN
    have HN := Lib.hid hN
    clear hN hr h
    go_enter Tryz.func149, Tryz.ntmps149
    go_wp2_with (go_at_call 165; go_must ((with_reducible refine HN.out.mono ?_); rintro e w1 ⟨rfl, hg⟩; have HG := Lib.hid hg; clear hg))
    exact ⟨rfl, rfl, HG.out⟩
/-- A number of 32 bits. -/
noncomputable def indexR (l : List UInt8) (k : Nat) : Res Int := uintR l k 32
abbrev enc32 (v : Int) : Value := .int .u32 v
theorem index_scan {w : World} {p : Nat} {l : List UInt8} {k : Nat} (h : Sc w p l k) :
    Calls Tryz.prog 117 #[.pointer (some ⟨p, 0, none⟩)] w (Did enc32 p l w (indexR l k)) := by
  have hN : Calls Tryz.prog 149 #[.pointer (some ⟨p, 0, none⟩), .int .i64 32] w (Did enc64 p l w (uintR l k 32)) := uint_scan h 32
  unfold indexR
  cases hr : uintR l k 32 with
  | ok v k' =>
    rw [hr] at hN
    have HN := Lib.hid hN
    obtain ⟨hk, v0, v1⟩ := uintR_ok hr
    have v2 : v < 4294967296 := v1
    have hw : IntKind.u32.wrap v = v := by simp [IntKind.wrap, IntKind.bits, IntKind.signed]; omega
    clear hN hr h v1
    go_enter Tryz.func117, Tryz.ntmps117
    go_wp2_with (go_at_call 149; go_must ((with_reducible refine HN.out.mono ?_); rintro e w1 ⟨rfl, hs, hg⟩; have HS := Lib.hid hs; have HG := Lib.hid hg; clear hs hg))
    go_ret
    exact ⟨rfl, HS.out, HG.out⟩
  | err c a =>
    rw [hr] at hN
    have HN := Lib.hid hN
    clear hN hr h
    go_enter Tryz.func117, Tryz.ntmps117
    go_wp2_with (go_at_call 149; go_must ((with_reducible refine HN.out.mono ?_); rintro e w1 ⟨rfl, hg⟩; have HG := Lib.hid hg; clear hg))
    exact ⟨rfl, rfl, HG.out⟩
end Go.Proofs.YtebgmfjgapmpfaaGreatDoor

/- atMost, Count, flag, tag, ValType. -/
namespace Go.Proofs.YtebgmfjgapmpfaaGreatDoor
set_option maxRecDepth 100000
open Go.RowKit
set_option linter.unusedVariables false

abbrev encI (v : Int) : Value := .int .i64 v
abbrev encO (v : Bool) : Value := .bool v
abbrev encU (v : Unit) : Value := .tuple #[]
theorem Res.bind_ok {α β : Type} (v : α) (k : Nat) (f : α → Nat → Res β) : (Res.ok v k).bind f = f v k := rfl
theorem Res.bind_err {α β : Type} (c a : Int) (f : α → Nat → Res β) : (Res.err (α := α) c a).bind f = .err c a := rfl

/-- An index that is at most m. -/
noncomputable def atMostR (l : List UInt8) (k : Nat) (m c : Int) : Res Int := (indexR l k).bind fun v k' => if v ≤ m then .ok v k' else .err c k
theorem atMost_scan {w : World} {p : Nat} {l : List UInt8} {k : Nat} (h : Sc w p l k) (m c : Int) :
    Calls Tryz.prog 148 #[.pointer (some ⟨p, 0, none⟩), .int .u32 m, .int .i64 c] w (Did encI p l w (atMostR l k m c)) := by
  have hN := index_scan h
  have c1 := h.at
  unfold atMostR
  cases hr : indexR l k with
  | ok v k' =>
    rw [hr] at hN
    rw [Res.bind_ok]
    have HN := Lib.hid hN
    obtain ⟨hk, v0, v1⟩ := uintR_ok (show uintR l k 32 = .ok v k' from hr)
    have v2 : v < 4294967296 := v1
    have hw : IntKind.i64.wrap v = v := by rw [IntKind.wrap_i64]; omega
    clear hN hr h v1
    by_cases hm : v ≤ m
    · rw [if_pos hm]
      have HM := Lib.hid hm
      have d1 : decide (v ≤ m) = true := by simpa using hm
      go_enter Tryz.func148, Tryz.ntmps148
      go_wp2_with (first
        | (go_at_call 117; go_must ((with_reducible refine HN.out.mono ?_); rintro e w1 ⟨rfl, hs, hg⟩; have HS := Lib.hid hs; have HG := Lib.hid hg; clear hs hg))
        | (go_at_call 80; go_must ((with_reducible refine (unlessT _ _ _).mono ?_); rintro e w' ⟨rfl, rfl⟩)))
      go_ret
      exact ⟨rfl, HS.out, HG.out⟩
    · rw [if_neg hm]
      have HM := Lib.hid hm
      have d1 : decide (v ≤ m) = false := by simpa using hm
      clear hm
      go_enter Tryz.func148, Tryz.ntmps148
      go_wp2_with (first
        | (go_at_call 117; go_must ((with_reducible refine HN.out.mono ?_); rintro e w1 ⟨rfl, hs, hg⟩; have HS := Lib.hid hs; have HG := Lib.hid hg; clear hs hg))
        | (go_at_call 80; go_must ((with_reducible refine (unlessF _ _ _).mono ?_); rintro e w' ⟨rfl, rfl⟩)))
      exact ⟨rfl, rfl, HG.out⟩
  | err c2 a =>
    rw [hr] at hN
    rw [Res.bind_err]
    have HN := Lib.hid hN
    clear hN hr h
    go_enter Tryz.func148, Tryz.ntmps148
    go_wp2_with (go_at_call 117; go_must ((with_reducible refine HN.out.mono ?_); rintro e w1 ⟨rfl, hg⟩; have HG := Lib.hid hg; clear hg))
    exact ⟨rfl, rfl, HG.out⟩
/-- How many things follow. -/
noncomputable def countR (l : List UInt8) (k : Nat) : Res Int := atMostR l k 10000 29
theorem count_scan {w : World} {p : Nat} {l : List UInt8} {k : Nat} (h : Sc w p l k) :
    Calls Tryz.prog 116 #[.pointer (some ⟨p, 0, none⟩)] w (Did encI p l w (countR l k)) := by
  have hN := atMost_scan h 10000 29
  unfold countR
  cases hr : atMostR l k 10000 29 with
  | ok v k' =>
    rw [hr] at hN
    have HN := Lib.hid hN
    clear hN hr h
    go_enter Tryz.func116, Tryz.ntmps116
    go_wp2_with (go_at_call 148; go_must ((with_reducible refine HN.out.mono ?_); rintro e w1 ⟨rfl, hs, hg⟩; have HS := Lib.hid hs; have HG := Lib.hid hg; clear hs hg))
    go_ret
    exact ⟨rfl, HS.out, HG.out⟩
  | err c2 a =>
    rw [hr] at hN
    have HN := Lib.hid hN
    clear hN hr h
    go_enter Tryz.func116, Tryz.ntmps116
    go_wp2_with (go_at_call 148; go_must ((with_reducible refine HN.out.mono ?_); rintro e w1 ⟨rfl, hg⟩; have HG := Lib.hid hg; clear hg))
    exact ⟨rfl, rfl, HG.out⟩

/-- A byte that is 0 or 1. -/
def flagR (l : List UInt8) (k : Nat) : Res Bool := (byteR l k).bind fun c k' => if (c.toNat : Int) ≤ 1 then .ok ((c.toNat : Int) == 1) k' else .err 10 k
theorem flag_scan {w : World} {p : Nat} {l : List UInt8} {k : Nat} (h : Sc w p l k) :
    Calls Tryz.prog 127 #[.pointer (some ⟨p, 0, none⟩)] w (Did encO p l w (flagR l k)) := by
  have hN := byte_any h
  have c1 := h.at
  unfold flagR
  cases hr : byteR l k with
  | ok c k' =>
    rw [hr] at hN
    rw [Res.bind_ok]
    have HN := Lib.hid hN
    clear hN hr h
    by_cases hm : (c.toNat : Int) ≤ 1
    · rw [if_pos hm]
      have d1 : decide ((c.toNat : Int) ≤ 1) = true := by simpa using hm
      have d2 : decide (c.toNat ≤ 1) = true := by simp; omega
      clear hm
      go_enter Tryz.func127, Tryz.ntmps127
      go_wp2_with (first
        | (go_at_call 128; go_must ((with_reducible refine HN.out.mono ?_); rintro e w1 ⟨rfl, hs, hg⟩; have HS := Lib.hid hs; have HG := Lib.hid hg; clear hs hg))
        | (go_at_call 80; go_must ((with_reducible refine (unlessT _ _ _).mono ?_); rintro e w' ⟨rfl, rfl⟩)))
      go_ret
      exact ⟨rfl, HS.out, HG.out⟩
    · rw [if_neg hm]
      have d1 : decide ((c.toNat : Int) ≤ 1) = false := by simpa using hm
      have d2 : decide (c.toNat ≤ 1) = false := by simp; omega
      clear hm
      go_enter Tryz.func127, Tryz.ntmps127
      go_wp2_with (first
        | (go_at_call 128; go_must ((with_reducible refine HN.out.mono ?_); rintro e w1 ⟨rfl, hs, hg⟩; have HS := Lib.hid hs; have HG := Lib.hid hg; clear hs hg))
        | (go_at_call 80; go_must ((with_reducible refine (unlessF _ _ _).mono ?_); rintro e w' ⟨rfl, rfl⟩)))
      exact ⟨rfl, rfl, HG.out⟩
  | err c2 a =>
    rw [hr] at hN
    rw [Res.bind_err]
    have HN := Lib.hid hN
    clear hN hr h
    go_enter Tryz.func127, Tryz.ntmps127
    go_wp2_with (go_at_call 128; go_must ((with_reducible refine HN.out.mono ?_); rintro e w1 ⟨rfl, hg⟩; have HG := Lib.hid hg; clear hg))
    exact ⟨rfl, rfl, HG.out⟩

/-- A byte that can only be one. -/
def tagR (l : List UInt8) (k : Nat) (t : Int) : Res Unit := (byteR l k).bind fun c k' => if (c.toNat : Int) = t then .ok () k' else .err 7 k
/-- A type of values. -/
def valR (l : List UInt8) (k : Nat) : Res UInt8 := (byteR l k).bind fun c k' => if valueZ c.toNat = 0 then .ok c k' else .err (valueZ c.toNat) k
theorem val_scan {w : World} {p : Nat} {l : List UInt8} {k : Nat} (h : Sc w p l k) :
    Calls Tryz.prog 118 #[.pointer (some ⟨p, 0, none⟩)] w (Did encB p l w (valR l k)) := by
  have hN := byte_any h
  have c1 := h.at
  unfold valR
  cases hr : byteR l k with
  | ok c k' =>
    rw [hr] at hN
    rw [Res.bind_ok]
    have HN := Lib.hid hN
    have HV := Lib.hid (fun w => value_any (c.toNat : Int) w)
    obtain ⟨z, hz⟩ : ∃ z, z = valueZ c.toNat := ⟨_, rfl⟩
    rw [← hz] at HV ⊢
    clear hN hr h hz
    by_cases hm : z = 0
    · rw [if_pos hm]
      subst hm
      go_enter Tryz.func118, Tryz.ntmps118
      go_wp2_with (first
        | (go_at_call 128; go_must ((with_reducible refine HN.out.mono ?_); rintro e w1 ⟨rfl, hs, hg⟩; have HS := Lib.hid hs; have HG := Lib.hid hg; clear hs hg))
        | (go_at_call 71; go_must ((with_reducible refine (HV.out _).mono ?_); rintro e w' ⟨rfl, rfl⟩))
        | (go_at_call 80; go_must ((with_reducible refine (unlessT _ _ _).mono ?_); rintro e w' ⟨rfl, rfl⟩)))
      go_ret
      exact ⟨rfl, HS.out, HG.out⟩
    · rw [if_neg hm]
      have d1 : (z == 0) = false := by simpa using hm
      clear hm
      go_enter Tryz.func118, Tryz.ntmps118
      go_wp2_with (first
        | (go_at_call 128; go_must ((with_reducible refine HN.out.mono ?_); rintro e w1 ⟨rfl, hs, hg⟩; have HS := Lib.hid hs; have HG := Lib.hid hg; clear hs hg))
        | (go_at_call 71; go_must ((with_reducible refine (HV.out _).mono ?_); rintro e w' ⟨rfl, rfl⟩))
        | (go_at_call 80; go_must ((with_reducible refine (unlessF _ _ _).mono ?_); rintro e w' ⟨rfl, rfl⟩)))
      exact ⟨rfl, rfl, HG.out⟩
  | err c2 a =>
    rw [hr] at hN
    rw [Res.bind_err]
    have HN := Lib.hid hN
    clear hN hr h
    go_enter Tryz.func118, Tryz.ntmps118
    go_wp2_with (go_at_call 128; go_must ((with_reducible refine HN.out.mono ?_); rintro e w1 ⟨rfl, hg⟩; have HG := Lib.hid hg; clear hg))
    exact ⟨rfl, rfl, HG.out⟩
end Go.Proofs.YtebgmfjgapmpfaaGreatDoor

/- valTypes. -/
namespace Go.Proofs.YtebgmfjgapmpfaaGreatDoor
set_option maxRecDepth 100000
open Go.RowKit
set_option linter.unusedVariables false

abbrev encS (t : List UInt8) : Value := .string (S t)
/-- n more types, behind those that were read. -/
def valsK (l : List UInt8) : Nat → Nat → List UInt8 → Res (List UInt8)
  | 0, k, acc => .ok acc k
  | n + 1, k, acc => (valR l k).bind fun c k' => valsK l n k' (acc ++ [c])
/-- How many types there are, and these. -/
noncomputable def valsR (l : List UInt8) (k : Nat) : Res (List UInt8) := (countR l k).bind fun n k' => valsK l n.toNat k' []
theorem valsK_more {l : List UInt8} {n i k : Nat} {acc : List UInt8} (h : i < n) : valsK l (n - i) k acc = (valR l k).bind fun c k' => valsK l (n - (i + 1)) k' (acc ++ [c]) := by
  rw [show n - i = n - (i + 1) + 1 by omega]
  rfl
theorem countR_ok {l : List UInt8} {k : Nat} {v : Int} {k' : Nat} (h : countR l k = .ok v k') : 0 ≤ v ∧ v ≤ 10000 := by
  unfold countR atMostR at h
  cases hr : indexR l k with
  | ok u q =>
    rw [hr, Res.bind_ok] at h
    have hb := uintR_ok (show uintR l k 32 = .ok u q from hr)
    by_cases hm : u ≤ 10000
    · rw [if_pos hm] at h; injection h with h1 h2; omega
    · rw [if_neg hm] at h; cases h
  | err c a => rw [hr, Res.bind_err] at h; cases h

/-- Cells that are made, of one kind. -/
theorem made_one (v : Value) (n : Nat) : madeCells #[v] n = Array.replicate n v := by
  apply Array.ext
  · simp [madeCells]
  · intro i h1 h2
    simp [madeCells, Nat.mod_one]
theorem make_bytes (n : Nat) (hn : n ≤ 100000) (w : World) : (Instr.makeSlice 22 (.int .i64 (n : Int)) (.int .i64 (n : Int))).run Tryz.prog w = .ok (.slice (some ⟨w.heap.size, 0, none⟩) n n) (w.alloc (.cells (List.replicate n (.int .u8 0)).toArray 5)) := by
  obtain ⟨i0, hi0, hz0, hz1, hz2⟩ := info_parts infoB
  have hr := run_make (P := Tryz.prog) w 22 5 i0 _ Tryz.underlying22 hi0 hz0 .i64 .i64 (n : Int) (n : Int) (by omega) (Int.le_refl _) (by rw [hz2]; omega) (by omega)
  rw [hr, hz1]
  have e : (Value.int IntKind.u8 0).cells = #[.int .u8 0] := rfl
  rw [e, made_one]
  simp
/-- A block of n bytes, of which the first are written. -/
def Part (w : World) (g n : Nat) (acc : List UInt8) : Prop := Whole w g 5 (cells (nums acc) ++ List.replicate (n - acc.length) (Value.int .u8 0)).toArray ∧ acc.length ≤ n
theorem Part.start (w : World) (n : Nat) : Part (w.alloc (.cells (List.replicate n (.int .u8 0)).toArray 5)) w.heap.size n [] := ⟨Whole.made _ _ _, Nat.zero_le _⟩
theorem Part.put {w : World} {g n : Nat} {acc : List UInt8} (h : Part w g n acc) (c : UInt8) (hlt : acc.length < n) : Part (w.setCell ⟨g, acc.length, none⟩ (.int .u8 c.toNat)) g n (acc ++ [c]) := by
  refine ⟨?_, by simp; omega⟩
  have h1 := h.1.put acc.length (.int .u8 c.toNat)
  have e : ((cells (nums acc) ++ List.replicate (n - acc.length) (Value.int .u8 0)).toArray.setIfInBounds acc.length (.int .u8 c.toNat)) = (cells (nums (acc ++ [c])) ++ List.replicate (n - (acc ++ [c]).length) (Value.int .u8 0)).toArray := by
    have hl : (cells (nums acc)).length = acc.length := by rw [cells_length, nums_length]
    have hr : List.replicate (n - acc.length) (Value.int .u8 0) = .int .u8 0 :: List.replicate (n - (acc.length + 1)) (.int .u8 0) := by
      rw [show n - acc.length = n - (acc.length + 1) + 1 by omega]; rfl
    rw [hr, List.setIfInBounds_toArray, List.set_append_right _ _ (by omega), hl, Nat.sub_self, List.set_cons_zero, nums_append]
    simp [cells, nums]
  rw [e] at h1
  exact h1
theorem Part.row {w : World} {g n : Nat} {acc : List UInt8} (h : Part w g n acc) (hn : acc.length = n) (base : Nat) (hb : base ≤ g) (hm : n ≤ 100000) : Row w base (.slice (some ⟨g, 0, none⟩) n n) acc := by
  subst hn
  have h1 := h.1
  rw [Nat.sub_self, List.replicate_zero, List.append_nil] at h1
  have hl : (cells (nums acc)).length = acc.length := by rw [cells_length, nums_length]
  exact ⟨by omega, .inr ⟨g, acc.length, (cells (nums acc)).toArray, rfl, hb, h1, Nat.le_refl _, by unfold maxLen; omega, by simp [hl], by rw [List.take_of_length_le (by simp [hl])]⟩⟩
theorem Part.cell {w : World} {g n : Nat} {acc : List UInt8} (h : Part w g n acc) (hlt : acc.length < n) : ∃ u, w.cell? ⟨g, acc.length, none⟩ = some u := by
  have hl : (cells (nums acc)).length = acc.length := by rw [cells_length, nums_length]
  exact ⟨_, (h.1.cell acc.length).trans (Array.getElem?_eq_getElem (by simp [hl]; omega))⟩
end Go.Proofs.YtebgmfjgapmpfaaGreatDoor

/- FuncType. -/
namespace Go.Proofs.YtebgmfjgapmpfaaGreatDoor
set_option maxRecDepth 100000
open Go.RowKit
set_option linter.unusedVariables false

abbrev encF (x : List UInt8 × List UInt8) : Value := .agg #[.string (S x.1), .string (S x.2)]
/-- A function's type. -/
noncomputable def funcR (l : List UInt8) (k : Nat) : Res (List UInt8 × List UInt8) :=
  (tagR l k 96).bind fun _ k1 => (valsR l k1).bind fun a k2 => (valsR l k2).bind fun b k3 => if funcZ a b = 0 then .ok (a, b) k3 else .err (funcZ a b) k
theorem valsK_len {l : List UInt8} : ∀ (n k : Nat) (acc a : List UInt8) (q : Nat), valsK l n k acc = .ok a q → a.length = acc.length + n
  | 0, k, acc, a, q, h => by injection h with h1 h2; rw [← h1]; rfl
  | n + 1, k, acc, a, q, h => by
    unfold valsK at h
    cases hc : valR l k with
    | ok c q2 =>
      rw [hc, Res.bind_ok] at h
      have := valsK_len n q2 (acc ++ [c]) a q h
      simp at this; omega
    | err c x => rw [hc, Res.bind_err] at h; cases h
theorem valsR_len {l : List UInt8} {k : Nat} {a : List UInt8} {q : Nat} (h : valsR l k = .ok a q) : a.length ≤ 10000 := by
  unfold valsR at h
  cases hc : countR l k with
  | ok v q2 =>
    rw [hc, Res.bind_ok] at h
    have := countR_ok hc
    have := valsK_len _ _ _ _ _ h
    simp at this; omega
  | err c x => rw [hc, Res.bind_err] at h; cases h

end Go.Proofs.YtebgmfjgapmpfaaGreatDoor

/- Limits, Global. -/
namespace Go.Proofs.YtebgmfjgapmpfaaGreatDoor
set_option maxRecDepth 100000
open Go.RowKit
set_option linter.unusedVariables false

/-- Three cells of one block, all written. -/
theorem three_put {w : World} {b : Nat} {t : TypeId} {x y z u v s : Value} (hb : Whole w b t #[x, y, z]) :
    Whole (((w.setCell ⟨b, 0, none⟩ u).setCell ⟨b, 1, none⟩ v).setCell ⟨b, 2, none⟩ s) b t #[u, v, s] ∧ w.grownBy (((w.setCell ⟨b, 0, none⟩ u).setCell ⟨b, 1, none⟩ v).setCell ⟨b, 2, none⟩ s) (some b) :=
  ⟨((hb.put 0 u).put 1 v).put 2 s, gb_put (p := ⟨b, 2, none⟩) (gb_put (p := ⟨b, 1, none⟩) (gb_put (p := ⟨b, 0, none⟩) (gb_refl w _) (.inl rfl) u) (.inl rfl) v) (.inl rfl) s⟩
abbrev encT (x : Int × Int × Bool) : Value := .agg #[.int .u32 x.1, .int .u32 x.2.1, .bool x.2.2]
/-- Limits. -/
noncomputable def limR (l : List UInt8) (k : Nat) : Res (Int × Int × Bool) :=
  (flagR l k).bind fun b k1 => (indexR l k1).bind fun mn k2 => if b then (indexR l k2).bind fun mx k3 => .ok (mn, mx, true) k3 else .ok (mn, 0, false) k2

abbrev encGl (x : UInt8 × Bool) : Value := .agg #[.int .u8 x.1.toNat, .bool x.2]
/-- A global's type. -/
def globR (l : List UInt8) (k : Nat) : Res (UInt8 × Bool) := (valR l k).bind fun t k1 => (flagR l k1).bind fun m k2 => .ok (t, m) k2
set_option maxHeartbeats 1000000 in
theorem global_scan {w : World} {p : Nat} {l : List UInt8} {k : Nat} (h : Sc w p l k) :
    Calls Tryz.prog 92 #[.pointer (some ⟨p, 0, none⟩)] w (Did encGl p l w (globR l k)) := by
  have hlt := h.lt
  have hT := val_scan (h.alloc (.cells #[.int .u8 0, .bool false] 40))
  have HWM := Lib.hid (Whole.made w 40 #[.int .u8 0, .bool false])
  unfold globR
  cases h1 : valR l k with
  | err c a =>
    rw [h1] at hT
    rw [Res.bind_err]
    have HT := Lib.hid hT
    clear hT h1 h
    go_enter Tryz.func92, Tryz.ntmps92
    go_wp2_with (go_at_call 118; go_must ((with_reducible refine HT.out.mono ?_); rintro e w1 ⟨rfl, hg⟩; have HG := Lib.hid hg; clear hg))
    exact ⟨rfl, rfl, gb_trans (gb_alloc (gb_refl w _) _) HG.out⟩
  | ok t k1 =>
    rw [h1] at hT
    rw [Res.bind_ok]
    have HT := Lib.hid hT
    clear hT h1 h
    have V1 := Lib.hid (fun W (hs : Sc W p l k1) => flag_scan hs)
    cases h2 : flagR l k1 with
    | err c a =>
      rw [h2] at V1
      rw [Res.bind_err]
      clear h2
      go_enter Tryz.func92, Tryz.ntmps92
      go_wp2_with (first
        | (go_at_call 118; go_must ((with_reducible refine HT.out.mono ?_); rintro e w1 ⟨rfl, hs, hg⟩; have HS := Lib.hid hs; have HG := Lib.hid hg; clear hs hg))
        | (go_at_call 127; go_must ((with_reducible refine (V1.out _ HS.out).mono ?_); rintro e w2 ⟨rfl, hg⟩; have HG2 := Lib.hid hg; clear hg)))
      exact ⟨rfl, rfl, gb_trans (gb_trans (gb_alloc (gb_refl w _) _) HG.out) HG2.out⟩
    | ok m k2 =>
      rw [h2] at V1
      rw [Res.bind_ok]
      clear h2
      go_enter Tryz.func92, Tryz.ntmps92
      go_wp2_with (first
        | (go_at_call 118; go_must ((with_reducible refine HT.out.mono ?_); rintro e w1 ⟨rfl, hs, hg⟩; have HS := Lib.hid hs; have HG := Lib.hid hg; have HW1 := Lib.hid (HWM.out.grown hg (by simp only [ne_eq, Option.some.injEq]; omega)); clear hs hg))
        | (go_at_call 127; go_must ((with_reducible refine (V1.out _ HS.out).mono ?_); rintro e w2 ⟨rfl, hs, hg⟩; have HS2 := Lib.hid hs; have HG2 := Lib.hid hg; have HW2 := Lib.hid (HW1.out.grown hg (by simp only [ne_eq, Option.some.injEq]; omega)); have g0 := HW2.out.frozen 0; have g1 := HW2.out.frozen 1; have k0 := HW2.out.cell 0; have k1' := HW2.out.cell 1; simp only [List.getElem?_toArray, List.getElem?_cons_zero, List.getElem?_cons_succ] at k0 k1'; clear hs hg)))
      obtain ⟨hW, hG⟩ := two_put (u := .int .u8 t.toNat) (v := .bool m) HW2.out (Below.refl _ _)
      have q0 := hW.cell 0
      have q1 := hW.cell 1
      simp only [List.getElem?_toArray, List.getElem?_cons_zero, List.getElem?_cons_succ] at q0 q1
      have hall := gb_trans (gb_trans (gb_alloc (gb_refl w _) _) HG.out) HG2.out
      refine bodyPost_ret (v := .agg #[.int .u8 t.toNat, .bool m]) (by simp [results, Tryz.results92, go_sem, q0, q1]) rfl ⟨rfl, ?_, ?_⟩
      · exact HS2.out.grown hG (by simp only [ne_eq, Option.some.injEq]; omega) (fun g e => by injection e with e; omega)
      · exact gb_put (p := ⟨w.heap.size, 1, none⟩) (gb_put (p := ⟨w.heap.size, 0, none⟩) hall (.inr (Nat.le_refl _)) _) (.inr (Nat.le_refl _)) _
end Go.Proofs.YtebgmfjgapmpfaaGreatDoor

/- Plain mathematics: the bits of a varint's number, with and without a sign; when it fits. -/
namespace Go.Proofs.YtebgmfjgapmpfaaGreatDoor
open Go.RowKit
set_option linter.unusedVariables false

theorem bit_step (d x : Int) (i : Nat) : bit (d % 128 + 128 * x) (7 + i) = bit x i := by
  rw [← bit_div]
  have e : (d % 128 + 128 * x) / 2 ^ 7 = x := by
    show (d % 128 + 128 * x) / 128 = x
    omega
  rw [e]
theorem bit_byte (d x : Int) (i : Nat) (hi : i < 7) : bit (d % 128 + 128 * x) i = bit d i := by
  unfold bit
  have h : i = 0 ∨ i = 1 ∨ i = 2 ∨ i = 3 ∨ i = 4 ∨ i = 5 ∨ i = 6 := by omega
  have key : (d % 128 + 128 * x) / 2 ^ i % 2 = d / 2 ^ i % 2 := by
    rcases h with rfl | rfl | rfl | rfl | rfl | rfl | rfl <;> simp <;> omega
  rw [key]
theorem bit_low : ∀ (l : List Int) (j i : Nat) (c : Int), i < 7 → l[j]? = some c → bit (low l) (7 * j + i) = bit c i
  | [], j, i, c, _, h => by simp at h
  | d :: r, 0, i, c, hi, h => by
    have : d = c := by simpa using h
    subst this
    rw [Nat.mul_zero, Nat.zero_add]
    exact bit_byte d _ i hi
  | d :: r, j + 1, i, c, hi, h => by
    have ih := bit_low r j i c hi (by simpa using h)
    rw [show 7 * (j + 1) + i = 7 + (7 * j + i) by omega, ← ih]
    exact bit_step d _ _

/-- The number of n bits, m of them known: with a sign, or without. -/
def ext (s : Bool) (N : Int) (m : Nat) : Int := if s && bit N (m - 1) then N - 2 ^ m else N
theorem ext_low (s : Bool) (N : Int) (m j : Nat) (h : j < m) : bit (ext s N m) j = bit N j := by
  unfold ext
  split
  · unfold bit
    have e : (2 : Int) ^ m = 2 ^ j * 2 * 2 ^ (m - j - 1) := by
      rw [show (2 : Int) ^ j * 2 = 2 ^ (j + 1) from (Int.pow_succ 2 j).symm, ← Int.pow_add]; congr 1; omega
    have hp := p2 j
    have e2 : N - 2 ^ m = N + 2 ^ j * (2 * -2 ^ (m - j - 1)) := by rw [e]; generalize (2 : Int) ^ (m - j - 1) = t; generalize (2 : Int) ^ j = u; grind
    rw [e2, Int.add_mul_ediv_left _ _ (Int.ne_of_gt hp)]
    congr 1
    omega
  · rfl
theorem ext_bd (s : Bool) {N : Int} {m : Nat} (hm : 1 ≤ m) (h0 : 0 ≤ N) (h1 : N < 2 ^ m) : -2 ^ m ≤ ext s N m ∧ ext s N m < 2 ^ m := by
  unfold ext
  have := p2 m
  split <;> omega
theorem bit_top {N : Int} {m : Nat} (hm : 1 ≤ m) (h0 : 0 ≤ N) (h1 : N < 2 ^ m) : bit N (m - 1) = decide (2 ^ (m - 1) ≤ N) := by
  have e : (2 : Int) ^ m = 2 * 2 ^ (m - 1) := by rw [show m = m - 1 + 1 by omega, Int.pow_succ, Int.mul_comm]; rfl
  have hp := p2 (m - 1)
  unfold bit
  by_cases h : 2 ^ (m - 1) ≤ N
  · have : N / 2 ^ (m - 1) = 1 := by rw [Int.ediv_eq_iff_of_pos hp]; constructor <;> omega
    rw [this]; simp [h]
  · have : N / 2 ^ (m - 1) = 0 := Int.ediv_eq_zero_of_lt h0 (by omega)
    rw [this]; simp [h]
theorem ext_over (s : Bool) {N : Int} {m : Nat} (hm : 1 ≤ m) (h0 : 0 ≤ N) (h1 : N < 2 ^ m) : ext s N m / 2 ^ m = if s && bit N (m - 1) then -1 else 0 := by
  unfold ext
  split
  · rw [Int.ediv_eq_iff_of_pos (p2 m)]; constructor <;> omega
  · exact Int.ediv_eq_zero_of_lt h0 h1
theorem ext_high (s : Bool) {N : Int} {m : Nat} (hm : 1 ≤ m) (h0 : 0 ≤ N) (h1 : N < 2 ^ m) (j : Nat) (hj : m ≤ j) : bit (ext s N m) j = (s && bit N (m - 1)) :=
  from_same (ext_over s hm h0 h1) j hj

/-- The sign that is asked for above the lowest n bits. -/
def topB (s : Bool) (N : Int) (m n : Nat) : Bool := s && bit N (min n m - 1)
/-- All known bits above the lowest n are the sign. -/
def Good (s : Bool) (N : Int) (m n : Nat) : Prop := ∀ j, n ≤ j → j < m → bit N j = topB s N m n

theorem good_ext {s : Bool} {N : Int} {m n : Nat} (hm : 1 ≤ m) (h0 : 0 ≤ N) (h1 : N < 2 ^ m) (hg : Good s N m n) (i : Nat) (hi : n ≤ i ∨ m ≤ i) : bit (ext s N m) i = topB s N m n := by
  rcases Nat.lt_or_ge i m with g | g
  · rw [ext_low s N m i g]; exact hg i (by omega) g
  · rw [ext_high s hm h0 h1 i g]
    rcases Nat.lt_or_ge n m with k | k
    · have h2 := hg (m - 1) (by omega) (by omega)
      rw [h2]
      unfold topB
      cases s <;> simp
    · unfold topB
      rw [Nat.min_eq_right k]
/-- It fits n bits. -/
def Fits (s : Bool) (X : Int) (n : Nat) : Prop := if s then X / 2 ^ (n - 1) = 0 ∨ X / 2 ^ (n - 1) = -1 else X / 2 ^ n = 0
theorem good_fits {s : Bool} {N : Int} {m n : Nat} (hm : 1 ≤ m) (hn : 1 ≤ n) (h0 : 0 ≤ N) (h1 : N < 2 ^ m) : Good s N m n ↔ Fits s (ext s N m) n := by
  obtain ⟨b1, b2⟩ := ext_bd s hm h0 h1
  have mm := mono2 (Nat.le_max_left m n)
  constructor
  · intro hg
    have hx := good_ext hm h0 h1 hg
    cases s
    · have h := same_from (x := ext false N m) (a := n) (b := max m n) (t := false) (by omega) (by omega) (by omega) (fun j hj _ => by rw [hx j (.inl hj)]; simp [topB])
      unfold Fits
      simpa using h
    · have h := same_from (x := ext true N m) (a := n - 1) (b := max m n) (t := topB true N m n) (by omega) (by omega) (by omega) (fun j hj _ => by
        rcases Nat.lt_or_ge j n with g | g
        · obtain rfl : j = n - 1 := by omega
          rcases Nat.lt_or_ge (n - 1) m with k | k
          · rw [ext_low _ _ _ _ k]; unfold topB; rw [Nat.min_eq_left (by omega)]; simp
          · exact hx _ (.inr k)
        · exact hx j (.inl g))
      unfold Fits
      rw [if_pos rfl, h]
      cases topB true N m n <;> simp
  · intro hf j hj hjm
    unfold Fits at hf
    rw [← ext_low s N m j hjm]
    cases s
    · simp only [Bool.false_eq_true, if_false] at hf
      rw [from_same (a := n) (t := false) (by simpa using hf) j hj]; simp [topB]
    · simp only [if_true] at hf
      have hb : ∀ i, n - 1 ≤ i → bit (ext true N m) i = bit (ext true N m) (n - 1) := fun i hi => by
        rcases hf with hf | hf
        · rw [from_same (a := n - 1) (t := false) (by simpa using hf) i hi, from_same (a := n - 1) (t := false) (by simpa using hf) (n - 1) (by omega)]
        · rw [from_same (a := n - 1) (t := true) (by simpa using hf) i hi, from_same (a := n - 1) (t := true) (by simpa using hf) (n - 1) (by omega)]
      rw [hb j (by omega), ext_low true N m (n - 1) (by omega)]
      unfold topB
      rw [Nat.min_eq_left (by omega)]
      simp
end Go.Proofs.YtebgmfjgapmpfaaGreatDoor

/- creelref02.Read. -/
namespace Go.Proofs.YtebgmfjgapmpfaaGreatDoor
open Go.RowKit
set_option linter.unusedVariables false

set_option maxHeartbeats 800000 in
theorem rr_wrong (r : List Int) (A : Option Addr) (cap : Nat) (at_ n : Int) (s : Bool) (w : World) (h : n < 1 ∨ 64 < n ∨ at_ < 0 ∨ (r.length : Int) < at_) :
    Calls Tryz.prog 157 #[.slice A r.length cap, .int .i64 at_, .int .i64 n, .bool s] w fun e w' => e = .returned (.tuple #[.int .u64 0, .int .i64 0, .int .i64 1]) ∧ Below w.heap.size w w' := by
  by_cases n1 : n < 1
  · go_enter Tryz.func157, Tryz.ntmps157
    go_wp2
    go_ret3
    exact ⟨rfl, Below.refl _ _⟩
  · have m1 : 1 ≤ n := by omega
    by_cases n2 : 64 < n
    · go_enter Tryz.func157, Tryz.ntmps157
      go_wp2
      go_ret3
      exact ⟨rfl, Below.refl _ _⟩
    · have d2 : decide (64 < n) = false := by simpa using n2
      by_cases n3 : at_ < 0
      · go_enter Tryz.func157, Tryz.ntmps157
        go_wp2
        go_ret3
        exact ⟨rfl, Below.refl _ _⟩
      · have d3 : decide (at_ < 0) = false := by simpa using n3
        have n4 : (r.length : Int) < at_ := by omega
        go_enter Tryz.func157, Tryz.ntmps157
        go_wp2
        go_ret3
        exact ⟨rfl, Below.refl _ _⟩

set_option maxRecDepth 100000 in
set_option maxHeartbeats 4000000 in
theorem rr_right (r : List Int) (A : Option Addr) (cap B : Nat) (k n p : Nat) (s : Bool) (X Q E : Int) (w : World) (hl : Lies w B A (cells r)) (hB : B ≤ w.heap.size) (hb : ∀ c ∈ r, 0 ≤ c ∧ c ≤ 255) (hc : r.length ≤ cap) (hm : cap ≤ maxLen)
    (hk : k ≤ r.length) (n1 : 1 ≤ n) (n2 : n ≤ 64) (hp : Stop ((n + 6) / 7) (r.drop k) p)
    (res : (p = (n + 6) / 7 ∧ X = 0 ∧ Q = 0 ∧ E = 3) ∨ (p < (n + 6) / 7 ∧ k + p = r.length ∧ X = 0 ∧ Q = 0 ∧ E = 2) ∨
      (p < (n + 6) / 7 ∧ k + p < r.length ∧ ¬ Good s (low ((r.drop k).take (p + 1))) (7 * (p + 1)) n ∧ X = 0 ∧ Q = 0 ∧ E = 3) ∨
      (p < (n + 6) / 7 ∧ k + p < r.length ∧ Good s (low ((r.drop k).take (p + 1))) (7 * (p + 1)) n ∧ X = ext s (low ((r.drop k).take (p + 1))) (7 * (p + 1)) % 2 ^ 64 ∧ Q = k + (p + 1) ∧ E = 0)) :
    Calls Tryz.prog 157 #[.slice A r.length cap, .int .i64 k, .int .i64 n, .bool s] w fun e w' => e = .returned (.tuple #[.int .u64 X, .int .i64 Q, .int .i64 E]) ∧ Below w.heap.size w w' := by
  obtain ⟨i0, hi0, hz0, hz1, hz2⟩ := info_parts infoO
  unfold maxLen at hm
  have hpM := hp.leM
  have hpR := hp.leR
  rw [List.length_drop] at hpR
  have HRES := Lib.hid res
  have HP := Lib.hid hp
  have HL := Lib.hid hl
  have HC := Lib.hid hb
  obtain ⟨N, hN⟩ : ∃ N, N = low ((r.drop k).take (p + 1)) := ⟨_, rfl⟩
  have hbits : ∀ (j i : Nat) (c : Int), j ≤ p → i < 7 → r[k + j]? = some c → bit N (7 * j + i) = bit c i := fun j i c hj hi hc => by
    rw [hN]; exact bit_low _ j i c hi (by rw [List.getElem?_take, if_pos (by omega), List.getElem?_drop]; exact hc)
  have HBI := Lib.hid hbits
  have HN := Lib.hid hN
  have hd : decide (r.length < k) = false := by simpa using hk
  have d2 : decide (64 < (n : Int)) = false := by simp; omega
  have d4 : decide (64 < n) = false := by simp; omega
  have d3 : decide ((k : Int) < 0) = false := by simp
  have hd2 : ¬ r.length < k := by omega
  clear res hp hl hb hN hbits
  go_enter Tryz.func157, Tryz.ntmps157
  go_wp2
  go_loopw [11, 12] (fun l i wr => ∃ j : Nat, j ≤ p ∧ i = .int .i64 j ∧ wr.ownsRow w.heap.size 4 1 l (7 * j) (bools N (7 * j)) ∧ Below w.heap.size w wr) (fun _ i _ => p - (intOf i).toNat)
  case atStart => exact ⟨0, by omega, rfl, World.ownsRow_nil _ _ _ _, Below.refl _ _⟩
  case round =>
    obtain ⟨j, hj, rfl, hown, hbe⟩ := hrel
    have hsz := hbe.size
    have HBE := Lib.hid hbe
    clear hbe
    by_cases hM : j < (n + 6) / 7
    · have t1 : ¬ ((n : Int) + 6) / 7 ≤ j := by omega
      by_cases hR : k + j < r.length
      · have t2 : ¬ (r.length : Int) ≤ (k : Int) + j := by omega
        obtain ⟨c, hcj⟩ : ∃ c, r[k + j]? = some c := ⟨_, List.getElem?_eq_getElem hR⟩
        obtain ⟨b, off, rfl, hbB, hcell⟩ := (HL.out.below HBE.out hB).byte hcj
        obtain ⟨c0, c1⟩ := HC.out c (List.mem_of_getElem? hcj)
        have HCJ := Lib.hid hcj
        clear hcj
        go_wp2_with (go_at_call 173; go_must (refine (refMost_in _ _ (by omega) (by omega)).mono ?_; rintro e w' ⟨rfl, rfl⟩))
        obtain ⟨wo, rfl⟩ : ∃ wo : World, wo = wr := ⟨_, rfl⟩
        have HOWN := Lib.hid hown
        clear hown hcell
        go_loopw [11, 14] (fun l i wr => ∃ m : Nat, m ≤ 7 ∧ i = .int .i64 m ∧ wr.ownsRow w.heap.size 4 1 l (7 * j + m) (bools N (7 * j + m)) ∧ Below w.heap.size w wr) (fun _ i _ => 7 - (intOf i).toNat)
        case atStart => exact ⟨0, by omega, rfl, HOWN.out, HBE.out⟩
        case round =>
          obtain ⟨m, hm7, rfl, hown2, hbe2⟩ := hrel
          have hsz2 := hbe2.size
          have HBE2 := Lib.hid hbe2
          clear hbe2
          by_cases hlt : m < 7
          · have hbt := HBI.out j m c hj hlt HCJ.out
            obtain ⟨y, hy⟩ : ∃ y, c / 2 ^ m = y := ⟨_, rfl⟩
            have hy0 : 0 ≤ y := by rw [← hy]; exact Int.ediv_nonneg c0 (Int.le_of_lt (p2 _))
            have hy1 : y ≤ 255 := by rw [← hy]; exact Int.le_trans (Int.ediv_le_self _ c0) c1
            have hbe : bit N (7 * j + m) = (y % 2 == 1) := by rw [hbt]; unfold bit; rw [hy]
            have HBT := Lib.hid hbe
            clear hbt hbe
            go_wp2_with (at_builtin; refine wpList_append_own _ rfl _ _ _ rfl w.heap.size 4 i0 _ 1 1 Tryz.underlying157 hi0 hz0 hz1 hz2 rfl (by omega) _ _ _ rfl (hown2.alloc _) ⟨wr.heap.size, 0, none⟩ 1 1 [.bool (y % 2 == 1)] rfl rfl (World.news_of_block (cs := #[.bool (y % 2 == 1)]) (t := 4) (fr := (0, 0)) (heap_alloc_new wr _)) (by simp [Value.oneCell']) (by unfold maxLen; omega) (by omega) (by simp; omega) ?_; intro v' w2 hown3 hgrow3 _; have HO3 := Lib.hid hown3; have HG3 := Lib.hid hgrow3; clear hown3 hgrow3)
            go_roundw
            case rel => exact ⟨m + 1, by omega, by go_num, by rw [← Nat.add_assoc, bools_snoc, HBT.out]; exact HO3.out, below_append HBE2.out hown2 HG3.out⟩
            case measure => simp [intOf]; omega
          · obtain rfl : m = 7 := by omega
            by_cases hjp : j < p
            · have c2 := HP.out.on j c hjp (by rw [List.getElem?_drop]; exact HCJ.out)
              go_wp2
              go_roundw
              case rel => exact ⟨j + 1, by omega, by go_num, by rw [show 7 * (j + 1) = 7 * j + 7 by omega]; exact hown2, HBE2.out⟩
              case measure => simp [intOf]; omega
            · obtain rfl : j = p := by omega
              have c2 := HP.out.off c hM (by rw [List.getElem?_drop]; exact HCJ.out)
              obtain ⟨mm, hmm⟩ : ∃ mm, mm = 7 * j + 7 := ⟨_, rfl⟩
              rw [← hmm] at hown2
              obtain ⟨A2, cap2, rfl, hle2, hmx2, hl2, _⟩ := lies_own hown2
              obtain ⟨b2, off2, rfl, hb2, _⟩ := hl2 _ _ (bools_get N (show 0 < mm by omega))
              have hcell2 : ∀ i, i < mm → wr.cell? ⟨b2, off2 + i, none⟩ = some (.bool (bit N i)) := fun i hi => by
                obtain ⟨b', off', e', _, h2⟩ := hl2 _ _ (bools_get N hi)
                simp only [Option.some.injEq, Addr.mk.injEq] at e'
                obtain ⟨rfl, rfl, _⟩ := e'
                exact h2
              have HC2 := Lib.hid hcell2
              have hres : (¬ Good s N mm n ∧ X = 0 ∧ Q = 0 ∧ E = 3) ∨ (Good s N mm n ∧ X = ext s N mm % 2 ^ 64 ∧ Q = k + (j + 1) ∧ E = 0) := by
                rcases HRES.out with h | h | h | h
                · omega
                · omega
                · exact .inl (by rw [HN.out, hmm, show 7 * j + 7 = 7 * (j + 1) by omega]; exact h.2.2)
                · exact .inr (by rw [HN.out, hmm, show 7 * j + 7 = 7 * (j + 1) by omega]; exact h.2.2)
              have hNb : 0 ≤ N ∧ N < 2 ^ mm := by
                have h := low_bd ((r.drop k).take (j + 1))
                rw [List.length_take, List.length_drop, show min (j + 1) (r.length - k) = j + 1 by omega, ← HN.out, show 7 * (j + 1) = mm by omega] at h
                exact h
              have hmm7 : 7 ≤ mm := by omega
              have hmm70 : mm ≤ 70 := by omega
              unfold maxLen at hmx2
              obtain ⟨q, hq⟩ : ∃ q, q = min n mm - 1 := ⟨_, rfl⟩
              have hq1 : (min (n : Int) (mm : Int) - 1).toNat = q := by omega
              have hq2 : min (n : Int) (mm : Int) - 1 = (q : Int) := by omega
              have hq3 : q < mm := by omega
              have hqc := hcell2 q hq3
              have HMM := Lib.hid hmm
              clear hcell2 hl2 hown2 hmm
              rcases hres with ⟨hbad, hF⟩ | ⟨hgood, hF⟩
              · have F := Lib.hid hF
                clear hF
                have hbad : ∃ j0, n ≤ j0 ∧ j0 < mm ∧ ¬ bit N j0 = topB s N mm n := by
                  refine Classical.byContradiction fun hno => hbad fun i h1 h2 => Classical.byContradiction fun h3 => hno ⟨i, h1, h2, h3⟩
                cases s
                · have ht : topB false N mm n = false := rfl
                  rw [ht] at hbad
                  clear ht
                  go_wp2
                  obtain ⟨j0, hj1, hj2, hj3⟩ := hbad
                  go_loop [16, 17] (fun v i => ∃ (i' : Nat) (v' : Int), i' ≤ j0 ∧ i = .int .i64 i' ∧ v = .int .u64 v') (fun _ i => j0 - (intOf i).toNat)
                  case atStart => exact ⟨0, 0, by omega, rfl, rfl⟩
                  case round =>
                    obtain ⟨i, v', hij, rfl, rfl⟩ := hrel
                    have h1 : (i : Int) < max 64 (mm : Int) := by omega
                    have h2 : (i : Int) < (mm : Int) := by omega
                    have hci := HC2.out i (by omega)
                    by_cases hin : i < n
                    · have h3 : ¬ (n : Int) ≤ i := by omega
                      have h3d : decide ((n : Int) ≤ i) = false := by simpa using h3
                      have h4 : (i : Int) < 64 := by omega
                      generalize bit N i = x at *
                      cases x
                      all_goals go_wp2
                      all_goals
                        go_round
                        case rel => exact ⟨i + 1, _, by omega, by go_num, rfl⟩
                        case measure => simp [intOf]; omega
                    · have h3 : (n : Int) ≤ i := by omega
                      by_cases hx : bit N i = false
                      · have hi0 : i ≠ j0 := fun e => hj3 (e ▸ hx)
                        rw [hx] at hci
                        have hne : (false != false) = false := by simp
                        skip
                        all_goals (by_cases h4 : (i : Int) < 64)
                        all_goals go_wp2
                        all_goals
                          go_round
                          case rel => exact ⟨i + 1, _, by omega, by go_num, rfl⟩
                          case measure => simp [intOf]; omega
                      · skip
                        all_goals (first
                          | (have hxx : bit N i = true := by simpa using hx
                             rw [hxx] at hci
                             clear hx hxx)
                          | (have hxx : bit N i = false := by simpa using hx
                             rw [hxx] at hci
                             clear hx hxx))
                        all_goals go_wp2
                        all_goals go_ret3
                        all_goals exact ⟨by rw [F.out.1, F.out.2.1, F.out.2.2]; rfl, HBE2.out⟩
                · have ht : topB true N mm n = bit N q := by unfold topB; rw [hq]; rfl
                  rw [ht] at hbad
                  clear ht hq
                  obtain ⟨t, ht⟩ : ∃ t, bit N q = t := ⟨_, rfl⟩
                  rw [ht] at hbad hqc
                  clear ht
                  go_wp2
                  obtain ⟨j0, hj1, hj2, hj3⟩ := hbad
                  go_loop [16, 17] (fun v i => ∃ (i' : Nat) (v' : Int), i' ≤ j0 ∧ i = .int .i64 i' ∧ v = .int .u64 v') (fun _ i => j0 - (intOf i).toNat)
                  case atStart => exact ⟨0, 0, by omega, rfl, rfl⟩
                  case round =>
                    obtain ⟨i, v', hij, rfl, rfl⟩ := hrel
                    have h1 : (i : Int) < max 64 (mm : Int) := by omega
                    have h2 : (i : Int) < (mm : Int) := by omega
                    have hci := HC2.out i (by omega)
                    by_cases hin : i < n
                    · have h3 : ¬ (n : Int) ≤ i := by omega
                      have h3d : decide ((n : Int) ≤ i) = false := by simpa using h3
                      have h4 : (i : Int) < 64 := by omega
                      generalize bit N i = x at *
                      cases x
                      all_goals go_wp2
                      all_goals
                        go_round
                        case rel => exact ⟨i + 1, _, by omega, by go_num, rfl⟩
                        case measure => simp [intOf]; omega
                    · have h3 : (n : Int) ≤ i := by omega
                      by_cases hx : bit N i = t
                      · have hi0 : i ≠ j0 := fun e => hj3 (e ▸ hx)
                        rw [hx] at hci
                        have hne : (t != t) = false := by simp
                        cases t
                        all_goals (by_cases h4 : (i : Int) < 64)
                        all_goals go_wp2
                        all_goals
                          go_round
                          case rel => exact ⟨i + 1, _, by omega, by go_num, rfl⟩
                          case measure => simp [intOf]; omega
                      · cases t
                        all_goals (first
                          | (have hxx : bit N i = true := by simpa using hx
                             rw [hxx] at hci
                             clear hx hxx)
                          | (have hxx : bit N i = false := by simpa using hx
                             rw [hxx] at hci
                             clear hx hxx))
                        all_goals go_wp2
                        all_goals go_ret3
                        all_goals exact ⟨by rw [F.out.1, F.out.2.1, F.out.2.2]; rfl, HBE2.out⟩
              · have F := Lib.hid hF
                obtain ⟨Y, hY⟩ : ∃ Y, Y = ext s N mm := ⟨_, rfl⟩
                rw [← hY] at F
                have HX1 : Hid (∀ i, i < mm → bit Y i = bit N i) := by rw [hY]; exact fun i hi => ext_low s N mm i hi
                have HX2 : Hid (∀ i, n ≤ i ∨ mm ≤ i → bit Y i = topB s N mm n) := by rw [hY]; exact fun i hi => good_ext (by omega) hNb.1 hNb.2 hgood i hi
                clear hF hY hgood
                cases s
                · have ht : topB false N mm n = false := rfl
                  rw [ht] at HX2
                  clear ht
                  go_wp2
                  go_loop [16, 17] (fun v i => ∃ i' : Nat, i' ≤ max 64 mm ∧ i = .int .i64 i' ∧ v = .int .u64 (Y % 2 ^ min i' 64)) (fun _ i => max 64 mm - (intOf i).toNat)
                  case atStart => exact ⟨0, by omega, rfl, by simp⟩
                  case round =>
                    obtain ⟨i, hij, rfl, rfl⟩ := hrel
                    by_cases hlt : i < max 64 mm
                    · have h1 : (i : Int) < max 64 (mm : Int) := by omega
                      have hbi := HX1.out i
                      have hbj := HX2.out i
                      by_cases h4 : i < 64
                      · have h4' : (i : Int) < 64 := by omega
                        have hmb := mod_bit Y i
                        have hmi : min i 64 = i := by omega
                        have hmi2 : min (i + 1) 64 = i + 1 := by omega
                        have hv0 := Int.emod_nonneg Y (Int.ne_of_gt (p2 i))
                        have hv1 := Int.emod_lt_of_pos Y (p2 i)
                        have hm63 := mono2 (a := i) (b := 63) (by omega)
                        have e63 : (2 : Int) ^ 63 = 9223372036854775808 := rfl
                        have hi1 := p2 i
                        rw [hmi]
                        obtain ⟨v, hv⟩ : ∃ v, v = Y % 2 ^ i := ⟨_, rfl⟩
                        obtain ⟨z, hz⟩ : ∃ z, z = (2 : Int) ^ i := ⟨_, rfl⟩
                        rw [← hv] at hv0 hv1 hmb ⊢
                        rw [← hz] at hv1 hm63 hi1 hmb
                        have hw : IntKind.u64.wrap z = z := wrapU (by omega) (by omega)
                        rw [hz] at hw
                        rw [← hz] at hw
                        have hz1 : z ≤ 9223372036854775808 := by omega
                        have hv2 : v ≤ 9223372036854775807 := by omega
                        have hz0 : 0 ≤ z := by omega
                        have HMB := Lib.hid hmb
                        have HM2 := Lib.hid hmi2
                        have hzz : (2 : Int) ^ i = z := hz.symm
                        clear hv hmi hmi2 hmb hm63 e63 hi1 hv1 hz
                        by_cases hin : i < n
                        · have h3 : ¬ (n : Int) ≤ i := by omega
                          have h3d : decide ((n : Int) ≤ i) = false := by simpa using h3
                          by_cases him : i < mm
                          · have h2 : (i : Int) < (mm : Int) := by omega
                            have hci := HC2.out i him
                            rw [← hbi him] at hci
                            clear hbi hbj
                            generalize bit Y i = x at *
                            cases x
                            all_goals go_wp2
                            all_goals
                              go_round
                              case rel => exact ⟨i + 1, by omega, by go_num, by rw [HM2.out, HMB.out]; simp; try (exact wrapU (by omega) (by omega))⟩
                              case measure => simp [intOf]; omega
                          · have h2 : ¬ (i : Int) < (mm : Int) := by omega
                            rw [hbj (.inr (by omega))] at HMB
                            clear hbi hbj
                            skip
                            all_goals go_wp2
                            all_goals
                              go_round
                              case rel => exact ⟨i + 1, by omega, by go_num, by rw [HM2.out, HMB.out]; simp; try (exact wrapU (by omega) (by omega))⟩
                              case measure => simp [intOf]; omega
                        · have h3 : (n : Int) ≤ i := by omega
                          rw [hbj (.inl (by omega))] at HMB
                          by_cases him : i < mm
                          · have h2 : (i : Int) < (mm : Int) := by omega
                            have hci := HC2.out i him
                            rw [← hbi him, hbj (.inl (by omega))] at hci
                            have hne : (false != false) = false := by simp
                            clear hbi hbj
                            skip
                            all_goals go_wp2
                            all_goals
                              go_round
                              case rel => exact ⟨i + 1, by omega, by go_num, by rw [HM2.out, HMB.out]; simp; try (exact wrapU (by omega) (by omega))⟩
                              case measure => simp [intOf]; omega
                          · have h2 : ¬ (i : Int) < (mm : Int) := by omega
                            have h2d : decide ((i : Int) < (mm : Int)) = false := by simpa using h2
                            clear hbi hbj
                            skip
                            all_goals go_wp2
                            all_goals
                              go_round
                              case rel => exact ⟨i + 1, by omega, by go_num, by rw [HM2.out, HMB.out]; simp; try (exact wrapU (by omega) (by omega))⟩
                              case measure => simp [intOf]; omega
                      · have h4' : ¬ (i : Int) < 64 := by omega
                        have h4d : decide ((i : Int) < 64) = false := by simpa using h4'
                        have h3 : (n : Int) ≤ i := by omega
                        have h2 : (i : Int) < (mm : Int) := by omega
                        have hci := HC2.out i (by omega)
                        have HMI : Hid (min (i + 1) 64 = min i 64) := by show min (i + 1) 64 = min i 64; omega
                        rw [← hbi (by omega), hbj (.inl (by omega))] at hci
                        have hne : (false != false) = false := by simp
                        clear hbi hbj
                        generalize hvv : Y % 2 ^ min i 64 = v at *
                        have HV := Lib.hid hvv
                        clear hvv
                        skip
                        all_goals go_wp2
                        all_goals
                          go_round
                          case rel => exact ⟨i + 1, by omega, by go_num, by rw [HMI.out, HV.out]⟩
                          case measure => simp [intOf]; omega
                    · have h1 : ¬ (i : Int) < max 64 (mm : Int) := by omega
                      have hmi : Y % 2 ^ min i 64 = X := by rw [F.out.1, show min i 64 = 64 by omega]
                      rw [hmi]
                      clear hmi
                      go_wp2
                      go_ret3
                      exact ⟨by rw [F.out.2.1, F.out.2.2]; rfl, HBE2.out⟩
                · have ht : topB true N mm n = bit N q := by unfold topB; rw [hq]; rfl
                  rw [ht] at HX2
                  clear ht hq
                  obtain ⟨t, ht⟩ : ∃ t, bit N q = t := ⟨_, rfl⟩
                  rw [ht] at HX2 hqc
                  clear ht
                  go_wp2
                  go_loop [16, 17] (fun v i => ∃ i' : Nat, i' ≤ max 64 mm ∧ i = .int .i64 i' ∧ v = .int .u64 (Y % 2 ^ min i' 64)) (fun _ i => max 64 mm - (intOf i).toNat)
                  case atStart => exact ⟨0, by omega, rfl, by simp⟩
                  case round =>
                    obtain ⟨i, hij, rfl, rfl⟩ := hrel
                    by_cases hlt : i < max 64 mm
                    · have h1 : (i : Int) < max 64 (mm : Int) := by omega
                      have hbi := HX1.out i
                      have hbj := HX2.out i
                      by_cases h4 : i < 64
                      · have h4' : (i : Int) < 64 := by omega
                        have hmb := mod_bit Y i
                        have hmi : min i 64 = i := by omega
                        have hmi2 : min (i + 1) 64 = i + 1 := by omega
                        have hv0 := Int.emod_nonneg Y (Int.ne_of_gt (p2 i))
                        have hv1 := Int.emod_lt_of_pos Y (p2 i)
                        have hm63 := mono2 (a := i) (b := 63) (by omega)
                        have e63 : (2 : Int) ^ 63 = 9223372036854775808 := rfl
                        have hi1 := p2 i
                        rw [hmi]
                        obtain ⟨v, hv⟩ : ∃ v, v = Y % 2 ^ i := ⟨_, rfl⟩
                        obtain ⟨z, hz⟩ : ∃ z, z = (2 : Int) ^ i := ⟨_, rfl⟩
                        rw [← hv] at hv0 hv1 hmb ⊢
                        rw [← hz] at hv1 hm63 hi1 hmb
                        have hw : IntKind.u64.wrap z = z := wrapU (by omega) (by omega)
                        rw [hz] at hw
                        rw [← hz] at hw
                        have hz1 : z ≤ 9223372036854775808 := by omega
                        have hv2 : v ≤ 9223372036854775807 := by omega
                        have hz0 : 0 ≤ z := by omega
                        have HMB := Lib.hid hmb
                        have HM2 := Lib.hid hmi2
                        have hzz : (2 : Int) ^ i = z := hz.symm
                        clear hv hmi hmi2 hmb hm63 e63 hi1 hv1 hz
                        by_cases hin : i < n
                        · have h3 : ¬ (n : Int) ≤ i := by omega
                          have h3d : decide ((n : Int) ≤ i) = false := by simpa using h3
                          by_cases him : i < mm
                          · have h2 : (i : Int) < (mm : Int) := by omega
                            have hci := HC2.out i him
                            rw [← hbi him] at hci
                            clear hbi hbj
                            generalize bit Y i = x at *
                            cases x
                            all_goals go_wp2
                            all_goals
                              go_round
                              case rel => exact ⟨i + 1, by omega, by go_num, by rw [HM2.out, HMB.out]; simp; try (exact wrapU (by omega) (by omega))⟩
                              case measure => simp [intOf]; omega
                          · have h2 : ¬ (i : Int) < (mm : Int) := by omega
                            rw [hbj (.inr (by omega))] at HMB
                            clear hbi hbj
                            cases t
                            all_goals go_wp2
                            all_goals
                              go_round
                              case rel => exact ⟨i + 1, by omega, by go_num, by rw [HM2.out, HMB.out]; simp; try (exact wrapU (by omega) (by omega))⟩
                              case measure => simp [intOf]; omega
                        · have h3 : (n : Int) ≤ i := by omega
                          rw [hbj (.inl (by omega))] at HMB
                          by_cases him : i < mm
                          · have h2 : (i : Int) < (mm : Int) := by omega
                            have hci := HC2.out i him
                            rw [← hbi him, hbj (.inl (by omega))] at hci
                            have hne : (t != t) = false := by simp
                            clear hbi hbj
                            cases t
                            all_goals go_wp2
                            all_goals
                              go_round
                              case rel => exact ⟨i + 1, by omega, by go_num, by rw [HM2.out, HMB.out]; simp; try (exact wrapU (by omega) (by omega))⟩
                              case measure => simp [intOf]; omega
                          · have h2 : ¬ (i : Int) < (mm : Int) := by omega
                            have h2d : decide ((i : Int) < (mm : Int)) = false := by simpa using h2
                            clear hbi hbj
                            cases t
                            all_goals go_wp2
                            all_goals
                              go_round
                              case rel => exact ⟨i + 1, by omega, by go_num, by rw [HM2.out, HMB.out]; simp; try (exact wrapU (by omega) (by omega))⟩
                              case measure => simp [intOf]; omega
                      · have h4' : ¬ (i : Int) < 64 := by omega
                        have h4d : decide ((i : Int) < 64) = false := by simpa using h4'
                        have h3 : (n : Int) ≤ i := by omega
                        have h2 : (i : Int) < (mm : Int) := by omega
                        have hci := HC2.out i (by omega)
                        have HMI : Hid (min (i + 1) 64 = min i 64) := by show min (i + 1) 64 = min i 64; omega
                        rw [← hbi (by omega), hbj (.inl (by omega))] at hci
                        have hne : (t != t) = false := by simp
                        clear hbi hbj
                        generalize hvv : Y % 2 ^ min i 64 = v at *
                        have HV := Lib.hid hvv
                        clear hvv
                        cases t
                        all_goals go_wp2
                        all_goals
                          go_round
                          case rel => exact ⟨i + 1, by omega, by go_num, by rw [HMI.out, HV.out]⟩
                          case measure => simp [intOf]; omega
                    · have h1 : ¬ (i : Int) < max 64 (mm : Int) := by omega
                      have hmi : Y % 2 ^ min i 64 = X := by rw [F.out.1, show min i 64 = 64 by omega]
                      rw [hmi]
                      clear hmi
                      go_wp2
                      go_ret3
                      exact ⟨by rw [F.out.2.1, F.out.2.2]; rfl, HBE2.out⟩
      · have t2 : (r.length : Int) ≤ (k : Int) + j := by omega
        have hjp : j = p := by omega
        have F : Hid (X = 0 ∧ Q = 0 ∧ E = 2) := by
          rcases HRES.out with h | h | h | h
          · omega
          · exact h.2.2
          · omega
          · omega
        go_wp2_with (go_at_call 173; go_must (refine (refMost_in _ _ (by omega) (by omega)).mono ?_; rintro e w' ⟨rfl, rfl⟩))
        go_ret3
        exact ⟨by rw [F.out.1, F.out.2.1, F.out.2.2]; rfl, HBE.out⟩
    · have t1 : ((n : Int) + 6) / 7 ≤ j := by omega
      have hjp : j = p := by omega
      have F : Hid (X = 0 ∧ Q = 0 ∧ E = 3) := by
        rcases HRES.out with h | h | h | h
        · exact h.2
        · omega
        · omega
        · omega
      go_wp2_with (go_at_call 173; go_must (refine (refMost_in _ _ (by omega) (by omega)).mono ?_; rintro e w' ⟨rfl, rfl⟩))
      go_ret3
      exact ⟨by rw [F.out.1, F.out.2.1, F.out.2.2]; rfl, HBE.out⟩
end Go.Proofs.YtebgmfjgapmpfaaGreatDoor

/- Both readers, each beside the reference: the same answer. -/
namespace Go.Proofs.YtebgmfjgapmpfaaGreatDoor
open Go.RowKit
set_option linter.unusedVariables false

theorem low_take {q : List Int} {p : Nat} {c : Int} (hpc : q[p]? = some c) (c0 : 0 ≤ c) (c2 : c < 128) : low (q.take (p + 1)) = numU (q.take p) c := by
  have hp := (List.getElem?_eq_some_iff.1 hpc).1
  rw [take_snoc hpc, low_snoc]
  unfold numU
  rw [Int.emod_eq_of_lt c0 c2]
theorem take_len {q : List Int} {p : Nat} {c : Int} (hpc : q[p]? = some c) : (q.take p).length = p := by
  have hp := (List.getElem?_eq_some_iff.1 hpc).1
  rw [List.length_take]; omega
theorem num_bd {q : List Int} {p : Nat} {c : Int} (hpc : q[p]? = some c) (c0 : 0 ≤ c) (c2 : c < 128) : 0 ≤ numU (q.take p) c ∧ numU (q.take p) c < 2 ^ (7 * (p + 1)) := by
  have hp := (List.getElem?_eq_some_iff.1 hpc).1
  have h := low_bd (q.take (p + 1))
  rw [low_take hpc c0 c2, List.length_take, show min (p + 1) q.length = p + 1 by omega] at h
  exact h
theorem ext_signed {q : List Int} {p : Nat} {c : Int} (hpc : q[p]? = some c) (c0 : 0 ≤ c) (c2 : c < 128) : ext true (numU (q.take p) c) (7 * (p + 1)) = numS (q.take p) c := by
  obtain ⟨b0, b1⟩ := num_bd hpc c0 c2
  have hb := bit_top (m := 7 * (p + 1)) (by omega) b0 b1
  obtain ⟨l0, l1⟩ := low_bd (q.take p)
  unfold ext
  unfold numS numU at *
  rw [take_len hpc] at *
  rw [hb]
  have e1 : (2 : Int) ^ (7 * (p + 1) - 1) = 64 * 2 ^ (7 * p) := by rw [show 7 * (p + 1) - 1 = 7 * p + 6 by omega, Int.pow_add, Int.mul_comm]; rfl
  have e2 : (2 : Int) ^ (7 * (p + 1)) = 128 * 2 ^ (7 * p) := by rw [show 7 * (p + 1) = 7 * p + 7 by omega, Int.pow_add, Int.mul_comm]; rfl
  rw [e1, e2]
  unfold sg
  generalize (2 : Int) ^ (7 * p) = t at *
  by_cases h : 64 ≤ c
  · have : 64 * t ≤ low (q.take p) + c * t := by
      have := Int.mul_le_mul_of_nonneg_right h (show 0 ≤ t by omega)
      omega
    simp only [this, decide_true, Bool.and_self, if_true, if_pos h]
    grind
  · have : ¬ 64 * t ≤ low (q.take p) + c * t := by
      have := Int.mul_le_mul_of_nonneg_right (show c ≤ 63 by omega) (show 0 ≤ t by omega)
      omega
    simp only [this, decide_false, Bool.and_false, Bool.false_eq_true, if_false, if_neg h]

/-- What is asked of a slice that comes in: it reads as these bytes. -/
structure Has (w : World) (B : Nat) (A : Option Addr) (cap : Nat) (r : List Int) : Prop where
  lies : Lies w B A (cells r)
  low_ : B ≤ w.heap.size
  room : r.length ≤ cap
  most : cap ≤ maxLen

theorem both_u (r : List Int) (hb : ∀ c ∈ r, 0 ≤ c ∧ c ≤ 255) (at_ n : Int) : ∃ X Q E : Int, 
    (∀ A cap B w, Has w B A cap r → Calls Tryz.prog 166 #[.slice A r.length cap, .int .i64 at_, .int .i64 n] w fun x w' => x = .returned (.tuple #[.int .u64 X, .int .i64 Q, .int .i64 E]) ∧ w = w') ∧
    (∀ A cap B w, Has w B A cap r → Calls Tryz.prog 157 #[.slice A r.length cap, .int .i64 at_, .int .i64 n, .bool false] w fun x w' => x = .returned (.tuple #[.int .u64 X, .int .i64 Q, .int .i64 E]) ∧ Below w.heap.size w w') := by
  by_cases hw : n < 1 ∨ 64 < n ∨ at_ < 0 ∨ (r.length : Int) < at_
  · exact ⟨0, 0, 1, fun A cap B w h => ru_fail _ _ _ 1 w (.inl rfl) (length_wrong r A cap at_ n w hw), fun A cap B w h => rr_wrong r A cap at_ n false w hw⟩
  · obtain ⟨k, rfl⟩ : ∃ k : Nat, at_ = k := ⟨at_.toNat, by omega⟩
    obtain ⟨m, rfl⟩ : ∃ m : Nat, n = m := ⟨n.toNat, by omega⟩
    have hk : k ≤ r.length := by omega
    have m1 : 1 ≤ m := by omega
    have m2 : m ≤ 64 := by omega
    obtain ⟨p, hp⟩ := stop_ex (r.drop k) ((m + 6) / 7)
    have hpM := hp.leM
    have hpR := hp.leR
    rw [List.length_drop] at hpR
    by_cases h1 : p = (m + 6) / 7
    · refine ⟨0, 0, 3, fun A cap B w h => ru_fail _ _ _ 3 w (.inr (.inr rfl)) ?_, fun A cap B w h => rr_right r A cap B k m p false 0 0 3 w h.lies h.low_ hb h.room h.most hk m1 m2 hp (.inl ⟨h1, rfl, rfl, rfl⟩)⟩
      have := length_right r A cap B k m p w h.lies hb h.room h.most hk m1 m2 hp
      unfold lenN lenE at this
      rwa [if_pos h1, if_pos h1] at this
    · by_cases h2 : p = r.length - k
      · refine ⟨0, 0, 2, fun A cap B w h => ru_fail _ _ _ 2 w (.inr (.inl rfl)) ?_, fun A cap B w h => rr_right r A cap B k m p false 0 0 2 w h.lies h.low_ hb h.room h.most hk m1 m2 hp (.inr (.inl ⟨by omega, by omega, rfl, rfl, rfl⟩))⟩
        have := length_right r A cap B k m p w h.lies hb h.room h.most hk m1 m2 hp
        unfold lenN lenE at this
        rwa [if_neg h1, if_neg h1, if_pos h2, if_pos h2] at this
      · obtain ⟨c, hpc⟩ : ∃ c, (r.drop k)[p]? = some c := ⟨_, List.getElem?_eq_getElem (by rw [List.length_drop]; omega)⟩
        obtain ⟨c0, c1⟩ := hb c (List.mem_of_mem_drop (List.mem_of_getElem? hpc))
        have hpM2 : p < (m + 6) / 7 := by omega
        have c2 := hp.off c hpM2 hpc
        obtain ⟨l0, l1⟩ := low_bd ((r.drop k).take p)
        obtain ⟨b0, b1⟩ := num_bd hpc c0 c2
        have hlen := take_len hpc
        rw [hlen] at l1
        have hov : numU ((r.drop k).take p) c / 2 ^ m = c / 2 ^ (m - 7 * p) := by unfold numU; rw [hlen]; exact over_more l0 l1 (by omega)
        have hext : ext false (numU ((r.drop k).take p) c) (7 * (p + 1)) = numU ((r.drop k).take p) c := by simp [ext]
        have hgf := good_fits (s := false) (n := m) (m := 7 * (p + 1)) (by omega) m1 b0 b1
        have hfit : Fits false (numU ((r.drop k).take p) c) m ↔ c / 2 ^ (m - 7 * p) = 0 := by unfold Fits; rw [if_neg (by simp), hov]
        rw [hext, hfit] at hgf
        have hlow := low_take hpc c0 c2
        by_cases hf : c / 2 ^ (m - 7 * p) = 0
        · refine ⟨numU ((r.drop k).take p) c, k + (p + 1), 0, fun A cap B w h => ru_ok r A cap B k m p c w h.lies hb h.room h.most hk m1 m2 hp hpM2 hpc hf, fun A cap B w h => ?_⟩
          refine rr_right r A cap B k m p false _ _ _ w h.lies h.low_ hb h.room h.most hk m1 m2 hp (.inr (.inr (.inr ⟨hpM2, by omega, ?_, ?_, rfl, rfl⟩)))
          · rw [hlow]; exact hgf.2 hf
          · rw [hlow, hext]
            have hbu := bdU (c := c) l0 l1 c0 (b := m) (by omega) hf
            have hm := mono2 m2
            have e : numU ((r.drop k).take p) c = low ((r.drop k).take p) + c * 2 ^ (7 * p) := by unfold numU; rw [hlen]
            rw [Int.emod_eq_of_lt b0 (by omega)]
        · refine ⟨0, 0, 3, fun A cap B w h => ru_far r A cap B k m p c w h.lies hb h.room h.most hk m1 m2 hp hpM2 hpc hf, fun A cap B w h => ?_⟩
          refine rr_right r A cap B k m p false _ _ _ w h.lies h.low_ hb h.room h.most hk m1 m2 hp (.inr (.inr (.inl ⟨hpM2, by omega, ?_, rfl, rfl, rfl⟩)))
          rw [hlow]; exact fun hg => hf (hgf.1 hg)

theorem both_s (r : List Int) (hb : ∀ c ∈ r, 0 ≤ c ∧ c ≤ 255) (at_ n : Int) : ∃ X Q E : Int, -9223372036854775808 ≤ X ∧ X ≤ 9223372036854775807 ∧
    (∀ A cap B w, Has w B A cap r → Calls Tryz.prog 172 #[.slice A r.length cap, .int .i64 at_, .int .i64 n] w fun x w' => x = .returned (.tuple #[.int .i64 X, .int .i64 Q, .int .i64 E]) ∧ w = w') ∧
    (∀ A cap B w, Has w B A cap r → Calls Tryz.prog 157 #[.slice A r.length cap, .int .i64 at_, .int .i64 n, .bool true] w fun x w' => x = .returned (.tuple #[.int .u64 (X % 2 ^ 64), .int .i64 Q, .int .i64 E]) ∧ Below w.heap.size w w') := by
  have z0 : (0 : Int) % 2 ^ 64 = 0 := rfl
  by_cases hw : n < 1 ∨ 64 < n ∨ at_ < 0 ∨ (r.length : Int) < at_
  · exact ⟨0, 0, 1, by omega, by omega, fun A cap B w h => ri_fail _ _ _ 1 w (.inl rfl) (length_wrong r A cap at_ n w hw), fun A cap B w h => rr_wrong r A cap at_ n true w hw⟩
  · obtain ⟨k, rfl⟩ : ∃ k : Nat, at_ = k := ⟨at_.toNat, by omega⟩
    obtain ⟨m, rfl⟩ : ∃ m : Nat, n = m := ⟨n.toNat, by omega⟩
    have hk : k ≤ r.length := by omega
    have m1 : 1 ≤ m := by omega
    have m2 : m ≤ 64 := by omega
    obtain ⟨p, hp⟩ := stop_ex (r.drop k) ((m + 6) / 7)
    have hpM := hp.leM
    have hpR := hp.leR
    rw [List.length_drop] at hpR
    by_cases h1 : p = (m + 6) / 7
    · refine ⟨0, 0, 3, by omega, by omega, fun A cap B w h => ri_fail _ _ _ 3 w (.inr (.inr rfl)) ?_, fun A cap B w h => rr_right r A cap B k m p true 0 0 3 w h.lies h.low_ hb h.room h.most hk m1 m2 hp (.inl ⟨h1, rfl, rfl, rfl⟩)⟩
      have := length_right r A cap B k m p w h.lies hb h.room h.most hk m1 m2 hp
      unfold lenN lenE at this
      rwa [if_pos h1, if_pos h1] at this
    · by_cases h2 : p = r.length - k
      · refine ⟨0, 0, 2, by omega, by omega, fun A cap B w h => ri_fail _ _ _ 2 w (.inr (.inl rfl)) ?_, fun A cap B w h => rr_right r A cap B k m p true 0 0 2 w h.lies h.low_ hb h.room h.most hk m1 m2 hp (.inr (.inl ⟨by omega, by omega, rfl, rfl, rfl⟩))⟩
        have := length_right r A cap B k m p w h.lies hb h.room h.most hk m1 m2 hp
        unfold lenN lenE at this
        rwa [if_neg h1, if_neg h1, if_pos h2, if_pos h2] at this
      · obtain ⟨c, hpc⟩ : ∃ c, (r.drop k)[p]? = some c := ⟨_, List.getElem?_eq_getElem (by rw [List.length_drop]; omega)⟩
        obtain ⟨c0, c1⟩ := hb c (List.mem_of_mem_drop (List.mem_of_getElem? hpc))
        have hpM2 : p < (m + 6) / 7 := by omega
        have c2 := hp.off c hpM2 hpc
        obtain ⟨l0, l1⟩ := low_bd ((r.drop k).take p)
        obtain ⟨b0, b1⟩ := num_bd hpc c0 c2
        have hlen := take_len hpc
        rw [hlen] at l1
        have hov : numS ((r.drop k).take p) c / 2 ^ (m - 1) = sg c / 2 ^ (m - 7 * p - 1) := by
          unfold numS; rw [hlen, show m - 7 * p - 1 = m - 1 - 7 * p by omega]; exact over_more l0 l1 (by omega)
        have hext := ext_signed hpc c0 c2
        have hgf := good_fits (s := true) (n := m) (m := 7 * (p + 1)) (by omega) m1 b0 b1
        have hfit : Fits true (numS ((r.drop k).take p) c) m ↔ (sg c / 2 ^ (m - 7 * p - 1) = 0 ∨ sg c / 2 ^ (m - 7 * p - 1) = -1) := by unfold Fits; rw [if_pos rfl, hov]
        rw [hext, hfit] at hgf
        have hlow := low_take hpc c0 c2
        by_cases hf : sg c / 2 ^ (m - 7 * p - 1) = 0 ∨ sg c / 2 ^ (m - 7 * p - 1) = -1
        · have hbu := bdS (c := sg c) l0 l1 (b := m - 1) (by omega) (by rw [show m - 1 - 7 * p = m - 7 * p - 1 by omega]; exact hf)
          have hm := mono2 (a := m - 1) (b := 63) (by omega)
          have e63 : (2 : Int) ^ 63 = 9223372036854775808 := rfl
          have e : numS ((r.drop k).take p) c = low ((r.drop k).take p) + sg c * 2 ^ (7 * p) := by unfold numS; rw [hlen]
          refine ⟨numS ((r.drop k).take p) c, k + (p + 1), 0, by omega, by omega, fun A cap B w h => ri_ok r A cap B k m p c w h.lies hb h.room h.most hk m1 m2 hp hpM2 hpc hf, fun A cap B w h => ?_⟩
          refine rr_right r A cap B k m p true _ _ _ w h.lies h.low_ hb h.room h.most hk m1 m2 hp (.inr (.inr (.inr ⟨hpM2, by omega, ?_, ?_, rfl, rfl⟩)))
          · rw [hlow]; exact hgf.2 hf
          · rw [hlow, hext]
        · refine ⟨0, 0, 3, by omega, by omega, fun A cap B w h => ri_far r A cap B k m p c w h.lies hb h.room h.most hk m1 m2 hp hpM2 hpc hf, fun A cap B w h => ?_⟩
          refine rr_right r A cap B k m p true _ _ _ w h.lies h.low_ hb h.room h.most hk m1 m2 hp (.inr (.inr (.inl ⟨hpM2, by omega, ?_, rfl, rfl, rfl⟩)))
          rw [hlow]; exact fun hg => hf (hgf.1 hg)
end Go.Proofs.YtebgmfjgapmpfaaGreatDoor

/- The law LebReads. -/
namespace Go.Proofs.YtebgmfjgapmpfaaGreatDoor
open Go.RowKit
set_option linter.unusedVariables false

theorem Has.below {w w' : World} {B : Nat} {A : Option Addr} {cap : Nat} {r : List Int} (h : Has w B A cap r) (hb : Below w.heap.size w w') : Has w' B A cap r :=
  ⟨h.lies.below hb h.low_, Nat.le_trans h.low_ hb.size, h.room, h.most⟩
theorem back_s {V : Int} (h0 : -9223372036854775808 ≤ V) (h1 : V ≤ 9223372036854775807) : IntKind.i64.wrap (V % 2 ^ 64) = V := by
  have e : (2 : Int) ^ 64 = 18446744073709551616 := rfl
  rw [IntKind.wrap_i64, e]
  omega

end Go.Proofs.YtebgmfjgapmpfaaGreatDoor

/- What is written is read again: behind it, longer by a group, without its last byte. -/
namespace Go.Proofs.YtebgmfjgapmpfaaGreatDoor
open Go.RowKit
set_option linter.unusedVariables false

theorem p128_2 (k : Nat) : (128 : Int) ^ k = 2 ^ (7 * k) := (pow7 k).symm
theorem mod_step (x : Int) (k : Nat) : x % 2 ^ (7 * (k + 1)) = x % 2 ^ (7 * k) + x / 2 ^ (7 * k) % 128 * 2 ^ (7 * k) := by
  have hp := p2 (7 * k)
  have e4 : (2 : Int) ^ (7 * (k + 1)) = 128 * 2 ^ (7 * k) := by rw [show 7 * (k + 1) = 7 * k + 7 by omega, Int.pow_add, Int.mul_comm]; rfl
  have e3 : x / 2 ^ (7 * (k + 1)) = x / 2 ^ (7 * k) / 128 := by rw [show 7 * (k + 1) = 7 * k + 7 by omega, ← div_pow]; rfl
  have e1 := Int.emod_def x (2 ^ (7 * k))
  have e2 := Int.emod_def x (2 ^ (7 * (k + 1)))
  rw [e3, e4] at e2
  rw [e4, e2, e1]
  have h2 : x / 2 ^ (7 * k) = 128 * (x / 2 ^ (7 * k) / 128) + x / 2 ^ (7 * k) % 128 := by omega
  generalize x / 2 ^ (7 * k) / 128 = q at *
  generalize x / 2 ^ (7 * k) % 128 = m at *
  rw [h2]
  grind
theorem low_grps (x : Int) : ∀ k, low (grps x k) = x % 2 ^ (7 * k)
  | 0 => by simp [grps, low]
  | k + 1 => by
    rw [grps_snoc, low_snoc, low_grps x k, grps_length, mod_step, p128_2]
    congr 2
    omega
theorem grps_wf (x : Int) (k : Nat) : ∀ c ∈ grps x k, 0 ≤ c ∧ c ≤ 255 := by
  intro c hc
  obtain ⟨i, _, rfl⟩ := List.mem_map.1 hc
  omega
theorem grps_on (x : Int) (k : Nat) : ∀ c ∈ grps x k, 128 ≤ c := by
  intro c hc
  obtain ⟨i, _, rfl⟩ := List.mem_map.1 hc
  omega
theorem grps_at (x : Int) (p : Nat) (c : Int) (l : List Int) : (grps x p ++ c :: l)[p]? = some c := by
  have h : (grps x p).length = p := grps_length x p
  rw [List.getElem?_append_right (by omega), h]; simp
theorem grps_take (x : Int) (p : Nat) (c : Int) (l : List Int) : (grps x p ++ c :: l).take p = grps x p := by
  have h : (grps x p).length = p := grps_length x p
  rw [List.take_append_of_le_length (by omega), List.take_of_length_le (by omega)]
theorem grps_stop (x : Int) (p M : Nat) (c : Int) (l : List Int) (hc : c < 128) (hM : p ≤ M) : Stop M (grps x p ++ c :: l) p := by
  have h : (grps x p).length = p := grps_length x p
  refine ⟨hM, by simp; omega, fun i d hi hd => ?_, fun d _ hd => ?_⟩
  · rw [List.getElem?_append_left (by omega)] at hd
    exact grps_on x p d (List.mem_of_getElem? hd)
  · rw [grps_at] at hd; injection hd with hd; omega
theorem grps_short (x : Int) (p M : Nat) (hM : p ≤ M) : Stop M (grps x p) p := by
  have h : (grps x p).length = p := grps_length x p
  refine ⟨hM, by omega, fun i d hi hd => grps_on x p d (List.mem_of_getElem? hd), fun d _ hd => ?_⟩
  rw [List.getElem?_eq_none (by omega)] at hd; cases hd

theorem rdU (x c : Int) (p n : Nat) (l : List Int) (A : Option Addr) (cap B len : Nat) (w : World) (hlen : (grps x p ++ c :: l).length = len) (hh : Has w B A cap (grps x p ++ c :: l)) (hwf : ∀ d ∈ l, 0 ≤ d ∧ d ≤ 255)
    (hx : x % 2 ^ (7 * p) + c * 2 ^ (7 * p) = x) (c0 : 0 ≤ c) (c1 : c < 128) (hf : c / 2 ^ (n - 7 * p) = 0) (n1 : 1 ≤ n) (n2 : n ≤ 64) (hp : p < (n + 6) / 7) :
    Calls Tryz.prog 166 #[.slice A len cap, .int .i64 0, .int .i64 n] w fun e w' => e = .returned (.tuple #[.int .u64 x, .int .i64 ((p : Int) + 1), .int .i64 0]) ∧ w = w' := by
  subst hlen
  have hb : ∀ d ∈ grps x p ++ c :: l, 0 ≤ d ∧ d ≤ 255 := fun d hd => by
    rcases List.mem_append.1 hd with h | h
    · exact grps_wf x p d h
    · rcases List.mem_cons.1 h with rfl | h
      · omega
      · exact hwf d h
  have h := ru_ok (grps x p ++ c :: l) A cap B 0 n p c w hh.lies hb hh.room hh.most (Nat.zero_le _) n1 n2 (by rw [List.drop_zero]; exact grps_stop x p _ c l c1 (by omega)) hp (by rw [List.drop_zero]; exact grps_at x p c l) hf
  rw [List.drop_zero, grps_take] at h
  have e : numU (grps x p) c = x := by unfold numU; rw [low_grps, grps_length]; exact hx
  rw [e] at h
  refine h.mono fun e' w' he => ⟨?_, he.2⟩
  rw [he.1]; simp
theorem rdS (x c : Int) (p n : Nat) (l : List Int) (A : Option Addr) (cap B len : Nat) (w : World) (hlen : (grps x p ++ c :: l).length = len) (hh : Has w B A cap (grps x p ++ c :: l)) (hwf : ∀ d ∈ l, 0 ≤ d ∧ d ≤ 255)
    (hx : x % 2 ^ (7 * p) + sg c * 2 ^ (7 * p) = x) (c0 : 0 ≤ c) (c1 : c < 128) (hf : sg c / 2 ^ (n - 7 * p - 1) = 0 ∨ sg c / 2 ^ (n - 7 * p - 1) = -1) (n1 : 1 ≤ n) (n2 : n ≤ 64) (hp : p < (n + 6) / 7) :
    Calls Tryz.prog 172 #[.slice A len cap, .int .i64 0, .int .i64 n] w fun e w' => e = .returned (.tuple #[.int .i64 x, .int .i64 ((p : Int) + 1), .int .i64 0]) ∧ w = w' := by
  subst hlen
  have hb : ∀ d ∈ grps x p ++ c :: l, 0 ≤ d ∧ d ≤ 255 := fun d hd => by
    rcases List.mem_append.1 hd with h | h
    · exact grps_wf x p d h
    · rcases List.mem_cons.1 h with rfl | h
      · omega
      · exact hwf d h
  have h := ri_ok (grps x p ++ c :: l) A cap B 0 n p c w hh.lies hb hh.room hh.most (Nat.zero_le _) n1 n2 (by rw [List.drop_zero]; exact grps_stop x p _ c l c1 (by omega)) hp (by rw [List.drop_zero]; exact grps_at x p c l) hf
  rw [List.drop_zero, grps_take] at h
  have e : numS (grps x p) c = x := by unfold numS; rw [low_grps, grps_length]; exact hx
  rw [e] at h
  refine h.mono fun e' w' he => ⟨?_, he.2⟩
  rw [he.1]; simp
theorem rdShort (x : Int) (p n : Nat) (A : Option Addr) (cap B : Nat) (w : World) (hh : Has w B A cap (grps x p)) (n1 : 1 ≤ n) (n2 : n ≤ 64) (hp : p < (n + 6) / 7) :
    Calls Tryz.prog 166 #[.slice A p cap, .int .i64 0, .int .i64 n] w fun e w' => e = .returned (.tuple #[.int .u64 0, .int .i64 0, .int .i64 2]) ∧ w = w' := by
  have hl := grps_length x p
  have h := length_right (grps x p) A cap B 0 n p w hh.lies (grps_wf x p) hh.room hh.most (Nat.zero_le _) n1 n2 (by rw [List.drop_zero]; exact grps_short x p _ (by omega))
  unfold lenN lenE at h
  have hne : ¬ p = (n + 6) / 7 := by omega
  rw [hl] at h
  simp [hne] at h
  exact ru_fail _ _ _ 2 w (.inr (.inl rfl)) h

/-- A number below 2^n and its least groups. -/
theorem least_u {x : Int} {n na : Nat} (h0 : 0 ≤ x) (h1 : x < 2 ^ n) (n1 : 1 ≤ n) (n2 : n ≤ 64) (hn : Least (fitU x) na) :
    ∃ p c, na = p + 1 ∧ grp x na = grps x p ++ [c] ∧ x % 2 ^ (7 * p) + c * 2 ^ (7 * p) = x ∧ 0 ≤ c ∧ c < 128 ∧ c / 2 ^ (n - 7 * p) = 0 ∧ p < (n + 6) / 7 := by
  have hle : na ≤ (n + 6) / 7 := by
    refine hn.le (by omega) ?_
    show x / 128 ^ ((n + 6) / 7 - 1) < 128
    have hM : 1 ≤ (n + 6) / 7 := by omega
    have hM2 : n ≤ 7 * ((n + 6) / 7) := by omega
    generalize (n + 6) / 7 = M at *
    have e : (128 : Int) * 128 ^ (M - 1) = 2 ^ (7 * M) := by rw [p128_2, show 7 * M = 7 * (M - 1) + 7 by omega, Int.pow_add, Int.mul_comm]; rfl
    rw [Int.ediv_lt_iff_lt_mul (p128 _), e]
    have := mono2 hM2
    omega
  have h1' := hn.1
  obtain ⟨p, rfl⟩ : ∃ p, na = p + 1 := ⟨na - 1, by omega⟩
  have hf : x / 128 ^ p < 128 := hn.2.1
  have hq : 0 ≤ x / 128 ^ p := Int.ediv_nonneg h0 (Int.le_of_lt (p128 _))
  have hc : x / 128 ^ p % 128 = x / 128 ^ p := Int.emod_eq_of_lt hq hf
  refine ⟨p, x / 128 ^ p, rfl, by rw [grp_snoc, hc], ?_, hq, hf, ?_, by omega⟩
  · rw [p128_2, Int.mul_comm]; exact Int.emod_add_mul_ediv x _
  · rw [p128_2, div_pow, show 7 * p + (n - 7 * p) = n by omega]; exact Int.ediv_eq_zero_of_lt h0 h1
theorem least_s {x : Int} {n na : Nat} (h0 : -2 ^ (n - 1) ≤ x) (h1 : x < 2 ^ (n - 1)) (n1 : 1 ≤ n) (n2 : n ≤ 64) (hn : Least (fitS x) na) :
    ∃ p c, na = p + 1 ∧ grp x na = grps x p ++ [c] ∧ x % 2 ^ (7 * p) + sg c * 2 ^ (7 * p) = x ∧ 0 ≤ c ∧ c < 128 ∧ (sg c / 2 ^ (n - 7 * p - 1) = 0 ∨ sg c / 2 ^ (n - 7 * p - 1) = -1) ∧ p < (n + 6) / 7 := by
  have hle : na ≤ (n + 6) / 7 := by
    refine hn.le (by omega) ?_
    have e : (64 : Int) * 128 ^ ((n + 6) / 7 - 1) = 2 ^ (7 * ((n + 6) / 7 - 1) + 6) := by rw [p128_2, Int.pow_add, Int.mul_comm]; rfl
    have := mono2 (a := n - 1) (b := 7 * ((n + 6) / 7 - 1) + 6) (by omega)
    refine ⟨(Int.le_ediv_iff_mul_le (p128 _)).2 ?_, (Int.ediv_lt_iff_lt_mul (p128 _)).2 ?_⟩
    · rw [Int.neg_mul, e]; omega
    · rw [e]; omega
  have h1' := hn.1
  obtain ⟨p, rfl⟩ : ∃ p, na = p + 1 := ⟨na - 1, by omega⟩
  obtain ⟨f0, f1⟩ : -64 ≤ x / 128 ^ p ∧ x / 128 ^ p < 64 := hn.2.1
  have hs : sg (x / 128 ^ p % 128) = x / 128 ^ p := by unfold sg; split <;> omega
  refine ⟨p, x / 128 ^ p % 128, rfl, by rw [grp_snoc], ?_, by omega, by omega, ?_, by omega⟩
  · rw [hs, p128_2, Int.mul_comm]; exact Int.emod_add_mul_ediv x _
  · rw [hs, p128_2, div_pow, show 7 * p + (n - 7 * p - 1) = n - 1 by omega]
    obtain ⟨b0, b1⟩ := div_bounds (x := x) (a := n - 1) (b := n - 1) (Nat.le_refl _) h0 h1
    simp at b0 b1
    omega

theorem Lies.cell_add {w : World} {B : Nat} {ad : Addr} {vs : List Value} (h : Lies w B (some ad) vs) : ∀ j u, vs[j]? = some u → w.cell? (ad.add j) = some u := fun j u hu => by
  obtain ⟨b, off, e, _, h2⟩ := h j u hu
  injection e with e
  subst e
  rw [Go.WideShapes.add_plain]; exact h2
/-- append of whatever lies somewhere, nil too. -/
theorem wpList_append_lies {P : Program} {w : World} {ops : Array Oper} {rest : List Oper} {o : Oper} {a : Act} {Q : Exit → Act → World → Prop} (hgd : o.guard = none) (s x : Operand) (t : TypeId)
    (ho : o.op = .call { callee := .builtin .append, args := #[s, x], argTypes := #[t, t] })
    (base : Nat) (e : TypeId) (i : TypeInfo) (z : Value) (ht : P.underlying t = some (.slice e)) (hi : P.info? e = some i) (hz : i.zero = some z)
    (hsize : i.size = 1) (hby : i.bytes = 1) (hzs : z.cells.size = 1)
    (v : Value) (n : Nat) (xs : List Value) (hs : a.eval s = v) (hown : w.ownsRow base e 1 v n xs)
    (A : Option Addr) (m c B : Nat) (news : List Value) (hx : a.eval x = .slice A m c) (hl : news.length = m) (hnews : Lies w B A news) (hA : A = none → m = 0 ∧ c = 0) (h1 : ∀ u ∈ news, u.oneCell' = true)
    (h63 : n + m ≤ 1000) (hbase : base ≤ w.heap.size)
    (h : ∀ v' w', w'.ownsRow base e 1 v' (n + m) (xs ++ news) → w.grownBy w' v.ownBlock → wpList P ops Q rest (a.put o.dst v') w') : wpList P ops Q (o :: rest) a w := by
  rcases A with _ | ad
  · obtain ⟨rfl, rfl⟩ := hA rfl
    have hn : news = [] := List.eq_nil_of_length_eq_zero hl
    subst hn
    refine wpList_append_own_none hgd s x t ho base e i 1 ht hi v n xs hs hown hx (h v w (by simpa using hown) (World.grownBy.refl w _))
  · exact wpList_append_own w hgd s x t ho base e i z 1 1 ht hi hz hsize hby hzs (by omega) v n xs hs hown ad m c news hx (by omega) hnews.cell_add h1 (by unfold maxLen; omega) (by omega) hbase (fun v' w' h2 h3 _ => h v' w' h2 h3)
end Go.Proofs.YtebgmfjgapmpfaaGreatDoor
