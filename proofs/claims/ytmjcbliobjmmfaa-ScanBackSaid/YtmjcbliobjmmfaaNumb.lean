/- leb.ReadUint of any bytes; number, Uint, Index. -/
import Derived.Test.YtmjcbliobjmmfaaByte
namespace Go.Proofs.Ytmjcbliobjmmfaa
open Go.RowKit
set_option linter.unusedVariables false

/-- How many bytes of a varint of n bits go on. -/
noncomputable def onN (l : List UInt8) (k n : Nat) : Nat := (stop_ex ((nums l).drop k) ((n + 6) / 7)).choose
theorem onN_stop (l : List UInt8) (k n : Nat) : Stop ((n + 6) / 7) ((nums l).drop k) (onN l k n) := (stop_ex ((nums l).drop k) ((n + 6) / 7)).choose_spec
/-- A number of n bits. -/
noncomputable def uintR (l : List UInt8) (k n : Nat) : Res Int :=
  if 1 ≤ n ∧ n ≤ 64 then
    if onN l k n = (n + 6) / 7 then .err 3 k else
      match ((nums l).drop k)[onN l k n]? with
      | none => .err 2 k
      | some c => if c / 2 ^ (n - 7 * onN l k n) = 0 then .ok (numU (((nums l).drop k).take (onN l k n)) c) (k + (onN l k n + 1)) else .err 3 k
  else .err 1 k
theorem uintR_err {l : List UInt8} {k n : Nat} {c a : Int} (h : uintR l k n = .err c a) : a = k ∧ (c = 1 ∨ c = 2 ∨ c = 3) := by
  unfold uintR at h
  repeat' split at h
  all_goals first | (injection h with h1 h2; subst h1; subst h2; exact ⟨rfl, by omega⟩) | cases h
theorem nums_wf (l : List UInt8) : ∀ c ∈ nums l, 0 ≤ c ∧ c ≤ 255 := by
  intro c hc
  obtain ⟨b, _, rfl⟩ := List.mem_map.1 hc
  have := b.toNat_lt
  omega
theorem uintR_ok {l : List UInt8} {k n : Nat} {v : Int} {k' : Nat} (h : uintR l k n = .ok v k') : k' ≤ l.length ∧ 0 ≤ v ∧ v < 2 ^ n := by
  have hp := onN_stop l k n
  unfold uintR at h
  by_cases h64 : 1 ≤ n ∧ n ≤ 64
  · rw [if_pos h64] at h
    by_cases h1 : onN l k n = (n + 6) / 7
    · rw [if_pos h1] at h; cases h
    · rw [if_neg h1] at h
      cases hpc : ((nums l).drop k)[onN l k n]? with
      | none => rw [hpc] at h; cases h
      | some c =>
        rw [hpc] at h
        by_cases hf : c / 2 ^ (n - 7 * onN l k n) = 0
        · simp only [if_pos hf] at h
          injection h with e1 e2
          subst e1; subst e2
          have hlen := (List.getElem?_eq_some_iff.1 hpc).1
          rw [List.length_drop, nums_length] at hlen
          have hl : (((nums l).drop k).take (onN l k n)).length = onN l k n := by rw [List.length_take, List.length_drop, nums_length]; omega
          obtain ⟨l0, l1⟩ := low_bd (((nums l).drop k).take (onN l k n))
          rw [hl] at l1
          have hM := hp.leM
          have c0 := (nums_wf l c (List.mem_of_mem_drop (List.mem_of_getElem? hpc))).1
          have := bdU l0 l1 c0 (b := n) (by omega) hf
          unfold numU
          rw [hl]
          exact ⟨by omega, this.1, this.2⟩
        · simp only [if_neg hf] at h; cases h
  · rw [if_neg h64] at h; cases h
/-- What leb.ReadUint hands back. -/
def readT : Res Int → Value
  | .ok v k => .tuple #[.int .u64 v, .int .i64 k, .int .i64 0]
  | .err c _ => .tuple #[.int .u64 0, .int .i64 0, .int .i64 c]
theorem readU_any {w : World} {B : Nat} {A : Option Addr} {cap : Nat} {l : List UInt8} (hl : Lies w B A (cells (nums l))) (hc : l.length ≤ cap) (hm : cap ≤ maxLen) (k n : Nat) (hk : k ≤ l.length) :
    Calls Try.prog 48 #[.slice A l.length cap, .int .i64 k, .int .i64 n] w fun x w' => x = .returned (readT (uintR l k n)) ∧ w = w' := by
  have hlen := nums_length l
  have hb := nums_wf l
  have hp := onN_stop l k n
  have hpM := hp.leM
  have hpR := hp.leR
  rw [List.length_drop, hlen] at hpR
  rw [← hlen] at hc hk ⊢
  unfold uintR
  by_cases h64 : 1 ≤ n ∧ n ≤ 64
  · rw [if_pos h64]
    obtain ⟨n1, n2⟩ := h64
    by_cases h1 : onN l k n = (n + 6) / 7
    · rw [if_pos h1]
      refine ru_fail _ _ _ 3 w (.inr (.inr rfl)) ?_
      have := length_right (nums l) A cap B k n _ w hl hb hc hm hk n1 n2 hp
      unfold lenN lenE at this
      rwa [if_pos h1, if_pos h1] at this
    · rw [if_neg h1]
      by_cases h2 : onN l k n = (nums l).length - k
      · have e : ((nums l).drop k)[onN l k n]? = none := List.getElem?_eq_none (by rw [List.length_drop]; omega)
        rw [e]
        refine ru_fail _ _ _ 2 w (.inr (.inl rfl)) ?_
        have := length_right (nums l) A cap B k n _ w hl hb hc hm hk n1 n2 hp
        unfold lenN lenE at this
        rwa [if_neg h1, if_neg h1, if_pos h2, if_pos h2] at this
      · obtain ⟨c, hpc⟩ : ∃ c, ((nums l).drop k)[onN l k n]? = some c := ⟨_, List.getElem?_eq_getElem (by rw [List.length_drop]; omega)⟩
        rw [hpc]
        by_cases hf : c / 2 ^ (n - 7 * onN l k n) = 0
        · simp only [if_pos hf]
          exact ru_ok (nums l) A cap B k n _ c w hl hb hc hm hk n1 n2 hp (by omega) hpc hf
        · simp only [if_neg hf]
          exact ru_far (nums l) A cap B k n _ c w hl hb hc hm hk n1 n2 hp (by omega) hpc hf
  · rw [if_neg h64]
    exact ru_fail _ _ _ 1 w (.inl rfl) (length_wrong (nums l) A cap _ _ w (by omega))
abbrev enc64 (v : Int) : Value := .int .u64 v
set_option maxHeartbeats 800000 in
theorem number_scan {w : World} {p : Nat} {l : List UInt8} {k : Nat} (h : Sc w p l k) (n : Nat) :
    Calls Try.prog 47 #[.pointer (some ⟨p, 0, none⟩), .int .i64 n, .func (.func 48) #[] #[]] w (Did enc64 p l w (uintR l k n)) := by
  have c1 := h.at
  obtain ⟨A, cap, c0, hl, hc, hm⟩ := h.data
  have hU : ∀ m, _ := fun m => readU_any (w := w.drewN m) hl hc hm k n h.le.1
  cases hr : uintR l k n with
  | ok v k' =>
    simp only [hr, readT] at hU
    have HU := Lib.hid hU
    have HS := Lib.hid h
    have f1 := h.free
    have HK := Lib.hid (uintR_ok hr).1
    clear hU hr hl h
    go_enter Try.func47, Try.ntmps47
    go_wp2
    go_quiet (first
      | (go_at_call 48; exact (HU.out _).mono fun _ _ h => ⟨h.1, _, h.2.symm⟩))
    go_wp2_with (go_at_call 33; go_must ((with_reducible refine (unlessT _ _ _).mono ?_); rintro e w' ⟨rfl, rfl⟩))
    go_ret
    exact ⟨rfl, HS.out.moved nq k' k' rfl HK.out⟩
  | err c a =>
    simp only [hr, readT] at hU
    have HU := Lib.hid hU
    obtain ⟨rfl, hcs⟩ := uintR_err hr
    have e2 : (c == 0) = false := by simp; omega
    clear hU hr hl h hcs
    go_enter Try.func47, Try.ntmps47
    go_wp2
    go_quiet (first
      | (go_at_call 48; exact (HU.out _).mono fun _ _ h => ⟨h.1, _, h.2.symm⟩))
    go_wp2_with (go_at_call 33; go_must ((with_reducible refine (unlessF _ _ _).mono ?_); rintro e w' ⟨rfl, rfl⟩))
    exact ⟨rfl, rfl, gb_drewN (gb_refl _ _) _⟩
/-- Scanner.Uint. -/
theorem uint_scan {w : World} {p : Nat} {l : List UInt8} {k : Nat} (h : Sc w p l k) (n : Nat) :
    Calls Try.prog 42 #[.pointer (some ⟨p, 0, none⟩), .int .i64 n] w (Did enc64 p l w (uintR l k n)) := by
  have hN := number_scan h n
  cases hr : uintR l k n with
  | ok v k' =>
    rw [hr] at hN
    have HN := Lib.hid hN
    clear hN hr h
    go_enter Try.func42, Try.ntmps42
    go_wp2_with (go_at_call 47; go_must ((with_reducible refine HN.out.mono ?_); rintro e w1 ⟨rfl, hs, hg⟩; have HS := Lib.hid hs; have HG := Lib.hid hg; clear hs hg))
    go_ret
    exact ⟨rfl, HS.out, HG.out⟩
  | err c a =>
    rw [hr] at hN
    have HN := Lib.hid hN
    clear hN hr h
    go_enter Try.func42, Try.ntmps42
    go_wp2_with (go_at_call 47; go_must ((with_reducible refine HN.out.mono ?_); rintro e w1 ⟨rfl, hg⟩; have HG := Lib.hid hg; clear hg))
    exact ⟨rfl, rfl, HG.out⟩
/-- A number of 32 bits. -/
noncomputable def indexR (l : List UInt8) (k : Nat) : Res Int := uintR l k 32
abbrev enc32 (v : Int) : Value := .int .u32 v
theorem index_scan {w : World} {p : Nat} {l : List UInt8} {k : Nat} (h : Sc w p l k) :
    Calls Try.prog 35 #[.pointer (some ⟨p, 0, none⟩)] w (Did enc32 p l w (indexR l k)) := by
  have hN : Calls Try.prog 42 #[.pointer (some ⟨p, 0, none⟩), .int .i64 32] w (Did enc64 p l w (uintR l k 32)) := uint_scan h 32
  unfold indexR
  cases hr : uintR l k 32 with
  | ok v k' =>
    rw [hr] at hN
    have HN := Lib.hid hN
    obtain ⟨hk, v0, v1⟩ := uintR_ok hr
    have v2 : v < 4294967296 := v1
    have hw : IntKind.u32.wrap v = v := by simp [IntKind.wrap, IntKind.bits, IntKind.signed]; omega
    clear hN hr h v1
    go_enter Try.func35, Try.ntmps35
    go_wp2_with (go_at_call 42; go_must ((with_reducible refine HN.out.mono ?_); rintro e w1 ⟨rfl, hs, hg⟩; have HS := Lib.hid hs; have HG := Lib.hid hg; clear hs hg))
    go_ret
    exact ⟨rfl, HS.out, HG.out⟩
  | err c a =>
    rw [hr] at hN
    have HN := Lib.hid hN
    clear hN hr h
    go_enter Try.func35, Try.ntmps35
    go_wp2_with (go_at_call 42; go_must ((with_reducible refine HN.out.mono ?_); rintro e w1 ⟨rfl, hg⟩; have HG := Lib.hid hg; clear hg))
    exact ⟨rfl, rfl, HG.out⟩
end Go.Proofs.Ytmjcbliobjmmfaa

