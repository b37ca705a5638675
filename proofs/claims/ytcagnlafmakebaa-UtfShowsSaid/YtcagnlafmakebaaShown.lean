/- utf.shown: one code at the front of a text. -/
import Derived.Test.YtcagnlafmakebaaBytes
import Derived.Test.YtcagnlafmakebaaPlain
import Derived.Test.YtcagnlafmakebaaShelf
import Derived.Deep.QuietTactic
import Derived.BigQuiet
namespace Go.Proofs.Ytcagnlafmakebaa
open Go.RowKit

def digitsS : ByteArray := { data := #[48, 49, 50, 51, 52, 53, 54, 55, 56, 57, 97, 98, 99, 100, 101, 102] }
def dig (c : UInt8) : Int := Lib.indexByte digitsS.data.toList c
theorem dig_all : ∀ c : Fin 256, (dig (UInt8.ofNat c.val) = -1 ∧ ∀ n : Fin 16, hexB n.val ≠ UInt8.ofNat c.val) ∨ (0 ≤ dig (UInt8.ofNat c.val) ∧ dig (UInt8.ofNat c.val) < 16 ∧ hexB (dig (UInt8.ofNat c.val)).toNat = UInt8.ofNat c.val) := by decide +kernel
theorem dig_cases (c : UInt8) : (dig c = -1 ∧ ∀ n, n < 16 → hexB n ≠ c) ∨ (0 ≤ dig c ∧ dig c < 16 ∧ hexB (dig c).toNat = c) := by
  have h := dig_all ⟨c.toNat, c.toNat_lt⟩
  have e : UInt8.ofNat c.toNat = c := by simp
  simp only [e] at h
  rcases h with ⟨h1, h2⟩ | h
  · exact .inl ⟨h1, fun n hn => h2 ⟨n, hn⟩⟩
  · exact .inr h
theorem head_code {a b : UInt8} {r t : List UInt8} (h : b :: t = code a ++ r) : (plainB a = true ∧ b = a ∧ t = r) ∨ (plainB a = false ∧ b = 92 ∧ t = [hexB (a.toNat / 16), hexB (a.toNat % 16)] ++ r) := by
  unfold code at h
  by_cases hp : plainB a = true
  · rw [if_pos hp] at h
    simp only [List.cons_append, List.nil_append, List.cons.injEq] at h
    exact .inl ⟨hp, h.1, h.2⟩
  · rw [if_neg hp] at h
    simp only [List.cons_append, List.nil_append, List.cons.injEq] at h
    exact .inr ⟨by simpa using hp, h.1, by simpa using h.2⟩
theorem shown_plain {b : UInt8} {t : List UInt8} (h : plainB b = true) : Shown (b :: t) (b.toNat : Int) 1 := .inr ⟨b, t, rfl, by unfold code; rw [if_pos h]; rfl, by unfold code; rw [if_pos h]; rfl⟩
theorem shown_other {b : UInt8} {t : List UInt8} (h : plainB b = false) (h2 : b ≠ 92) : Shown (b :: t) 0 0 := .inl ⟨rfl, fun a r e => by
  rcases head_code e with ⟨h3, h4, _⟩ | ⟨_, h4, _⟩
  · subst h4; rw [h] at h3; cases h3
  · exact h2 h4⟩
theorem shown_short {b : UInt8} {t : List UInt8} (h : plainB b = false) (h2 : (b :: t).length < 3) : Shown (b :: t) 0 0 := .inl ⟨rfl, fun a r e => by
  rcases head_code e with ⟨h3, h4, _⟩ | ⟨_, _, h4⟩
  · subst h4; rw [h] at h3; cases h3
  · rw [h4] at h2; simp at h2; omega⟩
theorem shown_nodigit {b b1 b2 : UInt8} {t : List UInt8} (h : plainB b = false) (h2 : dig b1 < 0 ∨ dig b2 < 0) : Shown (b :: b1 :: b2 :: t) 0 0 := .inl ⟨rfl, fun a r e => by
  have la := a.toNat_lt
  rcases head_code e with ⟨h3, h4, _⟩ | ⟨_, _, h4⟩
  · subst h4; rw [h] at h3; cases h3
  · simp only [List.cons_append, List.nil_append, List.cons.injEq] at h4
    obtain ⟨rfl, rfl, _⟩ := h4
    rcases h2 with h2 | h2
    · rcases dig_cases (hexB (a.toNat / 16)) with ⟨_, h5⟩ | ⟨h5, _⟩
      · exact h5 _ (by omega) rfl
      · omega
    · rcases dig_cases (hexB (a.toNat % 16)) with ⟨_, h5⟩ | ⟨h5, _⟩
      · exact h5 _ (by omega) rfl
      · omega⟩
theorem dig_hexB (n : Nat) (h : n < 16) : dig (hexB n) = n := by
  rcases dig_cases (hexB n) with ⟨_, h5⟩ | ⟨h5, h6, h7⟩
  · exact absurd rfl (h5 n h)
  · have := hexB_eq (by omega) h h7
    omega
theorem shown_copied {b b1 b2 : UInt8} {t : List UInt8} {a : UInt8} (h : plainB b = false) (ha : (a.toNat : Int) = dig b1 * 16 + dig b2) (hp : plainB a = true) : Shown (b :: b1 :: b2 :: t) 0 0 := .inl ⟨rfl, fun a' r e => by
  have la := a'.toNat_lt
  rcases head_code e with ⟨h3, h4, _⟩ | ⟨h3, _, h4⟩
  · subst h4; rw [h] at h3; cases h3
  · simp only [List.cons_append, List.nil_append, List.cons.injEq] at h4
    obtain ⟨rfl, rfl, _⟩ := h4
    rw [dig_hexB _ (by omega), dig_hexB _ (by omega)] at ha
    have : a = a' := u8_ext (by omega)
    subst this
    rw [hp] at h3; cases h3⟩
theorem shown_code {b1 b2 : UInt8} {t : List UInt8} {a : UInt8} (h1 : 0 ≤ dig b1) (h2 : 0 ≤ dig b2) (ha : (a.toNat : Int) = dig b1 * 16 + dig b2) (hp : plainB a = false) : Shown (92 :: b1 :: b2 :: t) (a.toNat : Int) 3 := .inr ⟨a, t, rfl, by unfold code; rw [if_neg (by rw [hp]; simp)]; rfl, by
  unfold code
  rw [if_neg (by rw [hp]; simp)]
  rcases dig_cases b1 with ⟨_, _⟩ | ⟨_, h5, h6⟩
  · omega
  rcases dig_cases b2 with ⟨_, _⟩ | ⟨_, h7, h8⟩
  · omega
  rw [show a.toNat / 16 = (dig b1).toNat by omega, show a.toNat % 16 = (dig b2).toNat by omega, h6, h8]
  rfl⟩

def ShownOut (l : List UInt8) (w : World) (e : Ending) (w' : World) : Prop := ∃ c n, e = .returned (.tuple #[.int .u8 c, .int .i64 n]) ∧ Shown l c n ∧ ∃ q, w' = w.drewN q
theorem orf : ∀ a : Fin 16, ∀ b : Fin 16, bits .or .i64 ((a.val : Nat) * 16 : Int) ((b.val : Nat) : Int) = ((a.val * 16 + b.val : Nat) : Int) := by decide
theorem or16 (a b : Int) (h0 : 0 ≤ a) (h1 : a < 16) (h2 : 0 ≤ b) (h3 : b < 16) : bits .or .i64 (a * 16) b = a * 16 + b := by
  have h := orf ⟨a.toNat, by omega⟩ ⟨b.toNat, by omega⟩
  simp only at h
  rw [show ((a.toNat : Nat) : Int) = a by omega, show ((b.toNat : Nat) : Int) = b by omega] at h
  rw [h]; omega

theorem dig_any (c : UInt8) (w : World) : Calls Try.prog 11 #[.string { data := #[48, 49, 50, 51, 52, 53, 54, 55, 56, 57, 97, 98, 99, 100, 101, 102] }, .int .u8 (c.toNat : Int)] w fun e w' => e = .returned (.int .i64 (dig c)) ∧ w' = w := by
  have h := Try.strings_IndexByte digitsS (c.toNat : Int) w
  have e : ((c.toNat : Int)).toNat.toUInt8 = c := by simp
  rw [e] at h
  exact h

set_option maxHeartbeats 2000000 in
theorem shown_any (b : UInt8) (t : List UInt8) (w : World) : Calls Try.prog 10 #[.string (S (b :: t))] w (ShownOut (b :: t) w) := by
  have hs : (S (b :: t)).size = t.length + 1 := by rw [S_size]; rfl
  have h0 : 0 < (S (b :: t)).size := by omega
  have hb : (S (b :: t))[0] = b := by rw [S_get]; rfl
  have lb := b.toNat_lt
  by_cases hp : plainB b = true
  · have F := shown_plain (t := t) hp
    have HF := Lib.hid F
    clear F
    have HS := Lib.hid hs
    clear hs
    go_enter Try.func10, Try.ntmps10
    go_wp2_with (first
      | (go_at_call 9; go_must (refine (plain_yes _ _ b rfl hp).mono ?_; rintro e w' ⟨rfl, rfl⟩)))
    go_ret2
    exact ⟨_, _, rfl, HF.out, 0, rfl⟩
  · have hp' : plainB b = false := by simpa using hp
    by_cases h92 : b = 92
    · subst h92
      by_cases h3 : t.length + 1 < 3
      · have F := shown_short (t := t) hp' (by simpa using h3)
        have HF := Lib.hid F
        clear F
        have h3' : (S (92 :: t)).size < 3 := by omega
        clear hs
        go_enter Try.func10, Try.ntmps10
        go_wp2_with (first
          | (go_at_call 9; go_must (refine (plain_no _ _ 92 rfl hp').mono ?_; rintro e w' ⟨rfl, rfl⟩)))
        go_ret2
        exact ⟨_, _, rfl, HF.out, 0, rfl⟩
      · obtain ⟨b1, b2, u, rfl⟩ : ∃ b1 b2 u, t = b1 :: b2 :: u := by
          match t, h3 with
          | [], h => simp at h
          | [_], h => simp at h
          | b1 :: b2 :: u, _ => exact ⟨b1, b2, u, rfl⟩
        have hz1 : 1 < (S (92 :: b1 :: b2 :: u)).size := by simp at hs; omega
        have hz2 : 2 < (S (92 :: b1 :: b2 :: u)).size := by simp at hs; omega
        have hz3 : 3 ≤ (S (92 :: b1 :: b2 :: u)).size := by simp at hs; omega
        have hb1 : (S (92 :: b1 :: b2 :: u))[1] = b1 := by rw [S_get]; rfl
        have hb2 : (S (92 :: b1 :: b2 :: u))[2] = b2 := by rw [S_get]; rfl
        have i1 : (1 : Int) < ((S (92 :: b1 :: b2 :: u)).size : Int) := by omega
        have i2 : (2 : Int) < ((S (92 :: b1 :: b2 :: u)).size : Int) := by omega
        have i3 : decide (((S (92 :: b1 :: b2 :: u)).size : Int) < 3) = false := by simp; omega
        clear hs h3
        have d1 := dig_cases b1
        have d2 := dig_cases b2
        have D1 := dig_any b1
        have D2 := dig_any b2
        obtain ⟨x1, hx1⟩ : ∃ x1, dig b1 = x1 := ⟨_, rfl⟩
        obtain ⟨x2, hx2⟩ : ∃ x2, dig b2 = x2 := ⟨_, rfl⟩
        have hd1 : x1 = -1 ∨ (0 ≤ x1 ∧ x1 < 16) := by rw [← hx1]; omega
        have hd2 : x2 = -1 ∨ (0 ≤ x2 ∧ x2 < 16) := by rw [← hx2]; omega
        rw [hx1] at D1
        rw [hx2] at D2
        have HD1 := Lib.hid D1
        have HD2 := Lib.hid D2
        have HX1 := Lib.hid hx1
        have HX2 := Lib.hid hx2
        clear d1 d2 D1 D2 hx1 hx2
        rcases hd1 with rfl | ⟨p1, q1⟩
        · have F := shown_nodigit (t := u) hp' (.inl (by rw [HX1.out]; omega) : dig b1 < 0 ∨ dig b2 < 0)
          have HF := Lib.hid F
          clear F
          have hh : 0 ≤ x2 ∨ x2 < 0 := by omega
          go_enter Try.func10, Try.ntmps10
          go_wp2_with (first
            | (go_at_call 9; go_must (refine (plain_no _ _ 92 rfl hp').mono ?_; rintro e w' ⟨rfl, rfl⟩)))
          go_quiet (first | (go_at_call 11; exact Calls.quiet_of_same (HD1.out _)) | (go_at_call 11; exact Calls.quiet_of_same (HD2.out _)))
          go_wp2
          go_ret2
          exact ⟨_, _, rfl, HF.out, _, rfl⟩
        · rcases hd2 with rfl | ⟨p2, q2⟩
          · have F := shown_nodigit (t := u) hp' (.inr (by rw [HX2.out]; omega) : dig b1 < 0 ∨ dig b2 < 0)
            have HF := Lib.hid F
            clear F
            have hn1 : decide (x1 < 0) = false := by simp; omega
            go_enter Try.func10, Try.ntmps10
            go_wp2_with (first
              | (go_at_call 9; go_must (refine (plain_no _ _ 92 rfl hp').mono ?_; rintro e w' ⟨rfl, rfl⟩)))
            go_quiet (first | (go_at_call 11; exact Calls.quiet_of_same (HD1.out _)) | (go_at_call 11; exact Calls.quiet_of_same (HD2.out _)))
            go_wp2
            go_ret2
            exact ⟨_, _, rfl, HF.out, _, rfl⟩
          · obtain ⟨a, ha⟩ : ∃ a : UInt8, (a.toNat : Int) = x1 * 16 + x2 := by
              refine ⟨UInt8.ofNat (x1 * 16 + x2).toNat, ?_⟩
              have : (x1 * 16 + x2).toNat % 256 = (x1 * 16 + x2).toNat := by omega
              simp [this]; omega
            have hn1 : decide (x1 < 0) = false := by simp; omega
            have hn2 : decide (x2 < 0) = false := by simp; omega
            have hor := or16 x1 x2 p1 q1 p2 q2
            have hfit : (x1 * 16 + x2) % 256 = x1 * 16 + x2 := by omega
            by_cases hc : plainB a = true
            · have F := shown_copied (t := u) hp' (by rw [HX1.out, HX2.out]; exact ha : (a.toNat : Int) = dig b1 * 16 + dig b2) hc
              have HF := Lib.hid F
              have HA := Lib.hid ha
              clear F ha
              go_enter Try.func10, Try.ntmps10
              go_wp2_with (first
                | (go_at_call 9; go_must (refine (plain_no _ _ 92 rfl hp').mono ?_; rintro e w' ⟨rfl, rfl⟩)))
              go_quiet (first | (go_at_call 11; exact Calls.quiet_of_same (HD1.out _)) | (go_at_call 11; exact Calls.quiet_of_same (HD2.out _)))
              go_wp2_with (first
                | (go_at_call 9; go_must (refine (plain_yes _ _ a (by rw [HA.out]) hc).mono ?_; rintro e w' ⟨rfl, rfl⟩)))
              go_ret2
              exact ⟨_, _, rfl, HF.out, _, rfl⟩
            · have hc' : plainB a = false := by simpa using hc
              have F := shown_code (t := u) (by rw [HX1.out]; exact p1) (by rw [HX2.out]; exact p2) (by rw [HX1.out, HX2.out]; exact ha : (a.toNat : Int) = dig b1 * 16 + dig b2) hc'
              rw [ha] at F
              have HF := Lib.hid F
              have HA := Lib.hid ha
              clear F ha
              go_enter Try.func10, Try.ntmps10
              go_wp2_with (first
                | (go_at_call 9; go_must (refine (plain_no _ _ 92 rfl hp').mono ?_; rintro e w' ⟨rfl, rfl⟩)))
              go_quiet (first | (go_at_call 11; exact Calls.quiet_of_same (HD1.out _)) | (go_at_call 11; exact Calls.quiet_of_same (HD2.out _)))
              go_wp2_with (first
                | (go_at_call 9; go_must (refine (plain_no _ _ a (by rw [HA.out]) hc').mono ?_; rintro e w' ⟨rfl, rfl⟩)))
              go_ret2
              exact ⟨_, _, rfl, HF.out, _, rfl⟩
    · have F := shown_other (t := t) hp' h92
      have hne : ((b.toNat : Int) == 92) = false := by simp; intro e; exact h92 (u8_ext (by simpa using by omega))
      have hne' : ((b.toNat : Int) != 92) = true := by simp; intro e; exact h92 (u8_ext (by simpa using by omega))
      have HF := Lib.hid F
      clear F h92
      clear hs
      go_enter Try.func10, Try.ntmps10
      go_wp2_with (first
          | (go_at_call 9; go_must (refine (plain_no _ _ b rfl hp').mono ?_; rintro e w' ⟨rfl, rfl⟩)))
      go_ret2
      exact ⟨_, _, rfl, HF.out, 0, rfl⟩
end Go.Proofs.Ytcagnlafmakebaa
