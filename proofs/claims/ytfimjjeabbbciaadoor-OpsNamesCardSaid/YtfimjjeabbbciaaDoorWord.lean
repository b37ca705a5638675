/- The reference's word. -/
import Derived.Test.YtfimjjeabbbciaaDoorTabs
import Derived.Deep.QuietTactic
import Derived.BigQuiet
import Derived.IntWalk
namespace Go.Proofs.YtfimjjeabbbciaaDoor
open Go.RowKit

abbrev wordV (o : Option (List UInt8)) : Value := .tuple #[.string (S (o.getD [])), .bool o.isSome]
def WordPost (o : Option (List UInt8)) (w : World) (e : Ending) (w' : World) : Prop := e = .returned (wordV o) ∧ ∃ m, w' = w.drewN m
/-- What the loop still owes; h is 0 where no head is known yet, else the head and one. -/
def Owes (s : List UInt8) (o : Option (List UInt8)) (k : Nat) (h : Int) (f : Nat) (m : Int) : Prop := wordGo s (s.length + 1 - k) k h f m = o
theorem owes_skip {s : List UInt8} {o : Option (List UInt8)} {k : Nat} {h : Int} {f : Nat} {m : Int} (H : Owes s o k h f m) (hk : k < s.length) (hc : s[k] ≠ 32) : Owes s o (k + 1) h f m := by
  unfold Owes at *
  have e : s.length + 1 - k = (s.length + 1 - (k + 1)) + 1 := by omega
  rw [e, wordGo, if_pos ⟨hk, by rw [List.getD, List.getElem?_eq_getElem hk]; exact hc⟩] at H
  exact H
theorem owes_no {s : List UInt8} {k : Nat} (hk : k ≤ s.length) (hc : ∀ h : k < s.length, s[k] = 32) : ¬ (k < s.length ∧ s.getD k 0 ≠ 32) := by
  rintro ⟨h1, h2⟩
  apply h2
  rw [List.getD, List.getElem?_eq_getElem h1]
  exact hc h1
theorem owes_head {s : List UInt8} {o : Option (List UInt8)} {k f : Nat} {m : Int} (H : Owes s o k (-1) f m) (hk : k ≤ s.length) (hc : ∀ h : k < s.length, s[k] = 32) : Owes s o (k + 1) k (k + 1) m := by
  unfold Owes at *
  have e : s.length + 1 - k = (s.length + 1 - (k + 1)) + 1 := by omega
  rw [e, wordGo, if_neg (owes_no hk hc), if_pos (by omega)] at H
  exact H
theorem owes_next {s : List UInt8} {o : Option (List UInt8)} {k h f : Nat} {m : Int} (H : Owes s o k h f m) (hk : k ≤ s.length) (hc : ∀ h : k < s.length, s[k] = 32) (hm : m ≠ 0) : Owes s o (k + 1) h (k + 1) (m - 1) := by
  unfold Owes at *
  have e : s.length + 1 - k = (s.length + 1 - (k + 1)) + 1 := by omega
  rw [e, wordGo, if_neg (owes_no hk hc), if_neg (by omega), if_neg hm] at H
  exact H
theorem owes_end {s : List UInt8} {o : Option (List UInt8)} {k h f : Nat} (H : Owes s o k h f 0) (hk : k ≤ s.length) (hc : ∀ h : k < s.length, s[k] = 32) : o = some (s.take h ++ (s.drop f).take (k - f)) := by
  unfold Owes at *
  have e : s.length + 1 - k = (s.length + 1 - (k + 1)) + 1 := by omega
  rw [e, wordGo, if_neg (owes_no hk hc), if_neg (by omega), if_pos rfl] at H
  exact H.symm
theorem owes_none {s : List UInt8} {o : Option (List UInt8)} {k f : Nat} {h m : Int} (H : Owes s o k h f m) (hk : s.length < k) : o = none := by
  unfold Owes at *
  have e : s.length + 1 - k = 0 := by omega
  rw [e, wordGo] at H
  exact H.symm
/-- The head's slot. -/
def HeadIs (n : Nat) (v : Value) (h : Int) : Prop := (h = -1 ∧ v = .int .i64 (-1)) ∨ ∃ j : Nat, h = j ∧ j ≤ n ∧ v = .int .i64 (j : Int)
theorem word_ret {s : List UInt8} {o : Option (List UInt8)} {j f k : Nat} (h : o = some (s.take j ++ (s.drop f).take (k - f))) : Ending.returned (.tuple #[.string ((S s).extract 0 j ++ (S s).extract f k), .bool true]) = .returned (wordV o) := by
  subst h
  rw [S_extract, S_extract, S_append]
  rfl
set_option maxRecDepth 100000 in
theorem word_any (s : List UInt8) (n : Nat) (w : World) (hs : s.length ≤ 1000) (hn : n ≤ 255) : Calls Tryd.prog 18 #[.string (S s), .int .i64 n] w (WordPost (wordR s n) w) := by
  have H0 : Owes s (wordR s n) 0 (-1) 0 n := rfl
  obtain ⟨o, ho⟩ : ∃ o, o = wordR s n := ⟨_, rfl⟩
  rw [← ho] at H0 ⊢
  clear ho
  have HO := Lib.hid H0
  clear H0
  have hz : (S s).size ≤ 1000 := by rw [S_size]; exact hs
  have HS := Lib.hid (S_size s)
  go_enter Tryd.func18, Tryd.ntmps18
  go_wp2
  go_loop [1, 6, 7, 8] (fun n hd fr i => ∃ (k f : Nat) (h m : Int), k ≤ (S s).size + 1 ∧ i = .int .i64 k ∧ HeadIs (S s).size hd h ∧ f ≤ k ∧ fr = .int .i64 f ∧ 0 ≤ m ∧ m ≤ 255 ∧ n = .int .i64 m ∧ Hid (Owes s o k h f m)) (fun _ _ _ i => (S s).size + 1 - (intOf i).toNat)
  case atStart => exact ⟨0, 0, -1, n, by omega, rfl, .inl ⟨rfl, rfl⟩, by omega, rfl, by omega, by omega, rfl, HO⟩
  case round =>
    obtain ⟨k, f, h, m, hk, rfl, hh, hf, rfl, hm0, hm, rfl, HX⟩ := hrel
    clear HO
    by_cases hlt : k < (S s).size
    · have hl : k < s.length := by rw [← HS.out]; exact hlt
      by_cases hc : s[k] = 32
      · have hq : ((((S s)[k]'hlt).toNat : Int) != 32) = false := by rw [S_get s k hlt, hc]; rfl
        have HC := Lib.hid hc
        clear hc
        rcases hh with ⟨rfl, rfl⟩ | ⟨j, rfl, hj, rfl⟩
        · go_wp2
          go_round
          case rel => exact ⟨k + 1, k + 1, k, m, by omega, by go_num, .inr ⟨k, rfl, by omega, rfl⟩, by omega, by go_num, hm0, hm, rfl, Lib.hid (owes_head HX.out (by omega) (fun _ => HC.out))⟩
          case measure => simp [intOf]; omega
        · have hjn : decide ((j : Int) < 0) = false := by simp
          by_cases hmz : m = 0
          · subst hmz
            have x1 : ((S s).extract 0 j).size ≤ 1000 := by rw [S_extract, S_size]; simp; omega
            have x2 : ((S s).extract f k).size ≤ 1000 := by rw [S_extract, S_size]; simp; omega
            have x3 : ¬ 9223372036854775807 < ((S s).extract 0 j).size + ((S s).extract f k).size := by omega
            have i1 : (j : Int) ≤ ((S s).size : Int) := by omega
            have i2 : (f : Int) ≤ (k : Int) := by omega
            have i3 : (k : Int) ≤ ((S s).size : Int) := by omega
            clear x1 x2
            go_wp2
            go_quiet (fail)
            go_wp2
            go_ret2
            exact ⟨word_ret (owes_end HX.out (by omega) (fun _ => HC.out)), _, rfl⟩
          · have hmq : (m == 0) = false := by simpa using hmz
            have HM := Lib.hid hmz
            clear hmz
            go_wp2
            go_round
            case rel => exact ⟨k + 1, k + 1, j, m - 1, by omega, by go_num, .inr ⟨j, rfl, by omega, rfl⟩, by omega, by go_num, by have := HM.out; omega, by omega, rfl, Lib.hid (owes_next HX.out (by omega) (fun _ => HC.out) HM.out)⟩
            case measure => simp [intOf]; omega
      · have hq : ((((S s)[k]'hlt).toNat : Int) != 32) = true := by
          rw [S_get s k hlt]
          simp only [bne_iff_ne, ne_eq]
          exact fun e => hc (u8_ext (by have e2 : s[k].toNat = 32 := by exact_mod_cast e
                                        exact e2))
        have HC := Lib.hid hc
        clear hc
        go_wp2
        go_round
        case rel => exact ⟨k + 1, f, h, m, by omega, by go_num, hh, by omega, rfl, hm0, hm, rfl, Lib.hid (owes_skip HX.out hl HC.out)⟩
        case measure => simp [intOf]; omega
    · by_cases hle : k ≤ (S s).size
      · have HC := Lib.hid (show ∀ h : k < s.length, s[k] = 32 from fun h => absurd (by rw [← HS.out] at h; exact h) hlt)
        rcases hh with ⟨rfl, rfl⟩ | ⟨j, rfl, hj, rfl⟩
        · go_wp2
          go_round
          case rel => exact ⟨k + 1, k + 1, k, m, by omega, by go_num, .inr ⟨k, rfl, by omega, rfl⟩, by omega, by go_num, hm0, hm, rfl, Lib.hid (owes_head HX.out (by rw [← HS.out]; exact hle) HC.out)⟩
          case measure => simp [intOf]; omega
        · have hjn : decide ((j : Int) < 0) = false := by simp
          by_cases hmz : m = 0
          · subst hmz
            have x1 : ((S s).extract 0 j).size ≤ 1000 := by rw [S_extract, S_size]; simp; omega
            have x2 : ((S s).extract f k).size ≤ 1000 := by rw [S_extract, S_size]; simp; omega
            have x3 : ¬ 9223372036854775807 < ((S s).extract 0 j).size + ((S s).extract f k).size := by omega
            have i1 : (j : Int) ≤ ((S s).size : Int) := by omega
            have i2 : (f : Int) ≤ (k : Int) := by omega
            have i3 : (k : Int) ≤ ((S s).size : Int) := by omega
            clear x1 x2
            go_wp2
            go_quiet (fail)
            go_wp2
            go_ret2
            exact ⟨word_ret (owes_end HX.out (by rw [← HS.out]; exact hle) HC.out), _, rfl⟩
          · have hmq : (m == 0) = false := by simpa using hmz
            have HM := Lib.hid hmz
            clear hmz
            go_wp2
            go_round
            case rel => exact ⟨k + 1, k + 1, j, m - 1, by omega, by go_num, .inr ⟨j, rfl, by omega, rfl⟩, by omega, by go_num, by have := HM.out; omega, by omega, rfl, Lib.hid (owes_next HX.out (by rw [← HS.out]; exact hle) HC.out HM.out)⟩
            case measure => simp [intOf]; omega
      · clear hh
        have HE := Lib.hid (owes_none HX.out (by rw [← HS.out]; omega))
        go_wp2
        go_ret2
        exact ⟨by rw [HE.out]; rfl, 0, rfl⟩
end Go.Proofs.YtfimjjeabbbciaaDoor

