/- Find. -/
import Derived.Test.YtfimjjeabbbciaaDoorTabs
namespace Go.Proofs.YtfimjjeabbbciaaDoor
open Go.RowKit

theorem S_beq (a b : List UInt8) : ((S a).toList == (S b).toList) = (a == b) := by rw [S_toList, S_toList]
/-- Find's answer. -/
def findV (o : Option Nat) : Value := .tuple #[.int .u8 (o.getD 0 : Nat), .bool o.isSome]
def FindPost (o : Option Nat) (w : World) (e : Ending) (w' : World) : Prop := e = .returned (findV o) ∧ w = w'
theorem find_empty (w : World) : Calls Tryd.prog 14 #[.string (S [])] w (FindPost none w) := by
  have hb : (S []).toList.isEmpty = true := by rw [S_toList]; rfl
  go_enter Tryd.func14, Tryd.ntmps14
  go_wp2
  go_ret2
  exact ⟨rfl, rfl⟩
def upTo (m : Nat) : Option Nat := if m < 256 then some m else none
set_option maxRecDepth 100000 in
/-- m is the first that bears the name; 256: none does. -/
theorem find_at (s : List UInt8) (w : World) (hT : Tabs w) (hs : s ≠ []) (m : Nat) (hm : m ≤ 256) (hno : ∀ j, j < m → nameR j ≠ s) (hy : m < 256 → nameR m = s) :
    Calls Tryd.prog 14 #[.string (S s)] w (FindPost (upTo m) w) := by
  have hb : (S s).toList.isEmpty = false := by rw [S_toList]; simpa using hs
  have HT := Lib.hid hT
  have HN := Lib.hid hno
  have HY := Lib.hid hy
  clear hT hno hy hs
  go_enter Tryd.func14, Tryd.ntmps14
  go_wp2
  go_loop [7] (fun i => ∃ k : Nat, k ≤ m ∧ i = .int .i64 k) (fun i => 256 - (intOf i).toNat)
  case atStart => exact ⟨0, by omega, rfl⟩
  case round =>
    obtain ⟨k, hk, rfl⟩ := hrel
    by_cases hlt : k < 256
    · by_cases he : k = m
      · have hq : ((S (nameR k)).toList == (S s).toList) = true := by rw [S_beq, he, HY.out (by omega)]; simp
        have HK := Lib.hid he
        clear he
        go_wp2_with (go_at_call 19; go_must (refine (name_any k _ HT.out (by omega)).mono ?_; rintro e w' ⟨rfl, rfl⟩))
        go_ret2
        exact ⟨by rw [← HK.out, upTo, if_pos hlt]; rfl, rfl⟩
      · have hq : ((S (nameR k)).toList == (S s).toList) = false := by rw [S_beq]; simpa using HN.out k (by omega)
        go_wp2_with (go_at_call 19; go_must (refine (name_any k _ HT.out (by omega)).mono ?_; rintro e w' ⟨rfl, rfl⟩))
        go_round
        case rel => exact ⟨k + 1, by omega, by go_num⟩
        case measure => simp [intOf]; omega
    · obtain rfl : k = 256 := by omega
      obtain rfl : m = 256 := by omega
      go_wp2
      go_ret2
      exact ⟨rfl, rfl⟩
def findR (s : List UInt8) : Option Nat := if s = [] then none else (List.range 256).find? fun k => nameR k == s
theorem find_any (s : List UInt8) (w : World) (hT : Tabs w) : Calls Tryd.prog 14 #[.string (S s)] w (FindPost (findR s) w) := by
  by_cases hs : s = []
  · subst hs; exact find_empty w
  · cases hf : (List.range 256).find? fun k => nameR k == s with
    | some m =>
      have e : findR s = some m := by unfold findR; rw [if_neg hs, hf]
      rw [List.find?_range_eq_some] at hf
      obtain ⟨h1, h2, h3⟩ := hf
      have hm : m < 256 := by simpa using h2
      rw [e]
      have := find_at s w hT hs m (by omega) (fun j hj => by simpa using h3 j hj) (fun _ => by simpa using h1)
      rwa [upTo, if_pos hm] at this
    | none =>
      have e : findR s = none := by unfold findR; rw [if_neg hs, hf]
      rw [List.find?_eq_none] at hf
      rw [e]
      exact find_at s w hT hs 256 (by omega) (fun j hj => by simpa using hf j (by simpa using hj)) (by omega)
end Go.Proofs.YtfimjjeabbbciaaDoor

