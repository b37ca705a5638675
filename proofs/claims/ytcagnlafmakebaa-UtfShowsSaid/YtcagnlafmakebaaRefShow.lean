/- creelref03.Show. -/
import Derived.Test.YtcagnlafmakebaaShow
import Derived.Test.YtcagnlafmakebaaRead
namespace Go.Proofs.Ytcagnlafmakebaa
open Go.RowKit

theorem digit_cut : ∀ n : Fin 16, (({ data := #[48, 49, 50, 51, 52, 53, 54, 55, 56, 57, 97, 98, 99, 100, 101, 102] } : ByteArray)).extract n.val (n.val + 1) = S [hexB n.val] := by decide +kernel
theorem run_digit_cut {P : Program} {t : TypeId} (hu : P.underlying t = some .string) (n : Nat) (i j : Int) (hi : i = n) (hj : j = n + 1) (hn : n < 16) (w : World) :
    (Instr.slice t (.string { data := #[48, 49, 50, 51, 52, 53, 54, 55, 56, 57, 97, 98, 99, 100, 101, 102] }) (some (.int .u8 i)) (some (.int .u8 j)) none).run P w = .ok (.string (S [hexB n])) w := by
  subst hi
  subst hj
  have h := run_slice_string (P := P) w t { data := #[48, 49, 50, 51, 52, 53, 54, 55, 56, 57, 97, 98, 99, 100, 101, 102] } .u8 .u8 (n : Int) ((n : Int) + 1) hu (by omega) (by omega) (by show (n : Int) + 1 ≤ 16; omega)
  rw [h, show ((n : Int)).toNat = n from rfl, show ((n : Int) + 1).toNat = n + 1 from by omega, digit_cut ⟨n, hn⟩]
theorem take_code {l : List UInt8} {k : Nat} {a : UInt8} {O : ByteArray} (hk : k < (S l).size) (ha : (S l)[k] = a) (hO : S (34 :: codes (l.take k)) = O) {X : List UInt8} (hX : code a = X) : O ++ S X = S (34 :: codes (l.take (k + 1))) := by
  rw [take_one hk ha, codes_snoc, hX, ← hO, S_append]
  rfl
theorem cut_one {l : List UInt8} {k : Nat} {a : UInt8} (hk : k < (S l).size) (ha : (S l)[k] = a) : (S l).extract k (k + 1) = S [a] := by
  have hk' : k < l.length := by rw [S_size] at hk; exact hk
  rw [S_extract, show k + 1 - k = 1 by omega, ← ha, S_get]
  rw [List.drop_eq_getElem_cons hk']
  rfl
theorem str_val {a b : ByteArray} (h : a = b) : Value.string a = Value.string b := by rw [h]
theorem str_ret {a b : ByteArray} (h : a = b) : Ending.returned (Value.string a) = .returned (.string b) := by rw [h]

set_option maxHeartbeats 1000000 in
theorem refShow_any (l : List UInt8) (w : World) (hl : l.length ≤ 100000) :
    Calls Try.prog 8 #[.string (S l)] w fun e w' => e = .returned (.string (S (showL l))) ∧ ∃ q, w' = w.drewN q := by
  have hs : (S l).size = l.length := S_size l
  have HS := Lib.hid hs
  have hm : (S l).size ≤ 100000 := by rw [hs]; exact hl
  clear hs
  go_enter Try.func8, Try.ntmps8
  go_wp2
  go_loopw [4, 5] (fun b v wr => ∃ k : Nat, v = .int .i64 k ∧ k ≤ (S l).size ∧ b = .string (S (34 :: codes (l.take k))) ∧ ∃ q, wr = w.drewN q) (fun _ v _ => (S l).size - (intOf v).toNat)
  case atStart => exact ⟨0, rfl, Nat.zero_le _, rfl, 0, rfl⟩
  case round =>
    obtain ⟨k, rfl, hk, rfl, q, rfl⟩ := hrel
    have hct := codes_take l k
    obtain ⟨O, hO⟩ : ∃ O, S (34 :: codes (l.take k)) = O := ⟨_, rfl⟩
    have hOs : O.size ≤ 300001 := by rw [← hO, S_size, List.length_cons]; omega
    rw [hO]
    have HO := Lib.hid hO
    clear hO hct
    by_cases hlt : k < (S l).size
    · obtain ⟨a, ha⟩ : ∃ a, (S l)[k] = a := ⟨_, rfl⟩
      have hal := a.toNat_lt
      have HA := Lib.hid ha
      by_cases hp : plainB a = true
      · obtain ⟨p1, p2, p3, p4⟩ := plainB_true hp
        have b1 : decide ((a.toNat : Int) < 32) = false := by simp; omega
        have b2 : decide ((126 : Int) < (a.toNat : Int)) = false := by simp; omega
        have b3 : ((a.toNat : Int) == 34) = false := beq_eq_false_iff_ne.2 (by omega)
        have b4 : ((a.toNat : Int) == 92) = false := beq_eq_false_iff_ne.2 (by omega)
        clear p3 p4
        go_wp2
        go_roundw
        case rel => exact ⟨k + 1, by go_num, by omega, str_val (by rw [cut_one hlt HA.out]; exact take_code hlt HA.out HO.out (by unfold code; rw [if_pos hp])), q, rfl⟩
        case measure => simp [intOf]; omega
      · have hp' : plainB a = false := by simpa using hp
        have f1 : ∀ w, (Instr.slice 9 (.string { data := #[48, 49, 50, 51, 52, 53, 54, 55, 56, 57, 97, 98, 99, 100, 101, 102] }) (some (.int .u8 ((a.toNat : Int) / 16))) (some (.int .u8 ((a.toNat : Int) / 16 + 1))) none).run Try.prog w = .ok (.string (S [hexB (a.toNat / 16)])) w := run_digit_cut Try.underlying9 _ _ _ (by omega) (by omega) (by omega)
        have f2 : ∀ w, (Instr.slice 9 (.string { data := #[48, 49, 50, 51, 52, 53, 54, 55, 56, 57, 97, 98, 99, 100, 101, 102] }) (some (.int .u8 ((a.toNat : Int) % 16))) (some (.int .u8 ((a.toNat : Int) % 16 + 1))) none).run Try.prog w = .ok (.string (S [hexB (a.toNat % 16)])) w := run_digit_cut Try.underlying9 _ _ _ (by omega) (by omega) (by omega)
        obtain ⟨X1, hX1⟩ : ∃ X1, S [hexB (a.toNat / 16)] = X1 := ⟨_, rfl⟩
        obtain ⟨X2, hX2⟩ : ∃ X2, S [hexB (a.toNat % 16)] = X2 := ⟨_, rfl⟩
        rw [hX1] at f1
        rw [hX2] at f2
        have e : code a = [92] ++ [hexB (a.toNat / 16)] ++ [hexB (a.toNat % 16)] := by unfold code; rw [if_neg hp]; rfl
        have e2 : O ++ S [92] ++ X1 ++ X2 = S (34 :: codes (l.take (k + 1))) := by rw [← hX1, ← hX2, ← take_code hlt HA.out HO.out e, ← S_append, ← S_append, ByteArray.append_assoc, ByteArray.append_assoc, ByteArray.append_assoc]
        have HE := Lib.hid e2
        have z1 : X1.size = 1 := by rw [← hX1]; rfl
        have z2 : X2.size = 1 := by rw [← hX2]; rfl
        have Z1 := Lib.hid z1
        have Z2 := Lib.hid z2
        have z1' : X1.size ≤ 1 := by omega
        have z2' : X2.size ≤ 1 := by omega
        have hF := plainB_false hp'
        clear e e2 hX1 hX2 z1 z2
        have s1 : IntKind.u8.wrap ((a.toNat : Int) / 16 + 1) = (a.toNat : Int) / 16 + 1 := by show (_ : Int) % 256 = _; omega
        have s2 : IntKind.u8.wrap ((a.toNat : Int) % 16 + 1) = (a.toNat : Int) % 16 + 1 := by show (_ : Int) % 256 = _; omega
        have hF2 : (a.toNat : Int) < 32 ∨ (decide ((a.toNat : Int) < 32) = false ∧ (126 : Int) < (a.toNat : Int)) ∨ (decide ((a.toNat : Int) < 32) = false ∧ decide ((126 : Int) < (a.toNat : Int)) = false ∧ ((a.toNat : Int) == 34) = true) ∨ (decide ((a.toNat : Int) < 32) = false ∧ decide ((126 : Int) < (a.toNat : Int)) = false ∧ ((a.toNat : Int) == 34) = false ∧ ((a.toNat : Int) == 92) = true) := by
          simp only [decide_eq_false_iff_not, beq_iff_eq, beq_eq_false_iff_ne]
          omega
        clear hF
        rcases hF2 with b1 | ⟨b1, b2⟩ | ⟨b1, b2, b3⟩ | ⟨b1, b2, b3, b4⟩
        all_goals
          go_wp2
          go_quiet (fail)
          go_wp2
          go_roundw
          case rel => exact ⟨k + 1, by go_num, by omega, str_val HE.out, _, rfl⟩
          case measure => simp [intOf]; omega
    · have hk2 : l.length ≤ k := by have := HS.out; omega
      have hO2 : O ++ S [34] = S (showL l) := by
        rw [← HO.out, S_append, List.take_of_length_le hk2]; rfl
      have HO2 := Lib.hid hO2
      clear hO2
      go_wp2
      go_ret
      exact ⟨str_ret HO2.out, q, rfl⟩
end Go.Proofs.Ytcagnlafmakebaa
