/- Both readers, each beside the reference: the same answer. -/
import Derived.Test.YtjgghgfljkpemaaRefR
namespace Go.Proofs.Ytjgghgfljkpemaa
open Go.RowKit
set_option linter.unusedVariables false

theorem low_take {q : List Int} {p : Nat} {c : Int} (hpc : q[p]? = some c) (c0 : 0 ≤ c) (c2 : c < 128) : low (q.take (p + 1)) = numU (q.take p) c := by
  have hp := (List.getElem?_eq_some_iff.1 hpc).1
  rw [take_snoc hpc, low_snoc]
  unfold numU
  rw [Int.emod_eq_of_lt c0 c2]
theorem take_len {q : List Int} {p : Nat} {c : Int} (hpc : q[p]? = some c) : (q.take p).length = p := by
  have hp := (List.getElem?_eq_some_iff.1 hpc).1
  rw [List.length_take]; omega
theorem num_bd {q : List Int} {p : Nat} {c : Int} (hpc : q[p]? = some c) (c0 : 0 ≤ c) (c2 : c < 128) : 0 ≤ numU (q.take p) c ∧ numU (q.take p) c < 2 ^ (7 * (p + 1)) := by
  have hp := (List.getElem?_eq_some_iff.1 hpc).1
  have h := low_bd (q.take (p + 1))
  rw [low_take hpc c0 c2, List.length_take, show min (p + 1) q.length = p + 1 by omega] at h
  exact h
theorem ext_signed {q : List Int} {p : Nat} {c : Int} (hpc : q[p]? = some c) (c0 : 0 ≤ c) (c2 : c < 128) : ext true (numU (q.take p) c) (7 * (p + 1)) = numS (q.take p) c := by
  obtain ⟨b0, b1⟩ := num_bd hpc c0 c2
  have hb := bit_top (m := 7 * (p + 1)) (by omega) b0 b1
  obtain ⟨l0, l1⟩ := low_bd (q.take p)
  unfold ext
  unfold numS numU at *
  rw [take_len hpc] at *
  rw [hb]
  have e1 : (2 : Int) ^ (7 * (p + 1) - 1) = 64 * 2 ^ (7 * p) := by rw [show 7 * (p + 1) - 1 = 7 * p + 6 by omega, Int.pow_add, Int.mul_comm]; rfl
  have e2 : (2 : Int) ^ (7 * (p + 1)) = 128 * 2 ^ (7 * p) := by rw [show 7 * (p + 1) = 7 * p + 7 by omega, Int.pow_add, Int.mul_comm]; rfl
  rw [e1, e2]
  unfold sg
  generalize (2 : Int) ^ (7 * p) = t at *
  by_cases h : 64 ≤ c
  · have : 64 * t ≤ low (q.take p) + c * t := by
      have := Int.mul_le_mul_of_nonneg_right h (show 0 ≤ t by omega)
      omega
    simp only [this, decide_true, Bool.and_self, if_true, if_pos h]
    grind
  · have : ¬ 64 * t ≤ low (q.take p) + c * t := by
      have := Int.mul_le_mul_of_nonneg_right (show c ≤ 63 by omega) (show 0 ≤ t by omega)
      omega
    simp only [this, decide_false, Bool.and_false, Bool.false_eq_true, if_false, if_neg h]

/-- What is asked of a slice that comes in: it reads as these bytes. -/
structure Has (w : World) (B : Nat) (A : Option Addr) (cap : Nat) (r : List Int) : Prop where
  lies : Lies w B A (cells r)
  low_ : B ≤ w.heap.size
  room : r.length ≤ cap
  most : cap ≤ maxLen

theorem both_u (r : List Int) (hb : ∀ c ∈ r, 0 ≤ c ∧ c ≤ 255) (at_ n : Int) : ∃ X Q E : Int, 
    (∀ A cap B w, Has w B A cap r → Calls Try.prog 15 #[.slice A r.length cap, .int .i64 at_, .int .i64 n] w fun x w' => x = .returned (.tuple #[.int .u64 X, .int .i64 Q, .int .i64 E]) ∧ w = w') ∧
    (∀ A cap B w, Has w B A cap r → Calls Try.prog 17 #[.slice A r.length cap, .int .i64 at_, .int .i64 n, .bool false] w fun x w' => x = .returned (.tuple #[.int .u64 X, .int .i64 Q, .int .i64 E]) ∧ Below w.heap.size w w') := by
  by_cases hw : n < 1 ∨ 64 < n ∨ at_ < 0 ∨ (r.length : Int) < at_
  · exact ⟨0, 0, 1, fun A cap B w h => ru_fail _ _ _ 1 w (.inl rfl) (length_wrong r A cap at_ n w hw), fun A cap B w h => rr_wrong r A cap at_ n false w hw⟩
  · obtain ⟨k, rfl⟩ : ∃ k : Nat, at_ = k := ⟨at_.toNat, by omega⟩
    obtain ⟨m, rfl⟩ : ∃ m : Nat, n = m := ⟨n.toNat, by omega⟩
    have hk : k ≤ r.length := by omega
    have m1 : 1 ≤ m := by omega
    have m2 : m ≤ 64 := by omega
    obtain ⟨p, hp⟩ := stop_ex (r.drop k) ((m + 6) / 7)
    have hpM := hp.leM
    have hpR := hp.leR
    rw [List.length_drop] at hpR
    by_cases h1 : p = (m + 6) / 7
    · refine ⟨0, 0, 3, fun A cap B w h => ru_fail _ _ _ 3 w (.inr (.inr rfl)) ?_, fun A cap B w h => rr_right r A cap B k m p false 0 0 3 w h.lies h.low_ hb h.room h.most hk m1 m2 hp (.inl ⟨h1, rfl, rfl, rfl⟩)⟩
      have := length_right r A cap B k m p w h.lies hb h.room h.most hk m1 m2 hp
      unfold lenN lenE at this
      rwa [if_pos h1, if_pos h1] at this
    · by_cases h2 : p = r.length - k
      · refine ⟨0, 0, 2, fun A cap B w h => ru_fail _ _ _ 2 w (.inr (.inl rfl)) ?_, fun A cap B w h => rr_right r A cap B k m p false 0 0 2 w h.lies h.low_ hb h.room h.most hk m1 m2 hp (.inr (.inl ⟨by omega, by omega, rfl, rfl, rfl⟩))⟩
        have := length_right r A cap B k m p w h.lies hb h.room h.most hk m1 m2 hp
        unfold lenN lenE at this
        rwa [if_neg h1, if_neg h1, if_pos h2, if_pos h2] at this
      · obtain ⟨c, hpc⟩ : ∃ c, (r.drop k)[p]? = some c := ⟨_, List.getElem?_eq_getElem (by rw [List.length_drop]; omega)⟩
        obtain ⟨c0, c1⟩ := hb c (List.mem_of_mem_drop (List.mem_of_getElem? hpc))
        have hpM2 : p < (m + 6) / 7 := by omega
        have c2 := hp.off c hpM2 hpc
        obtain ⟨l0, l1⟩ := low_bd ((r.drop k).take p)
        obtain ⟨b0, b1⟩ := num_bd hpc c0 c2
        have hlen := take_len hpc
        rw [hlen] at l1
        have hov : numU ((r.drop k).take p) c / 2 ^ m = c / 2 ^ (m - 7 * p) := by unfold numU; rw [hlen]; exact over_more l0 l1 (by omega)
        have hext : ext false (numU ((r.drop k).take p) c) (7 * (p + 1)) = numU ((r.drop k).take p) c := by simp [ext]
        have hgf := good_fits (s := false) (n := m) (m := 7 * (p + 1)) (by omega) m1 b0 b1
        have hfit : Fits false (numU ((r.drop k).take p) c) m ↔ c / 2 ^ (m - 7 * p) = 0 := by unfold Fits; rw [if_neg (by simp), hov]
        rw [hext, hfit] at hgf
        have hlow := low_take hpc c0 c2
        by_cases hf : c / 2 ^ (m - 7 * p) = 0
        · refine ⟨numU ((r.drop k).take p) c, k + (p + 1), 0, fun A cap B w h => ru_ok r A cap B k m p c w h.lies hb h.room h.most hk m1 m2 hp hpM2 hpc hf, fun A cap B w h => ?_⟩
          refine rr_right r A cap B k m p false _ _ _ w h.lies h.low_ hb h.room h.most hk m1 m2 hp (.inr (.inr (.inr ⟨hpM2, by omega, ?_, ?_, rfl, rfl⟩)))
          · rw [hlow]; exact hgf.2 hf
          · rw [hlow, hext]
            have hbu := bdU (c := c) l0 l1 c0 (b := m) (by omega) hf
            have hm := mono2 m2
            have e : numU ((r.drop k).take p) c = low ((r.drop k).take p) + c * 2 ^ (7 * p) := by unfold numU; rw [hlen]
            rw [Int.emod_eq_of_lt b0 (by omega)]
        · refine ⟨0, 0, 3, fun A cap B w h => ru_far r A cap B k m p c w h.lies hb h.room h.most hk m1 m2 hp hpM2 hpc hf, fun A cap B w h => ?_⟩
          refine rr_right r A cap B k m p false _ _ _ w h.lies h.low_ hb h.room h.most hk m1 m2 hp (.inr (.inr (.inl ⟨hpM2, by omega, ?_, rfl, rfl, rfl⟩)))
          rw [hlow]; exact fun hg => hf (hgf.1 hg)

theorem both_s (r : List Int) (hb : ∀ c ∈ r, 0 ≤ c ∧ c ≤ 255) (at_ n : Int) : ∃ X Q E : Int, -9223372036854775808 ≤ X ∧ X ≤ 9223372036854775807 ∧
    (∀ A cap B w, Has w B A cap r → Calls Try.prog 16 #[.slice A r.length cap, .int .i64 at_, .int .i64 n] w fun x w' => x = .returned (.tuple #[.int .i64 X, .int .i64 Q, .int .i64 E]) ∧ w = w') ∧
    (∀ A cap B w, Has w B A cap r → Calls Try.prog 17 #[.slice A r.length cap, .int .i64 at_, .int .i64 n, .bool true] w fun x w' => x = .returned (.tuple #[.int .u64 (X % 2 ^ 64), .int .i64 Q, .int .i64 E]) ∧ Below w.heap.size w w') := by
  have z0 : (0 : Int) % 2 ^ 64 = 0 := rfl
  by_cases hw : n < 1 ∨ 64 < n ∨ at_ < 0 ∨ (r.length : Int) < at_
  · exact ⟨0, 0, 1, by omega, by omega, fun A cap B w h => ri_fail _ _ _ 1 w (.inl rfl) (length_wrong r A cap at_ n w hw), fun A cap B w h => rr_wrong r A cap at_ n true w hw⟩
  · obtain ⟨k, rfl⟩ : ∃ k : Nat, at_ = k := ⟨at_.toNat, by omega⟩
    obtain ⟨m, rfl⟩ : ∃ m : Nat, n = m := ⟨n.toNat, by omega⟩
    have hk : k ≤ r.length := by omega
    have m1 : 1 ≤ m := by omega
    have m2 : m ≤ 64 := by omega
    obtain ⟨p, hp⟩ := stop_ex (r.drop k) ((m + 6) / 7)
    have hpM := hp.leM
    have hpR := hp.leR
    rw [List.length_drop] at hpR
    by_cases h1 : p = (m + 6) / 7
    · refine ⟨0, 0, 3, by omega, by omega, fun A cap B w h => ri_fail _ _ _ 3 w (.inr (.inr rfl)) ?_, fun A cap B w h => rr_right r A cap B k m p true 0 0 3 w h.lies h.low_ hb h.room h.most hk m1 m2 hp (.inl ⟨h1, rfl, rfl, rfl⟩)⟩
      have := length_right r A cap B k m p w h.lies hb h.room h.most hk m1 m2 hp
      unfold lenN lenE at this
      rwa [if_pos h1, if_pos h1] at this
    · by_cases h2 : p = r.length - k
      · refine ⟨0, 0, 2, by omega, by omega, fun A cap B w h => ri_fail _ _ _ 2 w (.inr (.inl rfl)) ?_, fun A cap B w h => rr_right r A cap B k m p true 0 0 2 w h.lies h.low_ hb h.room h.most hk m1 m2 hp (.inr (.inl ⟨by omega, by omega, rfl, rfl, rfl⟩))⟩
        have := length_right r A cap B k m p w h.lies hb h.room h.most hk m1 m2 hp
        unfold lenN lenE at this
        rwa [if_neg h1, if_neg h1, if_pos h2, if_pos h2] at this
      · obtain ⟨c, hpc⟩ : ∃ c, (r.drop k)[p]? = some c := ⟨_, List.getElem?_eq_getElem (by rw [List.length_drop]; omega)⟩
        obtain ⟨c0, c1⟩ := hb c (List.mem_of_mem_drop (List.mem_of_getElem? hpc))
        have hpM2 : p < (m + 6) / 7 := by omega
        have c2 := hp.off c hpM2 hpc
        obtain ⟨l0, l1⟩ := low_bd ((r.drop k).take p)
        obtain ⟨b0, b1⟩ := num_bd hpc c0 c2
        have hlen := take_len hpc
        rw [hlen] at l1
        have hov : numS ((r.drop k).take p) c / 2 ^ (m - 1) = sg c / 2 ^ (m - 7 * p - 1) := by
          unfold numS; rw [hlen, show m - 7 * p - 1 = m - 1 - 7 * p by omega]; exact over_more l0 l1 (by omega)
        have hext := ext_signed hpc c0 c2
        have hgf := good_fits (s := true) (n := m) (m := 7 * (p + 1)) (by omega) m1 b0 b1
        have hfit : Fits true (numS ((r.drop k).take p) c) m ↔ (sg c / 2 ^ (m - 7 * p - 1) = 0 ∨ sg c / 2 ^ (m - 7 * p - 1) = -1) := by unfold Fits; rw [if_pos rfl, hov]
        rw [hext, hfit] at hgf
        have hlow := low_take hpc c0 c2
        by_cases hf : sg c / 2 ^ (m - 7 * p - 1) = 0 ∨ sg c / 2 ^ (m - 7 * p - 1) = -1
        · have hbu := bdS (c := sg c) l0 l1 (b := m - 1) (by omega) (by rw [show m - 1 - 7 * p = m - 7 * p - 1 by omega]; exact hf)
          have hm := mono2 (a := m - 1) (b := 63) (by omega)
          have e63 : (2 : Int) ^ 63 = 9223372036854775808 := rfl
          have e : numS ((r.drop k).take p) c = low ((r.drop k).take p) + sg c * 2 ^ (7 * p) := by unfold numS; rw [hlen]
          refine ⟨numS ((r.drop k).take p) c, k + (p + 1), 0, by omega, by omega, fun A cap B w h => ri_ok r A cap B k m p c w h.lies hb h.room h.most hk m1 m2 hp hpM2 hpc hf, fun A cap B w h => ?_⟩
          refine rr_right r A cap B k m p true _ _ _ w h.lies h.low_ hb h.room h.most hk m1 m2 hp (.inr (.inr (.inr ⟨hpM2, by omega, ?_, ?_, rfl, rfl⟩)))
          · rw [hlow]; exact hgf.2 hf
          · rw [hlow, hext]
        · refine ⟨0, 0, 3, by omega, by omega, fun A cap B w h => ri_far r A cap B k m p c w h.lies hb h.room h.most hk m1 m2 hp hpM2 hpc hf, fun A cap B w h => ?_⟩
          refine rr_right r A cap B k m p true _ _ _ w h.lies h.low_ hb h.room h.most hk m1 m2 hp (.inr (.inr (.inl ⟨hpM2, by omega, ?_, rfl, rfl, rfl⟩)))
          rw [hlow]; exact fun hg => hf (hgf.1 hg)
end Go.Proofs.Ytjgghgfljkpemaa
