/- What is written is read back: numbers, types, limits, globals. Of no program but for what a reading is. -/
import Derived.Test.YtmjcbliobjmmfaaLimit
import Derived.Test.YtmjcbliobjmmfaaBack
namespace Go.Proofs.Ytmjcbliobjmmfaa
open Go.RowKit
set_option linter.unusedVariables false

theorem Stop.unique {M : Nat} {r : List Int} {p q : Nat} (h : Stop M r p) (g : Stop M r q) : p = q := by
  have key : ∀ {p q : Nat}, Stop M r p → Stop M r q → ¬ p < q := by
    intro p q h g hlt
    have h1 := g.leM
    have h2 := g.leR
    have e : r[p]? = some r[p] := List.getElem?_eq_getElem (by omega)
    have a := g.on p _ hlt e
    have b := h.off _ (by omega) e
    omega
  have a := key h g
  have b := key g h
  omega
theorem drop_past {l a r : List UInt8} {k : Nat} (h : l.drop k = a ++ r) : l.drop (k + a.length) = r := by
  rw [← List.drop_drop, h, List.drop_left]
theorem byteR_at {l r : List UInt8} {k : Nat} {c : UInt8} (h : l.drop k = c :: r) : byteR l k = .ok c (k + 1) := by
  have e : l[k]? = some c := by
    have := congrArg (·[0]?) h
    simpa using this
  unfold byteR
  rw [e]
theorem uintR_at {l r : List UInt8} {k n : Nat} {x : Int} (h : l.drop k = lebL x ++ r) (h0 : 0 ≤ x) (h1 : x < 2 ^ n) (n1 : 1 ≤ n) (n2 : n ≤ 64) : uintR l k n = .ok x (k + (lebL x).length) := by
  have m64 := mono2 n2
  have e64 : (2 : Int) ^ 64 = 18446744073709551616 := rfl
  have hna := lebN_least x (by omega)
  have hlen := lebL_length x
  have hnl := nums_lebL x
  obtain ⟨p, c, he, hg, hx, c0, c1, hf, hp⟩ := least_u h0 h1 n1 n2 hna
  rw [he] at hlen hnl
  rw [he] at hg
  have hd : (nums l).drop k = grps x p ++ c :: nums r := by
    have : (nums l).drop k = nums (l.drop k) := by unfold nums; rw [List.map_drop]
    rw [this, h, nums_append, hnl, hg]
    simp
  have hq : onN l k n = p := by
    have := onN_stop l k n
    rw [hd] at this
    exact this.unique (grps_stop x p _ c _ c1 (by omega))
  unfold uintR
  rw [if_pos ⟨n1, n2⟩, hq, if_neg (by omega), hd, grps_at]
  simp only
  rw [if_pos hf, grps_take, hlen]
  have e : numU (grps x p) c = x := by unfold numU; rw [low_grps, grps_length]; exact hx
  rw [e]
theorem indexR_at {l r : List UInt8} {k : Nat} {x : Int} (h : l.drop k = lebL x ++ r) (h0 : 0 ≤ x) (h1 : x ≤ 4294967295) : indexR l k = .ok x (k + (lebL x).length) :=
  uintR_at h h0 (by show x < 4294967296; omega) (by omega) (by omega)
theorem countR_at {l r : List UInt8} {k : Nat} {x : Int} (h : l.drop k = lebL x ++ r) (h0 : 0 ≤ x) (h1 : x ≤ 10000) : countR l k = .ok x (k + (lebL x).length) := by
  unfold countR atMostR
  rw [indexR_at h h0 (by omega), Res.bind_ok, if_pos h1]
theorem valR_at {l r : List UInt8} {k : Nat} {c : UInt8} (h : l.drop k = c :: r) (hc : valueZ c.toNat = 0) : valR l k = .ok c (k + 1) := by
  unfold valR
  rw [byteR_at h, Res.bind_ok, if_pos hc]
theorem valuesZ_cons {c : UInt8} {t : List UInt8} (h : valuesZ (c :: t) = 0) : valueZ c.toNat = 0 ∧ valuesZ t = 0 := by
  unfold valuesZ at h
  by_cases hc : valueZ c.toNat = 0
  · rw [if_pos hc] at h; exact ⟨hc, h⟩
  · rw [if_neg hc] at h; exact absurd h hc
theorem valsK_at {l : List UInt8} : ∀ (t r : List UInt8) (k : Nat) (acc : List UInt8), l.drop k = t ++ r → valuesZ t = 0 → valsK l t.length k acc = .ok (acc ++ t) (k + t.length)
  | [], r, k, acc, _, _ => by simp [valsK]
  | c :: t, r, k, acc, h, hv => by
    obtain ⟨h1, h2⟩ := valuesZ_cons hv
    have hd : l.drop (k + 1) = t ++ r := drop_past (a := [c]) (by simpa using h)
    have ih := valsK_at t r (k + 1) (acc ++ [c]) hd h2
    show (valR l k).bind _ = _
    rw [valR_at (by simpa using h) h1, Res.bind_ok, ih, List.append_assoc]
    simp only [List.singleton_append, List.length_cons]
    congr 1
    omega
theorem valsR_at {l t r : List UInt8} {k : Nat} (h : l.drop k = lebL t.length ++ t ++ r) (hv : valuesZ t = 0) (hl : t.length ≤ 10000) : valsR l k = .ok t (k + (lebL t.length).length + t.length) := by
  unfold valsR
  rw [List.append_assoc] at h
  rw [countR_at h (by omega) (by omega), Res.bind_ok, Int.toNat_natCast, valsK_at t r _ [] (drop_past h) hv]
  rfl
theorem funcZ_zero {p r : List UInt8} (h : funcZ p r = 0) : p.length ≤ 1000 ∧ r.length ≤ 1 ∧ valuesZ p = 0 ∧ valuesZ r = 0 := by
  unfold funcZ at h
  by_cases h1 : 1000 < p.length ∨ 1 < r.length
  · rw [if_pos h1] at h; cases h
  · rw [if_neg h1] at h
    by_cases h2 : valuesZ p = 0
    · rw [if_pos h2] at h; exact ⟨by omega, by omega, h2, h⟩
    · rw [if_neg h2] at h; exact absurd h h2
theorem funcR_at {l p r s : List UInt8} {k : Nat} (h : l.drop k = encL p r ++ s) (hz : funcZ p r = 0) : funcR l k = .ok (p, r) (k + (encL p r).length) := by
  obtain ⟨h1, h2, h3, h4⟩ := funcZ_zero hz
  have e : l.drop k = 96 :: ((lebL p.length ++ p ++ (lebL r.length ++ r ++ s))) := by rw [h]; unfold encL; simp
  have d1 : l.drop (k + 1) = lebL p.length ++ p ++ (lebL r.length ++ r ++ s) := drop_past (a := [96]) (by simpa using e)
  have d2 : l.drop (k + 1 + (lebL p.length).length + p.length) = lebL r.length ++ r ++ s := by
    have := drop_past (a := lebL p.length ++ p) d1
    rw [List.length_append, ← Nat.add_assoc] at this
    exact this
  unfold funcR tagR
  rw [byteR_at e, Res.bind_ok, if_pos (by rfl), Res.bind_ok, valsR_at d1 h3 (by omega), Res.bind_ok, valsR_at d2 h4 (by omega), Res.bind_ok, if_pos hz]
  congr 1
  unfold encL
  simp only [List.length_append, List.length_cons, List.length_nil]
  omega
theorem flagR_at {l r : List UInt8} {k : Nat} (m : Bool) (h : l.drop k = (if m then 1 else 0) :: r) : flagR l k = .ok m (k + 1) := by
  unfold flagR
  rw [byteR_at h, Res.bind_ok]
  cases m
  · rfl
  · rfl
theorem limR_at {l s : List UInt8} {k : Nat} {a b : Int} {c : Bool} (h : l.drop k = encLim a b c ++ s) (a0 : 0 ≤ a) (a1 : a ≤ 4294967295) (b0 : 0 ≤ b) (b1 : b ≤ 4294967295) (hc : c = false → b = 0) :
    limR l k = .ok (a, b, c) (k + (encLim a b c).length) := by
  unfold limR
  cases c with
  | false =>
    obtain rfl := hc rfl
    have e : l.drop k = 0 :: (lebL a ++ s) := by rw [h]; unfold encLim; simp
    have d1 : l.drop (k + 1) = lebL a ++ s := drop_past (a := [0]) (by simpa using e)
    rw [flagR_at false (by simpa using e), Res.bind_ok, indexR_at d1 a0 a1, Res.bind_ok, if_neg (by simp)]
    congr 1
    unfold encLim
    simp only [Bool.false_eq_true, if_false, List.length_append, List.length_cons, List.length_nil]
    omega
  | true =>
    have e : l.drop k = 1 :: (lebL a ++ (lebL b ++ s)) := by rw [h]; unfold encLim; simp
    have d1 : l.drop (k + 1) = lebL a ++ (lebL b ++ s) := drop_past (a := [1]) (by simpa using e)
    have d2 := drop_past d1
    rw [flagR_at true (by simpa using e), Res.bind_ok, indexR_at d1 a0 a1, Res.bind_ok, if_pos rfl, indexR_at d2 b0 b1, Res.bind_ok]
    congr 1
    unfold encLim
    simp only [if_true, List.length_append, List.length_cons, List.length_nil]
    omega
theorem globR_at {l s : List UInt8} {k : Nat} {c : UInt8} {m : Bool} (h : l.drop k = encG c.toNat m ++ s) (hc : valueZ c.toNat = 0) : globR l k = .ok (c, m) (k + 2) := by
  have e : l.drop k = c :: ((if m then 1 else 0) :: s) := by rw [h]; unfold encG; simp
  have d1 : l.drop (k + 1) = (if m then 1 else 0) :: s := drop_past (a := [c]) (by simpa using e)
  unfold globR
  rw [valR_at e hc, Res.bind_ok, flagR_at m d1, Res.bind_ok]
end Go.Proofs.Ytmjcbliobjmmfaa

