/- valTypes. -/
import Derived.Test.YtmjcbliobjmmfaaParts
import Derived.Laws.MakeOwn
namespace Go.Proofs.Ytmjcbliobjmmfaa
open Go.RowKit
set_option linter.unusedVariables false

abbrev encS (t : List UInt8) : Value := .string (S t)
/-- n more types, behind those that were read. -/
def valsK (l : List UInt8) : Nat → Nat → List UInt8 → Res (List UInt8)
  | 0, k, acc => .ok acc k
  | n + 1, k, acc => (valR l k).bind fun c k' => valsK l n k' (acc ++ [c])
/-- How many types there are, and these. -/
noncomputable def valsR (l : List UInt8) (k : Nat) : Res (List UInt8) := (countR l k).bind fun n k' => valsK l n.toNat k' []
theorem valsK_more {l : List UInt8} {n i k : Nat} {acc : List UInt8} (h : i < n) : valsK l (n - i) k acc = (valR l k).bind fun c k' => valsK l (n - (i + 1)) k' (acc ++ [c]) := by
  rw [show n - i = n - (i + 1) + 1 by omega]
  rfl
theorem countR_ok {l : List UInt8} {k : Nat} {v : Int} {k' : Nat} (h : countR l k = .ok v k') : 0 ≤ v ∧ v ≤ 10000 := by
  unfold countR atMostR at h
  cases hr : indexR l k with
  | ok u q =>
    rw [hr, Res.bind_ok] at h
    have hb := uintR_ok (show uintR l k 32 = .ok u q from hr)
    by_cases hm : u ≤ 10000
    · rw [if_pos hm] at h; injection h with h1 h2; omega
    · rw [if_neg hm] at h; cases h
  | err c a => rw [hr, Res.bind_err] at h; cases h

/-- Cells that are made, of one kind. -/
theorem made_one (v : Value) (n : Nat) : madeCells #[v] n = Array.replicate n v := by
  apply Array.ext
  · simp [madeCells]
  · intro i h1 h2
    simp [madeCells, Nat.mod_one]
theorem make_bytes (n : Nat) (hn : n ≤ 100000) (w : World) : (Instr.makeSlice 32 (.int .i64 (n : Int)) (.int .i64 (n : Int))).run Try.prog w = .ok (.slice (some ⟨w.heap.size, 0, none⟩) n n) (w.alloc (.cells (List.replicate n (.int .u8 0)).toArray 5)) := by
  obtain ⟨i0, hi0, hz0, hz1, hz2⟩ := info_parts infoB
  have hr := run_make (P := Try.prog) w 32 5 i0 _ Try.underlying32 hi0 hz0 .i64 .i64 (n : Int) (n : Int) (by omega) (Int.le_refl _) (by rw [hz2]; omega) (by omega)
  rw [hr, hz1]
  have e : (Value.int IntKind.u8 0).cells = #[.int .u8 0] := rfl
  rw [e, made_one]
  simp
/-- A block of n bytes, of which the first are written. -/
def Part (w : World) (g n : Nat) (acc : List UInt8) : Prop := Whole w g 5 (cells (nums acc) ++ List.replicate (n - acc.length) (Value.int .u8 0)).toArray ∧ acc.length ≤ n
theorem Part.start (w : World) (n : Nat) : Part (w.alloc (.cells (List.replicate n (.int .u8 0)).toArray 5)) w.heap.size n [] := ⟨Whole.made _ _ _, Nat.zero_le _⟩
theorem Part.put {w : World} {g n : Nat} {acc : List UInt8} (h : Part w g n acc) (c : UInt8) (hlt : acc.length < n) : Part (w.setCell ⟨g, acc.length, none⟩ (.int .u8 c.toNat)) g n (acc ++ [c]) := by
  refine ⟨?_, by simp; omega⟩
  have h1 := h.1.put acc.length (.int .u8 c.toNat)
  have e : ((cells (nums acc) ++ List.replicate (n - acc.length) (Value.int .u8 0)).toArray.setIfInBounds acc.length (.int .u8 c.toNat)) = (cells (nums (acc ++ [c])) ++ List.replicate (n - (acc ++ [c]).length) (Value.int .u8 0)).toArray := by
    have hl : (cells (nums acc)).length = acc.length := by rw [cells_length, nums_length]
    have hr : List.replicate (n - acc.length) (Value.int .u8 0) = .int .u8 0 :: List.replicate (n - (acc.length + 1)) (.int .u8 0) := by
      rw [show n - acc.length = n - (acc.length + 1) + 1 by omega]; rfl
    rw [hr, List.setIfInBounds_toArray, List.set_append_right _ _ (by omega), hl, Nat.sub_self, List.set_cons_zero, nums_append]
    simp [cells, nums]
  rw [e] at h1
  exact h1
theorem Part.row {w : World} {g n : Nat} {acc : List UInt8} (h : Part w g n acc) (hn : acc.length = n) (base : Nat) (hb : base ≤ g) (hm : n ≤ 100000) : Row w base (.slice (some ⟨g, 0, none⟩) n n) acc := by
  subst hn
  have h1 := h.1
  rw [Nat.sub_self, List.replicate_zero, List.append_nil] at h1
  have hl : (cells (nums acc)).length = acc.length := by rw [cells_length, nums_length]
  exact ⟨by omega, .inr ⟨g, acc.length, (cells (nums acc)).toArray, rfl, hb, h1, Nat.le_refl _, by unfold maxLen; omega, by simp [hl], by rw [List.take_of_length_le (by simp [hl])]⟩⟩
theorem Part.cell {w : World} {g n : Nat} {acc : List UInt8} (h : Part w g n acc) (hlt : acc.length < n) : ∃ u, w.cell? ⟨g, acc.length, none⟩ = some u := by
  have hl : (cells (nums acc)).length = acc.length := by rw [cells_length, nums_length]
  exact ⟨_, (h.1.cell acc.length).trans (Array.getElem?_eq_getElem (by simp [hl]; omega))⟩
set_option maxHeartbeats 1000000 in
theorem valTypes_scan {w : World} {p : Nat} {l : List UInt8} {k : Nat} (h : Sc w p l k) :
    Calls Try.prog 31 #[.pointer (some ⟨p, 0, none⟩)] w (Did encS p l w (valsR l k)) := by
  have hN := count_scan h
  unfold valsR
  cases hr : countR l k with
  | err c2 a =>
    rw [hr] at hN
    rw [Res.bind_err]
    have HN := Lib.hid hN
    clear hN hr h
    go_enter Try.func31, Try.ntmps31
    go_wp2_with (go_at_call 39; go_must ((with_reducible refine HN.out.mono ?_); rintro e w1 ⟨rfl, hg⟩; have HG := Lib.hid hg; clear hg))
    exact ⟨rfl, rfl, HG.out⟩
  | ok v k1 =>
    rw [hr] at hN
    rw [Res.bind_ok]
    obtain ⟨v0, v1⟩ := countR_ok hr
    obtain ⟨n, rfl⟩ : ∃ n : Nat, v = n := ⟨v.toNat, by omega⟩
    rw [Int.toNat_natCast]
    have HN := Lib.hid hN
    have hmk := make_bytes n (by omega)
    have hp := h.lt
    obtain ⟨R, hR⟩ : ∃ R, R = valsK l n k1 [] := ⟨_, rfl⟩
    rw [← hR]
    have HR := Lib.hid hR
    clear hN hr h hR
    go_enter Try.func31, Try.ntmps31
    go_wp2_with (go_at_call 39; go_must ((with_reducible refine HN.out.mono ?_); rintro e w1 ⟨rfl, hs, hg⟩; have HS := Lib.hid hs; have HG := Lib.hid hg; have hz := hg.size; clear hs hg))
    clear hmk
    go_loopw [10] (fun i wr => ∃ (j q : Nat) (acc : List UInt8), i = .int .i64 j ∧ acc.length = j ∧ valsK l (n - j) q acc = R ∧ Sc wr p l q ∧ Part wr w1.heap.size n acc ∧ w.grownBy wr (some p)) (fun i _ => n - (intOf i).toNat)
    case atStart => exact ⟨0, k1, [], rfl, rfl, HR.out.symm, HS.out.alloc _, Part.start _ _, gb_alloc HG.out _⟩
    case round =>
      obtain ⟨j, q, acc, rfl, hj, hv, hs, hpt, hg⟩ := hrel
      have hle : acc.length ≤ n := hpt.2
      by_cases hlt : j < n
      · rw [valsK_more hlt] at hv
        have hV := val_scan hs
        cases hc : valR l q with
        | ok c q2 =>
          rw [hc] at hV hv
          rw [Res.bind_ok] at hv
          have HV := Lib.hid hV
          have HVV := Lib.hid hv
          have HS2 := Lib.hid hs
          have HP2 := Lib.hid hpt
          have HG2 := Lib.hid hg
          have HJ := Lib.hid hj
          clear hV hv hc hs hpt hg hj
          go_wp2_with (go_at_call 36; go_must ((with_reducible refine HV.out.mono ?_); rintro e w2 ⟨rfl, hs, hg⟩; have HP3 := Lib.hid (show Part w2 w1.heap.size n acc from ⟨HP2.out.1.grown hg (by simp only [ne_eq, Option.some.injEq]; omega), HP2.out.2⟩); obtain ⟨u, hu⟩ := HP3.out.cell (by have := HJ.out; omega); rw [HJ.out] at hu; have hf := HP3.out.1.frozen j; have HS3 := Lib.hid hs; have HG3 := Lib.hid hg; clear hs hg))
          have HE : Hid (Part (w2.setCell ⟨w1.heap.size, j, none⟩ (.int .u8 c.toNat)) w1.heap.size n (acc ++ [c])) := by
            have := HP3.out.put c (by have := HJ.out; omega)
            rw [HJ.out] at this
            exact this
          go_roundw
          case rel => exact ⟨j + 1, q2, acc ++ [c], by go_num, by have := HJ.out; simp; omega, HVV.out, HS3.out.grown (gb_put (p := ⟨w1.heap.size, j, none⟩) (gb_refl w2 _) (.inl rfl) _) (by simp only [ne_eq, Option.some.injEq]; omega) (fun g e => by injection e with e; have e2 : w1.heap.size = g := e; omega), HE.out, gb_put (p := ⟨w1.heap.size, j, none⟩) (gb_trans HG2.out HG3.out) (.inr hz) _⟩
          case measure => simp [intOf]; omega
        | err c a =>
          rw [hc] at hV hv
          rw [Res.bind_err] at hv
          have HV := Lib.hid hV
          subst hv
          have HG2 := Lib.hid hg
          clear hV hc hs hpt hg hj
          go_wp2_with (go_at_call 36; go_must ((with_reducible refine HV.out.mono ?_); rintro e w2 ⟨rfl, hg⟩; have HG3 := Lib.hid hg; clear hg))
          exact ⟨rfl, rfl, gb_trans HG2.out HG3.out⟩
      · obtain rfl : j = n := by omega
        rw [Nat.sub_self] at hv
        have hrow := hpt.row hj 0 (Nat.zero_le _) (by omega)
        obtain ⟨A, c, hA, hcv⟩ := hrow.str
        rw [hj] at hA hcv
        injection hA with e1 e2 e3
        subst e1; subst e3
        subst hv
        have HS2 := Lib.hid hs
        have HG2 := Lib.hid hg
        clear hrow hs hg hpt hj e2 HR
        go_wp2
        go_ret
        exact ⟨rfl, HS2.out, HG2.out⟩
end Go.Proofs.Ytmjcbliobjmmfaa

