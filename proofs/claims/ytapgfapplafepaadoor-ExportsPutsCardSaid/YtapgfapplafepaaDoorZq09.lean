/- types.Cut, Zero; creelref04.Cut; types.EncodeGlobal, creelref04.EncodeGlobal. -/
import Derived.Test.YtapgfapplafepaaDoorZq04
import Derived.Test.YtapgfapplafepaaDoorZq03
import Derived.WalkSpells
import Derived.Laws.MakeOwn
import Derived.Test.YtapgfapplafepaaDoorZq01
import Derived.Test.YtapgfapplafepaaDoorZq02
import Derived.Test.YtapgfapplafepaaDoorZq08
import Derived.Deep.QuietTactic
import Derived.BigQuiet
import Derived.StillTailTactics
import Derived.Deep.DeepMust
import Derived.Test.YtapgfapplafepaaDoorZq06
import Derived.Deep.CutBlock
import Derived.Deep.DeepCutAuto
namespace Go.Proofs.YtapgfapplafepaaDoor
set_option linter.unusedVariables false
set_option maxRecDepth 100000
open Go.RowKit

/-- A value, by its type and number. -/
abbrev vv (t n : Int) : Value := .agg #[.int .u8 t, .int .u64 n]
def cutZ (t n : Int) : Int := if t = 127 then n % 4294967296 else n
def rightB (t n : Int) : Bool := decide (valueZ t = 0) && decide (cutZ t n = n)
theorem and_low (n : Int) (h0 : 0 ≤ n) (h1 : n ≤ 18446744073709551615) : bits .and .u64 n 4294967295 = n % 4294967296 := by
  have e1 : (BitVec.ofInt 64 n).toNat = n.toNat := by
    rw [BitVec.toNat_ofInt]
    show (n % 18446744073709551616).toNat = _
    rw [Int.emod_eq_of_lt h0 (by omega)]
  have e2 : (BitVec.ofInt 64 4294967295).toNat = 2 ^ 32 - 1 := by decide
  show IntKind.u64.wrap ((BitVec.ofInt 64 n &&& BitVec.ofInt 64 4294967295).toNat : Nat) = _
  rw [BitVec.toNat_and, e1, e2, Nat.and_two_pow_sub_one_eq_mod]
  simp only [IntKind.wrap, IntKind.bits, IntKind.signed]
  simp
  omega

theorem below_two (w : World) (o o' : Obj) : Below w.heap.size w ((w.alloc o).alloc o') := (below_box w o).alloc (by simp) _
/-- A global's type, by value. -/
abbrev gv (t : Int) (m : Bool) : Value := .agg #[.int .u8 t, .bool m]
theorem two_of {w W W' : World} {u v : Value} {t : TypeId} (h : Boxed w (.cells #[u, v] t) W ∧ W.cell? ⟨w.heap.size, 0, none⟩ = some u ∧ W.cell? ⟨w.heap.size, 1, none⟩ = some v) (hb : Below W.heap.size W W') :
    Boxed w (.cells #[u, v] t) W' ∧ W'.cell? ⟨w.heap.size, 0, none⟩ = some u ∧ W'.cell? ⟨w.heap.size, 1, none⟩ = some v := ⟨h.1.on hb, (h.1.on hb).row 0, (h.1.on hb).row 1⟩
theorem encG_new (w : World) (t : Int) (m : Bool) (h0 : 0 ≤ t) (h1 : t ≤ 255) (B H : Nat) (hH : w.heap.size = H) (hb : B ≤ H) :
    Row (w.alloc (.cells #[.int .u8 t, .int .u8 (if m then 1 else 0)] 5)) B (.slice (some ⟨H, 0, none⟩) 2 2) (encG t m) := by
  have h := Row.made w (encG t m) B H hH hb (by simp [encG])
  rw [nums_encG t m h0 h1] at h
  exact h
set_option maxHeartbeats 1000000 in
theorem encG_any (t : Int) (m : Bool) (w : World) (h0 : 0 ≤ t) (h1 : t ≤ 255) : Calls Tryd.prog 81 #[gv t m] w (BytesL (encG t m) w) := by
  have FL := Lib.hid (fun w => flag_any m w)
  obtain ⟨f, hf⟩ : ∃ f : Int, f = if m then 1 else 0 := ⟨_, rfl⟩
  have RA := Lib.hid (fun w' B H hH hb => encG_new w' t m h0 h1 B H hH hb)
  rw [← hf] at RA FL
  clear hf
  go_enter Tryd.func81, Tryd.ntmps81
  go_wp2
  go_region_held3 (fun W => Boxed w (.cells #[.int .u8 t, .bool m] 26) W ∧ W.cell? ⟨w.heap.size, 0, none⟩ = some (.int .u8 t) ∧ W.cell? ⟨w.heap.size, 1, none⟩ = some (.bool m))
    (first | assumption | (exact ⟨Boxed.start _ _, (Boxed.start _ _).row 0, (Boxed.start _ _).row 1⟩) | (exact two_of (by assumption) (below_box _ _)))
    (first | (go_at_call 101; ((with_reducible refine (FL.out _).mono ?_); rintro e w' ⟨rfl, rfl⟩)))
  go_wp2
  go_ret
  exact ⟨_, rfl, Row.drew (RA.out (w.alloc _) w.heap.size (w.heap.size + 1) (by simp) (by omega)), (below_two _ _ _).drew⟩
theorem encG_str (w : World) (t : Int) (m : Bool) (h0 : 0 ≤ t) (h1 : t ≤ 255) (H : Nat) (hH : w.heap.size = H) :
    ∀ dst, Tryd.prog.underlying dst = some .string → (convert 31 dst (.slice (some ⟨H, 0, none⟩) 2 2)).run Tryd.prog (w.alloc (.cells #[.int .u8 t, .int .u8 (if m then 1 else 0)] 5)) = .ok (.string (S (encG t m))) (w.alloc (.cells #[.int .u8 t, .int .u8 (if m then 1 else 0)] 5)) := by
  obtain ⟨A, c, e, hs⟩ := (encG_new w t m h0 h1 H H hH (Nat.le_refl _)).str
  injection e with e1 e2 e3
  subst e1; subst e3
  exact hs
theorem refEncG_any (t : Int) (m : Bool) (w : World) (h0 : 0 ≤ t) (h1 : t ≤ 255) : Calls Tryd.prog 68 #[gv t m] w fun e w' => e = .returned (.string (S (encG t m))) ∧ Below w.heap.size w w' := by
  cases m
  · have hs := encG_str (w.alloc (.cells #[.int .u8 t, .bool false] 26)) t false h0 h1 (w.heap.size + 1) (by simp)
    simp only [Bool.false_eq_true, if_false] at hs
    go_enter Tryd.func68, Tryd.ntmps68
    go_wp2
    go_ret
    exact ⟨rfl, below_two _ _ _⟩
  · have hs := encG_str (w.alloc (.cells #[.int .u8 t, .bool true] 26)) t true h0 h1 (w.heap.size + 1) (by simp)
    simp only [if_true] at hs
    go_enter Tryd.func68, Tryd.ntmps68
    go_wp2
    go_ret
    exact ⟨rfl, below_two _ _ _⟩
end Go.Proofs.YtapgfapplafepaaDoor

/- leb.Int and creelref02.Int (from the leb layer): the least number of groups of seven bits. -/
namespace Go.Proofs.YtapgfapplafepaaDoor
set_option linter.unusedVariables false
open Go.RowKit
set_option maxRecDepth 100000

theorem no_moreS {x : Int} {k : Nat} (h : ∀ m, 1 ≤ m → m ≤ k → ¬ fitS x m) (hq : x / 128 ^ k < -64 ∨ 64 ≤ x / 128 ^ k) : ∀ m, 1 ≤ m → m ≤ k + 1 → ¬ fitS x m := by
  intro m h1 h2 h3
  rcases Nat.lt_or_ge m (k + 1) with g | g
  · exact h m h1 (by omega) h3
  · obtain rfl : m = k + 1 := by omega
    obtain ⟨a, b⟩ : -64 ≤ x / 128 ^ k ∧ x / 128 ^ k < 64 := h3
    omega
theorem bytes_endS {x q : Int} {n k : Nat} {w w2 : World} {v : Value} (hq : q = x / 128 ^ k) (hn : Least (fitS x) n) (hno : ∀ m, 1 ≤ m → m ≤ k → ¬ fitS x m) (hf : -64 ≤ q) (hf2 : q < 64)
    (ho : w2.ownsRow w.heap.size 5 1 v (k + 1) (cells (grps x k) ++ [.int .u8 (q % 128)])) (hb : Below w.heap.size w w2) : Bytes (grp x n) w (.returned v) w2 := by
  have hk : Least (fitS x) (k + 1) := ⟨by omega, by show -64 ≤ x / 128 ^ k ∧ x / 128 ^ k < 64; omega, fun m h1 h2 => hno m h1 (by omega)⟩
  obtain rfl := hk.unique hn
  have e : cells (grp x (k + 1)) = cells (grps x k) ++ [.int .u8 (q % 128)] := by rw [grp_snoc, cells_snoc, ← hq]
  exact bytes_own (by rw [e]; exact ho) (grp_length _ _) hb
theorem div_small {x q : Int} {k : Nat} (h0 : -9223372036854775808 ≤ x) (h1 : x ≤ 9223372036854775807) (hq : q = x / 128 ^ k) : -9223372036854775808 ≤ q ∧ q ≤ 9223372036854775807 := by
  have hp := p128 k
  subst hq
  refine ⟨(Int.le_ediv_iff_mul_le hp).2 ?_, ?_⟩
  · have := Int.mul_le_mul_of_nonneg_left (show (1 : Int) ≤ 128 ^ k by omega) (show (0 : Int) ≤ 9223372036854775808 by omega)
    omega
  · rcases Int.lt_or_le x 0 with g | g
    · have := Int.ediv_neg_of_neg_of_pos g hp; omega
    · exact Int.le_trans (Int.ediv_le_self _ g) h1

theorem fitS_any {x : Int} (h0 : -9223372036854775808 ≤ x) (h1 : x ≤ 9223372036854775807) (k : Nat) (a : 1 ≤ k) (b : k ≤ 9) : fitS x k ↔ anyB x (bit x 63) (7 * k - 1) 64 = false := by
  rw [any_none]; exact fitS_bits (by show -9223372036854775808 ≤ x; omega) (by show x < 9223372036854775808; omega) a b
theorem mod64_bit (x : Int) (j : Nat) (hj : j < 64) : bit (x % 18446744073709551616) j = bit x j := by
  unfold bit
  have e : (18446744073709551616 : Int) = 2 ^ j * 2 * 2 ^ (63 - j) := by
    rw [show (2 : Int) ^ j * 2 = 2 ^ (j + 1) from (Int.pow_succ 2 j).symm, ← Int.pow_add, show j + 1 + (63 - j) = 64 by omega]; rfl
  have hp := p2 j
  have e2 : x = x % 18446744073709551616 + 2 ^ j * (2 * 2 ^ (63 - j) * (x / 18446744073709551616)) := by
    rw [← Int.mul_assoc, ← Int.mul_assoc, ← e]; exact (Int.emod_add_mul_ediv x _).symm
  generalize x % 18446744073709551616 = y at *
  generalize x / 18446744073709551616 = z at *
  rw [e2, Int.add_mul_ediv_left _ _ (Int.ne_of_gt hp), Int.mul_assoc 2]
  congr 1
  omega
theorem bools_mod (x : Int) : bools (x % 18446744073709551616) 64 = bools x 64 := by
  unfold bools
  apply List.map_congr_left
  intro j hj
  rw [mod64_bit x j (List.mem_range.1 hj)]
theorem sign_bits {x : Int} (h0 : -9223372036854775808 ≤ x) (h1 : x ≤ 9223372036854775807) (j : Nat) (hj : 63 ≤ j) : bit x j = bit x 63 := by
  have h : x / 2 ^ 63 = 0 ∨ x / 2 ^ 63 = -1 := by
    show x / 9223372036854775808 = 0 ∨ x / 9223372036854775808 = -1
    omega
  rcases h with h | h
  · rw [from_same (a := 63) (t := false) (by simpa using h) j hj, from_same (a := 63) (t := false) (by simpa using h) 63 (by omega)]
  · rw [from_same (a := 63) (t := true) (by simpa using h) j hj, from_same (a := 63) (t := true) (by simpa using h) 63 (by omega)]

end Go.Proofs.YtapgfapplafepaaDoor

/- leb.Uint, leb.Int: what they hand back is a row of the call's own; a signed number's bytes. (By gen/genOwn.py from the leb layer.) -/
namespace Go.Proofs.YtapgfapplafepaaDoor
open Go.RowKit
set_option linter.unusedVariables false
set_option maxRecDepth 100000

def Owned (l : List Int) (w : World) (e : Ending) (w' : World) : Prop := ∃ v, e = .returned v ∧ w'.ownsRow w.heap.size 5 1 v l.length (cells l) ∧ Below w.heap.size w w'
theorem owned_own {w w' : World} {n : Nat} {v : Value} {l : List Int} (h : w'.ownsRow w.heap.size 5 1 v n (cells l)) (hn : l.length = n) (hb : Below w.heap.size w w') : Owned l w (.returned v) w' := by
  subst hn
  exact ⟨v, rfl, h, hb⟩
theorem own_end {x q : Int} {n k : Nat} {w w2 : World} {v : Value} (hq : q = x / 128 ^ k) (hn : Least (fitU x) n) (hno : ∀ m, 1 ≤ m → m ≤ k → ¬ fitU x m) (hf : q < 128)
    (ho : w2.ownsRow w.heap.size 5 1 v (k + 1) (cells (grps x k) ++ [.int .u8 q])) (hb : Below w.heap.size w w2) (h0 : 0 ≤ q) : Owned (grp x n) w (.returned v) w2 := by
  have hk : Least (fitU x) (k + 1) := ⟨by omega, by show x / 128 ^ k < 128; omega, fun m h1 h2 => hno m h1 (by omega)⟩
  obtain rfl := hk.unique hn
  have e : cells (grp x (k + 1)) = cells (grps x k) ++ [.int .u8 q] := by rw [grp_snoc, cells_snoc, ← hq, show q % 128 = q by omega]
  exact owned_own (by rw [e]; exact ho) (grp_length _ _) hb

set_option maxHeartbeats 400000 in
theorem uint_own (x : Int) (w : World) (h0 : 0 ≤ x) (h1 : x ≤ 18446744073709551615) {n : Nat} (hn : Least (fitU x) n) :
    Calls Tryd.prog 73 #[.int .u64 x] w (Owned (grp x n) w) := by
  have h10 : n ≤ 10 := hn.le (by omega) (fitU_ten x (by omega))
  obtain ⟨i0, hi0, hz0, hz1, hz2⟩ := info_parts infoB
  have HN := Lib.hid hn
  clear hn
  go_enter Tryd.func73, Tryd.ntmps73
  go_wp2_with (first
    | (go_at_call 100; go_must (refine (size_any _ _ h0 h1 HN.out).mono ?_; rintro e w' ⟨rfl, rfl⟩))
    | (at_make; refine wpList_make_own _ rfl _ _ _ rfl w.heap.size 5 i0 _ 1 Tryd.underlying31 hi0 hz0 hz1 .i64 .i64 _ n rfl rfl rfl (by rw [hz2]; omega) (by unfold maxLen; omega) (Nat.le_refl _) ?_; intro w1 hown1 hgrow1))
  have hbe1 : Below w.heap.size w w1 := below_of_gb hgrow1
  have HO := Lib.hid hown1
  have HB := Lib.hid hbe1
  clear hown1 hgrow1 hbe1
  go_loopw [3, 0] (fun b v wr => ∃ k : Nat, v = .int .u64 (x / 128 ^ k) ∧ wr.ownsRow w.heap.size 5 1 b k (cells (grps x k)) ∧ Below w.heap.size w wr ∧ ∀ m, 1 ≤ m → m ≤ k → ¬ fitU x m) (fun _ v _ => (intOf v).toNat)
  case atStart => exact ⟨0, by simp, HO.out, HB.out, fun m h1 h2 => by omega⟩
  case round =>
    obtain ⟨k, rfl, hown, hbe, hno⟩ := hrel
    obtain ⟨q, hq⟩ : ∃ q, q = x / 128 ^ k := ⟨_, rfl⟩
    have hq0 : 0 ≤ q := by rw [hq]; exact Int.ediv_nonneg h0 (Int.le_of_lt (p128 _))
    have hq1 : q ≤ 18446744073709551615 := by rw [hq]; exact Int.le_trans (Int.ediv_le_self _ h0) h1
    have hk : k ≤ 9 := by
      rcases Nat.lt_or_ge k 10 with g | g
      · omega
      · exact absurd (fitU_ten x (by omega)) (hno 10 (by omega) g)
    have hsz := hbe.size
    rw [← hq]
    have HQ := Lib.hid hq
    have HBE := Lib.hid hbe
    have HNO := Lib.hid hno
    have hor : bits .or .u8 (q % 256) 128 = q % 128 + 128 := byte_or q
    clear hq hbe hno
    by_cases hlt : 128 ≤ q
    · go_wp2_with (at_builtin; refine wpList_append_own _ rfl _ _ _ rfl w.heap.size 5 i0 _ 1 1 Tryd.underlying31 hi0 hz0 hz1 hz2 rfl (by omega) _ _ _ rfl (hown.alloc _) ⟨wr.heap.size, 0, none⟩ 1 1 [.int .u8 (q % 128 + 128)] rfl rfl (World.news_of_block (cs := #[.int .u8 (q % 128 + 128)]) (t := 5) (fr := (0, 0)) (heap_alloc_new wr _)) (by simp [Value.oneCell']) (by unfold maxLen; omega) (by omega) (by simp; omega) ?_; intro v' w2 hown2 hgrow2 _; have HO2 := Lib.hid hown2; have HG2 := Lib.hid hgrow2; clear hown2 hgrow2)
      go_roundw
      case rel => exact ⟨k + 1, by rw [pow_out, HQ.out], by rw [grps_snoc, cells_snoc, ← HQ.out]; exact HO2.out, below_append HBE.out hown HG2.out, no_more HNO.out (by rw [← HQ.out]; omega)⟩
      case measure => simp [intOf]; omega
    · go_wp2_with (at_builtin; refine wpList_append_own _ rfl _ _ _ rfl w.heap.size 5 i0 _ 1 1 Tryd.underlying31 hi0 hz0 hz1 hz2 rfl (by omega) _ _ _ rfl (hown.alloc _) ⟨wr.heap.size, 0, none⟩ 1 1 [.int .u8 q] rfl rfl (World.news_of_block (cs := #[.int .u8 q]) (t := 5) (fr := (0, 0)) (heap_alloc_new wr _)) (by simp [Value.oneCell']) (by unfold maxLen; omega) (by omega) (by simp; omega) ?_; intro v' w2 hown2 hgrow2 _; have HO2 := Lib.hid hown2; have HG2 := Lib.hid hgrow2; clear hown2 hgrow2)
      go_ret
      exact own_end HQ.out HN.out HNO.out (by omega) HO2.out (below_append HBE.out hown HG2.out) hq0

theorem own_endS {x q : Int} {n k : Nat} {w w2 : World} {v : Value} (hq : q = x / 128 ^ k) (hn : Least (fitS x) n) (hno : ∀ m, 1 ≤ m → m ≤ k → ¬ fitS x m) (hf : -64 ≤ q) (hf2 : q < 64)
    (ho : w2.ownsRow w.heap.size 5 1 v (k + 1) (cells (grps x k) ++ [.int .u8 (q % 128)])) (hb : Below w.heap.size w w2) : Owned (grp x n) w (.returned v) w2 := by
  have hk : Least (fitS x) (k + 1) := ⟨by omega, by show -64 ≤ x / 128 ^ k ∧ x / 128 ^ k < 64; omega, fun m h1 h2 => hno m h1 (by omega)⟩
  obtain rfl := hk.unique hn
  have e : cells (grp x (k + 1)) = cells (grps x k) ++ [.int .u8 (q % 128)] := by rw [grp_snoc, cells_snoc, ← hq]
  exact owned_own (by rw [e]; exact ho) (grp_length _ _) hb
theorem leastS (x : Int) (h0 : -9223372036854775808 ≤ x) (h1 : x ≤ 9223372036854775807) : ∃ n, Least (fitS x) n := least_find _ 10 (by omega) (fitS_ten x h0 (by omega))
/-- How many bytes a number with a sign takes. -/
noncomputable def sebN (x : Int) : Nat := if h : -9223372036854775808 ≤ x ∧ x ≤ 9223372036854775807 then (leastS x h.1 h.2).choose else 1
/-- A number's bytes, with a sign. -/
noncomputable def sebL (x : Int) : List UInt8 := (grp x (sebN x)).map fun c => UInt8.ofNat c.toNat
theorem sebN_least (x : Int) (h0 : -9223372036854775808 ≤ x) (h1 : x ≤ 9223372036854775807) : Least (fitS x) (sebN x) := by
  unfold sebN
  rw [dif_pos ⟨h0, h1⟩]
  exact (leastS x h0 h1).choose_spec
theorem nums_grp (x : Int) (n : Nat) : nums ((grp x n).map fun c => UInt8.ofNat c.toNat) = grp x n := by
  unfold nums
  rw [List.map_map]
  conv => rhs; rw [← List.map_id (grp x n)]
  apply List.map_congr_left
  intro c hc
  have := grp_bytes x _ c hc
  simp
  omega
theorem nums_sebL (x : Int) : nums (sebL x) = grp x (sebN x) := nums_grp x _
theorem sebL_length (x : Int) : (sebL x).length = sebN x := by unfold sebL; rw [List.length_map, grp_length]
theorem sebL_len (x : Int) (h0 : -9223372036854775808 ≤ x) (h1 : x ≤ 9223372036854775807) : 1 ≤ (sebL x).length ∧ (sebL x).length ≤ 10 := by
  rw [sebL_length]
  have h2 := sebN_least x h0 h1
  exact ⟨h2.1, h2.le (by omega) (fitS_ten x h0 (by omega))⟩
theorem bytesL_of {xs : List Int} {l : List UInt8} {w w' : World} {e : Ending} (h : Owned xs w e w') (hl : nums l = xs) : BytesL l w e w' := by
  obtain ⟨v, rfl, h1, h2⟩ := h
  subst hl
  rw [nums_length] at h1
  exact ⟨v, rfl, h1, h2⟩
theorem uintB (x : Int) (w : World) (h0 : 0 ≤ x) (h1 : x ≤ 18446744073709551615) : Calls Tryd.prog 73 #[.int .u64 x] w (BytesL (lebL x) w) :=
  (uint_own x w h0 h1 (lebN_least x h1)).mono fun _ _ h => bytesL_of h (nums_lebL x)
end Go.Proofs.YtapgfapplafepaaDoor

/- wire.Size, Name, Kind; small facts on fields. -/
namespace Go.Proofs.YtapgfapplafepaaDoor
open Go.RowKit Go.Lib
set_option linter.unusedVariables false
set_option maxRecDepth 100000

theorem be_of {a : Nat} {b : Int} {c : Bool} (h : decide ((a : Int) = b) = c) : ((a : Int) == b) = c := by rw [← h]; rfl
theorem nb_of {a : Nat} {b : Int} {c : Bool} (h : decide ((a : Int) ≠ b) = c) : ((a : Int) != b) = c := by rw [← h]; by_cases e : (a : Int) = b <;> simp [bne, e]
theorem zb_of {a : Int} {c : Bool} (h : decide (a ≠ 0) = c) : (a != 0) = c := by rw [← h]; by_cases e : a = 0 <;> simp [bne, e]
theorem i8_of {a b : UInt8} (h : (a.toNat : Int) = b.toNat) : a = b := UInt8.toNat_inj.1 (by omega)
theorem i32_of {a b : UInt32} (h : (a.toNat : Int) = b.toNat) : a = b := UInt32.toNat_inj.1 (by omega)
theorem three_boxes (w : World) (o1 o2 o3 : Obj) : Below w.heap.size w (((w.alloc o1).alloc o2).alloc o3) :=
  (((Below.refl _ _).alloc (Nat.le_refl _) o1).alloc (Nat.le_trans (Nat.le_refl _) (below_box w o1).size) o2).alloc (Nat.le_trans (below_box w o1).size (below_box (w.alloc o1) o2).size) o3
theorem S_beqM (a b : List UInt8) : ((S a).toList == (S b).toList) = decide (a = b) := by rw [S_toList, S_toList]; by_cases h : a = b <;> simp [h]
theorem ret_pair {v : Value} {a b : Int} (h : a = b) : Ending.returned (.tuple #[v, .int .i64 a]) = .returned (.tuple #[v, .int .i64 b]) := by rw [h]
noncomputable def nmL (s : List UInt8) : List UInt8 := lebL s.length ++ s
theorem u32_le (a : UInt32) : (a.toNat : Int) ≤ 4294967295 := by have := a.toNat_lt; omega
theorem u8_le (a : UInt8) : (a.toNat : Int) ≤ 255 := by have := a.toNat_lt; omega
theorem nmL_len {s : List UInt8} {n : Nat} (h : s.length ≤ n) (hn : n ≤ 100000) : 1 ≤ (nmL s).length ∧ (nmL s).length ≤ n + 10 := by
  have := lebL_len (s.length : Int) (by omega)
  unfold nmL
  rw [List.length_append]
  omega
theorem size_w (n : Nat) (w : World) (hn : n ≤ 1000000) : Calls Tryd.prog 79 #[.int .i64 n] w (BytesL (lebL n) w) := by
  have HU := Lib.hid (fun w => uintB (n : Int) w (by omega) (by omega))
  have wn : IntKind.u64.wrap (n : Int) = n := by simp [IntKind.wrap, IntKind.bits, IntKind.signed]; omega
  generalize lebL (n : Int) = y at *
  go_enter Tryd.func79, Tryd.ntmps79
  go_wp2_with (go_at_call 73; go_must ((with_reducible refine (HU.out _).mono ?_); intro e w1 h; obtain ⟨v, rfl, hr, hb⟩ := h; have HR := Lib.hid hr; have HB := Lib.hid hb; clear hr hb))
  go_ret
  exact ⟨_, rfl, HR.out, HB.out⟩
theorem name_w (s : List UInt8) (w : World) (hs : s.length ≤ 100000) : Calls Tryd.prog 51 #[.string (S s)] w (BytesL (nmL s) w) := by
  have HZ := Lib.hid (fun w => size_w s.length w (by omega))
  have hlen := lebL_len (s.length : Int) (by omega)
  have hsz := S_size s
  unfold nmL
  generalize lebL (s.length : Int) = y at *
  go_enter Tryd.func51, Tryd.ntmps51
  go_wp2_with (first
    | (go_at_call 79; go_must ((with_reducible refine (HZ.out _).mono ?_); intro e w1 h; obtain ⟨v, rfl, hr, hb⟩ := h; have HR := Lib.hid hr; have HB := Lib.hid hb; have hz1 := hb.size; clear hr hb))
    | (at_builtin; (refine row_str rfl _ _ rfl w.heap.size _ y rfl HR.out s rfl (by omega) hz1 ?_; intro v2 w2 hr2 hb2; have HR2 := Lib.hid hr2; have HB2 := Lib.hid hb2; clear hr2 hb2)))
  go_ret
  exact ⟨_, rfl, HR2.out, HB.out.trans HB2.out⟩
theorem nk_ok {w : World} {p : Nat} {l : List UInt8} {k k1 : Nat} {c : UInt8} (h : Sc w p l k) (h1 : byteR l k = .ok c k1) (hc : c.toNat ≤ 3) :
    Calls Tryd.prog 60 #[.pointer (some ⟨p, 0, none⟩)] w fun e w' => e = .returned (.int .u8 c.toNat) ∧ Sc w' p l k1 ∧ w.grownBy w' (some p) := by
  have HA := Lib.hid (at_any h)
  have hB := byte_any h
  rw [h1] at hB
  have HB := Lib.hid hB
  have d1 : decide ((c.toNat : Int) ≤ 3) = true := decide_eq_true (by omega)
  clear hB h1 h hc
  go_enter Tryd.func60, Tryd.ntmps60
  go_wp2_with (first
    | (go_at_call 90; go_must ((with_reducible refine HA.out.mono ?_); rintro e w1 ⟨rfl, rfl⟩))
    | (go_at_call 91; go_must ((with_reducible refine HB.out.mono ?_); rintro e w1 ⟨rfl, hs, hg⟩; have HS := Lib.hid hs; have HG := Lib.hid hg; clear hs hg))
    | (go_at_call 88; go_must ((with_reducible refine (unlessT _ _ _).mono ?_); rintro e w' ⟨rfl, rfl⟩)))
  go_ret
  exact ⟨rfl, HS.out, HG.out⟩

theorem nameR_at {l s r : List UInt8} {k : Nat} (h : l.drop k = nmL s ++ r) (hs : s.length ≤ 200) (hv : validD s = true) : nameR l k = .ok s (k + (nmL s).length) := by
  unfold nmL at h ⊢
  rw [List.append_assoc] at h
  have m1 := lebL_len (s.length : Int) (by omega)
  have hd := drop_past h
  have e1 := congrArg List.length h
  have e2 := congrArg List.length hd
  simp only [List.length_drop, List.length_append] at e1 e2
  unfold nameR atMostR
  rw [indexR_at h (by omega) (by omega), Res.bind_ok, if_pos (by omega), Res.bind_ok, Int.toNat_natCast, hd, List.take_left, if_pos (by omega), if_pos hv, List.length_append, Nat.add_assoc]
theorem checkZ_zero {s : List UInt8} (h : checkZ s = 0) : s.length ≤ 200 ∧ validD s = true := by
  unfold checkZ at h
  split at h
  · omega
  · split at h
    · exact ⟨by omega, by assumption⟩
    · omega
theorem lebL_sm (x : Int) (h0 : 0 ≤ x) (h1 : x < 128) : lebL x = [UInt8.ofNat x.toNat] := by
  have hn : lebN x = 1 := (lebN_least x (by omega)).unique ⟨Nat.le_refl _, by unfold fitU; simpa using h1, fun m a b => by omega⟩
  unfold lebL
  rw [hn]
  simp [grp]
  congr 2
  omega
end Go.Proofs.YtapgfapplafepaaDoor

/- Exports as plain data; creelref11.Same; a box that holds one. -/
namespace Go.Proofs.YtapgfapplafepaaDoor
open Go.RowKit
set_option linter.unusedVariables false
set_option maxRecDepth 100000

/-- An export. -/
structure Ex where
  nam : List UInt8
  kind : UInt8
  idx : UInt32
  deriving DecidableEq
/-- Its cells. -/
abbrev exC (x : Ex) : Array Value := #[.string (S x.nam), .int .u8 x.kind.toNat, .int .u32 x.idx.toNat]
abbrev exV (x : Ex) : Value := .agg (exC x)
abbrev exZ : Ex := ⟨[], 0, 0⟩
theorem exC_zero : exC exZ = #[.string { data := #[] }, .int .u8 0, .int .u32 0] := rfl
theorem put3 {w : World} {b : Nat} {t : TypeId} {x0 x1 x2 u0 u1 u2 : Value} (hb : Whole w b t #[x0, x1, x2]) :
    Whole (((w.setCell ⟨b, 0, none⟩ u0).setCell ⟨b, 1, none⟩ u1).setCell ⟨b, 2, none⟩ u2) b t #[u0, u1, u2] ∧ w.grownBy (((w.setCell ⟨b, 0, none⟩ u0).setCell ⟨b, 1, none⟩ u1).setCell ⟨b, 2, none⟩ u2) (some b) := three_put hb
/-- What lies in a block that holds an export. -/
theorem Whole.ex {w : World} {b : Nat} {t : TypeId} {x : Ex} (h : Whole w b t (exC x)) :
    w.cell? ⟨b, 0, none⟩ = some (.string (S x.nam)) ∧ w.cell? ⟨b, 1, none⟩ = some (.int .u8 x.kind.toNat) ∧ w.cell? ⟨b, 2, none⟩ = some (.int .u32 x.idx.toNat) := ⟨h.cell 0, h.cell 1, h.cell 2⟩
theorem ex_ext {x y : Ex} (h0 : (S x.nam).toList = (S y.nam).toList) (h1 : (x.kind.toNat : Int) = y.kind.toNat) (h2 : (x.idx.toNat : Int) = y.idx.toNat) : x = y := by
  rw [S_toList, S_toList] at h0
  obtain ⟨a0, a1, a2⟩ := x
  obtain ⟨b0, b1, b2⟩ := y
  simp only at h0 h1 h2
  obtain rfl := i8_of h1
  obtain rfl := i32_of h2
  subst h0
  rfl
theorem eq_ex (x y : Ex) (w : World) : (binOp BinOp.eql 62 (exV x) (exV y)).run Tryd.prog w = .ok (.bool (decide (x = y))) w := by
  go_simp
  repeat' split
  · rw [decide_eq_true (ex_ext (by assumption) (by assumption) (by assumption))]
  all_goals (rw [decide_eq_false (fun h => by subst h; first | (exact absurd rfl (by assumption)) | (rename_i q; exact q rfl))])
theorem neq_ex (x y : Ex) (w : World) : (binOp BinOp.neq 62 (exV x) (exV y)).run Tryd.prog w = .ok (.bool (!decide (x = y))) w := by
  go_simp
  repeat' split
  · rw [decide_eq_true (ex_ext (by assumption) (by assumption) (by assumption))]
    rfl
  all_goals (rw [decide_eq_false (fun h => by subst h; first | (exact absurd rfl (by assumption)) | (rename_i q; exact q rfl))]; rfl)
set_option maxHeartbeats 2000000 in
theorem refSame_ex (x y : Ex) (w : World) : Calls Tryd.prog 36 #[exV x, exV y] w fun e w' => e = .returned (.bool (decide (x = y))) ∧ Below w.heap.size w w' := by
  have hb : ∀ o1 o2 : Obj, Below w.heap.size w ((w.alloc o1).alloc o2) := fun o1 o2 => (below_box w o1).alloc (by simp) _
  have he := fun W => eq_ex x y W
  go_enter Tryd.func36, Tryd.ntmps36
  go_wp2
  go_ret
  exact ⟨rfl, hb _ _⟩
/-- A block that holds an export, in a world grown from B: what is held of it. -/
abbrev BxE (B : World) (b : Nat) (x : Ex) (W : World) : Prop := (Whole W b 62 (exC x) ∧ Below B.heap.size B W) ∧
  W.cell? ⟨b, 0, none⟩ = some (.string (S x.nam)) ∧ W.cell? ⟨b, 1, none⟩ = some (.int .u8 x.kind.toNat) ∧ W.cell? ⟨b, 2, none⟩ = some (.int .u32 x.idx.toNat)
section
variable {B W W' : World} {b : Nat} {x : Ex}
theorem bxE_on (h : BxE B b x W) (hb : Below W.heap.size W W') : BxE B b x W' := ⟨⟨h.1.1.below hb, h.1.2.trans (hb.mono h.1.2.size)⟩, (h.1.1.below hb).ex⟩
theorem bxE_start (w : World) (x : Ex) : BxE w w.heap.size x (w.alloc (.cells (exC x) 62)) := ⟨⟨Whole.made _ _ _, below_box _ _⟩, (Whole.made w 62 (exC x)).ex⟩
theorem bxE_bel (h : BxE B b x W) : Below B.heap.size B W := h.1.2
end
/-- May it be? -/
def rE (x : Ex) : Int := if checkZ x.nam ≠ 0 then checkZ x.nam else if 3 < x.kind.toNat then 43 else 0
theorem rE_zero {x : Ex} (h : rE x = 0) : checkZ x.nam = 0 ∧ x.kind.toNat ≤ 3 := by
  unfold rE at h
  by_cases c1 : checkZ x.nam = 0
  · rw [if_neg (by simpa using c1)] at h
    by_cases c3 : 3 < x.kind.toNat
    · rw [if_pos c3] at h; omega
    · exact ⟨c1, by omega⟩
  · rw [if_pos c1] at h; exact absurd h c1
set_option maxHeartbeats 2000000 in
theorem eright_any (x : Ex) (w : World) (h1 : x.nam.length ≤ 1000000) (hT : Tabs w) :
    Calls Tryd.prog 31 #[exV x] w fun e w' => e = .returned (.int .i64 (rE x)) ∧ Below w.heap.size w w' := by
  have HC1 := Lib.hid (check_any x.nam _ h1 (hT.below (below_box w (.cells (exC x) 62))))
  have H0 := Lib.hid (bxE_start w x)
  clear hT h1
  by_cases z1 : checkZ x.nam = 0
  · rw [z1] at HC1
    by_cases k3 : 3 < x.kind.toNat
    · have hr : rE x = 43 := by unfold rE; rw [if_neg (by simpa using z1), if_pos k3]
      rw [hr]
      have d3 : decide ((3 : Int) < (x.kind.toNat : Int)) = true := decide_eq_true (by omega)
      clear hr k3 z1
      go_enter Tryd.func31, Tryd.ntmps31
      go_wp2_with (go_at_call 53; go_must ((with_reducible refine HC1.out.mono ?_); rintro e w1 ⟨rfl, hb⟩; have H1 := Lib.hid (bxE_on H0.out hb); have c1 := H1.out.1.1.cell 1; simp only [List.getElem?_toArray, List.getElem?_cons_zero, List.getElem?_cons_succ] at c1; clear hb))
      go_ret
      exact ⟨rfl, bxE_bel H1.out⟩
    · have hr : rE x = 0 := by unfold rE; rw [if_neg (by simpa using z1), if_neg k3]
      rw [hr]
      have d3 : decide ((3 : Int) < (x.kind.toNat : Int)) = false := decide_eq_false (by omega)
      clear hr k3 z1
      go_enter Tryd.func31, Tryd.ntmps31
      go_wp2_with (go_at_call 53; go_must ((with_reducible refine HC1.out.mono ?_); rintro e w1 ⟨rfl, hb⟩; have H1 := Lib.hid (bxE_on H0.out hb); have c1 := H1.out.1.1.cell 1; simp only [List.getElem?_toArray, List.getElem?_cons_zero, List.getElem?_cons_succ] at c1; clear hb))
      go_ret
      exact ⟨rfl, bxE_bel H1.out⟩
  · have hr : rE x = checkZ x.nam := by unfold rE; rw [if_pos z1]
    rw [hr]
    have dz : (checkZ x.nam != 0) = true := zb_of (by simpa using z1)
    clear hr z1
    generalize checkZ x.nam = z at *
    go_enter Tryd.func31, Tryd.ntmps31
    go_wp2_with (go_at_call 53; go_must ((with_reducible refine HC1.out.mono ?_); rintro e w1 ⟨rfl, hb⟩; have H1 := Lib.hid (bxE_on H0.out hb); clear hb))
    go_ret
    exact ⟨rfl, bxE_bel H1.out⟩
end Go.Proofs.YtapgfapplafepaaDoor

/- sect.Put. -/
namespace Go.Proofs.YtapgfapplafepaaDoor
open Go.RowKit
set_option linter.unusedVariables false
set_option maxRecDepth 100000

/-- A section's contents as they are written, and all its bytes. -/
noncomputable def innerL (x : Sct) : List UInt8 := if x.id.toNat = 0 then lebL x.name.length ++ x.name ++ x.body else x.body
noncomputable def sputL (x : Sct) : List UInt8 := [x.id] ++ lebL (innerL x).length ++ innerL x
def secV (x : Sct) (A : Option Addr) (c : Nat) : Value := .agg #[.int .u8 x.id.toNat, .string (S x.name), .slice A x.body.length c, .int .i64 x.off]
def secK (x : Sct) (A : Option Addr) (c : Nat) : Array Value := #[.int .u8 x.id.toNat, .string (S x.name), .slice A x.body.length c, .int .i64 x.off]
theorem innerL_len {x : Sct} {n : Nat} (h1 : x.name.length ≤ n) (h2 : x.body.length ≤ n) (hn : n ≤ 100000) : (innerL x).length ≤ 2 * n + 10 := by
  have h := lebL_len (x.name.length : Int) (by omega)
  unfold innerL
  split
  · simp only [List.length_append]; omega
  · omega
theorem sputL_len {x : Sct} {n : Nat} (h1 : x.name.length ≤ n) (h2 : x.body.length ≤ n) (hn : n ≤ 100000) : 2 ≤ (sputL x).length ∧ (sputL x).length ≤ 2 * n + 21 := by
  have h := innerL_len h1 h2 hn
  have h3 := lebL_len ((innerL x).length : Int) (by omega)
  unfold sputL
  simp only [List.length_append, List.length_singleton]
  omega
section
variable {w : World} {ops : Array Oper} {o : Oper} {a : Act} {K : Act → World → Prop} {Q : Exit → Act → World → Prop} {E : Prop}
theorem step_build1 (hgd : o.guard = none) (x : Operand) (ho : o.op = .buildSlice 31 1 #[(0, x)]) (c : UInt8) (hx : a.eval x = .int .u8 c.toNat)
    (h : ∀ g wa, w.heap.size ≤ g → Below w.heap.size w wa → Pc (some ⟨g, 0, none⟩) 1 [c] wa → K (a.put o.dst (.slice (some ⟨g, 0, none⟩) 1 1)) wa) :
    if Region.wanted o (yielded ops a.tmps) = true then Oper.wp Tryd.prog o a w K Q else E := by
  have hl := lies_made w [c] (0, 0)
  refine step_value (v := .slice (some ⟨w.heap.size, 0, none⟩) 1 1) (w' := w.alloc (.cells (cells (nums [c])).toArray 5)) hgd ?_ (h _ _ (Nat.le_refl _) (below_box w _) ⟨by rw [size_box]; exact hl, fun e => by cases e⟩)
  cases o
  subst ho
  clear h
  generalize a.eval = ev at hx ⊢
  simp [go_sem, hx, cells, nums]
theorem step_build3 (hgd : o.guard = none) (x0 x1 x2 : Operand) (ho : o.op = .buildSlice 118 3 #[(0, x0), (1, x1), (2, x2)]) {A0 A1 A2 : Option Addr} {n0 n1 n2 c0 c1 c2 : Nat} (h0 : a.eval x0 = .slice A0 n0 c0) (h1 : a.eval x1 = .slice A1 n1 c1) (h2 : a.eval x2 = .slice A2 n2 c2)
    (h : ∀ g wa, w.heap.size ≤ g → Below w.heap.size w wa → Whole wa g 31 #[.slice A0 n0 c0, .slice A1 n1 c1, .slice A2 n2 c2] → K (a.put o.dst (.slice (some ⟨g, 0, none⟩) 3 3)) wa) :
    if Region.wanted o (yielded ops a.tmps) = true then Oper.wp Tryd.prog o a w K Q else E := by
  refine step_value (v := .slice (some ⟨w.heap.size, 0, none⟩) 3 3) (w' := w.alloc (.cells #[.slice A0 n0 c0, .slice A1 n1 c1, .slice A2 n2 c2] 31)) hgd ?_ (h _ _ (Nat.le_refl _) (below_box w _) (Whole.made _ _ _))
  cases o
  subst ho
  clear h
  generalize a.eval = ev at h0 h1 h2 ⊢
  simp [go_sem, h0, h1, h2]
/-- []byte(s), as bytes that lie somewhere. -/
theorem step_convP (hgd : o.guard = none) (x : Operand) (ho : o.op = .convert 9 31 x) (l : List UInt8) (hx : a.eval x = .string (S l))
    (h : ∀ A cap wc, Below w.heap.size w wc → Pc A cap l wc → K (a.put o.dst (.slice A l.length cap)) wc) :
    if Region.wanted o (yielded ops a.tmps) = true then Oper.wp Tryd.prog o a w K Q else E :=
  step_conv hgd x ho l hx fun g cap wc _ _ _ hb hl => h _ _ _ hb ⟨hl, fun e => by cases e⟩
end
/-- []byte(s), behind the walk's own simplifying. -/
theorem upon_conv {o : Oper} {a : Act} {K : Act → World → Prop} {Q : Exit → Act → World → Prop} {W : World} {l : List UInt8} (h : ∀ A cap wc, Below W.heap.size W wc → Pc A cap l wc → K (a.put o.dst (.slice A l.length cap)) wc) :
    Oper.upon Tryd.prog o a K Q (((convert 9 31 (.string (S l))).run Tryd.prog W).andThen fun v w' => Result.ok (Next.value v) w') := by
  rw [conv_run (S l) W]
  have := h (some ⟨W.heap.size, 0, none⟩) (grownCap W (S l).size 0 5) (W.drew.alloc (convRow W (S l))) ((Below.refl _ _).drew.alloc (Nat.le_refl _) _) ⟨(conv_lies W l).more (by simp), fun e => by cases e⟩
  rw [← S_size] at this
  exact this
theorem hold2 {W W' : World} {X : Nat} {a b : Value} {W0 : World} (h : W.cell? ⟨X, 1, none⟩ = some a ∧ W.cell? ⟨X, 2, none⟩ = some b ∧ Below W0.heap.size W0 W) (hb : Below W.heap.size W W') : W'.cell? ⟨X, 1, none⟩ = some a ∧ W'.cell? ⟨X, 2, none⟩ = some b ∧ Below W0.heap.size W0 W' :=
  ⟨(hb.cell (p := ⟨X, 1, none⟩) (block_lt_of_cell h.1)).trans h.1, (hb.cell (p := ⟨X, 2, none⟩) (block_lt_of_cell h.2.1)).trans h.2.1, h.2.2.trans (hb.mono h.2.2.size)⟩
theorem hold1 {W W' : World} {X : Nat} {a : Value} {W0 : World} (h : W.cell? ⟨X, 0, none⟩ = some a ∧ Below W0.heap.size W0 W) (hb : Below W.heap.size W W') : W'.cell? ⟨X, 0, none⟩ = some a ∧ Below W0.heap.size W0 W' :=
  ⟨(hb.cell (p := ⟨X, 0, none⟩) (block_lt_of_cell h.1)).trans h.1, h.2.trans (hb.mono h.2.size)⟩
end Go.Proofs.YtapgfapplafepaaDoor

/- exports.Put. -/
namespace Go.Proofs.YtapgfapplafepaaDoor
open Go.RowKit
set_option linter.unusedVariables false
set_option maxRecDepth 100000

/-- Its bytes. -/
noncomputable def eputL (x : Ex) : List UInt8 := nmL x.nam ++ [x.kind] ++ lebL x.idx.toNat
theorem eputL_len {x : Ex} {n : Nat} (h1 : x.nam.length ≤ n) (hn : n ≤ 100000) : 3 ≤ (eputL x).length ∧ (eputL x).length ≤ n + 21 := by
  have m1 := nmL_len h1 hn
  have m2 := lebL_len (x.idx.toNat : Int) (by have := u32_le x.idx; omega)
  unfold eputL
  simp only [List.length_append, List.length_singleton]
  omega
/-- What Put hands back. -/
def PuttedE (x : Ex) (w : World) (e : Ending) (w' : World) : Prop := ∃ v, e = .returned (.tuple #[v, .int .i64 (rE x)]) ∧ Row w' w.heap.size v (if rE x = 0 then eputL x else []) ∧ Below w.heap.size w w'
set_option maxHeartbeats 8000000 in
theorem put_ex (x : Ex) (w : World) (hT : Tabs w) (h1 : x.nam.length ≤ 100000) :
    Calls Tryd.prog 30 #[exV x] w (PuttedE x w) := by
  have H0 := Lib.hid (bxE_start w x)
  have HR := Lib.hid (eright_any x _ (by omega) (hT.below (below_box w (.cells (exC x) 62))))
  unfold PuttedE
  obtain ⟨z, hz⟩ : ∃ z, z = rE x := ⟨_, rfl⟩
  rw [← hz] at HR ⊢
  by_cases h0 : z = 0
  · rw [if_pos h0]
    subst h0
    have hsp : eputL x = nmL x.nam ++ [x.kind] ++ lebL x.idx.toNat := rfl
    have hn1 := nmL_len h1 (by omega)
    have hn3 := lebL_len (x.idx.toNat : Int) (by have := u32_le x.idx; omega)
    have wn : IntKind.u64.wrap (x.idx.toNat : Int) = x.idx.toNat := by have := u32_le x.idx; simp [IntKind.wrap, IntKind.bits, IntKind.signed]; omega
    have HN1 := Lib.hid (fun w => name_w x.nam w h1)
    have HU := Lib.hid (fun w => uintB (x.idx.toNat : Int) w (by omega) (by have := u32_le x.idx; omega))
    generalize nmL x.nam = y1 at *
    generalize lebL (x.idx.toNat : Int) = y3 at *
    have HSP := Lib.hid hsp
    have HS := Lib.hid (show 0 < y1.length + ([x.kind] : List UInt8).length + y3.length ∧ y1.length + ([x.kind] : List UInt8).length + y3.length ≤ 1000000 by rw [List.length_singleton]; omega)
    clear hz hT h1 hsp hn1 hn3
    go_enter Tryd.func30, Tryd.ntmps30
    go_upto_region 4 with (go_at_call 31; go_must ((with_reducible refine HR.out.mono ?_); rintro e w1 ⟨rfl, hb⟩; have H1 := Lib.hid (bxE_on H0.out hb); clear hb))
    have hB := bxE_on H1.out (Below.refl _ _).drew
    clear H0 HR H1
    refine wp_region_noPanic ?_
    refine wp_region_held_drew (S := fun W => BxE w w.heap.size x W) (by kernel_rfl) hB (fun hHeld => ?_)
    clear hB
    (refine heldTake (i := 0) (oi := { dst := some 10, op := Op.fieldAddr 62 (Operand.tmp 1) 0, type := 0, pos := "exports.go:30", after := #[], guard := none }) (v := ?_) rfl (by kernel_rfl) (by kernel_rfl) (by kernel_rfl) (by assumption) ?_ ?_; rotate_left; focus (refine .inl ⟨by kernel_rfl, ?_⟩; intro w hSw; (try dsimp only at hSw); go_simp; (try with_reducible rfl)); (try simp only [Act.put, List.setIfInBounds_toArray, List.set_cons_zero, List.set_cons_succ]))
    (refine heldTake (i := 1) (oi := { dst := some 11, op := Op.load 9 (Operand.tmp 10), type := 9, pos := "exports.go:30", after := #[{ on := 0, ground := Ground.data }], guard := none }) (v := ?_) rfl (by kernel_rfl) (by kernel_rfl) (by kernel_rfl) (by assumption) ?_ ?_; rotate_left; focus (refine .inl ⟨by kernel_rfl, ?_⟩; intro w hSw; (try dsimp only at hSw); go_simp; (try with_reducible rfl)); (try simp only [Act.put, List.setIfInBounds_toArray, List.set_cons_zero, List.set_cons_succ]))
    (refine heldTake (i := 3) (oi := { dst := some 13, op := Op.fieldAddr 62 (Operand.tmp 1) 1, type := 0, pos := "exports.go:30", after := #[], guard := none }) (v := ?_) rfl (by kernel_rfl) (by kernel_rfl) (by kernel_rfl) (by assumption) ?_ ?_; rotate_left; focus (refine .inl ⟨by kernel_rfl, ?_⟩; intro w hSw; (try dsimp only at hSw); go_simp; (try with_reducible rfl)); (try simp only [Act.put, List.setIfInBounds_toArray, List.set_cons_zero, List.set_cons_succ]))
    (refine heldTake (i := 4) (oi := { dst := some 14, op := Op.load 5 (Operand.tmp 13), type := 5, pos := "exports.go:30", after := #[{ on := 3, ground := Ground.data }], guard := none }) (v := ?_) rfl (by kernel_rfl) (by kernel_rfl) (by kernel_rfl) (by assumption) ?_ ?_; rotate_left; focus (refine .inl ⟨by kernel_rfl, ?_⟩; intro w hSw; (try dsimp only at hSw); go_simp; (try with_reducible rfl)); (try simp only [Act.put, List.setIfInBounds_toArray, List.set_cons_zero, List.set_cons_succ]))
    (refine heldTake (i := 6) (oi := { dst := some 16, op := Op.fieldAddr 62 (Operand.tmp 1) 2, type := 0, pos := "exports.go:30", after := #[], guard := none }) (v := ?_) rfl (by kernel_rfl) (by kernel_rfl) (by kernel_rfl) (by assumption) ?_ ?_; rotate_left; focus (refine .inl ⟨by kernel_rfl, ?_⟩; intro w hSw; (try dsimp only at hSw); go_simp; (try with_reducible rfl)); (try simp only [Act.put, List.setIfInBounds_toArray, List.set_cons_zero, List.set_cons_succ]))
    (refine heldTake (i := 7) (oi := { dst := some 17, op := Op.load 22 (Operand.tmp 16), type := 22, pos := "exports.go:30", after := #[{ on := 6, ground := Ground.data }], guard := none }) (v := ?_) rfl (by kernel_rfl) (by kernel_rfl) (by kernel_rfl) (by assumption) ?_ ?_; rotate_left; focus (refine .inl ⟨by kernel_rfl, ?_⟩; intro w hSw; (try dsimp only at hSw); go_simp; (try with_reducible rfl)); (try simp only [Act.put, List.setIfInBounds_toArray, List.set_cons_zero, List.set_cons_succ]))
    (refine heldTake (i := 8) (oi := { dst := some 18, op := Op.convert 22 112 (Operand.tmp 17), type := 112, pos := "exports.go:30", after := #[{ on := 7, ground := Ground.data }], guard := none }) (v := ?_) rfl (by kernel_rfl) (by kernel_rfl) (by kernel_rfl) (by assumption) ?_ ?_; rotate_left; focus (refine .inl ⟨by kernel_rfl, ?_⟩; intro w hSw; (try dsimp only at hSw); go_simp; (try with_reducible rfl)); (try simp only [Act.put, List.setIfInBounds_toArray, List.set_cons_zero, List.set_cons_succ]))
    refine wpAnyH_ready (rs := [2, 5]) (by kernel_rfl) (by simp) ?_
    refine (AllReadyH.cons (o := { dst := some 12, op := Op.call { callee := Callee.value (Operand.func 51), args := #[Operand.tmp 11], argTypes := #[9] }, type := 31, pos := "exports.go:30", after := #[{ on := 1, ground := Ground.data }], guard := none }) rfl (fun K hK => ?_) (AllReadyH.cons (o := { dst := some 15, op := Op.buildSlice 31 1 #[(0, Operand.tmp 14)], type := 31, pos := "exports.go:30", after := #[{ on := 4, ground := Ground.data }], guard := none }) rfl (fun K hK => ?_) AllReadyH.nil))
    · go_simp
      (go_at_call 51; (with_reducible refine (HN1.out _).mono ?_); rintro e w2 ⟨v2, rfl, hr2, hb2⟩; obtain ⟨A2, c2, rfl, hp2⟩ := hr2.pc; have HB2 := Lib.hid hb2; have HP2 := Lib.hid hp2; clear hb2 hp2 hr2)
      refine hK.out _ _ (bxE_on hHeld HB2.out) (fun hHeld2 => ?_)
      clear hK K hHeld
      (try simp only [Act.put, List.setIfInBounds_toArray, List.set_cons_zero, List.set_cons_succ])
      refine wpAnyH_ready (rs := [5, 9]) (by kernel_rfl) (by simp) ?_
      refine (AllReadyH.cons (o := { dst := some 15, op := Op.buildSlice 31 1 #[(0, Operand.tmp 14)], type := 31, pos := "exports.go:30", after := #[{ on := 4, ground := Ground.data }], guard := none }) rfl (fun K hK => ?_) (AllReadyH.cons (o := { dst := some 19, op := Op.call { callee := Callee.value (Operand.func 73), args := #[Operand.tmp 18], argTypes := #[112] }, type := 31, pos := "exports.go:30", after := #[{ on := 8, ground := Ground.data }, { on := 2, ground := Ground.chain }], guard := none }) rfl (fun K hK => ?_) AllReadyH.nil))
      · refine step_build1 rfl _ rfl x.kind rfl ?_; intro g8 wa8 hg8 hb8 hp8; have HB5 := Lib.hid hb8; have HP5 := Lib.hid hp8; clear hb8 hp8
        refine hK.out _ _ (bxE_on hHeld2 HB5.out) (fun hHeld5 => ?_)
        clear hK K hHeld2
        (try simp only [Act.put, List.setIfInBounds_toArray, List.set_cons_zero, List.set_cons_succ])
        refine wpAnyH_ready (rs := [9]) (by kernel_rfl) (by simp) ?_
        refine (AllReadyH.cons (o := { dst := some 19, op := Op.call { callee := Callee.value (Operand.func 73), args := #[Operand.tmp 18], argTypes := #[112] }, type := 31, pos := "exports.go:30", after := #[{ on := 8, ground := Ground.data }, { on := 2, ground := Ground.chain }], guard := none }) rfl (fun K hK => ?_) AllReadyH.nil)
        go_simp
        (go_at_call 73; (with_reducible refine (HU.out _).mono ?_); rintro e w10 ⟨v10, rfl, hr10, hb10⟩; obtain ⟨A10, c10, rfl, hp10⟩ := hr10.pc; have HB9 := Lib.hid hb10; have HP9 := Lib.hid hp10; clear hb10 hp10 hr10)
        refine hK.out _ _ (bxE_on hHeld5 HB9.out) (fun hHeld9 => ?_)
        clear hK K hHeld5
        (try simp only [Act.put, List.setIfInBounds_toArray, List.set_cons_zero, List.set_cons_succ])
        refine wpAnyH_ready (rs := [10]) (by kernel_rfl) (by simp) ?_
        refine (AllReadyH.cons (o := { dst := some 20, op := Op.buildSlice 118 3 #[(0, Operand.tmp 12), (1, Operand.tmp 15), (2, Operand.tmp 19)], type := 118, pos := "exports.go:30", after := #[{ on := 2, ground := Ground.data }, { on := 5, ground := Ground.data }, { on := 9, ground := Ground.data }], guard := none }) rfl (fun K hK => ?_) AllReadyH.nil)
        refine step_build3 rfl _ _ _ rfl rfl rfl rfl ?_; intro g11 wa11 hg11 hb11 hw11; have HB10 := Lib.hid hb11; have HW10 := Lib.hid hw11; clear hb11 hw11
        refine hK.out _ _ (bxE_on hHeld9 HB10.out) (fun hHeld10 => ?_)
        clear hK K hHeld9
        (try simp only [Act.put, List.setIfInBounds_toArray, List.set_cons_zero, List.set_cons_succ])
        refine wpAnyH_ready (rs := [11]) (by kernel_rfl) (by simp) ?_
        refine (AllReadyH.cons (o := { dst := some 21, op := Op.call { callee := Callee.value (Operand.func 50), args := #[Operand.tmp 20], argTypes := #[118] }, type := 31, pos := "exports.go:30", after := #[{ on := 10, ground := Ground.data }, { on := 9, ground := Ground.chain }], guard := none }) rfl (fun K hK => ?_) AllReadyH.nil)
        go_simp
        (go_at_call 50; (with_reducible refine (concat3 (l2 := [x.kind]) HW10.out (((((((HP2.out).below HB5.out)).below HB9.out)).below HB10.out)) (((((HP5.out).below HB9.out)).below HB10.out)) (((HP9.out).below HB10.out)) HS.out.1 HS.out.2).mono ?_); rintro e w12 ⟨v12, rfl, hr12, hb12⟩; have hz12 := hHeld10.1.2.size; have HB11 := Lib.hid hb12; have HR11 := Lib.hid hr12; clear hb12 hr12)
        refine hK.out _ _ (bxE_on hHeld10 HB11.out) (fun hHeld11 => ?_)
        clear hK K hHeld10
        (try simp only [Act.put, List.setIfInBounds_toArray, List.set_cons_zero, List.set_cons_succ])
        (refine heldTake (i := 12) (oi := { dst := some 2, op := Op.assign (Operand.tmp 21), type := 31, pos := "exports.go:30", after := #[{ on := 11, ground := Ground.data }, { on := 11, ground := Ground.chain }, { on := 0, ground := Ground.phase }, { on := 1, ground := Ground.phase }, { on := 2, ground := Ground.phase }, { on := 3, ground := Ground.phase }, { on := 4, ground := Ground.phase }, { on := 5, ground := Ground.phase }, { on := 6, ground := Ground.phase }, { on := 7, ground := Ground.phase }, { on := 8, ground := Ground.phase }, { on := 9, ground := Ground.phase }, { on := 10, ground := Ground.phase }, { on := 11, ground := Ground.phase }], guard := none }) (v := ?_) rfl (by kernel_rfl) (by kernel_rfl) (by kernel_rfl) (by assumption) ?_ ?_; rotate_left; focus (refine .inl ⟨by kernel_rfl, ?_⟩; intro w hSw; (try dsimp only at hSw); go_simp; (try with_reducible rfl)); (try simp only [Act.put, List.setIfInBounds_toArray, List.set_cons_zero, List.set_cons_succ]))
        (refine heldTake (i := 13) (oi := { dst := some 3, op := Op.assign (Operand.const (Value.int IntKind.i64 0)), type := 32, pos := "exports.go:30", after := #[{ on := 12, ground := Ground.chain }, { on := 0, ground := Ground.phase }, { on := 1, ground := Ground.phase }, { on := 2, ground := Ground.phase }, { on := 3, ground := Ground.phase }, { on := 4, ground := Ground.phase }, { on := 5, ground := Ground.phase }, { on := 6, ground := Ground.phase }, { on := 7, ground := Ground.phase }, { on := 8, ground := Ground.phase }, { on := 9, ground := Ground.phase }, { on := 10, ground := Ground.phase }, { on := 11, ground := Ground.phase }, { on := 12, ground := Ground.phase }], guard := none }) (v := ?_) rfl (by kernel_rfl) (by kernel_rfl) (by kernel_rfl) (by assumption) ?_ ?_; rotate_left; focus (refine .inl ⟨by kernel_rfl, ?_⟩; intro w hSw; (try dsimp only at hSw); go_simp; (try with_reducible rfl)); (try simp only [Act.put, List.setIfInBounds_toArray, List.set_cons_zero, List.set_cons_succ]))
        refine wpAnyH_done (by kernel_rfl) ?_ _
        refine NoPanic.normal ?_
        have hLast := hHeld11
        clear hHeld11
        go_wp2
        go_ret2
        exact ⟨_, rfl, by rw [HSP.out]; exact HR11.out.mono hz12, hLast.1.2⟩
      · go_simp
        (go_at_call 73; (with_reducible refine (HU.out _).mono ?_); rintro e w10 ⟨v10, rfl, hr10, hb10⟩; obtain ⟨A10, c10, rfl, hp10⟩ := hr10.pc; have HB9 := Lib.hid hb10; have HP9 := Lib.hid hp10; clear hb10 hp10 hr10)
        refine hK.out _ _ (bxE_on hHeld2 HB9.out) (fun hHeld9 => ?_)
        clear hK K hHeld2
        (try simp only [Act.put, List.setIfInBounds_toArray, List.set_cons_zero, List.set_cons_succ])
        refine wpAnyH_ready (rs := [5]) (by kernel_rfl) (by simp) ?_
        refine (AllReadyH.cons (o := { dst := some 15, op := Op.buildSlice 31 1 #[(0, Operand.tmp 14)], type := 31, pos := "exports.go:30", after := #[{ on := 4, ground := Ground.data }], guard := none }) rfl (fun K hK => ?_) AllReadyH.nil)
        refine step_build1 rfl _ rfl x.kind rfl ?_; intro g8 wa8 hg8 hb8 hp8; have HB5 := Lib.hid hb8; have HP5 := Lib.hid hp8; clear hb8 hp8
        refine hK.out _ _ (bxE_on hHeld9 HB5.out) (fun hHeld5 => ?_)
        clear hK K hHeld9
        (try simp only [Act.put, List.setIfInBounds_toArray, List.set_cons_zero, List.set_cons_succ])
        refine wpAnyH_ready (rs := [10]) (by kernel_rfl) (by simp) ?_
        refine (AllReadyH.cons (o := { dst := some 20, op := Op.buildSlice 118 3 #[(0, Operand.tmp 12), (1, Operand.tmp 15), (2, Operand.tmp 19)], type := 118, pos := "exports.go:30", after := #[{ on := 2, ground := Ground.data }, { on := 5, ground := Ground.data }, { on := 9, ground := Ground.data }], guard := none }) rfl (fun K hK => ?_) AllReadyH.nil)
        refine step_build3 rfl _ _ _ rfl rfl rfl rfl ?_; intro g11 wa11 hg11 hb11 hw11; have HB10 := Lib.hid hb11; have HW10 := Lib.hid hw11; clear hb11 hw11
        refine hK.out _ _ (bxE_on hHeld5 HB10.out) (fun hHeld10 => ?_)
        clear hK K hHeld5
        (try simp only [Act.put, List.setIfInBounds_toArray, List.set_cons_zero, List.set_cons_succ])
        refine wpAnyH_ready (rs := [11]) (by kernel_rfl) (by simp) ?_
        refine (AllReadyH.cons (o := { dst := some 21, op := Op.call { callee := Callee.value (Operand.func 50), args := #[Operand.tmp 20], argTypes := #[118] }, type := 31, pos := "exports.go:30", after := #[{ on := 10, ground := Ground.data }, { on := 9, ground := Ground.chain }], guard := none }) rfl (fun K hK => ?_) AllReadyH.nil)
        go_simp
        (go_at_call 50; (with_reducible refine (concat3 (l2 := [x.kind]) HW10.out (((((((HP2.out).below HB9.out)).below HB5.out)).below HB10.out)) (((HP5.out).below HB10.out)) (((((HP9.out).below HB5.out)).below HB10.out)) HS.out.1 HS.out.2).mono ?_); rintro e w12 ⟨v12, rfl, hr12, hb12⟩; have hz12 := hHeld10.1.2.size; have HB11 := Lib.hid hb12; have HR11 := Lib.hid hr12; clear hb12 hr12)
        refine hK.out _ _ (bxE_on hHeld10 HB11.out) (fun hHeld11 => ?_)
        clear hK K hHeld10
        (try simp only [Act.put, List.setIfInBounds_toArray, List.set_cons_zero, List.set_cons_succ])
        (refine heldTake (i := 12) (oi := { dst := some 2, op := Op.assign (Operand.tmp 21), type := 31, pos := "exports.go:30", after := #[{ on := 11, ground := Ground.data }, { on := 11, ground := Ground.chain }, { on := 0, ground := Ground.phase }, { on := 1, ground := Ground.phase }, { on := 2, ground := Ground.phase }, { on := 3, ground := Ground.phase }, { on := 4, ground := Ground.phase }, { on := 5, ground := Ground.phase }, { on := 6, ground := Ground.phase }, { on := 7, ground := Ground.phase }, { on := 8, ground := Ground.phase }, { on := 9, ground := Ground.phase }, { on := 10, ground := Ground.phase }, { on := 11, ground := Ground.phase }], guard := none }) (v := ?_) rfl (by kernel_rfl) (by kernel_rfl) (by kernel_rfl) (by assumption) ?_ ?_; rotate_left; focus (refine .inl ⟨by kernel_rfl, ?_⟩; intro w hSw; (try dsimp only at hSw); go_simp; (try with_reducible rfl)); (try simp only [Act.put, List.setIfInBounds_toArray, List.set_cons_zero, List.set_cons_succ]))
        (refine heldTake (i := 13) (oi := { dst := some 3, op := Op.assign (Operand.const (Value.int IntKind.i64 0)), type := 32, pos := "exports.go:30", after := #[{ on := 12, ground := Ground.chain }, { on := 0, ground := Ground.phase }, { on := 1, ground := Ground.phase }, { on := 2, ground := Ground.phase }, { on := 3, ground := Ground.phase }, { on := 4, ground := Ground.phase }, { on := 5, ground := Ground.phase }, { on := 6, ground := Ground.phase }, { on := 7, ground := Ground.phase }, { on := 8, ground := Ground.phase }, { on := 9, ground := Ground.phase }, { on := 10, ground := Ground.phase }, { on := 11, ground := Ground.phase }, { on := 12, ground := Ground.phase }], guard := none }) (v := ?_) rfl (by kernel_rfl) (by kernel_rfl) (by kernel_rfl) (by assumption) ?_ ?_; rotate_left; focus (refine .inl ⟨by kernel_rfl, ?_⟩; intro w hSw; (try dsimp only at hSw); go_simp; (try with_reducible rfl)); (try simp only [Act.put, List.setIfInBounds_toArray, List.set_cons_zero, List.set_cons_succ]))
        refine wpAnyH_done (by kernel_rfl) ?_ _
        refine NoPanic.normal ?_
        have hLast := hHeld11
        clear hHeld11
        go_wp2
        go_ret2
        exact ⟨_, rfl, by rw [HSP.out]; exact HR11.out.mono hz12, hLast.1.2⟩
    · refine step_build1 rfl _ rfl x.kind rfl ?_; intro g8 wa8 hg8 hb8 hp8; have HB5 := Lib.hid hb8; have HP5 := Lib.hid hp8; clear hb8 hp8
      refine hK.out _ _ (bxE_on hHeld HB5.out) (fun hHeld5 => ?_)
      clear hK K hHeld
      (try simp only [Act.put, List.setIfInBounds_toArray, List.set_cons_zero, List.set_cons_succ])
      refine wpAnyH_ready (rs := [2]) (by kernel_rfl) (by simp) ?_
      refine (AllReadyH.cons (o := { dst := some 12, op := Op.call { callee := Callee.value (Operand.func 51), args := #[Operand.tmp 11], argTypes := #[9] }, type := 31, pos := "exports.go:30", after := #[{ on := 1, ground := Ground.data }], guard := none }) rfl (fun K hK => ?_) AllReadyH.nil)
      go_simp
      (go_at_call 51; (with_reducible refine (HN1.out _).mono ?_); rintro e w2 ⟨v2, rfl, hr2, hb2⟩; obtain ⟨A2, c2, rfl, hp2⟩ := hr2.pc; have HB2 := Lib.hid hb2; have HP2 := Lib.hid hp2; clear hb2 hp2 hr2)
      refine hK.out _ _ (bxE_on hHeld5 HB2.out) (fun hHeld2 => ?_)
      clear hK K hHeld5
      (try simp only [Act.put, List.setIfInBounds_toArray, List.set_cons_zero, List.set_cons_succ])
      refine wpAnyH_ready (rs := [9]) (by kernel_rfl) (by simp) ?_
      refine (AllReadyH.cons (o := { dst := some 19, op := Op.call { callee := Callee.value (Operand.func 73), args := #[Operand.tmp 18], argTypes := #[112] }, type := 31, pos := "exports.go:30", after := #[{ on := 8, ground := Ground.data }, { on := 2, ground := Ground.chain }], guard := none }) rfl (fun K hK => ?_) AllReadyH.nil)
      go_simp
      (go_at_call 73; (with_reducible refine (HU.out _).mono ?_); rintro e w10 ⟨v10, rfl, hr10, hb10⟩; obtain ⟨A10, c10, rfl, hp10⟩ := hr10.pc; have HB9 := Lib.hid hb10; have HP9 := Lib.hid hp10; clear hb10 hp10 hr10)
      refine hK.out _ _ (bxE_on hHeld2 HB9.out) (fun hHeld9 => ?_)
      clear hK K hHeld2
      (try simp only [Act.put, List.setIfInBounds_toArray, List.set_cons_zero, List.set_cons_succ])
      refine wpAnyH_ready (rs := [10]) (by kernel_rfl) (by simp) ?_
      refine (AllReadyH.cons (o := { dst := some 20, op := Op.buildSlice 118 3 #[(0, Operand.tmp 12), (1, Operand.tmp 15), (2, Operand.tmp 19)], type := 118, pos := "exports.go:30", after := #[{ on := 2, ground := Ground.data }, { on := 5, ground := Ground.data }, { on := 9, ground := Ground.data }], guard := none }) rfl (fun K hK => ?_) AllReadyH.nil)
      refine step_build3 rfl _ _ _ rfl rfl rfl rfl ?_; intro g11 wa11 hg11 hb11 hw11; have HB10 := Lib.hid hb11; have HW10 := Lib.hid hw11; clear hb11 hw11
      refine hK.out _ _ (bxE_on hHeld9 HB10.out) (fun hHeld10 => ?_)
      clear hK K hHeld9
      (try simp only [Act.put, List.setIfInBounds_toArray, List.set_cons_zero, List.set_cons_succ])
      refine wpAnyH_ready (rs := [11]) (by kernel_rfl) (by simp) ?_
      refine (AllReadyH.cons (o := { dst := some 21, op := Op.call { callee := Callee.value (Operand.func 50), args := #[Operand.tmp 20], argTypes := #[118] }, type := 31, pos := "exports.go:30", after := #[{ on := 10, ground := Ground.data }, { on := 9, ground := Ground.chain }], guard := none }) rfl (fun K hK => ?_) AllReadyH.nil)
      go_simp
      (go_at_call 50; (with_reducible refine (concat3 (l2 := [x.kind]) HW10.out (((((HP2.out).below HB9.out)).below HB10.out)) (((((((HP5.out).below HB2.out)).below HB9.out)).below HB10.out)) (((HP9.out).below HB10.out)) HS.out.1 HS.out.2).mono ?_); rintro e w12 ⟨v12, rfl, hr12, hb12⟩; have hz12 := hHeld10.1.2.size; have HB11 := Lib.hid hb12; have HR11 := Lib.hid hr12; clear hb12 hr12)
      refine hK.out _ _ (bxE_on hHeld10 HB11.out) (fun hHeld11 => ?_)
      clear hK K hHeld10
      (try simp only [Act.put, List.setIfInBounds_toArray, List.set_cons_zero, List.set_cons_succ])
      (refine heldTake (i := 12) (oi := { dst := some 2, op := Op.assign (Operand.tmp 21), type := 31, pos := "exports.go:30", after := #[{ on := 11, ground := Ground.data }, { on := 11, ground := Ground.chain }, { on := 0, ground := Ground.phase }, { on := 1, ground := Ground.phase }, { on := 2, ground := Ground.phase }, { on := 3, ground := Ground.phase }, { on := 4, ground := Ground.phase }, { on := 5, ground := Ground.phase }, { on := 6, ground := Ground.phase }, { on := 7, ground := Ground.phase }, { on := 8, ground := Ground.phase }, { on := 9, ground := Ground.phase }, { on := 10, ground := Ground.phase }, { on := 11, ground := Ground.phase }], guard := none }) (v := ?_) rfl (by kernel_rfl) (by kernel_rfl) (by kernel_rfl) (by assumption) ?_ ?_; rotate_left; focus (refine .inl ⟨by kernel_rfl, ?_⟩; intro w hSw; (try dsimp only at hSw); go_simp; (try with_reducible rfl)); (try simp only [Act.put, List.setIfInBounds_toArray, List.set_cons_zero, List.set_cons_succ]))
      (refine heldTake (i := 13) (oi := { dst := some 3, op := Op.assign (Operand.const (Value.int IntKind.i64 0)), type := 32, pos := "exports.go:30", after := #[{ on := 12, ground := Ground.chain }, { on := 0, ground := Ground.phase }, { on := 1, ground := Ground.phase }, { on := 2, ground := Ground.phase }, { on := 3, ground := Ground.phase }, { on := 4, ground := Ground.phase }, { on := 5, ground := Ground.phase }, { on := 6, ground := Ground.phase }, { on := 7, ground := Ground.phase }, { on := 8, ground := Ground.phase }, { on := 9, ground := Ground.phase }, { on := 10, ground := Ground.phase }, { on := 11, ground := Ground.phase }, { on := 12, ground := Ground.phase }], guard := none }) (v := ?_) rfl (by kernel_rfl) (by kernel_rfl) (by kernel_rfl) (by assumption) ?_ ?_; rotate_left; focus (refine .inl ⟨by kernel_rfl, ?_⟩; intro w hSw; (try dsimp only at hSw); go_simp; (try with_reducible rfl)); (try simp only [Act.put, List.setIfInBounds_toArray, List.set_cons_zero, List.set_cons_succ]))
      refine wpAnyH_done (by kernel_rfl) ?_ _
      refine NoPanic.normal ?_
      have hLast := hHeld11
      clear hHeld11
      go_wp2
      go_ret2
      exact ⟨_, rfl, by rw [HSP.out]; exact HR11.out.mono hz12, hLast.1.2⟩
  · rw [if_neg h0]
    have d0 : (z != 0) = true := zb_of (by simpa using h0)
    clear h0 hz hT h1
    go_enter Tryd.func30, Tryd.ntmps30
    go_wp2_with (go_at_call 31; go_must ((with_reducible refine HR.out.mono ?_); rintro e w1 ⟨rfl, hb⟩; have H1 := Lib.hid (bxE_on H0.out hb); clear hb))
    go_ret2
    exact ⟨_, rfl, Row.nil _ _, bxE_bel H1.out⟩
end Go.Proofs.YtapgfapplafepaaDoor
