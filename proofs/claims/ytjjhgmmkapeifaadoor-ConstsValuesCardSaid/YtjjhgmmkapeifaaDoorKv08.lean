/- leb.Uint, leb.Int: what they hand back is a row of the call's own; a signed number's bytes. (By gen/genOwn.py from the leb layer.) -/
import Derived.Test.YtjjhgmmkapeifaaDoorKv07
import Derived.WalkSpells
import Derived.Laws.MakeOwn
import Derived.Test.YtjjhgmmkapeifaaDoorKv01
import Derived.Deep.QuietTactic
import Derived.BigQuiet
import Derived.Deep.RegionHeld3
import Derived.Test.YtjjhgmmkapeifaaDoorKv03
namespace Go.Proofs.YtjjhgmmkapeifaaDoor
open Go.RowKit
set_option linter.unusedVariables false
set_option maxRecDepth 100000

def Owned (l : List Int) (w : World) (e : Ending) (w' : World) : Prop := ∃ v, e = .returned v ∧ w'.ownsRow w.heap.size 5 1 v l.length (cells l) ∧ Below w.heap.size w w'
theorem owned_own {w w' : World} {n : Nat} {v : Value} {l : List Int} (h : w'.ownsRow w.heap.size 5 1 v n (cells l)) (hn : l.length = n) (hb : Below w.heap.size w w') : Owned l w (.returned v) w' := by
  subst hn
  exact ⟨v, rfl, h, hb⟩
theorem own_end {x q : Int} {n k : Nat} {w w2 : World} {v : Value} (hq : q = x / 128 ^ k) (hn : Least (fitU x) n) (hno : ∀ m, 1 ≤ m → m ≤ k → ¬ fitU x m) (hf : q < 128)
    (ho : w2.ownsRow w.heap.size 5 1 v (k + 1) (cells (grps x k) ++ [.int .u8 q])) (hb : Below w.heap.size w w2) (h0 : 0 ≤ q) : Owned (grp x n) w (.returned v) w2 := by
  have hk : Least (fitU x) (k + 1) := ⟨by omega, by show x / 128 ^ k < 128; omega, fun m h1 h2 => hno m h1 (by omega)⟩
  obtain rfl := hk.unique hn
  have e : cells (grp x (k + 1)) = cells (grps x k) ++ [.int .u8 q] := by rw [grp_snoc, cells_snoc, ← hq, show q % 128 = q by omega]
  exact owned_own (by rw [e]; exact ho) (grp_length _ _) hb

set_option maxHeartbeats 400000 in
theorem uint_own (x : Int) (w : World) (h0 : 0 ≤ x) (h1 : x ≤ 18446744073709551615) {n : Nat} (hn : Least (fitU x) n) :
    Calls Tryd.prog 70 #[.int .u64 x] w (Owned (grp x n) w) := by
  have h10 : n ≤ 10 := hn.le (by omega) (fitU_ten x (by omega))
  obtain ⟨i0, hi0, hz0, hz1, hz2⟩ := info_parts infoB
  have HN := Lib.hid hn
  clear hn
  go_enter Tryd.func70, Tryd.ntmps70
  go_wp2_with (first
    | (go_at_call 87; go_must (refine (size_any _ _ h0 h1 HN.out).mono ?_; rintro e w' ⟨rfl, rfl⟩))
    | (at_make; refine wpList_make_own _ rfl _ _ _ rfl w.heap.size 5 i0 _ 1 Tryd.underlying29 hi0 hz0 hz1 .i64 .i64 _ n rfl rfl rfl (by rw [hz2]; omega) (by unfold maxLen; omega) (Nat.le_refl _) ?_; intro w1 hown1 hgrow1))
  have hbe1 : Below w.heap.size w w1 := below_of_gb hgrow1
  have HO := Lib.hid hown1
  have HB := Lib.hid hbe1
  clear hown1 hgrow1 hbe1
  go_loopw [3, 0] (fun b v wr => ∃ k : Nat, v = .int .u64 (x / 128 ^ k) ∧ wr.ownsRow w.heap.size 5 1 b k (cells (grps x k)) ∧ Below w.heap.size w wr ∧ ∀ m, 1 ≤ m → m ≤ k → ¬ fitU x m) (fun _ v _ => (intOf v).toNat)
  case atStart => exact ⟨0, by simp, HO.out, HB.out, fun m h1 h2 => by omega⟩
  case round =>
    obtain ⟨k, rfl, hown, hbe, hno⟩ := hrel
    obtain ⟨q, hq⟩ : ∃ q, q = x / 128 ^ k := ⟨_, rfl⟩
    have hq0 : 0 ≤ q := by rw [hq]; exact Int.ediv_nonneg h0 (Int.le_of_lt (p128 _))
    have hq1 : q ≤ 18446744073709551615 := by rw [hq]; exact Int.le_trans (Int.ediv_le_self _ h0) h1
    have hk : k ≤ 9 := by
      rcases Nat.lt_or_ge k 10 with g | g
      · omega
      · exact absurd (fitU_ten x (by omega)) (hno 10 (by omega) g)
    have hsz := hbe.size
    rw [← hq]
    have HQ := Lib.hid hq
    have HBE := Lib.hid hbe
    have HNO := Lib.hid hno
    have hor : bits .or .u8 (q % 256) 128 = q % 128 + 128 := byte_or q
    clear hq hbe hno
    by_cases hlt : 128 ≤ q
    · go_wp2_with (at_builtin; refine wpList_append_own _ rfl _ _ _ rfl w.heap.size 5 i0 _ 1 1 Tryd.underlying29 hi0 hz0 hz1 hz2 rfl (by omega) _ _ _ rfl (hown.alloc _) ⟨wr.heap.size, 0, none⟩ 1 1 [.int .u8 (q % 128 + 128)] rfl rfl (World.news_of_block (cs := #[.int .u8 (q % 128 + 128)]) (t := 5) (fr := (0, 0)) (heap_alloc_new wr _)) (by simp [Value.oneCell']) (by unfold maxLen; omega) (by omega) (by simp; omega) ?_; intro v' w2 hown2 hgrow2 _; have HO2 := Lib.hid hown2; have HG2 := Lib.hid hgrow2; clear hown2 hgrow2)
      go_roundw
      case rel => exact ⟨k + 1, by rw [pow_out, HQ.out], by rw [grps_snoc, cells_snoc, ← HQ.out]; exact HO2.out, below_append HBE.out hown HG2.out, no_more HNO.out (by rw [← HQ.out]; omega)⟩
      case measure => simp [intOf]; omega
    · go_wp2_with (at_builtin; refine wpList_append_own _ rfl _ _ _ rfl w.heap.size 5 i0 _ 1 1 Tryd.underlying29 hi0 hz0 hz1 hz2 rfl (by omega) _ _ _ rfl (hown.alloc _) ⟨wr.heap.size, 0, none⟩ 1 1 [.int .u8 q] rfl rfl (World.news_of_block (cs := #[.int .u8 q]) (t := 5) (fr := (0, 0)) (heap_alloc_new wr _)) (by simp [Value.oneCell']) (by unfold maxLen; omega) (by omega) (by simp; omega) ?_; intro v' w2 hown2 hgrow2 _; have HO2 := Lib.hid hown2; have HG2 := Lib.hid hgrow2; clear hown2 hgrow2)
      go_ret
      exact own_end HQ.out HN.out HNO.out (by omega) HO2.out (below_append HBE.out hown HG2.out) hq0

theorem own_endS {x q : Int} {n k : Nat} {w w2 : World} {v : Value} (hq : q = x / 128 ^ k) (hn : Least (fitS x) n) (hno : ∀ m, 1 ≤ m → m ≤ k → ¬ fitS x m) (hf : -64 ≤ q) (hf2 : q < 64)
    (ho : w2.ownsRow w.heap.size 5 1 v (k + 1) (cells (grps x k) ++ [.int .u8 (q % 128)])) (hb : Below w.heap.size w w2) : Owned (grp x n) w (.returned v) w2 := by
  have hk : Least (fitS x) (k + 1) := ⟨by omega, by show -64 ≤ x / 128 ^ k ∧ x / 128 ^ k < 64; omega, fun m h1 h2 => hno m h1 (by omega)⟩
  obtain rfl := hk.unique hn
  have e : cells (grp x (k + 1)) = cells (grps x k) ++ [.int .u8 (q % 128)] := by rw [grp_snoc, cells_snoc, ← hq]
  exact owned_own (by rw [e]; exact ho) (grp_length _ _) hb
set_option maxHeartbeats 800000 in
theorem int_own (x : Int) (w : World) (h0 : -9223372036854775808 ≤ x) (h1 : x ≤ 9223372036854775807) {n : Nat} (hn : Least (fitS x) n) :
    Calls Tryd.prog 71 #[.int .i64 x] w (Owned (grp x n) w) := by
  obtain ⟨i0, hi0, hz0, hz1, hz2⟩ := info_parts infoB
  have HN := Lib.hid hn
  clear hn
  go_enter Tryd.func71, Tryd.ntmps71
  go_wp2
  go_loopw [3, 0] (fun b v wr => ∃ k : Nat, v = .int .i64 (x / 128 ^ k) ∧ wr.ownsRow w.heap.size 5 1 b k (cells (grps x k)) ∧ Below w.heap.size w wr ∧ ∀ m, 1 ≤ m → m ≤ k → ¬ fitS x m) (fun _ v _ => (intOf v).natAbs)
  case atStart => exact ⟨0, by simp, World.ownsRow_nil _ _ _ _, Below.refl _ _, fun m h1 h2 => by omega⟩
  case round =>
    obtain ⟨k, rfl, hown, hbe, hno⟩ := hrel
    obtain ⟨q, hq⟩ : ∃ q, q = x / 128 ^ k := ⟨_, rfl⟩
    obtain ⟨hq0, hq1⟩ := div_small h0 h1 hq
    have hk : k ≤ 9 := by
      rcases Nat.lt_or_ge k 10 with g | g
      · omega
      · exact absurd (fitS_ten x h0 (by omega)) (hno 10 (by omega) g)
    have hsz := hbe.size
    rw [← hq]
    have HQ := Lib.hid hq
    have HBE := Lib.hid hbe
    have HNO := Lib.hid hno
    have hor : bits .or .u8 (q % 256) 128 = q % 128 + 128 := byte_or q
    have hnot : bits .andNot .u8 (q % 256) 128 = q % 128 := byte_not q
    clear hq hbe hno
    have hparts : q < -64 ∨ 64 ≤ q ∨ (-64 ≤ q ∧ q < 64) := by omega
    rcases hparts with hlt | hlt | ⟨hge, hlt⟩
    · go_wp2_with (at_builtin; refine wpList_append_own _ rfl _ _ _ rfl w.heap.size 5 i0 _ 1 1 Tryd.underlying29 hi0 hz0 hz1 hz2 rfl (by omega) _ _ _ rfl (hown.alloc _) ⟨wr.heap.size, 0, none⟩ 1 1 [.int .u8 (q % 128 + 128)] rfl rfl (World.news_of_block (cs := #[.int .u8 (q % 128 + 128)]) (t := 5) (fr := (0, 0)) (heap_alloc_new wr _)) (by simp [Value.oneCell']) (by unfold maxLen; omega) (by omega) (by simp; omega) ?_; intro v' w2 hown2 hgrow2 _; have HO2 := Lib.hid hown2; have HG2 := Lib.hid hgrow2; clear hown2 hgrow2)
      go_roundw
      case rel => exact ⟨k + 1, by rw [pow_out, HQ.out], by rw [grps_snoc, cells_snoc, ← HQ.out]; exact HO2.out, below_append HBE.out hown HG2.out, no_moreS HNO.out (by rw [← HQ.out]; omega)⟩
      case measure => simp [intOf]; omega
    · have hn0 : ¬ q < -64 := by omega
      go_wp2_with (at_builtin; refine wpList_append_own _ rfl _ _ _ rfl w.heap.size 5 i0 _ 1 1 Tryd.underlying29 hi0 hz0 hz1 hz2 rfl (by omega) _ _ _ rfl (hown.alloc _) ⟨wr.heap.size, 0, none⟩ 1 1 [.int .u8 (q % 128 + 128)] rfl rfl (World.news_of_block (cs := #[.int .u8 (q % 128 + 128)]) (t := 5) (fr := (0, 0)) (heap_alloc_new wr _)) (by simp [Value.oneCell']) (by unfold maxLen; omega) (by omega) (by simp; omega) ?_; intro v' w2 hown2 hgrow2 _; have HO2 := Lib.hid hown2; have HG2 := Lib.hid hgrow2; clear hown2 hgrow2)
      go_roundw
      case rel => exact ⟨k + 1, by rw [pow_out, HQ.out], by rw [grps_snoc, cells_snoc, ← HQ.out]; exact HO2.out, below_append HBE.out hown HG2.out, no_moreS HNO.out (by rw [← HQ.out]; omega)⟩
      case measure => simp [intOf]; omega
    · have hd : decide (64 ≤ q) = false := by simpa using hlt
      go_wp2_with (at_builtin; refine wpList_append_own _ rfl _ _ _ rfl w.heap.size 5 i0 _ 1 1 Tryd.underlying29 hi0 hz0 hz1 hz2 rfl (by omega) _ _ _ rfl (hown.alloc _) ⟨wr.heap.size, 0, none⟩ 1 1 [.int .u8 (q % 128)] rfl rfl (World.news_of_block (cs := #[.int .u8 (q % 128)]) (t := 5) (fr := (0, 0)) (heap_alloc_new wr _)) (by simp [Value.oneCell']) (by unfold maxLen; omega) (by omega) (by simp; omega) ?_; intro v' w2 hown2 hgrow2 _; have HO2 := Lib.hid hown2; have HG2 := Lib.hid hgrow2; clear hown2 hgrow2)
      go_ret
      exact own_endS HQ.out HN.out HNO.out (by omega) (by omega) HO2.out (below_append HBE.out hown HG2.out)
theorem leastS (x : Int) (h0 : -9223372036854775808 ≤ x) (h1 : x ≤ 9223372036854775807) : ∃ n, Least (fitS x) n := least_find _ 10 (by omega) (fitS_ten x h0 (by omega))
/-- How many bytes a number with a sign takes. -/
noncomputable def sebN (x : Int) : Nat := if h : -9223372036854775808 ≤ x ∧ x ≤ 9223372036854775807 then (leastS x h.1 h.2).choose else 1
/-- A number's bytes, with a sign. -/
noncomputable def sebL (x : Int) : List UInt8 := (grp x (sebN x)).map fun c => UInt8.ofNat c.toNat
theorem sebN_least (x : Int) (h0 : -9223372036854775808 ≤ x) (h1 : x ≤ 9223372036854775807) : Least (fitS x) (sebN x) := by
  unfold sebN
  rw [dif_pos ⟨h0, h1⟩]
  exact (leastS x h0 h1).choose_spec
theorem nums_grp (x : Int) (n : Nat) : nums ((grp x n).map fun c => UInt8.ofNat c.toNat) = grp x n := by
  unfold nums
  rw [List.map_map]
  conv => rhs; rw [← List.map_id (grp x n)]
  apply List.map_congr_left
  intro c hc
  have := grp_bytes x _ c hc
  simp
  omega
theorem nums_sebL (x : Int) : nums (sebL x) = grp x (sebN x) := nums_grp x _
theorem sebL_length (x : Int) : (sebL x).length = sebN x := by unfold sebL; rw [List.length_map, grp_length]
theorem sebL_len (x : Int) (h0 : -9223372036854775808 ≤ x) (h1 : x ≤ 9223372036854775807) : 1 ≤ (sebL x).length ∧ (sebL x).length ≤ 10 := by
  rw [sebL_length]
  have h2 := sebN_least x h0 h1
  exact ⟨h2.1, h2.le (by omega) (fitS_ten x h0 (by omega))⟩
theorem bytesL_of {xs : List Int} {l : List UInt8} {w w' : World} {e : Ending} (h : Owned xs w e w') (hl : nums l = xs) : BytesL l w e w' := by
  obtain ⟨v, rfl, h1, h2⟩ := h
  subst hl
  rw [nums_length] at h1
  exact ⟨v, rfl, h1, h2⟩
theorem uintB (x : Int) (w : World) (h0 : 0 ≤ x) (h1 : x ≤ 18446744073709551615) : Calls Tryd.prog 70 #[.int .u64 x] w (BytesL (lebL x) w) :=
  (uint_own x w h0 h1 (lebN_least x h1)).mono fun _ _ h => bytesL_of h (nums_lebL x)
theorem intB (x : Int) (w : World) (h0 : -9223372036854775808 ≤ x) (h1 : x ≤ 9223372036854775807) : Calls Tryd.prog 71 #[.int .i64 x] w (BytesL (sebL x) w) :=
  (int_own x w h0 h1 (sebN_least x h0 h1)).mono fun _ _ h => bytesL_of h (nums_sebL x)
theorem refIntL (x : Int) (w : World) (h0 : -9223372036854775808 ≤ x) (h1 : x ≤ 9223372036854775807) : Calls Tryd.prog 80 #[.int .i64 x] w (Leb (sebL x) w) :=
  (refInt_any x w h0 h1 (sebN_least x h0 h1)).mono fun _ _ h => by
    obtain ⟨A, c, h1, _, _, h4, _, h6⟩ := h
    rw [← nums_sebL] at h1 h4
    rw [nums_length] at h1
    exact ⟨A, c, h1, h4, h6⟩
end Go.Proofs.YtjjhgmmkapeifaaDoor

/- types.Limits, Fits, flag; creelref04.Limits. -/
namespace Go.Proofs.YtjjhgmmkapeifaaDoor
set_option linter.unusedVariables false
set_option maxRecDepth 100000
open Go.RowKit

/-- Limits, by value. -/
abbrev lv (a b : Int) (c : Bool) : Value := .agg #[.int .u32 a, .int .u32 b, .bool c]
/-- May limits be, of at most m? -/
def limB (a b : Int) (c : Bool) (m : Int) : Bool := if c then decide (a ≤ b) && decide (b ≤ m) else decide (a ≤ m) && decide (b = 0)
/-- api.ErrLimits is 26. -/
def limZ (a b : Int) (c : Bool) (m : Int) : Int := if limB a b c m then 0 else 26
theorem limZ_no {a b : Int} {c : Bool} {m : Int} (h : limB a b c m = false) : limZ a b c m = 26 := by unfold limZ; rw [h]; rfl
theorem limZ_yes {a b : Int} {c : Bool} {m : Int} (h : limB a b c m = true) : limZ a b c m = 0 := by unfold limZ; rw [h]; rfl

/-- Do the first limits do for the second? -/
def fitB (a b : Int) (c : Bool) (a' b' : Int) (c' : Bool) : Bool := decide (a' ≤ a) && (!c' || (c && decide (b ≤ b')))
end Go.Proofs.YtjjhgmmkapeifaaDoor

/- types.appendList, types.Text, creelref04.names, creelref04.Text. -/
namespace Go.Proofs.YtjjhgmmkapeifaaDoor
set_option linter.unusedVariables false
open Go.RowKit

/-- The names of the first k types, commas between them. -/
def commaK (l : List UInt8) : Nat → List UInt8
  | 0 => []
  | k + 1 => match l[k]? with
    | none => commaK l k
    | some c => commaK l k ++ ((if k = 0 then [] else [44]) ++ nameZ c.toNat)
def listL (l : List UInt8) : List UInt8 := 40 :: (commaK l l.length ++ [41])
def textL (p r : List UInt8) : List UInt8 := listL p ++ ([45, 62] ++ listL r)
theorem commaK_len (l : List UInt8) : ∀ k, (commaK l k).length ≤ 8 * k
  | 0 => by simp [commaK]
  | k + 1 => by
    have ih := commaK_len l k
    unfold commaK
    split
    · omega
    · rename_i c _
      have := (nameZ_len c.toNat).2
      rw [List.length_append, List.length_append]
      split <;> simp <;> omega
theorem commaK_first {l : List UInt8} {c : UInt8} (h : l[0]? = some c) : commaK l 1 = nameZ c.toNat := by
  show (match l[0]? with | none => _ | some c => _) = _
  rw [h]
  simp [commaK]
theorem commaK_next {l : List UInt8} {c : UInt8} {k : Nat} (h : l[k]? = some c) (hk : k ≠ 0) : commaK l (k + 1) = commaK l k ++ ([44] ++ nameZ c.toNat) := by
  show (match l[k]? with | none => _ | some c => _) = _
  rw [h]
  simp [hk]
theorem listL_len (l : List UInt8) : (listL l).length ≤ 8 * l.length + 2 := by
  unfold listL
  have := commaK_len l l.length
  simp; omega

/-- What appendList hands back. -/
def Onto (B : Nat) (l : List UInt8) (w : World) (e : Ending) (w' : World) : Prop := ∃ v, e = .returned v ∧ Row w' B v l ∧ Below B w w'

theorem S_at {l : List UInt8} {k : Nat} (h : k < l.length) : ∃ c : UInt8, l[k]? = some c ∧ ∀ hh : k < (S l).size, (S l)[k]'hh = c :=
  ⟨l[k], List.getElem?_eq_getElem h, fun hh => S_get l k hh⟩

end Go.Proofs.YtjjhgmmkapeifaaDoor

/- creelref04.names, creelref04.Text; awake. -/
namespace Go.Proofs.YtjjhgmmkapeifaaDoor
set_option linter.unusedVariables false
open Go.RowKit

theorem cat_comma (a b : List UInt8) : Value.string (S a ++ { data := #[44] } ++ S b) = .string (S (a ++ ([44] ++ b))) := by
  rw [show ({ data := #[44] } : ByteArray) = S [44] from rfl, S_append, S_append, List.append_assoc]
theorem cat_two (a b : List UInt8) : Value.string (S a ++ S b) = .string (S (a ++ b)) := by rw [S_append]

theorem cat_text (x y : List UInt8) : Ending.returned (.string ({ data := #[40] } ++ S x ++ { data := #[41, 45, 62, 40] } ++ S y ++ { data := #[41] })) = .returned (.string (S ([40] ++ x ++ [41, 45, 62, 40] ++ y ++ [41]))) := by
  rw [show ({ data := #[40] } : ByteArray) = S [40] from rfl, show ({ data := #[41] } : ByteArray) = S [41] from rfl, show ({ data := #[41, 45, 62, 40] } : ByteArray) = S [41, 45, 62, 40] from rfl, S_append, S_append, S_append, S_append]

/-- What is held while a box of two values lies at the end of the world w: nothing below it turns, and both stay. -/
def Boxed (w : World) (o : Obj) (w' : World) : Prop := Below (w.heap.size + 1) (w.alloc o) w'
theorem Boxed.start (w : World) (o : Obj) : Boxed w o (w.alloc o).drew := (Below.refl _ _).drew
theorem Boxed.cell {w w' : World} {o : Obj} (h : Boxed w o w') (i : Nat) : w'.cell? ⟨w.heap.size, i, none⟩ = (w.alloc o).cell? ⟨w.heap.size, i, none⟩ := Below.cell (show Below _ _ _ from h) (p := ⟨w.heap.size, i, none⟩) (Nat.lt_succ_self _)
theorem Boxed.row {w w' : World} {cs : Array Value} {t : TypeId} (h : Boxed w (.cells cs t) w') (i : Nat) : w'.cell? ⟨w.heap.size, i, none⟩ = cs[i]? := (h.cell i).trans (cell_of_row _ _ _ _ _ _ (heap_alloc_new w _))
theorem Boxed.on {w w1 w2 : World} {o : Obj} (h : Boxed w o w1) (hb : Below w1.heap.size w1 w2) : Boxed w o w2 := Below.trans h (hb.mono (by have := Below.size h; simp at this; omega))
theorem Boxed.end {w w' : World} {o : Obj} (h : Boxed w o w') : Below w.heap.size w w' := (below_box w o).trans (Below.mono h (by omega))
theorem Boxed.room {w w' : World} {o : Obj} (h : Boxed w o w') : w.heap.size + 1 ≤ w'.heap.size := by
  have := Below.size h
  simp at this
  omega
/-- A call that leaves what there was, where two cells of a box are held. -/
theorem held_two {K : Nat} {args : Array Value} {w : World} {u v : Value} {t : TypeId} {R : Ending → Prop} (hN : ∀ w, Calls Tryd.prog K args w fun e w' => R e ∧ Below w.heap.size w w') {W : World}
    (h : Boxed w (.cells #[u, v] t) W ∧ W.cell? ⟨w.heap.size, 0, none⟩ = some u ∧ W.cell? ⟨w.heap.size, 1, none⟩ = some v) :
    Calls Tryd.prog K args W fun e w' => R e ∧ Boxed w (.cells #[u, v] t) w' ∧ w'.cell? ⟨w.heap.size, 0, none⟩ = some u ∧ w'.cell? ⟨w.heap.size, 1, none⟩ = some v :=
  (hN W).mono fun _ _ ⟨h1, h2⟩ => ⟨h1, h.1.on h2, (h.1.on h2).row 0, (h.1.on h2).row 1⟩

theorem eg_text : S (textL [127, 126] [127]) = { data := #[40, 105, 51, 50, 44, 105, 54, 52, 41, 45, 62, 40, 105, 51, 50, 41] } := by decide
end Go.Proofs.YtjjhgmmkapeifaaDoor

/- types.number, EncodeFunc, creelref04.Count, EncodeFunc. -/
namespace Go.Proofs.YtjjhgmmkapeifaaDoor
set_option linter.unusedVariables false
set_option maxRecDepth 100000
open Go.RowKit

/-- A function's type's bytes. -/
noncomputable def encL (p r : List UInt8) : List UInt8 := [96] ++ lebL p.length ++ p ++ lebL r.length ++ r

end Go.Proofs.YtjjhgmmkapeifaaDoor

/- creelref04.EncodeFunc. -/
namespace Go.Proofs.YtjjhgmmkapeifaaDoor
set_option linter.unusedVariables false
set_option maxRecDepth 100000
open Go.RowKit

theorem cat_enc (x p y r : List UInt8) : Ending.returned (.string ({ data := #[96] } ++ S x ++ S p ++ S y ++ S r)) = .returned (.string (S ([96] ++ x ++ p ++ y ++ r))) := by
  rw [show ({ data := #[96] } : ByteArray) = S [96] from rfl, S_append, S_append, S_append, S_append]

end Go.Proofs.YtjjhgmmkapeifaaDoor

/- types.EncodeLimits, EncodeGlobal; creelref04.EncodeLimits, EncodeGlobal. -/
namespace Go.Proofs.YtjjhgmmkapeifaaDoor
set_option linter.unusedVariables false
set_option maxRecDepth 100000
open Go.RowKit

noncomputable def encLim (a b : Int) (c : Bool) : List UInt8 := if c then [1] ++ lebL a ++ lebL b else [0] ++ lebL a
theorem encLim_pos (a b : Int) (c : Bool) : 0 < (encLim a b c).length := by unfold encLim; cases c <;> simp

/-- What is held beside a box of three values. -/
theorem held_three {K : Nat} {args : Array Value} {w : World} {u v x : Value} {t : TypeId} {R : Ending → Prop} (hN : ∀ w, Calls Tryd.prog K args w fun e w' => R e ∧ Below w.heap.size w w') {W : World}
    (h : Boxed w (.cells #[u, v, x] t) W ∧ W.cell? ⟨w.heap.size, 0, none⟩ = some u ∧ W.cell? ⟨w.heap.size, 1, none⟩ = some v ∧ W.cell? ⟨w.heap.size, 2, none⟩ = some x) :
    Calls Tryd.prog K args W fun e w' => R e ∧ Boxed w (.cells #[u, v, x] t) w' ∧ w'.cell? ⟨w.heap.size, 0, none⟩ = some u ∧ w'.cell? ⟨w.heap.size, 1, none⟩ = some v ∧ w'.cell? ⟨w.heap.size, 2, none⟩ = some x :=
  (hN W).mono fun _ _ ⟨h1, h2⟩ => ⟨h1, h.1.on h2, (h.1.on h2).row 0, (h.1.on h2).row 1, (h.1.on h2).row 2⟩
theorem three_of {w W W' : World} {u v x : Value} {t : TypeId} (h : Boxed w (.cells #[u, v, x] t) W ∧ W.cell? ⟨w.heap.size, 0, none⟩ = some u ∧ W.cell? ⟨w.heap.size, 1, none⟩ = some v ∧ W.cell? ⟨w.heap.size, 2, none⟩ = some x) (hb : Below W.heap.size W W') :
    Boxed w (.cells #[u, v, x] t) W' ∧ W'.cell? ⟨w.heap.size, 0, none⟩ = some u ∧ W'.cell? ⟨w.heap.size, 1, none⟩ = some v ∧ W'.cell? ⟨w.heap.size, 2, none⟩ = some x :=
  ⟨h.1.on hb, (h.1.on hb).row 0, (h.1.on hb).row 1, (h.1.on hb).row 2⟩

/-- At a step of a region that draws its order: append of what lies somewhere and is not empty. -/
theorem step_lies {w : World} {ops : Array Oper} {o : Oper} {a : Act} {K : Act → World → Prop} {Q : Exit → Act → World → Prop} {E : Prop} (hgd : o.guard = none) (s x : Operand)
    (ho : o.op = .call { callee := .builtin .append, args := #[s, x], argTypes := #[29, 29] })
    (B : Nat) (v : Value) (xs : List UInt8) (hs : a.eval s = v) (hr : Row w B v xs)
    (A : Option Addr) (m c B' : Nat) (news : List UInt8) (hx : a.eval x = .slice A m c) (hl : news.length = m) (hn : Lies w B' A (cells (nums news)))
    (hm : 0 < m) (hb : xs.length + news.length ≤ 1000000) (hB : B ≤ w.heap.size)
    (h : ∀ v' w', Row w' B v' (xs ++ news) → Below B w w' → K (a.put o.dst v') w') :
    if Region.wanted o (yielded ops a.tmps) = true then Oper.wp Tryd.prog o a w K Q else E := by
  have hw : Region.wanted o (yielded ops a.tmps) = true := by simp [Region.wanted, hgd]
  rw [if_pos hw]
  obtain ⟨i0, hi0, hz0, hz1, hz2⟩ := info_parts infoB
  have hcl : (cells (nums news)).length = m := by rw [cells_length, nums_length]; exact hl
  obtain ⟨b, off, rfl, _, _⟩ := hn.at_ (i := 0) (by omega)
  refine wp_append_own _ s x _ ho B 5 i0 _ 1 1 Tryd.underlying29 hi0 hz0 hz1 hz2 rfl (by omega) v _ _ hs hr ⟨b, off, none⟩ m c (cells (nums news)) hx (by omega) ?_ ?_ (by unfold maxLen; omega) (by omega) hB (fun v' w' h2 h3 _ => h v' w' ?_ (Row.below hr hB h3))
  · intro j u hu
    obtain ⟨b', off', e, _, h2⟩ := hn j u hu
    injection e with e
    injection e with e1 e2
    subst e1; subst e2
    rw [Go.WideShapes.add_plain]; exact h2
  · intro u hu
    unfold cells at hu
    obtain ⟨c, _, rfl⟩ := List.mem_map.1 hu
    rfl
  · unfold Row
    rw [nums_append, List.length_append, hl]
    unfold cells at *
    rw [List.map_append]
    exact h2

theorem three_more {w W W' : World} {u v x : Value} {t : TypeId} (h : Boxed w (.cells #[u, v, x] t) W) (hb : Below (w.heap.size + 1) W W') :
    Boxed w (.cells #[u, v, x] t) W' ∧ W'.cell? ⟨w.heap.size, 0, none⟩ = some u ∧ W'.cell? ⟨w.heap.size, 1, none⟩ = some v ∧ W'.cell? ⟨w.heap.size, 2, none⟩ = some x := by
  have k : Boxed w (.cells #[u, v, x] t) W' := Below.trans h hb
  exact ⟨k, k.row 0, k.row 1, k.row 2⟩

theorem cat_lim (x y : List UInt8) : Ending.returned (.string ({ data := #[1] } ++ S x ++ S y)) = .returned (.string (S ([1] ++ x ++ y))) := by
  rw [show ({ data := #[1] } : ByteArray) = S [1] from rfl, S_append, S_append]
theorem cat_lim0 (x : List UInt8) : Ending.returned (.string ({ data := #[0] } ++ S x)) = .returned (.string (S ([0] ++ x))) := by
  rw [show ({ data := #[0] } : ByteArray) = S [0] from rfl, S_append]
/-- A global's type's bytes. -/
def encG (t : Int) (m : Bool) : List UInt8 := [UInt8.ofNat t.toNat, if m then 1 else 0]
theorem nums_encG (t : Int) (m : Bool) (h0 : 0 ≤ t) (h1 : t ≤ 255) : nums (encG t m) = [t, if m then 1 else 0] := by
  unfold encG nums
  cases m
  · simp; omega
  · simp; omega
end Go.Proofs.YtjjhgmmkapeifaaDoor

/- A region that draws its order, walked step by step: what is held of the world may grow on the way. -/
namespace Go.Proofs.YtjjhgmmkapeifaaDoor
set_option linter.unusedVariables false
open Go.RowKit

section
variable {P : Program} {ops : Array Oper} {Q : Exit → Act → World → Prop} {md : Region.Mode} {S S' : World → Prop}
/-- More may be held from here on. -/
theorem held_imp (hS : ∀ w, S' w → S w) : ∀ (fuel : Nat) (listed : Array Bool) (a : Act) (w : World), wpAnyH P md ops Q S' fuel listed a w → wpAnyH P md ops Q S fuel listed a w
  | 0, _, _, _, h => h
  | fuel + 1, _, _, _, h => ⟨h.1, fun i hi => wpOp_mono (fun _ _ h2 => ⟨hS _ h2.1, held_imp hS fuel _ _ _ h2.2⟩) (h.2 i hi)⟩
/-- Operation i first: it yields v in every world of which S is held. -/
theorem heldTake {i : Nat} {oi : Oper} {v : Value} {fuel : Nat} {listed : Array Bool} {a : Act} {w : World} (hi : ops[i]? = some oi)
    (hs : Region.noSelect ops = true) (hf : Region.free md ops listed i = true) (hr : (Region.ready md ops listed).contains i = true)
    (hS : S w) (hy : YieldsIf P ops S oi v a)
    (h : wpAnyH P md ops (NoPanic Q) S fuel (listed.setIfInBounds i true) (a.put oi.dst v) w) : wpAnyH P md ops (NoPanic Q) S (fuel + 1) listed a w :=
  wpAnyH_take hi hs hf hr (fun _ _ _ h => h) hy hS h
end

/-- Bytes handed back that stay what they are. -/
def Stays (A : Option Addr) (_c : Nat) (l : List UInt8) (W : World) : Prop := ∃ B, B ≤ W.heap.size ∧ Lies W B A (cells (nums l))
theorem Stays.on {A : Option Addr} {c : Nat} {l : List UInt8} {w1 w2 : World} (h : Stays A c l w1) (hb : Below w1.heap.size w1 w2) : Stays A c l w2 := by
  obtain ⟨B, h1, h2⟩ := h
  exact ⟨B, Nat.le_trans h1 hb.size, h2.below hb h1⟩
theorem Stays.str {A : Option Addr} {c : Nat} {l : List UInt8} {w : World} (h : Stays A c l w) (hl : 0 < l.length) :
    ∀ dst, Tryd.prog.underlying dst = some .string → (convert 29 dst (.slice A l.length c)).run Tryd.prog w = .ok (.string (S l)) w := by
  obtain ⟨B, _, h2⟩ := h
  exact str_lies' h2 hl c
/-- Calls that leave what there was, where a fact is held that stays as long as nothing old turns. -/
theorem held_any {T : World → Prop} (hT : ∀ W W', T W → Below W.heap.size W W' → T W') {K : Nat} {args : Array Value} {R : Ending → Prop} (hN : ∀ w, Calls Tryd.prog K args w fun e w' => R e ∧ Below w.heap.size w w') {W : World} (h : T W) :
    Calls Tryd.prog K args W fun e w' => R e ∧ T w' := (hN W).mono fun _ _ ⟨h1, h2⟩ => ⟨h1, hT _ _ h h2⟩
/-- The callee hands bytes back. -/
theorem held_any_bytes {T : World → Prop} (hT : ∀ W W', T W → Below W.heap.size W W' → T W') {K : Nat} {args : Array Value} {l : List UInt8} (hN : ∀ w, Calls Tryd.prog K args w (BytesL l w)) (hl : 0 < l.length) {W : World} (h : T W) :
    Calls Tryd.prog K args W fun e w' => ∃ A c, e = .returned (.slice A l.length c) ∧ T w' ∧ Stays A c l w' ∧ (∀ dst, Tryd.prog.underlying dst = some .string → (convert 29 dst (.slice A l.length c)).run Tryd.prog w' = .ok (.string (S l)) w') :=
  (hN W).mono fun _ _ ⟨_, h1, h2, h3⟩ => by
    obtain ⟨A, c, rfl, h4⟩ := h2.lies
    exact ⟨A, c, h1, hT _ _ h h3, ⟨_, Nat.le_refl _, h4⟩, Stays.str ⟨_, Nat.le_refl _, h4⟩ hl⟩
/-- The bytes stay too. -/
theorem held_any2 {T : World → Prop} (hT : ∀ W W', T W → Below W.heap.size W W' → T W') {A : Option Addr} {c : Nat} {l : List UInt8} (hl : 0 < l.length) {K : Nat} {args : Array Value} {R : Ending → Prop} (hN : ∀ w, Calls Tryd.prog K args w fun e w' => R e ∧ Below w.heap.size w w') {W : World}
    (h : T W ∧ Stays A c l W ∧ (∀ dst, Tryd.prog.underlying dst = some .string → (convert 29 dst (.slice A l.length c)).run Tryd.prog W = .ok (.string (S l)) W)) :
    Calls Tryd.prog K args W fun e w' => R e ∧ T w' ∧ Stays A c l w' ∧ (∀ dst, Tryd.prog.underlying dst = some .string → (convert 29 dst (.slice A l.length c)).run Tryd.prog w' = .ok (.string (S l)) w') :=
  (hN W).mono fun _ _ ⟨h1, h2⟩ => ⟨h1, hT _ _ h.1 h2, h.2.1.on h2, (h.2.1.on h2).str hl⟩
end Go.Proofs.YtjjhgmmkapeifaaDoor

/- labels, immediates: the bytes behind an opcode. (By gen/genPutl.py.) -/
namespace Go.Proofs.YtjjhgmmkapeifaaDoor
open Go.RowKit
set_option linter.unusedVariables false
set_option maxRecDepth 100000

/-- The low 32 bits, the low 64 bits, with their sign. -/
def s32 (a : Int) : Int := (a + 2147483648) % 4294967296 - 2147483648
def s64 (a : Int) : Int := (a + 9223372036854775808) % 18446744073709551616 - 9223372036854775808
/-- How many labels there are, and these. -/
noncomputable def labsL (l : List Int) : List UInt8 := l.flatMap lebL
noncomputable def labL (l : List Int) : List UInt8 := lebL l.length ++ labsL l
noncomputable def immB (m : Nat) (i : I) : List UInt8 :=
  if m = 0 then [] else if m = 1 then [UInt8.ofNat i.a.toNat] else if m = 3 then labL i.l ++ lebL i.a else if m = 5 then lebL i.a ++ [0]
  else if m = 8 then lebL i.a ++ lebL i.b else if m = 9 then [0] else if m = 10 then sebL (s32 i.a) else if m = 11 then sebL (s64 i.a) else lebL i.a
/-- An instruction's bytes. -/
noncomputable def immL (i : I) : List UInt8 := immB (immR i.n) i
noncomputable def putL (i : I) : List UInt8 := i.op :: immL i

theorem labsL_len : ∀ l : List Int, (∀ c ∈ l, 0 ≤ c ∧ c ≤ 4294967295) → (labsL l).length ≤ l.length * 10
  | [], _ => by simp [labsL]
  | c :: l, h => by
    have h1 := labsL_len l (fun d hd => h d (List.mem_cons_of_mem _ hd))
    have h2 := lebL_len c (by have := h c (by simp); omega)
    unfold labsL at h1 ⊢
    rw [List.flatMap_cons, List.length_append, List.length_cons]
    omega
theorem labsL_snoc {l : List Int} {k : Nat} {c : Int} (h : l[k]? = some c) : labsL (l.take (k + 1)) = labsL (l.take k) ++ lebL c := by
  unfold labsL
  rw [take_snoc h, List.flatMap_append]
  simp
theorem labsL_take_len (l : List Int) (h : ∀ c ∈ l, 0 ≤ c ∧ c ≤ 4294967295) (k : Nat) (hl : l.length ≤ 10000) : (labsL (l.take k)).length ≤ 100000 := by
  have h1 := labsL_len (l.take k) (fun c hc => h c (List.mem_of_mem_take hc))
  have h2 : (l.take k).length ≤ l.length := by rw [List.length_take]; omega
  omega
theorem cells32_get {l : List Int} {i : Nat} {c : Int} (h : l[i]? = some c) : (cells32 l)[i]? = some (.int .u32 c) := by simp [cells32, h]

set_option maxHeartbeats 800000 in
theorem labels_any {w : World} {A : Option Addr} {c : Nat} {l : List Int} (hl : Lies w w.heap.size A (cells32 l)) (h10 : l.length ≤ 10000) (hc : ∀ c ∈ l, 0 ≤ c ∧ c ≤ 4294967295) :
    Calls Tryd.prog 69 #[.slice A l.length c] w (BytesL (labL l) w) := by
  have wn : IntKind.u64.wrap (l.length : Int) = l.length := by simp [IntKind.wrap, IntKind.bits, IntKind.signed]; omega
  have U1 := Lib.hid (uintB (l.length : Int) w (by omega) (by omega))
  have m1 := lebL_len (l.length : Int) (by omega)
  have hlab : labL l = lebL l.length ++ labsL l := rfl
  obtain ⟨n, hn⟩ : ∃ n, n = l.length := ⟨_, rfl⟩
  rw [← hn] at wn U1 m1 hlab h10 ⊢
  generalize lebL (n : Int) = x at *
  have HL := Lib.hid hl
  have HC := Lib.hid hc
  have HN := Lib.hid hn
  have HLAB := Lib.hid hlab
  clear hl hn hlab hc
  go_enter Tryd.func69, Tryd.ntmps69
  go_wp2_with (go_at_call 70; go_must ((with_reducible refine U1.out.mono ?_); intro e w1 h; obtain ⟨v1, rfl, hr1, hb1⟩ := h; have HR1 := Lib.hid hr1; have HB1 := Lib.hid hb1; clear hr1 hb1))
  go_loopw [3, 12] (fun v i wr => ∃ k : Nat, k ≤ n ∧ i = .int .i64 k ∧ Row wr w.heap.size v (x ++ labsL (l.take k)) ∧ Below w.heap.size w wr) (fun _ i _ => n - (intOf i).toNat)
  case atStart => exact ⟨0, Nat.zero_le _, rfl, by simpa [labsL] using HR1.out, HB1.out⟩
  case round =>
    obtain ⟨k, hk, rfl, hr, hb⟩ := hrel
    have hz := hb.size
    by_cases hlt : k < n
    · obtain ⟨d, hd⟩ : ∃ d, l[k]? = some d := ⟨_, List.getElem?_eq_getElem (by rw [← HN.out]; exact hlt)⟩
      obtain ⟨b, off, rfl, hbl, hcell⟩ := HL.out k _ (cells32_get hd)
      have hcell2 := (hb.cell (p := ⟨b, off + k, none⟩) hbl).trans hcell
      have hdb := HC.out d (List.mem_of_getElem? hd)
      have wd : IntKind.u64.wrap d = d := by simp [IntKind.wrap, IntKind.bits, IntKind.signed]; omega
      have U2 := Lib.hid (fun W => uintL d W hdb.1 (by omega))
      have m2 := lebL_len d (by omega)
      have HS := Lib.hid (labsL_snoc hd)
      have hlen : (x ++ labsL (l.take k)).length ≤ 200000 := by rw [List.length_append]; have := labsL_take_len l HC.out k (by rw [← HN.out]; exact h10); omega
      have HR := Lib.hid hr
      have HB := Lib.hid hb
      obtain ⟨y, hy⟩ : ∃ y, y = lebL d := ⟨_, rfl⟩
      rw [← hy] at U2 m2 HS
      clear hr hb hcell hd hy
      go_wp2_with (first
        | (at_builtin; (refine row_lies rfl _ _ rfl w.heap.size _ _ rfl (HR.out.later HB2.out) _ _ _ _ y rfl rfl HL2.out (by omega) (by omega) (Nat.le_trans hz HB2.out.size) ?_; intro v3 w3 hr3 hb3; have HR3 := Lib.hid hr3; have HB3 := Lib.hid hb3; clear hr3 hb3))
        | (go_at_call 70; go_must ((with_reducible refine (U2.out _).mono ?_); intro e w2 h; obtain ⟨A2, k2, rfl, hl2, hb2⟩ := h; have HL2 := Lib.hid hl2; have HB2 := Lib.hid hb2; clear hl2 hb2)))
      go_roundw
      case rel => exact ⟨k + 1, by omega, by go_num, by rw [HS.out, ← List.append_assoc]; exact HR3.out, (HB.out.trans (HB2.out.mono hz)).trans HB3.out⟩
      case measure => simp [intOf]; omega
    · obtain rfl : k = n := by omega
      have HR := Lib.hid hr
      have HB := Lib.hid hb
      clear hr hb
      go_wp2
      go_ret
      exact ⟨_, rfl, by rw [HLAB.out]; have := HR.out; rw [List.take_of_length_le (by rw [← HN.out]; exact Nat.le_refl _)] at this; exact this, HB.out⟩

/-- What one that may be has. -/
theorem right_zero {i : I} (h : rightZ i = 0) : checkR i.n = 0 ∧ (0 < i.l.length → immR i.n = 3) ∧ i.l.length ≤ 10000 ∧ (i.b ≠ 0 → immR i.n = 8) ∧ numsZ (immR i.n) i.a i.b = 0 := by
  unfold rightZ at h
  by_cases h1 : checkR i.n ≠ 0
  · rw [if_pos h1] at h; omega
  · rw [if_neg h1] at h
    by_cases h2 : 0 < i.l.length ∧ immR i.n ≠ 3
    · rw [if_pos h2] at h; cases h
    · rw [if_neg h2] at h
      by_cases h3 : 10000 < i.l.length
      · rw [if_pos h3] at h; cases h
      · rw [if_neg h3] at h
        by_cases h4 : i.b ≠ 0 ∧ immR i.n ≠ 8
        · rw [if_pos h4] at h; cases h
        · rw [if_neg h4] at h
          exact ⟨by omega, by omega, by omega, by omega, h⟩
theorem block_zero {a : Int} (h : blockZ a = 0) (h0 : 0 ≤ a) : a ≤ 255 := by
  unfold blockZ at h
  by_cases h1 : a = 64
  · omega
  · rw [if_neg h1] at h
    by_cases h2 : 255 < a
    · rw [if_pos h2] at h; cases h
    · omega
theorem nums_zero {m : Nat} {a b : Int} (h : numsZ m a b = 0) (h0 : 0 ≤ a) : (m = 1 → a ≤ 255 ∧ blockZ a = 0) ∧ ((m = 0 ∨ m = 9) → a = 0) ∧ ((m ≠ 1 ∧ m ≠ 0 ∧ m ≠ 9 ∧ m ≠ 11) → a ≤ 4294967295 ∧ b ≤ 4294967295) := by
  unfold numsZ at h
  by_cases h1 : m = 1
  · rw [if_pos h1] at h
    exact ⟨fun _ => ⟨block_zero h h0, h⟩, by omega, by omega⟩
  · rw [if_neg h1] at h
    by_cases h2 : m = 0 ∨ m = 9
    · rw [if_pos h2] at h
      refine ⟨by omega, fun _ => ?_, by omega⟩
      by_cases h3 : a = 0
      · exact h3
      · rw [if_neg h3] at h; cases h
    · rw [if_neg h2] at h
      by_cases h3 : m = 11
      · exact ⟨by omega, by omega, by omega⟩
      · rw [if_neg h3] at h
        refine ⟨by omega, by omega, fun _ => ?_⟩
        by_cases h4 : a ≤ 4294967295 ∧ b ≤ 4294967295
        · exact h4
        · rw [if_neg h4] at h; cases h
theorem box_bytes {w W : World} {i : I} {A : Option Addr} {c : Nat} (h : BoxI w W i A c) {l : List UInt8} {e : Ending} {w' : World} (hb : BytesL l W e w') : BytesL l w e w' := by
  obtain ⟨v, rfl, h1, h2⟩ := hb
  exact ⟨v, rfl, h1.mono h.2.size, h.2.trans (h2.mono h.2.size)⟩
theorem u8_of {a : Int} (h0 : 0 ≤ a) (h1 : a ≤ 255) : ((UInt8.ofNat a.toNat).toNat : Int) = a := by
  rw [UInt8.toNat_ofNat']
  omega
theorem BoxI.bel {w W : World} {i : I} {A : Option Addr} {c : Nat} (h : BoxI w W i A c) : Below w.heap.size w W := h.2
theorem wp_lies {w : World} {o : Oper} {a : Act} {K : Act → World → Prop} {Q : Exit → Act → World → Prop} (hgd : o.guard = none) (s x : Operand)
    (ho : o.op = .call { callee := .builtin .append, args := #[s, x], argTypes := #[29, 29] })
    (B : Nat) (v : Value) (xs : List UInt8) (hs : a.eval s = v) (hr : Row w B v xs)
    (A : Option Addr) (m c B' : Nat) (news : List UInt8) (hx : a.eval x = .slice A m c) (hl : news.length = m) (hn : Lies w B' A (cells (nums news)))
    (hm : 0 < m) (hb : xs.length + news.length ≤ 1000000) (hB : B ≤ w.heap.size)
    (h : ∀ v' w', Row w' B v' (xs ++ news) → Below B w w' → K (a.put o.dst v') w') : Oper.wp Tryd.prog o a w K Q := by
  have hw : Region.wanted o (yielded #[] a.tmps) = true := by simp [Region.wanted, hgd]
  have := step_lies (ops := #[]) (Q := Q) (E := True) hgd s x ho B v xs hs hr A m c B' news hx hl hn hm hb hB h
  rwa [if_pos hw] at this
/-- What is held while numbers are written. -/
def Six (w : World) (i : I) (A : Option Addr) (c : Nat) (W : World) : Prop := BoxI w W i A c ∧ W.cell? ⟨w.heap.size, 1, none⟩ = some (.int .u64 i.a) ∧ W.cell? ⟨w.heap.size, 2, none⟩ = some (.int .u64 i.b) ∧ W.cell? ⟨w.heap.size, 3, none⟩ = some (.slice A i.l.length c)
theorem Six.of {w W : World} {i : I} {A : Option Addr} {c : Nat} (h : BoxI w W i A c) : Six w i A c W := ⟨h, h.c1, h.c2, h.c3⟩
theorem Six.on {w W W' : World} {i : I} {A : Option Addr} {c : Nat} (h : Six w i A c W) (hb : Below W.heap.size W W') : Six w i A c W' := .of (h.1.on hb)
theorem Six.past {w W W' : World} {i : I} {A : Option Addr} {c : Nat} (h : Six w i A c W) (hb : Below (w.heap.size + 1) W W') : Six w i A c W' :=
  .of ⟨(hb.block _ (Nat.lt_succ_self _)).trans h.1.1, h.1.2.trans (hb.mono (Nat.le_succ _))⟩

set_option maxHeartbeats 2000000 in
theorem imm_bytes (i : I) (A : Option Addr) (c : Nat) (w : World) (h : i.Ok) (hT : Tabs w) (hr : rightZ i = 0) (hl : Lies w w.heap.size A (cells32 i.l)) :
    Calls Tryd.prog 44 #[insV i A c] w (BytesL (immL i) w) := by
  have hn := i.n_le
  obtain ⟨a0, a1, b0, b1, hl0⟩ := h
  obtain ⟨hc0, _, h10, _, hz0⟩ := right_zero hr
  obtain ⟨hz1, hz2, hz3⟩ := nums_zero hz0 a0
  have HL0 := Lib.hid hl0
  have HB := Lib.hid (BoxI.start w i A c)
  have HT1 := Lib.hid (hT.below HB.out.2)
  have HLA := Lib.hid (fun W (hb : Below w.heap.size w W) => labels_any (w := W) (c := c) ((hl.below hb (Nat.le_refl _)).more hb.size) h10 hl0)
  obtain ⟨m, hm⟩ : ∃ m, m = immR i.n := ⟨_, rfl⟩
  obtain ⟨inf, hinf⟩ : ∃ inf, inf = infR i.n := ⟨_, rfl⟩
  have him : inf.imm = m := by rw [hinf, hm]; exact (imm_same hn hc0).1
  have HI : Hid (∀ W, Tabs W → Calls Tryd.prog 46 #[.int .u8 i.op.toNat] W fun e w' => e = .returned (infV inf) ∧ Below W.heap.size W w') := fun W hW => by rw [hinf]; exact of_any i.n W hW hn
  have hfield := fun z wx => field_imm (S inf.name) (S inf.ps) (S inf.rs) z inf.free wx
  have HIM := Lib.hid (show immL i = immB m i by unfold immL; rw [hm])
  rw [← hm] at hz1 hz2 hz3
  have HZ1 := Lib.hid hz1
  have HZ2 := Lib.hid hz2
  have HZ3 := Lib.hid hz3
  clear hT hl hr hc0 hz0 hinf hm hz1 hz2 hz3 hl0
  by_cases m0 : m = 0
  · subst m0
    have HE := Lib.hid (show immL i = [] by rw [HIM.out]; unfold immB; rw [if_pos rfl])
    go_enter Tryd.func44, Tryd.ntmps44
    go_wp2_with (first
      | (go_at_call 46; go_must ((with_reducible refine (HI.out _ HT1.out).mono ?_); rintro e w1 ⟨rfl, hb⟩; unfold infV; have HB1 := Lib.hid (HB.out.on hb); have c1 := HB1.out.c1; have c2 := HB1.out.c2; have c3 := HB1.out.c3; clear hb)))
    go_ret
    exact ⟨_, rfl, by rw [HE.out]; exact Row.nil _ _, HB1.out.2⟩
  have d0 : ((m : Int) == 0) = false := by simp; omega
  by_cases m1 : m = 1
  · subst m1
    have HE := Lib.hid (show immL i = [UInt8.ofNat i.a.toNat] by rw [HIM.out]; unfold immB; rw [if_neg (by omega), if_pos rfl])
    have ha := (HZ1.out rfl).1
    have hw : IntKind.u8.wrap i.a = i.a := by simp [IntKind.wrap, IntKind.bits, IntKind.signed]; omega
    go_enter Tryd.func44, Tryd.ntmps44
    go_wp2_with (first
      | (go_at_call 46; go_must ((with_reducible refine (HI.out _ HT1.out).mono ?_); rintro e w1 ⟨rfl, hb⟩; unfold infV; have HB1 := Lib.hid (HB.out.on hb); have c1 := HB1.out.c1; have c2 := HB1.out.c2; have c3 := HB1.out.c3; clear hb)))
    go_ret
    refine box_bytes HB1.out ⟨_, rfl, ?_, (Below.refl _ _).alloc (Nat.le_refl _) _⟩
    have hm := Row.made w1 [UInt8.ofNat i.a.toNat] w1.heap.size w1.heap.size rfl (Nat.le_refl _) (by simp)
    have he : nums [UInt8.ofNat i.a.toNat] = [i.a] := by unfold nums; rw [List.map_cons, u8_of a0 ha]; rfl
    rw [he] at hm
    rw [HE.out]
    exact hm
  have d1 : ((m : Int) == 1) = false := by simp; omega
  by_cases m3 : m = 3
  · subst m3
    have HE := Lib.hid (show immL i = labL i.l ++ lebL i.a by rw [HIM.out]; unfold immB; rw [if_neg (by omega), if_neg (by omega), if_pos rfl])
    have m2 := lebL_len i.a (by omega)
    have m1 : (labL i.l).length ≤ 200000 := by unfold labL; rw [List.length_append]; have := lebL_len (i.l.length : Int) (by omega); have := labsL_take_len i.l HL0.out i.l.length h10; rw [List.take_length] at this; omega
    have U2 := Lib.hid (fun W => uintL i.a W a0 a1)
    obtain ⟨x, hx⟩ : ∃ x, x = labL i.l := ⟨_, rfl⟩
    obtain ⟨y, hy⟩ : ∃ y, y = lebL i.a := ⟨_, rfl⟩
    rw [← hx] at HE m1 HLA
    rw [← hy] at HE m2 U2
    clear hx hy
    go_enter Tryd.func44, Tryd.ntmps44
    go_wp2_with (first
      | (go_at_call 46; go_must ((with_reducible refine (HI.out _ HT1.out).mono ?_); rintro e w1 ⟨rfl, hb⟩; unfold infV; have HB1 := Lib.hid (HB.out.on hb); have c1 := HB1.out.c1; have c2 := HB1.out.c2; have c3 := HB1.out.c3; clear hb)))
    refine wp_region_noPanic ?_
    refine wp_region_held_drew (S := fun W => BoxI w W i A c ∧ W.cell? ⟨w.heap.size, 1, none⟩ = some (.int .u64 i.a) ∧ W.cell? ⟨w.heap.size, 2, none⟩ = some (.int .u64 i.b) ∧ W.cell? ⟨w.heap.size, 3, none⟩ = some (.slice A i.l.length c)) (by kernel_rfl) (Six.of (HB1.out.drewN 1)) (fun hHeld => ?_)
    (refine heldTake (i := 0) (oi := { dst := some 17, op := Op.fieldAddr 25 (Operand.tmp 1) 3, type := 0, pos := "instr.go:89", after := #[], guard := none }) (v := ?_) rfl (by kernel_rfl) (by kernel_rfl) (by kernel_rfl) (by assumption) ?_ ?_; rotate_left; focus (refine .inl ⟨by kernel_rfl, ?_⟩; intro w hSw; (try dsimp only at hSw); go_simp; (try with_reducible rfl)); (try simp only [Act.put, List.setIfInBounds_toArray, List.set_cons_zero, List.set_cons_succ]))
    (refine heldTake (i := 1) (oi := { dst := some 18, op := Op.load 23 (Operand.tmp 17), type := 23, pos := "instr.go:89", after := #[{ on := 0, ground := Ground.data }], guard := none }) (v := ?_) rfl (by kernel_rfl) (by kernel_rfl) (by kernel_rfl) (by assumption) ?_ ?_; rotate_left; focus (refine .inl ⟨by kernel_rfl, ?_⟩; intro w hSw; (try dsimp only at hSw); go_simp; (try with_reducible rfl)); (try simp only [Act.put, List.setIfInBounds_toArray, List.set_cons_zero, List.set_cons_succ]))
    (refine heldTake (i := 3) (oi := { dst := some 20, op := Op.fieldAddr 25 (Operand.tmp 1) 1, type := 0, pos := "instr.go:89", after := #[], guard := none }) (v := ?_) rfl (by kernel_rfl) (by kernel_rfl) (by kernel_rfl) (by assumption) ?_ ?_; rotate_left; focus (refine .inl ⟨by kernel_rfl, ?_⟩; intro w hSw; (try dsimp only at hSw); go_simp; (try with_reducible rfl)); (try simp only [Act.put, List.setIfInBounds_toArray, List.set_cons_zero, List.set_cons_succ]))
    (refine heldTake (i := 4) (oi := { dst := some 21, op := Op.load 22 (Operand.tmp 20), type := 22, pos := "instr.go:89", after := #[{ on := 3, ground := Ground.data }], guard := none }) (v := ?_) rfl (by kernel_rfl) (by kernel_rfl) (by kernel_rfl) (by assumption) ?_ ?_; rotate_left; focus (refine .inl ⟨by kernel_rfl, ?_⟩; intro w hSw; (try dsimp only at hSw); go_simp; (try with_reducible rfl)); (try simp only [Act.put, List.setIfInBounds_toArray, List.set_cons_zero, List.set_cons_succ]))
    refine wpAnyH_ready (rs := [2]) (by kernel_rfl) (by simp) ?_
    refine AllReadyH.cons (o := { dst := some 19, op := Op.call { callee := Callee.value (Operand.func 69), args := #[Operand.tmp 18], argTypes := #[23] }, type := 29, pos := "instr.go:89", after := #[{ on := 1, ground := Ground.data }], guard := none }) rfl (fun K hK => ?_) AllReadyH.nil
    go_simp
    (go_at_call 69; (with_reducible refine (HLA.out _ (BoxI.bel hHeld.1)).mono ?_); intro e w2 h; obtain ⟨v2, rfl, hr2, hb2⟩ := h; have HR2 := Lib.hid hr2; have HB2 := Lib.hid hb2; have hk2 := Six.on hHeld hb2; have hz1 := BoxI.lt (And.left hHeld); have hs2 := hb2.size; clear hr2 hb2)
    refine hK.out _ _ hk2 (fun hHeld2 => ?_)
    clear hK K hHeld
    (try simp only [Act.put, List.setIfInBounds_toArray, List.set_cons_zero, List.set_cons_succ])
    refine wpAnyH_ready (rs := [5]) (by kernel_rfl) (by simp) ?_
    refine AllReadyH.cons (o := { dst := some 22, op := Op.call { callee := Callee.value (Operand.func 70), args := #[Operand.tmp 21], argTypes := #[22] }, type := 29, pos := "instr.go:89", after := #[{ on := 4, ground := Ground.data }, { on := 2, ground := Ground.chain }], guard := none }) rfl (fun K hK => ?_) AllReadyH.nil
    go_simp
    (go_at_call 70; (with_reducible refine (U2.out _).mono ?_); intro e w3 h; obtain ⟨A3, k3, rfl, hl3, hb3⟩ := h; have HL3 := Lib.hid hl3; have HB3 := Lib.hid hb3; have hk3 := Six.on hHeld2 hb3; have hz3 := hb3.size; clear hl3 hb3)
    refine hK.out _ _ hk3 (fun hHeld5 => ?_)
    clear hK K hHeld2
    (try simp only [Act.put, List.setIfInBounds_toArray, List.set_cons_zero, List.set_cons_succ])
    refine wpAnyH_ready (rs := [6]) (by kernel_rfl) (by simp) ?_
    refine AllReadyH.cons (o := { dst := some 23, op := Op.call { callee := Callee.builtin Builtin.append, args := #[Operand.tmp 19, Operand.tmp 22], argTypes := #[29, 29] }, type := 29, pos := "instr.go:89", after := #[{ on := 2, ground := Ground.data }, { on := 5, ground := Ground.data }, { on := 5, ground := Ground.chain }], guard := none }) rfl (fun K hK => ?_) AllReadyH.nil
    (refine wp_lies rfl _ _ rfl _ _ x rfl (HR2.out.later HB3.out) _ _ _ _ y rfl rfl HL3.out (by omega) (by omega) (Nat.le_trans hs2 hz3) ?_; intro v4 w4 hr4 hb4; have HR4 := Lib.hid hr4; have HB4 := Lib.hid hb4; have hk4 := Six.past hHeld5 (hb4.mono hz1); clear hr4 hb4)
    refine hK.out _ _ hk4 (fun hHeld6 => ?_)
    clear hK K hHeld5
    (try simp only [Act.put, List.setIfInBounds_toArray, List.set_cons_zero, List.set_cons_succ])
    (refine heldTake (i := 7) (oi := { dst := some 2, op := Op.assign (Operand.tmp 23), type := 29, pos := "instr.go:89", after := #[{ on := 6, ground := Ground.data }, { on := 6, ground := Ground.chain }, { on := 0, ground := Ground.phase }, { on := 1, ground := Ground.phase }, { on := 2, ground := Ground.phase }, { on := 3, ground := Ground.phase }, { on := 4, ground := Ground.phase }, { on := 5, ground := Ground.phase }, { on := 6, ground := Ground.phase }], guard := none }) (v := ?_) rfl (by kernel_rfl) (by kernel_rfl) (by kernel_rfl) (by assumption) ?_ ?_; rotate_left; focus (refine .inl ⟨by kernel_rfl, ?_⟩; intro w hSw; (try dsimp only at hSw); go_simp; (try with_reducible rfl)); (try simp only [Act.put, List.setIfInBounds_toArray, List.set_cons_zero, List.set_cons_succ]))
    refine wpAnyH_done (by kernel_rfl) ?_ _
    refine NoPanic.normal ?_
    have hLast := hHeld6
    clear hHeld6
    go_wp2
    go_ret
    exact ⟨_, rfl, by rw [HE.out]; exact HR4.out.mono (by omega), BoxI.bel hLast.1⟩
  have d3 : ((m : Int) == 3) = false := by simp; omega
  by_cases m5 : m = 5
  · subst m5
    have HE := Lib.hid (show immL i = lebL i.a ++ [0] by rw [HIM.out]; unfold immB; rw [if_neg (by omega), if_neg (by omega), if_neg (by omega), if_pos rfl])
    have m2 := lebL_len i.a (by omega)
    have U1 := Lib.hid (fun W => uintB i.a W a0 a1)
    obtain ⟨x, hx⟩ : ∃ x, x = lebL i.a := ⟨_, rfl⟩
    rw [← hx] at HE m2 U1
    clear hx
    go_enter Tryd.func44, Tryd.ntmps44
    go_wp2_with (first
      | (go_at_call 46; go_must ((with_reducible refine (HI.out _ HT1.out).mono ?_); rintro e w1 ⟨rfl, hb⟩; unfold infV; have HB1 := Lib.hid (HB.out.on hb); have c1 := HB1.out.c1; have c2 := HB1.out.c2; have c3 := HB1.out.c3; clear hb))
      | (at_builtin; (refine row_new rfl _ _ rfl w1.heap.size _ x rfl (HR2.out.alloc _) w2.heap.size 1 [0] rfl rfl (heap_alloc_new w2 _) (by omega) (by simp; omega) (by simp; omega) ?_; intro v3 w3 hr3 hb3; have HR3 := Lib.hid hr3; have HB3 := Lib.hid hb3; clear hr3 hb3))
      | (go_at_call 70; go_must ((with_reducible refine (U1.out _).mono ?_); intro e w2 h; obtain ⟨v2, rfl, hr2, hb2⟩ := h; have hz2 := hb2.size; have HR2 := Lib.hid hr2; have HB2 := Lib.hid hb2; clear hr2 hb2)))
    go_ret
    exact box_bytes HB1.out ⟨_, rfl, by rw [HE.out]; exact HR3.out, (HB2.out.alloc hz2 _).trans HB3.out⟩
  have d5 : ((m : Int) == 5) = false := by simp; omega
  by_cases m8 : m = 8
  · subst m8
    have HE := Lib.hid (show immL i = lebL i.a ++ lebL i.b by rw [HIM.out]; unfold immB; rw [if_neg (by omega), if_neg (by omega), if_neg (by omega), if_neg (by omega), if_pos rfl])
    have m2 := lebL_len i.b (by omega)
    have m1 : (lebL i.a).length ≤ 200000 := by have := lebL_len i.a (by omega); omega
    have U1 := Lib.hid (fun W => uintB i.a W a0 a1)
    have U2 := Lib.hid (fun W => uintL i.b W b0 b1)
    obtain ⟨x, hx⟩ : ∃ x, x = lebL i.a := ⟨_, rfl⟩
    obtain ⟨y, hy⟩ : ∃ y, y = lebL i.b := ⟨_, rfl⟩
    rw [← hx] at HE m1 U1
    rw [← hy] at HE m2 U2
    clear hx hy
    go_enter Tryd.func44, Tryd.ntmps44
    go_wp2_with (first
      | (go_at_call 46; go_must ((with_reducible refine (HI.out _ HT1.out).mono ?_); rintro e w1 ⟨rfl, hb⟩; unfold infV; have HB1 := Lib.hid (HB.out.on hb); have c1 := HB1.out.c1; have c2 := HB1.out.c2; have c3 := HB1.out.c3; clear hb)))
    refine wp_region_noPanic ?_
    refine wp_region_held_drew (S := fun W => BoxI w W i A c ∧ W.cell? ⟨w.heap.size, 1, none⟩ = some (.int .u64 i.a) ∧ W.cell? ⟨w.heap.size, 2, none⟩ = some (.int .u64 i.b) ∧ W.cell? ⟨w.heap.size, 3, none⟩ = some (.slice A i.l.length c)) (by kernel_rfl) (Six.of (HB1.out.drewN 1)) (fun hHeld => ?_)
    (refine heldTake (i := 0) (oi := { dst := some 33, op := Op.fieldAddr 25 (Operand.tmp 1) 1, type := 0, pos := "instr.go:93", after := #[], guard := none }) (v := ?_) rfl (by kernel_rfl) (by kernel_rfl) (by kernel_rfl) (by assumption) ?_ ?_; rotate_left; focus (refine .inl ⟨by kernel_rfl, ?_⟩; intro w hSw; (try dsimp only at hSw); go_simp; (try with_reducible rfl)); (try simp only [Act.put, List.setIfInBounds_toArray, List.set_cons_zero, List.set_cons_succ]))
    (refine heldTake (i := 1) (oi := { dst := some 34, op := Op.load 22 (Operand.tmp 33), type := 22, pos := "instr.go:93", after := #[{ on := 0, ground := Ground.data }], guard := none }) (v := ?_) rfl (by kernel_rfl) (by kernel_rfl) (by kernel_rfl) (by assumption) ?_ ?_; rotate_left; focus (refine .inl ⟨by kernel_rfl, ?_⟩; intro w hSw; (try dsimp only at hSw); go_simp; (try with_reducible rfl)); (try simp only [Act.put, List.setIfInBounds_toArray, List.set_cons_zero, List.set_cons_succ]))
    (refine heldTake (i := 3) (oi := { dst := some 36, op := Op.fieldAddr 25 (Operand.tmp 1) 2, type := 0, pos := "instr.go:93", after := #[], guard := none }) (v := ?_) rfl (by kernel_rfl) (by kernel_rfl) (by kernel_rfl) (by assumption) ?_ ?_; rotate_left; focus (refine .inl ⟨by kernel_rfl, ?_⟩; intro w hSw; (try dsimp only at hSw); go_simp; (try with_reducible rfl)); (try simp only [Act.put, List.setIfInBounds_toArray, List.set_cons_zero, List.set_cons_succ]))
    (refine heldTake (i := 4) (oi := { dst := some 37, op := Op.load 22 (Operand.tmp 36), type := 22, pos := "instr.go:93", after := #[{ on := 3, ground := Ground.data }], guard := none }) (v := ?_) rfl (by kernel_rfl) (by kernel_rfl) (by kernel_rfl) (by assumption) ?_ ?_; rotate_left; focus (refine .inl ⟨by kernel_rfl, ?_⟩; intro w hSw; (try dsimp only at hSw); go_simp; (try with_reducible rfl)); (try simp only [Act.put, List.setIfInBounds_toArray, List.set_cons_zero, List.set_cons_succ]))
    refine wpAnyH_ready (rs := [2]) (by kernel_rfl) (by simp) ?_
    refine AllReadyH.cons (o := { dst := some 35, op := Op.call { callee := Callee.value (Operand.func 70), args := #[Operand.tmp 34], argTypes := #[22] }, type := 29, pos := "instr.go:93", after := #[{ on := 1, ground := Ground.data }], guard := none }) rfl (fun K hK => ?_) AllReadyH.nil
    go_simp
    (go_at_call 70; (with_reducible refine (U1.out _).mono ?_); intro e w2 h; obtain ⟨v2, rfl, hr2, hb2⟩ := h; have HR2 := Lib.hid hr2; have HB2 := Lib.hid hb2; have hk2 := Six.on hHeld hb2; have hz1 := BoxI.lt (And.left hHeld); have hs2 := hb2.size; clear hr2 hb2)
    refine hK.out _ _ hk2 (fun hHeld2 => ?_)
    clear hK K hHeld
    (try simp only [Act.put, List.setIfInBounds_toArray, List.set_cons_zero, List.set_cons_succ])
    refine wpAnyH_ready (rs := [5]) (by kernel_rfl) (by simp) ?_
    refine AllReadyH.cons (o := { dst := some 38, op := Op.call { callee := Callee.value (Operand.func 70), args := #[Operand.tmp 37], argTypes := #[22] }, type := 29, pos := "instr.go:93", after := #[{ on := 4, ground := Ground.data }, { on := 2, ground := Ground.chain }], guard := none }) rfl (fun K hK => ?_) AllReadyH.nil
    go_simp
    (go_at_call 70; (with_reducible refine (U2.out _).mono ?_); intro e w3 h; obtain ⟨A3, k3, rfl, hl3, hb3⟩ := h; have HL3 := Lib.hid hl3; have HB3 := Lib.hid hb3; have hk3 := Six.on hHeld2 hb3; have hz3 := hb3.size; clear hl3 hb3)
    refine hK.out _ _ hk3 (fun hHeld5 => ?_)
    clear hK K hHeld2
    (try simp only [Act.put, List.setIfInBounds_toArray, List.set_cons_zero, List.set_cons_succ])
    refine wpAnyH_ready (rs := [6]) (by kernel_rfl) (by simp) ?_
    refine AllReadyH.cons (o := { dst := some 39, op := Op.call { callee := Callee.builtin Builtin.append, args := #[Operand.tmp 35, Operand.tmp 38], argTypes := #[29, 29] }, type := 29, pos := "instr.go:93", after := #[{ on := 2, ground := Ground.data }, { on := 5, ground := Ground.data }, { on := 5, ground := Ground.chain }], guard := none }) rfl (fun K hK => ?_) AllReadyH.nil
    (refine wp_lies rfl _ _ rfl _ _ x rfl (HR2.out.later HB3.out) _ _ _ _ y rfl rfl HL3.out (by omega) (by omega) (Nat.le_trans hs2 hz3) ?_; intro v4 w4 hr4 hb4; have HR4 := Lib.hid hr4; have HB4 := Lib.hid hb4; have hk4 := Six.past hHeld5 (hb4.mono hz1); clear hr4 hb4)
    refine hK.out _ _ hk4 (fun hHeld6 => ?_)
    clear hK K hHeld5
    (try simp only [Act.put, List.setIfInBounds_toArray, List.set_cons_zero, List.set_cons_succ])
    (refine heldTake (i := 7) (oi := { dst := some 2, op := Op.assign (Operand.tmp 39), type := 29, pos := "instr.go:93", after := #[{ on := 6, ground := Ground.data }, { on := 6, ground := Ground.chain }, { on := 0, ground := Ground.phase }, { on := 1, ground := Ground.phase }, { on := 2, ground := Ground.phase }, { on := 3, ground := Ground.phase }, { on := 4, ground := Ground.phase }, { on := 5, ground := Ground.phase }, { on := 6, ground := Ground.phase }], guard := none }) (v := ?_) rfl (by kernel_rfl) (by kernel_rfl) (by kernel_rfl) (by assumption) ?_ ?_; rotate_left; focus (refine .inl ⟨by kernel_rfl, ?_⟩; intro w hSw; (try dsimp only at hSw); go_simp; (try with_reducible rfl)); (try simp only [Act.put, List.setIfInBounds_toArray, List.set_cons_zero, List.set_cons_succ]))
    refine wpAnyH_done (by kernel_rfl) ?_ _
    refine NoPanic.normal ?_
    have hLast := hHeld6
    clear hHeld6
    go_wp2
    go_ret
    exact ⟨_, rfl, by rw [HE.out]; exact HR4.out.mono (by omega), BoxI.bel hLast.1⟩
  have d8 : ((m : Int) == 8) = false := by simp; omega
  by_cases m9 : m = 9
  · subst m9
    have HE := Lib.hid (show immL i = [0] by rw [HIM.out]; unfold immB; rw [if_neg (by omega), if_neg (by omega), if_neg (by omega), if_neg (by omega), if_neg (by omega), if_pos rfl])
    go_enter Tryd.func44, Tryd.ntmps44
    go_wp2_with (first
      | (go_at_call 46; go_must ((with_reducible refine (HI.out _ HT1.out).mono ?_); rintro e w1 ⟨rfl, hb⟩; unfold infV; have HB1 := Lib.hid (HB.out.on hb); have c1 := HB1.out.c1; have c2 := HB1.out.c2; have c3 := HB1.out.c3; clear hb)))
    go_ret
    refine box_bytes HB1.out ⟨_, rfl, ?_, (Below.refl _ _).alloc (Nat.le_refl _) _⟩
    rw [HE.out]
    exact Row.made w1 [0] w1.heap.size w1.heap.size rfl (Nat.le_refl _) (by simp)
  have d9 : ((m : Int) == 9) = false := by simp; omega
  by_cases m10 : m = 10
  · subst m10
    have HE := Lib.hid (show immL i = sebL (s32 i.a) by rw [HIM.out]; unfold immB; rw [if_neg (by omega), if_neg (by omega), if_neg (by omega), if_neg (by omega), if_neg (by omega), if_neg (by omega), if_pos rfl])
    have ha := (HZ3.out (by omega)).1
    have hw : wrap64 (wrap32 i.a) = s32 i.a := by unfold s32 wrap64 wrap32; omega
    have hs : -9223372036854775808 ≤ s32 i.a ∧ s32 i.a ≤ 9223372036854775807 := by unfold s32; omega
    have U1 := Lib.hid (fun W => intB (s32 i.a) W hs.1 hs.2)
    generalize s32 i.a = z at *
    go_enter Tryd.func44, Tryd.ntmps44
    go_wp2_with (first
      | (go_at_call 46; go_must ((with_reducible refine (HI.out _ HT1.out).mono ?_); rintro e w1 ⟨rfl, hb⟩; unfold infV; have HB1 := Lib.hid (HB.out.on hb); have c1 := HB1.out.c1; have c2 := HB1.out.c2; have c3 := HB1.out.c3; clear hb))
      | (go_at_call 71; go_must ((with_reducible refine (U1.out _).mono ?_); intro e w2 h; obtain ⟨v2, rfl, hr2, hb2⟩ := h; have HR2 := Lib.hid hr2; have HB2 := Lib.hid hb2; clear hr2 hb2)))
    go_ret
    exact box_bytes HB1.out ⟨_, rfl, by rw [HE.out]; exact HR2.out, HB2.out⟩
  have d10 : ((m : Int) == 10) = false := by simp; omega
  by_cases m11 : m = 11
  · subst m11
    have HE := Lib.hid (show immL i = sebL (s64 i.a) by rw [HIM.out]; unfold immB; rw [if_neg (by omega), if_neg (by omega), if_neg (by omega), if_neg (by omega), if_neg (by omega), if_neg (by omega), if_neg (by omega), if_pos rfl])
    have hw : wrap64 i.a = s64 i.a := by unfold s64 wrap64; omega
    have hs : -9223372036854775808 ≤ s64 i.a ∧ s64 i.a ≤ 9223372036854775807 := by unfold s64; omega
    have U1 := Lib.hid (fun W => intB (s64 i.a) W hs.1 hs.2)
    generalize s64 i.a = z at *
    go_enter Tryd.func44, Tryd.ntmps44
    go_wp2_with (first
      | (go_at_call 46; go_must ((with_reducible refine (HI.out _ HT1.out).mono ?_); rintro e w1 ⟨rfl, hb⟩; unfold infV; have HB1 := Lib.hid (HB.out.on hb); have c1 := HB1.out.c1; have c2 := HB1.out.c2; have c3 := HB1.out.c3; clear hb))
      | (go_at_call 71; go_must ((with_reducible refine (U1.out _).mono ?_); intro e w2 h; obtain ⟨v2, rfl, hr2, hb2⟩ := h; have HR2 := Lib.hid hr2; have HB2 := Lib.hid hb2; clear hr2 hb2)))
    go_ret
    exact box_bytes HB1.out ⟨_, rfl, by rw [HE.out]; exact HR2.out, HB2.out⟩
  have d11 : ((m : Int) == 11) = false := by simp; omega
  have HE := Lib.hid (show immL i = lebL i.a by rw [HIM.out]; unfold immB; rw [if_neg m0, if_neg m1, if_neg m3, if_neg m5, if_neg m8, if_neg m9, if_neg m10, if_neg m11])
  have U1 := Lib.hid (fun W => uintB i.a W a0 a1)
  clear HIM
  go_enter Tryd.func44, Tryd.ntmps44
  go_wp2_with (first
    | (go_at_call 46; go_must ((with_reducible refine (HI.out _ HT1.out).mono ?_); rintro e w1 ⟨rfl, hb⟩; unfold infV; have HB1 := Lib.hid (HB.out.on hb); have c1 := HB1.out.c1; have c2 := HB1.out.c2; have c3 := HB1.out.c3; clear hb))
    | (go_at_call 70; go_must ((with_reducible refine (U1.out _).mono ?_); intro e w2 h; obtain ⟨v2, rfl, hr2, hb2⟩ := h; have HR2 := Lib.hid hr2; have HB2 := Lib.hid hb2; clear hr2 hb2)))
  go_ret
  exact box_bytes HB1.out ⟨_, rfl, by rw [HE.out]; exact HR2.out, HB2.out⟩
end Go.Proofs.YtjjhgmmkapeifaaDoor
