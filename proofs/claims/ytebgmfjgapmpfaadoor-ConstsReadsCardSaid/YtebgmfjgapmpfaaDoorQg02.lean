/- creelref02.Group: the groups of seven bits, off a list of 64 bits. -/
import Derived.Test.YtebgmfjgapmpfaaDoorQg01
import Derived.Deep.QuietTactic
import Derived.BigQuiet
import Derived.Deep.RegionHeld3
import Derived.WalkLawsBesides
import Derived.Defers
import Derived.Recover
import Derived.Lib.Hide
namespace Go.Proofs.YtebgmfjgapmpfaaDoor
set_option linter.unusedVariables false
open Go.RowKit

theorem grp_get (x : Int) {n k : Nat} (h : k < n) : (grp x n)[k]? = some (x / 128 ^ k % 128 + if k + 1 < n then 128 else 0) := by simp [grp, h]
theorem grp_take (x : Int) {n k : Nat} (h : k < n) : (grp x n).take (k + 1) = (grp x n).take k ++ [x / 128 ^ k % 128 + if k + 1 < n then 128 else 0] := by
  have hk : k < (grp x n).length := by rw [grp_length]; exact h
  rw [List.take_succ_eq_append_getElem hk]
  congr 2
  have := grp_get x h
  rw [List.getElem?_eq_getElem hk] at this
  injection this

theorem group_next {x e : Int} {k m : Nat} (hm : m < 7) (he : x / 2 ^ (7 * k + m) % 2 ^ (7 - m) = e) :
    (∃ m' : Nat, m' < 7 ∧ Value.int .i64 ((m : Int) - 1) = .int .i64 m' ∧ Value.int .i64 e = .int .i64 (x / 2 ^ (7 * k + (m' + 1)) % 2 ^ (7 - (m' + 1)))) ∨
      (Value.int .i64 ((m : Int) - 1) = .int .i64 (-1) ∧ Value.int .i64 e = .int .i64 (x / 2 ^ (7 * k + 0) % 2 ^ (7 - 0))) := by
  rcases m with _ | m
  · exact .inr ⟨by simp, by rw [he]⟩
  · exact .inl ⟨m, by omega, by go_num, by rw [he]⟩

set_option maxHeartbeats 800000 in
theorem group_any (x : Int) (n : Nat) (t : Bool) (A : Option Addr) (cap B : Nat) (w : World) (hl : Lies w B A (bools x 64)) (hB : B ≤ w.heap.size) (h64 : ∀ j, 64 ≤ j → bit x j = t) (hn : n ≤ 10) :
    Calls Tryd.prog 147 #[.slice A 64 cap, .int .i64 n, .bool t] w (Bytes (grp x n) w) := by
  obtain ⟨i0, hi0, hz0, hz1, hz2⟩ := info_parts infoB
  have HL := Lib.hid hl
  have H64 := Lib.hid h64
  clear hl h64
  go_enter Tryd.func147, Tryd.ntmps147
  go_wp2
  go_loopw [7, 8] (fun b i wr => ∃ k : Nat, k ≤ n ∧ i = .int .i64 k ∧ wr.ownsRow w.heap.size 5 1 b k (cells ((grp x n).take k)) ∧ Below w.heap.size w wr) (fun _ i _ => n - (intOf i).toNat)
  case atStart => exact ⟨0, by omega, rfl, World.ownsRow_nil _ _ _ _, Below.refl _ _⟩
  case round =>
    obtain ⟨k, hk, rfl, hown, hbe⟩ := hrel
    have hsz := hbe.size
    obtain ⟨wo, rfl⟩ : ∃ wo : World, wo = wr := ⟨_, rfl⟩
    have HL2 := Lib.hid (HL.out.below hbe hB)
    have HO := Lib.hid hown
    have HBE := Lib.hid hbe
    clear hown hbe
    by_cases hlt : k < n
    · go_wp2
      go_loop [9, 10] (fun c d => (∃ m : Nat, m < 7 ∧ d = .int .i64 m ∧ c = .int .i64 (x / 2 ^ (7 * k + (m + 1)) % 2 ^ (7 - (m + 1)))) ∨ (d = .int .i64 (-1) ∧ c = .int .i64 (x / 2 ^ (7 * k + 0) % 2 ^ (7 - 0)))) (fun _ d => (intOf d + 1).toNat)
      case atStart => exact .inl ⟨6, by omega, rfl, by simp⟩
      case round =>
        rcases hrel with ⟨m, hm, rfl, rfl⟩ | ⟨rfl, rfl⟩
        · have hst := group_step x (7 * k) m hm
          have hbd := group_bd x (7 * k) (m + 1) (by omega)
          generalize x / 2 ^ (7 * k + (m + 1)) % 2 ^ (7 - (m + 1)) = c at *
          obtain ⟨c0, c1⟩ := hbd
          have HST := Lib.hid hst
          clear hst
          have htn : (7 * (k : Int) + (m : Int)).toNat = 7 * k + m := by omega
          by_cases hj : 7 * k + m < 64
          · obtain ⟨b, off, rfl, hb, hc⟩ := HL2.out _ _ (bools_get x hj)
            have hj' : 7 * (k : Int) + m < 64 := by omega
            generalize hbt : bit x (7 * k + m) = bt at *
            have HBT := Lib.hid hbt
            clear hbt
            cases bt
            all_goals go_wp2
            all_goals
              go_round
              case rel => exact group_next hm (by rw [HST.out]; simp)
              case measure => simp [intOf]
          · have hj' : ¬ 7 * (k : Int) + m < 64 := by omega
            have HBT := Lib.hid (H64.out (7 * k + m) (by omega))
            cases t
            all_goals go_wp2
            all_goals
              go_round
              case rel => exact group_next hm (by rw [HST.out, HBT.out]; simp)
              case measure => simp [intOf]
        · have e7 : x / 2 ^ (7 * k + 0) % 2 ^ (7 - 0) = x / 128 ^ k % 128 := by rw [Nat.add_zero, pow7]; rfl
          rw [e7]
          have hbd : 0 ≤ x / 128 ^ k % 128 ∧ x / 128 ^ k % 128 ≤ 127 := by omega
          have htk := grp_take x hlt
          clear e7
          generalize x / 128 ^ k % 128 = c at *
          obtain ⟨c0, c1⟩ := hbd
          have HT := Lib.hid htk
          clear htk
          by_cases hla : k + 1 < n
          · have hla' : (k : Int) < n - 1 := by omega
            go_wp2_with (at_builtin; refine wpList_append_own _ rfl _ _ _ rfl w.heap.size 5 i0 _ 1 1 Tryd.underlying26 hi0 hz0 hz1 hz2 rfl (by omega) _ _ _ rfl (HO.out.alloc _) ⟨wo.heap.size, 0, none⟩ 1 1 [.int .u8 (c + 128)] rfl rfl (World.news_of_block (cs := #[.int .u8 (c + 128)]) (t := 5) (fr := (0, 0)) (heap_alloc_new wo _)) (by simp [Value.oneCell']) (by unfold maxLen; omega) (by omega) (by simp; omega) ?_; intro v' w2 hown2 hgrow2 _; have HO2 := Lib.hid hown2; have HG2 := Lib.hid hgrow2; clear hown2 hgrow2)
            go_roundw
            case rel => exact ⟨k + 1, by omega, by go_num, by have h := HT.out; rw [if_pos hla] at h; rw [h, cells_snoc]; exact HO2.out, below_append HBE.out HO.out HG2.out⟩
            case measure => simp [intOf]; omega
          · have hla' : ¬ (k : Int) < n - 1 := by omega
            go_wp2_with (at_builtin; refine wpList_append_own _ rfl _ _ _ rfl w.heap.size 5 i0 _ 1 1 Tryd.underlying26 hi0 hz0 hz1 hz2 rfl (by omega) _ _ _ rfl (HO.out.alloc _) ⟨wo.heap.size, 0, none⟩ 1 1 [.int .u8 (c)] rfl rfl (World.news_of_block (cs := #[.int .u8 (c)]) (t := 5) (fr := (0, 0)) (heap_alloc_new wo _)) (by simp [Value.oneCell']) (by unfold maxLen; omega) (by omega) (by simp; omega) ?_; intro v' w2 hown2 hgrow2 _; have HO2 := Lib.hid hown2; have HG2 := Lib.hid hgrow2; clear hown2 hgrow2)
            go_roundw
            case rel => exact ⟨k + 1, by omega, by go_num, by have h := HT.out; rw [if_neg hla, Int.add_zero] at h; rw [h, cells_snoc]; exact HO2.out, below_append HBE.out HO.out HG2.out⟩
            case measure => simp [intOf]; omega
    · obtain rfl : k = n := by omega
      have hfull := HO.out
      rw [List.take_of_length_le (by rw [grp_length]; omega)] at hfull
      have HF := Lib.hid (bytes_own hfull (grp_length _ _) HBE.out)
      clear hfull
      go_wp2
      go_ret
      exact HF.out
end Go.Proofs.YtebgmfjgapmpfaaDoor

/- creelref02.Uint; the least number of groups. -/
namespace Go.Proofs.YtebgmfjgapmpfaaDoor
set_option linter.unusedVariables false
open Go.RowKit

theorem below_drewN {B : Nat} {w w1 : World} (h : Below B w w1) (d : Nat) : Below B w (w1.drewN d) := ⟨h.os, h.tape, h.output, h.size, h.block⟩

/-- Is a bit from a up to j other than t? -/
def anyB (x : Int) (t : Bool) (a : Nat) : Nat → Bool
  | 0 => false
  | j + 1 => anyB x t a j || (decide (a ≤ j) && (bit x j != t))
theorem any_start (x : Int) (t : Bool) (a : Nat) : ∀ j, j ≤ a → anyB x t a j = false
  | 0, _ => rfl
  | j + 1, h => by
    show (anyB x t a j || (decide (a ≤ j) && (bit x j != t))) = false
    rw [any_start x t a j (by omega)]
    simp; omega
theorem any_snoc (x : Int) (t : Bool) {a j : Nat} (h : a ≤ j) : anyB x t a (j + 1) = (anyB x t a j || (bit x j != t)) := by
  show (anyB x t a j || (decide (a ≤ j) && (bit x j != t))) = _
  simp [h]
theorem any_none (x : Int) (t : Bool) (a : Nat) : ∀ j, anyB x t a j = false ↔ ∀ i, a ≤ i → i < j → bit x i = t
  | 0 => by simp [anyB]
  | j + 1 => by
    show (anyB x t a j || (decide (a ≤ j) && (bit x j != t))) = false ↔ _
    rw [Bool.or_eq_false_iff, any_none x t a j]
    constructor
    · rintro ⟨h1, h2⟩ i hi hij
      rcases Nat.lt_or_ge i j with g | g
      · exact h1 i hi g
      · obtain rfl : i = j := by omega
        simpa [hi] using h2
    · intro h
      refine ⟨fun i hi hij => h i hi (by omega), ?_⟩
      by_cases g : a ≤ j
      · simp [g, h j g (by omega)]
      · simp [g]

theorem bytes_made {l : List Int} {w w1 w' : World} {e : Ending} (h : Bytes l w1 e w') (hb : Below w.heap.size w w1) : Bytes l w e w' := by
  obtain ⟨A, c, h1, h2, h3, h4, h5, h6⟩ := h
  have := hb.size
  exact ⟨A, c, h1, h2, h3, h4, fun a e => ⟨by have := (h5 a e).1; omega, (h5 a e).2⟩, hb.trans (h6.mono this)⟩

set_option maxHeartbeats 1000000 in
theorem refUint_any (x : Int) (w : World) (h0 : 0 ≤ x) (h1 : x ≤ 18446744073709551615) {n : Nat} (hn : Least (fitU x) n) :
    Calls Tryd.prog 117 #[.int .u64 x] w (Bytes (grp x n) w) := by
  have h10 : n ≤ 10 := hn.le (by omega) (fitU_ten x (by omega))
  have hn1 := hn.1
  have hall : ∀ k, 1 ≤ k → k ≤ 9 → (fitU x k ↔ anyB x false (7 * k) 64 = false) := fun k a b => by
    rw [any_none]; exact fitU_bits h0 (by show x < 18446744073709551616; omega) a b
  have h64 : ∀ j, 64 ≤ j → bit x j = false := fun j hj => bit_high h0 (b := 64) (by show x < 18446744073709551616; omega) j hj
  have HA := Lib.hid hall
  have HN := Lib.hid hn
  have H64 := Lib.hid h64
  clear hall hn h64
  go_enter Tryd.func117, Tryd.ntmps117
  go_wp2_with (go_at_call 146; go_must (refine (bits_any _ _ h0 h1).mono ?_; rintro e w1 ⟨A, c, rfl, hc1, hc2, hl, hlo, hbe⟩; rw [bools_length] at hc1; simp only [bools_length]; have HL := Lib.hid hl; have HBE := Lib.hid hbe; clear hl hlo hbe))
  go_loop [4] (fun i => ∃ k : Nat, 1 ≤ k ∧ k ≤ n ∧ i = .int .i64 k) (fun i => 10 - (intOf i).toNat)
  case atStart => exact ⟨1, by omega, by omega, rfl⟩
  case round =>
    obtain ⟨k, hk1, hkn, rfl⟩ := hrel
    by_cases hk9 : k < 10
    · have hk9' : (k : Int) < 10 := by omega
      go_wp2
      go_loop [5, 6] (fun m i => ∃ j : Nat, 7 * k ≤ j ∧ j ≤ 64 ∧ i = .int .i64 j ∧ m = .bool (anyB x false (7 * k) j)) (fun _ i => 64 - (intOf i).toNat)
      case atStart => exact ⟨7 * k, by omega, by omega, by go_num, by rw [any_start _ _ _ _ (by omega)]⟩
      case round =>
        obtain ⟨j, hj1, hj2, rfl, rfl⟩ := hrel
        by_cases hj : j < 64
        · obtain ⟨b, off, rfl, hb, hc⟩ := HL.out _ _ (bools_get x hj)
          have hs := any_snoc x false hj1
          generalize anyB x false (7 * k) j = s at *
          generalize bit x j = bt at *
          have HS := Lib.hid hs
          clear hs
          cases s
          all_goals go_wp2
          all_goals
            go_round
            case rel => exact ⟨j + 1, by omega, by omega, by go_num, by rw [HS.out]; simp⟩
            case measure => simp [intOf]; omega
        · obtain rfl : j = 64 := by omega
          by_cases hkn2 : k = n
          · subst hkn2
            have hf : anyB x false (7 * k) 64 = false := (HA.out k hk1 (by omega)).1 HN.out.2.1
            rw [hf]
            clear hf
            go_wp2_with (go_at_call 147; go_must (refine (group_any x k false A c _ _ HL.out (Nat.le_refl _) H64.out h10).mono ?_; intro e w2 hb2; have HB2 := Lib.hid (bytes_made hb2 HBE.out); obtain ⟨A2, c2, rfl, -⟩ := hb2))
            go_ret
            exact HB2.out
          · have hf : anyB x false (7 * k) 64 = true := by
              have := mt (HA.out k hk1 (by omega)).2 (HN.out.2.2 k hk1 (by omega))
              simpa using this
            rw [hf]
            clear hf
            go_wp2
            go_round
            case rel => exact ⟨k + 1, by omega, by omega, by go_num⟩
            case measure => simp [intOf]; omega
    · obtain rfl : k = 10 := by omega
      obtain rfl : n = 10 := by omega
      go_wp2_with (go_at_call 147; go_must (refine (group_any x 10 false A c _ _ HL.out (Nat.le_refl _) H64.out (Nat.le_refl _)).mono ?_; intro e w2 hb2; have HB2 := Lib.hid (bytes_made hb2 HBE.out); obtain ⟨A2, c2, rfl, -⟩ := hb2))
      go_ret
      exact HB2.out

theorem least_find (F : Nat → Prop) : ∀ k, 1 ≤ k → F k → ∃ n, Least F n := by
  intro k
  induction k using Nat.strongRecOn with
  | _ k ih =>
    intro h1 h2
    by_cases h : ∃ m, 1 ≤ m ∧ m < k ∧ F m
    · obtain ⟨m, a, b, c⟩ := h
      exact ih m b a c
    · exact ⟨k, h1, h2, fun m a b c => h ⟨m, a, b, c⟩⟩
theorem leastU (x : Int) (h : x ≤ 18446744073709551615) : ∃ n, Least (fitU x) n := least_find _ 10 (by omega) (fitU_ten x (by omega))
end Go.Proofs.YtebgmfjgapmpfaaDoor

/- types.Limits, Fits, flag; creelref04.Limits. -/
namespace Go.Proofs.YtebgmfjgapmpfaaDoor
set_option linter.unusedVariables false
set_option maxRecDepth 100000
open Go.RowKit

/-- Limits, by value. -/
abbrev lv (a b : Int) (c : Bool) : Value := .agg #[.int .u32 a, .int .u32 b, .bool c]
/-- May limits be, of at most m? -/
def limB (a b : Int) (c : Bool) (m : Int) : Bool := if c then decide (a ≤ b) && decide (b ≤ m) else decide (a ≤ m) && decide (b = 0)
/-- api.ErrLimits is 26. -/
def limZ (a b : Int) (c : Bool) (m : Int) : Int := if limB a b c m then 0 else 26
theorem limZ_no {a b : Int} {c : Bool} {m : Int} (h : limB a b c m = false) : limZ a b c m = 26 := by unfold limZ; rw [h]; rfl
theorem limZ_yes {a b : Int} {c : Bool} {m : Int} (h : limB a b c m = true) : limZ a b c m = 0 := by unfold limZ; rw [h]; rfl

/-- Do the first limits do for the second? -/
def fitB (a b : Int) (c : Bool) (a' b' : Int) (c' : Bool) : Bool := decide (a' ≤ a) && (!c' || (c && decide (b ≤ b')))
theorem flag_any (c : Bool) (w : World) : Calls Tryd.prog 133 #[.bool c] w fun e w' => e = .returned (.int .u8 (if c then 1 else 0)) ∧ w = w' := by
  cases c
  all_goals
    go_enter Tryd.func133, Tryd.ntmps133
    go_wp2
    go_ret
    exact ⟨rfl, rfl⟩

end Go.Proofs.YtebgmfjgapmpfaaDoor

/- types.appendList, types.Text, creelref04.names, creelref04.Text. -/
namespace Go.Proofs.YtebgmfjgapmpfaaDoor
set_option linter.unusedVariables false
open Go.RowKit

/-- The names of the first k types, commas between them. -/
def commaK (l : List UInt8) : Nat → List UInt8
  | 0 => []
  | k + 1 => match l[k]? with
    | none => commaK l k
    | some c => commaK l k ++ ((if k = 0 then [] else [44]) ++ nameZ c.toNat)
def listL (l : List UInt8) : List UInt8 := 40 :: (commaK l l.length ++ [41])
def textL (p r : List UInt8) : List UInt8 := listL p ++ ([45, 62] ++ listL r)
theorem commaK_len (l : List UInt8) : ∀ k, (commaK l k).length ≤ 8 * k
  | 0 => by simp [commaK]
  | k + 1 => by
    have ih := commaK_len l k
    unfold commaK
    split
    · omega
    · rename_i c _
      have := (nameZ_len c.toNat).2
      rw [List.length_append, List.length_append]
      split <;> simp <;> omega
theorem commaK_first {l : List UInt8} {c : UInt8} (h : l[0]? = some c) : commaK l 1 = nameZ c.toNat := by
  show (match l[0]? with | none => _ | some c => _) = _
  rw [h]
  simp [commaK]
theorem commaK_next {l : List UInt8} {c : UInt8} {k : Nat} (h : l[k]? = some c) (hk : k ≠ 0) : commaK l (k + 1) = commaK l k ++ ([44] ++ nameZ c.toNat) := by
  show (match l[k]? with | none => _ | some c => _) = _
  rw [h]
  simp [hk]
theorem listL_len (l : List UInt8) : (listL l).length ≤ 8 * l.length + 2 := by
  unfold listL
  have := commaK_len l l.length
  simp; omega

/-- What appendList hands back. -/
def Onto (B : Nat) (l : List UInt8) (w : World) (e : Ending) (w' : World) : Prop := ∃ v, e = .returned v ∧ Row w' B v l ∧ Below B w w'

theorem S_at {l : List UInt8} {k : Nat} (h : k < l.length) : ∃ c : UInt8, l[k]? = some c ∧ ∀ hh : k < (S l).size, (S l)[k]'hh = c :=
  ⟨l[k], List.getElem?_eq_getElem h, fun hh => S_get l k hh⟩

end Go.Proofs.YtebgmfjgapmpfaaDoor

/- creelref04.names, creelref04.Text; awake. -/
namespace Go.Proofs.YtebgmfjgapmpfaaDoor
set_option linter.unusedVariables false
open Go.RowKit

theorem cat_comma (a b : List UInt8) : Value.string (S a ++ { data := #[44] } ++ S b) = .string (S (a ++ ([44] ++ b))) := by
  rw [show ({ data := #[44] } : ByteArray) = S [44] from rfl, S_append, S_append, List.append_assoc]
theorem cat_two (a b : List UInt8) : Value.string (S a ++ S b) = .string (S (a ++ b)) := by rw [S_append]

theorem cat_text (x y : List UInt8) : Ending.returned (.string ({ data := #[40] } ++ S x ++ { data := #[41, 45, 62, 40] } ++ S y ++ { data := #[41] })) = .returned (.string (S ([40] ++ x ++ [41, 45, 62, 40] ++ y ++ [41]))) := by
  rw [show ({ data := #[40] } : ByteArray) = S [40] from rfl, show ({ data := #[41] } : ByteArray) = S [41] from rfl, show ({ data := #[41, 45, 62, 40] } : ByteArray) = S [41, 45, 62, 40] from rfl, S_append, S_append, S_append, S_append]

/-- What is held while a box of two values lies at the end of the world w: nothing below it turns, and both stay. -/
def Boxed (w : World) (o : Obj) (w' : World) : Prop := Below (w.heap.size + 1) (w.alloc o) w'
theorem Boxed.start (w : World) (o : Obj) : Boxed w o (w.alloc o).drew := (Below.refl _ _).drew
theorem Boxed.cell {w w' : World} {o : Obj} (h : Boxed w o w') (i : Nat) : w'.cell? ⟨w.heap.size, i, none⟩ = (w.alloc o).cell? ⟨w.heap.size, i, none⟩ := Below.cell (show Below _ _ _ from h) (p := ⟨w.heap.size, i, none⟩) (Nat.lt_succ_self _)
theorem Boxed.row {w w' : World} {cs : Array Value} {t : TypeId} (h : Boxed w (.cells cs t) w') (i : Nat) : w'.cell? ⟨w.heap.size, i, none⟩ = cs[i]? := (h.cell i).trans (cell_of_row _ _ _ _ _ _ (heap_alloc_new w _))
theorem Boxed.on {w w1 w2 : World} {o : Obj} (h : Boxed w o w1) (hb : Below w1.heap.size w1 w2) : Boxed w o w2 := Below.trans h (hb.mono (by have := Below.size h; simp at this; omega))
theorem Boxed.end {w w' : World} {o : Obj} (h : Boxed w o w') : Below w.heap.size w w' := (below_box w o).trans (Below.mono h (by omega))
theorem Boxed.room {w w' : World} {o : Obj} (h : Boxed w o w') : w.heap.size + 1 ≤ w'.heap.size := by
  have := Below.size h
  simp at this
  omega
/-- A call that leaves what there was, where two cells of a box are held. -/
theorem held_two {K : Nat} {args : Array Value} {w : World} {u v : Value} {t : TypeId} {R : Ending → Prop} (hN : ∀ w, Calls Tryd.prog K args w fun e w' => R e ∧ Below w.heap.size w w') {W : World}
    (h : Boxed w (.cells #[u, v] t) W ∧ W.cell? ⟨w.heap.size, 0, none⟩ = some u ∧ W.cell? ⟨w.heap.size, 1, none⟩ = some v) :
    Calls Tryd.prog K args W fun e w' => R e ∧ Boxed w (.cells #[u, v] t) w' ∧ w'.cell? ⟨w.heap.size, 0, none⟩ = some u ∧ w'.cell? ⟨w.heap.size, 1, none⟩ = some v :=
  (hN W).mono fun _ _ ⟨h1, h2⟩ => ⟨h1, h.1.on h2, (h.1.on h2).row 0, (h.1.on h2).row 1⟩

theorem eg_text : S (textL [127, 126] [127]) = { data := #[40, 105, 51, 50, 44, 105, 54, 52, 41, 45, 62, 40, 105, 51, 50, 41] } := by decide
end Go.Proofs.YtebgmfjgapmpfaaDoor

/- leb.Uint and creelref02.Uint: the same bytes, as a list. -/
namespace Go.Proofs.YtebgmfjgapmpfaaDoor
set_option linter.unusedVariables false
open Go.RowKit

/-- How many bytes a number takes. -/
noncomputable def lebN (x : Int) : Nat := if h : x ≤ 18446744073709551615 then (leastU x h).choose else 1
/-- A number's bytes. -/
noncomputable def lebL (x : Int) : List UInt8 := (grp x (lebN x)).map fun c => UInt8.ofNat c.toNat
theorem lebN_least (x : Int) (h : x ≤ 18446744073709551615) : Least (fitU x) (lebN x) := by
  unfold lebN
  rw [dif_pos h]
  exact (leastU x h).choose_spec
theorem grp_bytes (x : Int) (n : Nat) : ∀ c ∈ grp x n, 0 ≤ c ∧ c ≤ 255 := by
  intro c hc
  obtain ⟨i, _, rfl⟩ := List.mem_map.1 hc
  have : 0 ≤ x / 128 ^ i % 128 ∧ x / 128 ^ i % 128 ≤ 127 := by omega
  split <;> omega
theorem nums_lebL (x : Int) : nums (lebL x) = grp x (lebN x) := by
  unfold nums lebL
  rw [List.map_map]
  conv => rhs; rw [← List.map_id (grp x (lebN x))]
  apply List.map_congr_left
  intro c hc
  have := grp_bytes x _ c hc
  simp
  omega
theorem lebL_length (x : Int) : (lebL x).length = lebN x := by unfold lebL; rw [List.length_map, grp_length]
theorem lebL_len (x : Int) (h : x ≤ 18446744073709551615) : 1 ≤ (lebL x).length ∧ (lebL x).length ≤ 10 := by
  rw [lebL_length]
  have h1 := lebN_least x h
  exact ⟨h1.1, h1.le (by omega) (fitU_ten x (by omega))⟩
/-- What both hand back. -/
def Leb (l : List UInt8) (w : World) (e : Ending) (w' : World) : Prop := ∃ A c, e = .returned (.slice A l.length c) ∧ Lies w' w'.heap.size A (cells (nums l)) ∧ Below w.heap.size w w'
theorem leb_of {x : Int} {w w' : World} {e : Ending} (h : Bytes (grp x (lebN x)) w e w') : Leb (lebL x) w e w' := by
  obtain ⟨A, c, h1, _, _, h4, _, h6⟩ := h
  rw [← nums_lebL] at h1 h4
  rw [nums_length] at h1
  exact ⟨A, c, h1, h4, h6⟩
theorem uintL (x : Int) (w : World) (h0 : 0 ≤ x) (h1 : x ≤ 18446744073709551615) : Calls Tryd.prog 102 #[.int .u64 x] w (Leb (lebL x) w) :=
  (uint_any x w h0 h1 (lebN_least x h1)).mono fun _ _ h => leb_of h
theorem refUintL (x : Int) (w : World) (h0 : 0 ≤ x) (h1 : x ≤ 18446744073709551615) : Calls Tryd.prog 117 #[.int .u64 x] w (Leb (lebL x) w) :=
  (refUint_any x w h0 h1 (lebN_least x h1)).mono fun _ _ h => leb_of h
end Go.Proofs.YtebgmfjgapmpfaaDoor

/- types.number, EncodeFunc, creelref04.Count, EncodeFunc. -/
namespace Go.Proofs.YtebgmfjgapmpfaaDoor
set_option linter.unusedVariables false
set_option maxRecDepth 100000
open Go.RowKit

theorem count_any (n : Int) (w : World) (h0 : 0 ≤ n) (h1 : n ≤ 9223372036854775807) : Calls Tryd.prog 97 #[.int .i64 n] w fun e w' => e = .returned (.string (S (lebL n))) ∧ Below w.heap.size w w' := by
  have HU := Lib.hid (fun w => refUintL n w h0 (by omega))
  have hlen := lebL_len n (by omega)
  go_enter Tryd.func97, Tryd.ntmps97
  go_wp2_with (go_at_call 117; go_must ((with_reducible refine (HU.out _).mono ?_); intro e w1 h; obtain ⟨A, c, rfl, hl, hb⟩ := h; have hstr := str_lies' hl (by omega) c; have HB := Lib.hid hb; clear hl hb))
  go_ret
  exact ⟨rfl, HB.out⟩

/-- A function's type's bytes. -/
noncomputable def encL (p r : List UInt8) : List UInt8 := [96] ++ lebL p.length ++ p ++ lebL r.length ++ r

end Go.Proofs.YtebgmfjgapmpfaaDoor

/- creelref04.EncodeFunc. -/
namespace Go.Proofs.YtebgmfjgapmpfaaDoor
set_option linter.unusedVariables false
set_option maxRecDepth 100000
open Go.RowKit

theorem cat_enc (x p y r : List UInt8) : Ending.returned (.string ({ data := #[96] } ++ S x ++ S p ++ S y ++ S r)) = .returned (.string (S ([96] ++ x ++ p ++ y ++ r))) := by
  rw [show ({ data := #[96] } : ByteArray) = S [96] from rfl, S_append, S_append, S_append, S_append]

end Go.Proofs.YtebgmfjgapmpfaaDoor

/- types.EncodeLimits, EncodeGlobal; creelref04.EncodeLimits, EncodeGlobal. -/
namespace Go.Proofs.YtebgmfjgapmpfaaDoor
set_option linter.unusedVariables false
set_option maxRecDepth 100000
open Go.RowKit

noncomputable def encLim (a b : Int) (c : Bool) : List UInt8 := if c then [1] ++ lebL a ++ lebL b else [0] ++ lebL a
theorem encLim_pos (a b : Int) (c : Bool) : 0 < (encLim a b c).length := by unfold encLim; cases c <;> simp

/-- What is held beside a box of three values. -/
theorem held_three {K : Nat} {args : Array Value} {w : World} {u v x : Value} {t : TypeId} {R : Ending → Prop} (hN : ∀ w, Calls Tryd.prog K args w fun e w' => R e ∧ Below w.heap.size w w') {W : World}
    (h : Boxed w (.cells #[u, v, x] t) W ∧ W.cell? ⟨w.heap.size, 0, none⟩ = some u ∧ W.cell? ⟨w.heap.size, 1, none⟩ = some v ∧ W.cell? ⟨w.heap.size, 2, none⟩ = some x) :
    Calls Tryd.prog K args W fun e w' => R e ∧ Boxed w (.cells #[u, v, x] t) w' ∧ w'.cell? ⟨w.heap.size, 0, none⟩ = some u ∧ w'.cell? ⟨w.heap.size, 1, none⟩ = some v ∧ w'.cell? ⟨w.heap.size, 2, none⟩ = some x :=
  (hN W).mono fun _ _ ⟨h1, h2⟩ => ⟨h1, h.1.on h2, (h.1.on h2).row 0, (h.1.on h2).row 1, (h.1.on h2).row 2⟩
theorem three_of {w W W' : World} {u v x : Value} {t : TypeId} (h : Boxed w (.cells #[u, v, x] t) W ∧ W.cell? ⟨w.heap.size, 0, none⟩ = some u ∧ W.cell? ⟨w.heap.size, 1, none⟩ = some v ∧ W.cell? ⟨w.heap.size, 2, none⟩ = some x) (hb : Below W.heap.size W W') :
    Boxed w (.cells #[u, v, x] t) W' ∧ W'.cell? ⟨w.heap.size, 0, none⟩ = some u ∧ W'.cell? ⟨w.heap.size, 1, none⟩ = some v ∧ W'.cell? ⟨w.heap.size, 2, none⟩ = some x :=
  ⟨h.1.on hb, (h.1.on hb).row 0, (h.1.on hb).row 1, (h.1.on hb).row 2⟩

/-- At a step of a region that draws its order: append of what lies somewhere and is not empty. -/
theorem step_lies {w : World} {ops : Array Oper} {o : Oper} {a : Act} {K : Act → World → Prop} {Q : Exit → Act → World → Prop} {E : Prop} (hgd : o.guard = none) (s x : Operand)
    (ho : o.op = .call { callee := .builtin .append, args := #[s, x], argTypes := #[26, 26] })
    (B : Nat) (v : Value) (xs : List UInt8) (hs : a.eval s = v) (hr : Row w B v xs)
    (A : Option Addr) (m c B' : Nat) (news : List UInt8) (hx : a.eval x = .slice A m c) (hl : news.length = m) (hn : Lies w B' A (cells (nums news)))
    (hm : 0 < m) (hb : xs.length + news.length ≤ 1000000) (hB : B ≤ w.heap.size)
    (h : ∀ v' w', Row w' B v' (xs ++ news) → Below B w w' → K (a.put o.dst v') w') :
    if Region.wanted o (yielded ops a.tmps) = true then Oper.wp Tryd.prog o a w K Q else E := by
  have hw : Region.wanted o (yielded ops a.tmps) = true := by simp [Region.wanted, hgd]
  rw [if_pos hw]
  obtain ⟨i0, hi0, hz0, hz1, hz2⟩ := info_parts infoB
  have hcl : (cells (nums news)).length = m := by rw [cells_length, nums_length]; exact hl
  obtain ⟨b, off, rfl, _, _⟩ := hn.at_ (i := 0) (by omega)
  refine wp_append_own _ s x _ ho B 5 i0 _ 1 1 Tryd.underlying26 hi0 hz0 hz1 hz2 rfl (by omega) v _ _ hs hr ⟨b, off, none⟩ m c (cells (nums news)) hx (by omega) ?_ ?_ (by unfold maxLen; omega) (by omega) hB (fun v' w' h2 h3 _ => h v' w' ?_ (Row.below hr hB h3))
  · intro j u hu
    obtain ⟨b', off', e, _, h2⟩ := hn j u hu
    injection e with e
    injection e with e1 e2
    subst e1; subst e2
    rw [Go.WideShapes.add_plain]; exact h2
  · intro u hu
    unfold cells at hu
    obtain ⟨c, _, rfl⟩ := List.mem_map.1 hu
    rfl
  · unfold Row
    rw [nums_append, List.length_append, hl]
    unfold cells at *
    rw [List.map_append]
    exact h2

theorem three_more {w W W' : World} {u v x : Value} {t : TypeId} (h : Boxed w (.cells #[u, v, x] t) W) (hb : Below (w.heap.size + 1) W W') :
    Boxed w (.cells #[u, v, x] t) W' ∧ W'.cell? ⟨w.heap.size, 0, none⟩ = some u ∧ W'.cell? ⟨w.heap.size, 1, none⟩ = some v ∧ W'.cell? ⟨w.heap.size, 2, none⟩ = some x := by
  have k : Boxed w (.cells #[u, v, x] t) W' := Below.trans h hb
  exact ⟨k, k.row 0, k.row 1, k.row 2⟩

theorem cat_lim (x y : List UInt8) : Ending.returned (.string ({ data := #[1] } ++ S x ++ S y)) = .returned (.string (S ([1] ++ x ++ y))) := by
  rw [show ({ data := #[1] } : ByteArray) = S [1] from rfl, S_append, S_append]
theorem cat_lim0 (x : List UInt8) : Ending.returned (.string ({ data := #[0] } ++ S x)) = .returned (.string (S ([0] ++ x))) := by
  rw [show ({ data := #[0] } : ByteArray) = S [0] from rfl, S_append]
/-- A global's type's bytes. -/
def encG (t : Int) (m : Bool) : List UInt8 := [UInt8.ofNat t.toNat, if m then 1 else 0]
theorem nums_encG (t : Int) (m : Bool) (h0 : 0 ≤ t) (h1 : t ≤ 255) : nums (encG t m) = [t, if m then 1 else 0] := by
  unfold encG nums
  cases m
  · simp; omega
  · simp; omega
end Go.Proofs.YtebgmfjgapmpfaaDoor

/- Plain mathematics: where a varint stops, the number of its lower bytes. -/
namespace Go.Proofs.YtebgmfjgapmpfaaDoor
set_option linter.unusedVariables false
open Go.RowKit

/-- Of the first M of the bytes r, the first p go on; the next one, if there is one, does not. -/
structure Stop (M : Nat) (r : List Int) (p : Nat) : Prop where
  leM : p ≤ M
  leR : p ≤ r.length
  on : ∀ i c, i < p → r[i]? = some c → 128 ≤ c
  off : ∀ c, p < M → r[p]? = some c → c < 128

theorem stop_ex (r : List Int) : ∀ M, ∃ p, Stop M r p
  | 0 => ⟨0, Nat.le_refl _, Nat.zero_le _, fun i c h => by omega, fun c h => by omega⟩
  | M + 1 => by
    obtain ⟨p, h⟩ := stop_ex r M
    have hM := h.leM
    have hR := h.leR
    rcases Nat.lt_or_ge p M with g | g
    · exact ⟨p, by omega, hR, h.on, fun c _ hc => h.off c g hc⟩
    · obtain rfl : p = M := by omega
      by_cases hr : p < r.length
      · by_cases hb : 128 ≤ r[p]
        · refine ⟨p + 1, by omega, by omega, fun i c hi hc => ?_, fun c h1 => by omega⟩
          rcases Nat.lt_or_ge i p with k | k
          · exact h.on i c k hc
          · obtain rfl : i = p := by omega
            rw [List.getElem?_eq_getElem hr] at hc
            injection hc with hc
            omega
        · refine ⟨p, by omega, hR, h.on, fun c _ hc => ?_⟩
          rw [List.getElem?_eq_getElem hr] at hc
          injection hc with hc
          omega
      · exact ⟨p, by omega, hR, h.on, fun c _ hc => by rw [List.getElem?_eq_none (by omega)] at hc; cases hc⟩

/-- The number of the lower seven bits of bytes. -/
def low : List Int → Int
  | [] => 0
  | c :: r => c % 128 + 128 * low r
theorem low_snoc : ∀ (l : List Int) (c : Int), low (l ++ [c]) = low l + c % 128 * 2 ^ (7 * l.length)
  | [], c => by simp [low]
  | d :: r, c => by
    have ih := low_snoc r c
    show d % 128 + 128 * low (r ++ [c]) = d % 128 + 128 * low r + c % 128 * 2 ^ (7 * (r.length + 1))
    have e : (2 : Int) ^ (7 * (r.length + 1)) = 128 * 2 ^ (7 * r.length) := by rw [show 7 * (r.length + 1) = 7 * r.length + 7 by omega, Int.pow_add, Int.mul_comm]; rfl
    rw [ih, e]
    generalize (2 : Int) ^ (7 * r.length) = t
    grind
theorem low_bd : ∀ l : List Int, 0 ≤ low l ∧ low l < 2 ^ (7 * l.length)
  | [] => by simp [low]
  | d :: r => by
    obtain ⟨h1, h2⟩ := low_bd r
    have e : (2 : Int) ^ (7 * (r.length + 1)) = 128 * 2 ^ (7 * r.length) := by rw [show 7 * (r.length + 1) = 7 * r.length + 7 by omega, Int.pow_add, Int.mul_comm]; rfl
    show 0 ≤ d % 128 + 128 * low r ∧ d % 128 + 128 * low r < 2 ^ (7 * (r.length + 1))
    rw [e]
    omega
/-- A last byte, with its sign. -/
def sg (c : Int) : Int := if 64 ≤ c then c - 128 else c
theorem take_snoc {l : List Int} {k : Nat} {c : Int} (h : l[k]? = some c) : l.take (k + 1) = l.take k ++ [c] := by
  obtain ⟨hk, e⟩ := List.getElem?_eq_some_iff.1 h
  rw [List.take_succ_eq_append_getElem hk, e]
theorem scale {a b : Nat} {x : Int} (hx : 0 ≤ x) (h : x < 2 ^ a) : 0 ≤ x * 2 ^ b ∧ x * 2 ^ b < 2 ^ (a + b) := by
  refine ⟨Int.mul_nonneg hx (Int.le_of_lt (p2 b)), ?_⟩
  rw [Int.pow_add]
  exact Int.mul_lt_mul_of_pos_right h (p2 b)
end Go.Proofs.YtebgmfjgapmpfaaDoor

/- signed, lower, length of package leb. -/
namespace Go.Proofs.YtebgmfjgapmpfaaDoor
open Go.RowKit
set_option linter.unusedVariables false

theorem signed_any (c : Int) (w : World) (h0 : 0 ≤ c) (h1 : c < 128) : Calls Tryd.prog 157 #[.int .u8 c] w fun e w' => e = .returned (.int .i64 (sg c)) ∧ w = w' := by
  have e1 := not64 c h0 h1
  have e2 := and64 c h0 h1
  obtain ⟨a, ha⟩ : ∃ a, a = c % 64 := ⟨_, rfl⟩
  obtain ⟨b, hb⟩ : ∃ b, b = c - c % 64 := ⟨_, rfl⟩
  rw [← ha] at e1
  rw [← hb] at e2
  have a0 : 0 ≤ a := by omega
  have a1 : a < 64 := by omega
  have b0 : 0 ≤ b := by omega
  have b1 : b ≤ 64 := by omega
  have HA := Lib.hid ha
  have HB := Lib.hid hb
  clear ha hb
  go_enter Tryd.func157, Tryd.ntmps157
  go_wp2
  go_ret
  exact ⟨ret_int (by have h1 := HA.out; have h2 := HB.out; unfold sg; split <;> omega), rfl⟩

set_option maxHeartbeats 800000 in
theorem lower_any (l : List Int) (A : Option Addr) (cap B : Nat) (w : World) (hl : Lies w B A (cells l)) (h9 : l.length ≤ 9) (hb : ∀ c ∈ l, 0 ≤ c ∧ c ≤ 255) :
    Calls Tryd.prog 156 #[.slice A l.length cap] w fun e w' => e = .returned (.tuple #[.int .u64 (low l), .int .i64 ((7 * l.length : Nat) : Int)]) ∧ w = w' := by
  have HL := Lib.hid hl
  have HC := Lib.hid hb
  clear hl hb
  go_enter Tryd.func156, Tryd.ntmps156
  go_wp2
  go_loop [2, 3, 8] (fun v s i => ∃ k : Nat, k ≤ l.length ∧ i = .int .i64 k ∧ s = .int .i64 ((7 * k : Nat) : Int) ∧ v = .int .u64 (low (l.take k))) (fun _ _ i => l.length - (intOf i).toNat)
  case atStart => exact ⟨0, by omega, rfl, rfl, rfl⟩
  case round =>
    obtain ⟨k, hk, rfl, rfl, rfl⟩ := hrel
    by_cases hlt : k < l.length
    · obtain ⟨c, hc⟩ : ∃ c, l[k]? = some c := ⟨_, List.getElem?_eq_getElem hlt⟩
      obtain ⟨b, off, rfl, hbB, hcell⟩ := HL.out.byte hc
      obtain ⟨c0, c1⟩ := HC.out c (List.mem_of_getElem? hc)
      have hbd := low_bd (l.take k)
      have hsn : low (l.take (k + 1)) = low (l.take k) + c % 128 * 2 ^ (7 * k) := by rw [take_snoc hc, low_snoc, List.length_take_of_le hk]
      rw [List.length_take_of_le hk] at hbd
      obtain ⟨v0, v1⟩ := hbd
      generalize low (l.take k) = v at *
      have hn := not128 c c0 (by omega)
      obtain ⟨x, hx⟩ : ∃ x, x = c % 128 := ⟨_, rfl⟩
      rw [← hx] at hn hsn
      have x0 : 0 ≤ x := by omega
      have x1 : x ≤ 127 := by omega
      have hsc := scale (a := 7) (b := 7 * k) x0 (by show x < 128; omega)
      have hm := mono2 (a := 7 + 7 * k) (b := 63) (by omega)
      have hm2 := mono2 (a := 7 * k) (b := 56) (by omega)
      have hor := or_u64 v x (7 * k) (by omega) v0 v1 x0 (by
        have e1 : (2 : Int) ^ 63 = 9223372036854775808 := rfl
        have e2 : (2 : Int) ^ 56 = 72057594037927936 := rfl
        omega)
      have hwr : IntKind.u64.wrap (x * 2 ^ (7 * k)) = x * 2 ^ (7 * k) := by
        have e1 : (2 : Int) ^ 63 = 9223372036854775808 := rfl
        simp only [IntKind.wrap, IntKind.bits, IntKind.signed]
        generalize x * 2 ^ (7 * k) = z at *
        simp
        omega
      obtain ⟨s, hs⟩ : ∃ s, s = 7 * k := ⟨_, rfl⟩
      rw [← hs] at hsn hor hwr ⊢
      have HS := Lib.hid hs
      have HX := Lib.hid hx
      have HN := Lib.hid hsn
      have s1 : s ≤ 56 := by omega
      clear hs hx hsn hc hsc hm hm2 v1
      go_wp2
      go_round
      case rel => exact ⟨k + 1, by omega, by go_num, by rw [show ((7 * (k + 1) : Nat) : Int) = (s : Int) + 7 by have := HS.out; omega], by rw [HN.out]⟩
      case measure => simp [intOf]; omega
    · obtain rfl : k = l.length := by omega
      have ht : low (l.take l.length) = low l := by rw [List.take_length]
      rw [ht]
      clear ht
      go_wp2
      go_ret2
      exact ⟨rfl, rfl⟩

theorem Lies.add {w : World} {B : Nat} {A : Option Addr} {vs : List Value} (h : Lies w B A vs) (k : Nat) : Lies w B (Option.map (fun x => x.add k) A) (vs.drop k) := fun i v hv => by
  rw [List.getElem?_drop] at hv
  obtain ⟨b, off, rfl, h1, h2⟩ := h _ v hv
  exact ⟨b, off + k, by simp [Addr.add], h1, by rw [Nat.add_assoc]; exact h2⟩
theorem lies_if {w : World} {B cap k : Nat} {A : Option Addr} {r : List Int} (h : Lies w B A (cells r)) (hc : r.length ≤ cap) :
    Lies w B (if cap = k then A else Option.map (fun x => x.add k) A) (cells (r.drop k)) := by
  split
  · rw [List.drop_eq_nil_of_le (by omega)]; exact Lies.nil
  · have e : cells (r.drop k) = (cells r).drop k := by simp [cells, List.map_drop]
    rw [e]; exact h.add k

/-- What length answers: how many bytes, or why not. -/
def lenN (M L p : Nat) : Int := if p = M then 0 else if p = L then 0 else (p : Int) + 1
def lenE (M L p : Nat) : Int := if p = M then 3 else if p = L then 2 else 0

set_option maxHeartbeats 800000 in
theorem length_wrong (r : List Int) (A : Option Addr) (cap : Nat) (at_ n : Int) (w : World) (h : n < 1 ∨ 64 < n ∨ at_ < 0 ∨ (r.length : Int) < at_) :
    Calls Tryd.prog 155 #[.slice A r.length cap, .int .i64 at_, .int .i64 n] w fun e w' => e = .returned (.tuple #[.int .i64 0, .int .i64 1]) ∧ w = w' := by
  by_cases hn : n < 1 ∨ 64 < n
  · go_enter Tryd.func155, Tryd.ntmps155
    go_wp2_with (go_at_call 162; go_must (refine (right_out _ _ hn).mono ?_; rintro e w' ⟨rfl, rfl⟩))
    go_ret2
    exact ⟨rfl, rfl⟩
  · have n1 : 1 ≤ n := by omega
    have n2 : n ≤ 64 := by omega
    by_cases ha : at_ < 0
    · go_enter Tryd.func155, Tryd.ntmps155
      go_wp2_with (go_at_call 162; go_must (refine (right_in _ _ n1 n2).mono ?_; rintro e w' ⟨rfl, rfl⟩))
      go_ret2
      exact ⟨rfl, rfl⟩
    · have hd : decide (at_ < 0) = false := by simpa using ha
      have hl : (r.length : Int) < at_ := by omega
      go_enter Tryd.func155, Tryd.ntmps155
      go_wp2_with (go_at_call 162; go_must (refine (right_in _ _ n1 n2).mono ?_; rintro e w' ⟨rfl, rfl⟩))
      go_ret2
      exact ⟨rfl, rfl⟩

set_option maxHeartbeats 800000 in
theorem length_right (r : List Int) (A : Option Addr) (cap B : Nat) (k n p : Nat) (w : World) (hl : Lies w B A (cells r)) (hb : ∀ c ∈ r, 0 ≤ c ∧ c ≤ 255) (hc : r.length ≤ cap) (hm : cap ≤ maxLen)
    (hk : k ≤ r.length) (n1 : 1 ≤ n) (n2 : n ≤ 64) (hp : Stop ((n + 6) / 7) (r.drop k) p) :
    Calls Tryd.prog 155 #[.slice A r.length cap, .int .i64 k, .int .i64 n] w fun e w' => e = .returned (.tuple #[.int .i64 (lenN ((n + 6) / 7) (r.length - k) p), .int .i64 (lenE ((n + 6) / 7) (r.length - k) p)]) ∧ w = w' := by
  unfold maxLen at hm
  have hpM := hp.leM
  have hpR := hp.leR
  rw [List.length_drop] at hpR
  have HL8 := Lib.hid (lies_if (k := k) hl hc)
  have hlen : (r.drop k).length = r.length - k := List.length_drop
  have hbyte : ∀ c ∈ r.drop k, 0 ≤ c ∧ c ≤ 255 := fun c hcm => hb c (List.mem_of_mem_drop hcm)
  generalize r.drop k = q at *
  have HC := Lib.hid hbyte
  have HP := Lib.hid hp
  obtain ⟨L, hL⟩ : ∃ L, r.length - k = L := ⟨_, rfl⟩
  rw [hL] at hlen hpR
  rw [hL]
  have HQ := Lib.hid hlen
  clear hl hb hp hbyte hlen
  have hd : decide (r.length < k) = false := by simpa using hk
  have hd2 : ¬ r.length < k := by omega
  go_enter Tryd.func155, Tryd.ntmps155
  go_wp2_with (first
    | (go_at_call 162; go_must (refine (right_in _ _ (by omega) (by omega)).mono ?_; rintro e w' ⟨rfl, rfl⟩))
    | (go_at_call 153; go_must (refine (most_in _ _ (by omega) (by omega)).mono ?_; rintro e w' ⟨rfl, rfl⟩)))
  · rw [if_pos (by assumption)] at HL8
    clear hd hd2 hL
    go_loop [28] (fun i => ∃ j : Nat, j ≤ p ∧ i = .int .i64 j) (fun i => p - (intOf i).toNat)
    case atStart => exact ⟨0, by omega, rfl⟩
    case round =>
      obtain ⟨j, hj, rfl⟩ := hrel
      by_cases hjp : j < p
      · obtain ⟨c, hcj⟩ : ∃ c, q[j]? = some c := ⟨_, List.getElem?_eq_getElem (by have := HQ.out; omega)⟩
        obtain ⟨b, off, rfl, hbB, hcell⟩ := HL8.out.byte hcj
        obtain ⟨c0, c1⟩ := HC.out c (List.mem_of_getElem? hcj)
        have c2 := HP.out.on j c hjp hcj
        clear hcj
        have t1 : (j : Int) < ((n : Int) + 6) / 7 := by omega
        have t2 : ((j : Int) == (L : Int)) = false := by simp; omega
        go_wp2
        go_round
        case rel => exact ⟨j + 1, by omega, by go_num⟩
        case measure => simp [intOf]; omega
      · obtain rfl : j = p := by omega
        by_cases hpM2 : j = (n + 6) / 7
        · have t1 : ¬ (j : Int) < ((n : Int) + 6) / 7 := by omega
          have F : Hid (lenN ((n + 6) / 7) L j = 0 ∧ lenE ((n + 6) / 7) L j = 3) := by unfold lenN lenE; rw [if_pos hpM2, if_pos hpM2]; exact ⟨rfl, rfl⟩
          clear hpM2
          go_wp2
          go_ret2
          exact ⟨by rw [F.out.1, F.out.2]; rfl, rfl⟩
        · have t1 : (j : Int) < ((n : Int) + 6) / 7 := by omega
          by_cases hpL : j = L
          · have t2 : ((j : Int) == (L : Int)) = true := by simp; omega
            have F : Hid (lenN ((n + 6) / 7) L j = 0 ∧ lenE ((n + 6) / 7) L j = 2) := by unfold lenN lenE; rw [if_neg hpM2, if_neg hpM2, if_pos hpL, if_pos hpL]; exact ⟨rfl, rfl⟩
            clear hpM2 hpL
            go_wp2
            go_ret2
            exact ⟨by rw [F.out.1, F.out.2]; rfl, rfl⟩
          · have t2 : ((j : Int) == (L : Int)) = false := by simp; omega
            have F : Hid (lenN ((n + 6) / 7) L j = (j : Int) + 1 ∧ lenE ((n + 6) / 7) L j = 0) := by unfold lenN lenE; rw [if_neg hpM2, if_neg hpM2, if_neg hpL, if_neg hpL]; exact ⟨rfl, rfl⟩
            obtain ⟨c, hcj⟩ : ∃ c, q[j]? = some c := ⟨_, List.getElem?_eq_getElem (by have := HQ.out; omega)⟩
            obtain ⟨b, off, rfl, hbB, hcell⟩ := HL8.out.byte hcj
            obtain ⟨c0, c1⟩ := HC.out c (List.mem_of_getElem? hcj)
            have c2 := HP.out.off c (by omega) hcj
            have hjL : j < L := by omega
            clear hcj hpM2 hpL
            go_wp2
            go_ret2
            exact ⟨by rw [F.out.1, F.out.2]; rfl, rfl⟩
  · rw [if_neg (by assumption)] at HL8
    generalize Option.map (fun x => x.add k) A = A8 at *
    clear hd hd2 hL
    go_loop [28] (fun i => ∃ j : Nat, j ≤ p ∧ i = .int .i64 j) (fun i => p - (intOf i).toNat)
    case atStart => exact ⟨0, by omega, rfl⟩
    case round =>
      obtain ⟨j, hj, rfl⟩ := hrel
      by_cases hjp : j < p
      · obtain ⟨c, hcj⟩ : ∃ c, q[j]? = some c := ⟨_, List.getElem?_eq_getElem (by have := HQ.out; omega)⟩
        obtain ⟨b, off, rfl, hbB, hcell⟩ := HL8.out.byte hcj
        obtain ⟨c0, c1⟩ := HC.out c (List.mem_of_getElem? hcj)
        have c2 := HP.out.on j c hjp hcj
        clear hcj
        have t1 : (j : Int) < ((n : Int) + 6) / 7 := by omega
        have t2 : ((j : Int) == (L : Int)) = false := by simp; omega
        go_wp2
        go_round
        case rel => exact ⟨j + 1, by omega, by go_num⟩
        case measure => simp [intOf]; omega
      · obtain rfl : j = p := by omega
        by_cases hpM2 : j = (n + 6) / 7
        · have t1 : ¬ (j : Int) < ((n : Int) + 6) / 7 := by omega
          have F : Hid (lenN ((n + 6) / 7) L j = 0 ∧ lenE ((n + 6) / 7) L j = 3) := by unfold lenN lenE; rw [if_pos hpM2, if_pos hpM2]; exact ⟨rfl, rfl⟩
          clear hpM2
          go_wp2
          go_ret2
          exact ⟨by rw [F.out.1, F.out.2]; rfl, rfl⟩
        · have t1 : (j : Int) < ((n : Int) + 6) / 7 := by omega
          by_cases hpL : j = L
          · have t2 : ((j : Int) == (L : Int)) = true := by simp; omega
            have F : Hid (lenN ((n + 6) / 7) L j = 0 ∧ lenE ((n + 6) / 7) L j = 2) := by unfold lenN lenE; rw [if_neg hpM2, if_neg hpM2, if_pos hpL, if_pos hpL]; exact ⟨rfl, rfl⟩
            clear hpM2 hpL
            go_wp2
            go_ret2
            exact ⟨by rw [F.out.1, F.out.2]; rfl, rfl⟩
          · have t2 : ((j : Int) == (L : Int)) = false := by simp; omega
            have F : Hid (lenN ((n + 6) / 7) L j = (j : Int) + 1 ∧ lenE ((n + 6) / 7) L j = 0) := by unfold lenN lenE; rw [if_neg hpM2, if_neg hpM2, if_neg hpL, if_neg hpL]; exact ⟨rfl, rfl⟩
            obtain ⟨c, hcj⟩ : ∃ c, q[j]? = some c := ⟨_, List.getElem?_eq_getElem (by have := HQ.out; omega)⟩
            obtain ⟨b, off, rfl, hbB, hcell⟩ := HL8.out.byte hcj
            obtain ⟨c0, c1⟩ := HC.out c (List.mem_of_getElem? hcj)
            have c2 := HP.out.off c (by omega) hcj
            have hjL : j < L := by omega
            clear hcj hpM2 hpL
            go_wp2
            go_ret2
            exact ⟨by rw [F.out.1, F.out.2]; rfl, rfl⟩
end Go.Proofs.YtebgmfjgapmpfaaDoor

/- Shifts by a count that is a variable; bounds of a number off its groups. -/
namespace Go.Proofs.YtebgmfjgapmpfaaDoor
set_option linter.unusedVariables false
open Go.RowKit

theorem shr8 (c : Int) (t : Nat) (h0 : 0 ≤ c) (h1 : c < 128) : Op.shift .shr .u8 c .i64 (t : Int) = pure (.int .u8 (c / 2 ^ t)) := by
  rw [shift_shr_any _ _ _ _ (by omega)]
  have e : c / 2 ^ min (t : Int).toNat IntKind.u8.bits = c / 2 ^ t := by
    show c / 2 ^ min (t : Int).toNat 8 = c / 2 ^ t
    rw [Int.toNat_natCast]
    rcases Nat.le_total t 8 with g | g
    · rw [Nat.min_eq_left g]
    · rw [Nat.min_eq_right g]
      have hm := mono2 g
      have e8 : (2 : Int) ^ 8 = 256 := rfl
      rw [Int.ediv_eq_zero_of_lt h0 (by omega), Int.ediv_eq_zero_of_lt h0 (by omega)]
  rw [e]
theorem shr64 (c : Int) (t : Nat) (ht : t ≤ 64) : Op.shift .shr .i64 c .i64 (t : Int) = pure (.int .i64 (c / 2 ^ t)) := by
  rw [shift_shr_any _ _ _ _ (by omega)]
  show pure (Value.int .i64 (c / 2 ^ min (t : Int).toNat 64)) = _
  rw [Int.toNat_natCast, Nat.min_eq_left ht]
theorem shl64u (c : Int) (t : Nat) (ht : t ≤ 64) (h0 : 0 ≤ c * 2 ^ t) (h1 : c * 2 ^ t < 18446744073709551616) : Op.shift .shl .u64 c .i64 (t : Int) = pure (.int .u64 (c * 2 ^ t)) := by
  rw [shift_shl_any _ _ _ _ (by omega)]
  show pure (Value.int .u64 (IntKind.u64.wrap (c * 2 ^ min (t : Int).toNat 64))) = _
  rw [Int.toNat_natCast, Nat.min_eq_left ht]
  generalize c * 2 ^ t = z at *
  have e : IntKind.u64.wrap z = z := by simp only [IntKind.wrap, IntKind.bits, IntKind.signed]; simp; omega
  rw [e]
theorem shl64i (c : Int) (t : Nat) (ht : t ≤ 64) (h0 : -9223372036854775808 ≤ c * 2 ^ t) (h1 : c * 2 ^ t < 9223372036854775808) : Op.shift .shl .i64 c .i64 (t : Int) = pure (.int .i64 (c * 2 ^ t)) := by
  rw [shift_shl_any _ _ _ _ (by omega)]
  show pure (Value.int .i64 (IntKind.i64.wrap (c * 2 ^ min (t : Int).toNat 64))) = _
  rw [Int.toNat_natCast, Nat.min_eq_left ht]
  generalize c * 2 ^ t = z at *
  have e : IntKind.i64.wrap z = z := by rw [IntKind.wrap_i64]; omega
  rw [e]

/-- v + c * 2^a, v below 2^a: over 2^a it is c. -/
theorem over_low {v c : Int} {a : Nat} (h0 : 0 ≤ v) (h1 : v < 2 ^ a) : (v + c * 2 ^ a) / 2 ^ a = c := by
  rw [Int.add_mul_ediv_right _ _ (Int.ne_of_gt (p2 a)), Int.ediv_eq_zero_of_lt h0 h1]; omega
theorem over_more {v c : Int} {a b : Nat} (h0 : 0 ≤ v) (h1 : v < 2 ^ a) (hab : a ≤ b) : (v + c * 2 ^ a) / 2 ^ b = c / 2 ^ (b - a) := by
  have e : b = a + (b - a) := by omega
  rw [e, ← div_pow, over_low h0 h1]
  congr 2
  omega
theorem bdU {v c : Int} {a b : Nat} (h0 : 0 ≤ v) (h1 : v < 2 ^ a) (hc : 0 ≤ c) (hab : a ≤ b) (hf : c / 2 ^ (b - a) = 0) : 0 ≤ v + c * 2 ^ a ∧ v + c * 2 ^ a < 2 ^ b := by
  have hz : 0 ≤ c * 2 ^ a := Int.mul_nonneg hc (Int.le_of_lt (p2 a))
  have hq := over_more (c := c) h0 h1 hab
  rw [hf] at hq
  refine ⟨by omega, ?_⟩
  rcases Int.lt_or_le (v + c * 2 ^ a) (2 ^ b) with g | g
  · exact g
  · have := (Int.le_ediv_iff_mul_le (p2 b)).2 (show 1 * 2 ^ b ≤ v + c * 2 ^ a by omega)
    omega
theorem bdS {v c : Int} {a b : Nat} (h0 : 0 ≤ v) (h1 : v < 2 ^ a) (hab : a ≤ b) (hf : c / 2 ^ (b - a) = 0 ∨ c / 2 ^ (b - a) = -1) : -2 ^ b ≤ v + c * 2 ^ a ∧ v + c * 2 ^ a < 2 ^ b ∧ -2 ^ b ≤ c * 2 ^ a := by
  have hq := over_more (c := c) h0 h1 hab
  have hb := p2 b
  have e1 := Int.emod_add_mul_ediv (v + c * 2 ^ a) (2 ^ b)
  have e2 := Int.emod_nonneg (v + c * 2 ^ a) (Int.ne_of_gt hb)
  have e3 := Int.emod_lt_of_pos (v + c * 2 ^ a) hb
  have hq2 := over_more (v := 0) (c := c) (Int.le_refl 0) (p2 a) hab
  rw [Int.zero_add] at hq2
  have f1 := Int.emod_add_mul_ediv (c * 2 ^ a) (2 ^ b)
  have f2 := Int.emod_nonneg (c * 2 ^ a) (Int.ne_of_gt hb)
  rcases hf with hf | hf
  · rw [hq, hf] at e1
    rw [hq2, hf] at f1
    omega
  · rw [hq, hf] at e1
    rw [hq2, hf] at f1
    omega
end Go.Proofs.YtebgmfjgapmpfaaDoor

/- leb.ReadUint and leb.ReadInt. -/
namespace Go.Proofs.YtebgmfjgapmpfaaDoor
open Go.RowKit
set_option linter.unusedVariables false

set_option maxHeartbeats 800000 in
/-- No varint: the error that length tells. -/
theorem ru_fail (sl a_ n_ : Value) (e : Int) (w : World) (he : e = 1 ∨ e = 2 ∨ e = 3)
    (h : Calls Tryd.prog 155 #[sl, a_, n_] w fun x w' => x = .returned (.tuple #[.int .i64 0, .int .i64 e]) ∧ w = w') :
    Calls Tryd.prog 161 #[sl, a_, n_] w fun x w' => x = .returned (.tuple #[.int .u64 0, .int .i64 0, .int .i64 e]) ∧ w = w' := by
  have H := Lib.hid h
  clear h
  have e1 : (e != 0) = true := by simp; omega
  have e2 : (e == 0) = false := by simp; omega
  go_enter Tryd.func161, Tryd.ntmps161
  go_wp2_with (go_at_call 155; go_must (refine (Calls.mono H.out ?_); rintro x w' ⟨rfl, rfl⟩))
  go_ret3
  exact ⟨rfl, rfl⟩
set_option maxHeartbeats 800000 in
theorem ri_fail (sl a_ n_ : Value) (e : Int) (w : World) (he : e = 1 ∨ e = 2 ∨ e = 3)
    (h : Calls Tryd.prog 155 #[sl, a_, n_] w fun x w' => x = .returned (.tuple #[.int .i64 0, .int .i64 e]) ∧ w = w') :
    Calls Tryd.prog 145 #[sl, a_, n_] w fun x w' => x = .returned (.tuple #[.int .i64 0, .int .i64 0, .int .i64 e]) ∧ w = w' := by
  have H := Lib.hid h
  clear h
  have e1 : (e != 0) = true := by simp; omega
  have e2 : (e == 0) = false := by simp; omega
  go_enter Tryd.func145, Tryd.ntmps145
  go_wp2_with (go_at_call 155; go_must (refine (Calls.mono H.out ?_); rintro x w' ⟨rfl, rfl⟩))
  go_ret3
  exact ⟨rfl, rfl⟩

theorem rcells {r : List Int} {k p : Nat} : cells ((r.drop k).take p) = ((cells r).drop k).take p := by simp [cells, List.map_drop, List.map_take]
theorem Lies.part {w : World} {B b off : Nat} {r : List Int} (h : Lies w B (some ⟨b, off, none⟩) (cells r)) (k p : Nat) : Lies w B (some ⟨b, off + k, none⟩) (cells ((r.drop k).take p)) := by
  rw [rcells]
  have g := (h.add k).take p
  have e : Option.map (fun x : Addr => x.add k) (some ⟨b, off, none⟩) = some ⟨b, off + k, none⟩ := by
    unfold Addr.add
    by_cases hk : k = 0 <;> simp [hk]
  rw [e] at g
  exact g

theorem wrapU {z : Int} (h0 : 0 ≤ z) (h1 : z < 18446744073709551616) : IntKind.u64.wrap z = z := by simp only [IntKind.wrap, IntKind.bits, IntKind.signed]; simp; omega
theorem wrapI {z : Int} (h0 : -9223372036854775808 ≤ z) (h1 : z < 9223372036854775808) : IntKind.i64.wrap z = z := by rw [IntKind.wrap_i64]; omega

/-- The numbers of a varint: p bytes that go on and the last one, c. -/
def numU (l : List Int) (c : Int) : Int := low l + c * 2 ^ (7 * l.length)
def numS (l : List Int) (c : Int) : Int := low l + sg c * 2 ^ (7 * l.length)

set_option maxHeartbeats 1600000 in
theorem ru_ok (r : List Int) (A : Option Addr) (cap B : Nat) (k n p : Nat) (c : Int) (w : World)
    (hl : Lies w B A (cells r)) (hb : ∀ c ∈ r, 0 ≤ c ∧ c ≤ 255) (hc : r.length ≤ cap) (hm : cap ≤ maxLen)
    (hk : k ≤ r.length) (n1 : 1 ≤ n) (n2 : n ≤ 64) (hp : Stop ((n + 6) / 7) (r.drop k) p) (hpM : p < (n + 6) / 7) (hpc : (r.drop k)[p]? = some c) (hf : c / 2 ^ (n - 7 * p) = 0) :
    Calls Tryd.prog 161 #[.slice A r.length cap, .int .i64 k, .int .i64 n] w fun x w' => x = .returned (.tuple #[.int .u64 (numU ((r.drop k).take p) c), .int .i64 ((k : Int) + (p + 1)), .int .i64 0]) ∧ w = w' := by
  have CL := Lib.hid (length_right r A cap B k n p w hl hb hc hm hk n1 n2 hp)
  unfold maxLen at hm
  have hrp : k + p < r.length := by
    have := (List.getElem?_eq_some_iff.1 hpc).1
    rw [List.length_drop] at this; omega
  have hlt : ((r.drop k).take p).length = p := by rw [List.length_take, List.length_drop]; omega
  have hN : lenN ((n + 6) / 7) (r.length - k) p = (p : Int) + 1 := by unfold lenN; rw [if_neg (by omega), if_neg (by omega)]
  have hE : lenE ((n + 6) / 7) (r.length - k) p = 0 := by unfold lenE; rw [if_neg (by omega), if_neg (by omega)]
  rw [hN, hE] at CL
  obtain ⟨b, off, rfl, hbB, hcell⟩ := hl.byte (i := k + p) (c := c) (by rw [← hpc, List.getElem?_drop])
  have hpart := hl.part k p
  obtain ⟨c0, c1⟩ := hb c (List.mem_of_mem_drop (List.mem_of_getElem? hpc))
  have c2 := hp.off c hpM hpc
  have CW := Lib.hid (lower_any _ _ (cap - k) B w hpart (by omega) (fun d hd => hb d (List.mem_of_mem_drop (List.mem_of_mem_take hd))))
  have hbd := low_bd ((r.drop k).take p)
  have hnum : numU ((r.drop k).take p) c = low ((r.drop k).take p) + c * 2 ^ (7 * p) := by unfold numU; rw [hlt]
  rw [hnum]
  rw [hlt] at hbd CW
  obtain ⟨v, hv⟩ : ∃ v, v = low ((r.drop k).take p) := ⟨_, rfl⟩
  rw [← hv] at CW hbd ⊢
  obtain ⟨v0, v1⟩ := hbd
  have p9 : p ≤ 9 := by omega
  have pn : 7 * p < n := by omega
  have e56 := mono2 (a := 7 * p) (b := 63) (by omega)
  have e63 : (2 : Int) ^ 63 = 9223372036854775808 := rfl
  have hbu := bdU v0 v1 c0 (b := n) (by omega) hf
  have e64 := mono2 (a := n) (b := 64) n2
  have e18 : (2 : Int) ^ 64 = 18446744073709551616 := rfl
  have hz0 : 0 ≤ c * 2 ^ (7 * p) := Int.mul_nonneg c0 (Int.le_of_lt (p2 _))
  have hs1 : Op.shift .shr .u8 c .i64 ((n : Int) - 7 * p) = pure (.int .u8 0) := by rw [show (n : Int) - 7 * p = ((n - 7 * p : Nat) : Int) by omega, shr8 _ _ c0 c2, hf]
  have hs2 : Op.shift .shl .u64 c .i64 (7 * (p : Int)) = pure (.int .u64 (c * 2 ^ (7 * p))) := by rw [show 7 * (p : Int) = ((7 * p : Nat) : Int) by omega, shl64u _ _ (by omega) hz0 (by omega)]
  have hor := or_u64 v c (7 * p) (by omega) v0 v1 c0 (by omega)
  have hw : IntKind.u64.wrap (c * 2 ^ (7 * p)) = c * 2 ^ (7 * p) := wrapU hz0 (by omega)
  obtain ⟨z, hz⟩ : ∃ z, z = c * 2 ^ (7 * p) := ⟨_, rfl⟩
  have hw2 : IntKind.u64.wrap (c * 2 ^ (7 * p)) = z := by rw [hz]; exact hw
  rw [← hz] at hor hs2 ⊢
  clear hl hb hp hpart hN hE hv hpc hlt e56 e63 v1 hpM hnum hbu e64 e18 hf hw hz0 hz
  go_enter Tryd.func161, Tryd.ntmps161
  go_wp2_with (first
    | (go_at_call 155; go_must (refine (Calls.mono CL.out ?_); rintro x w' ⟨rfl, rfl⟩))
    | (go_at_call 156; go_must (refine (Calls.mono CW.out ?_); rintro x w' ⟨rfl, rfl⟩)))
  go_ret3
  exact ⟨rfl, rfl⟩
set_option maxHeartbeats 1600000 in
theorem ru_far (r : List Int) (A : Option Addr) (cap B : Nat) (k n p : Nat) (c : Int) (w : World)
    (hl : Lies w B A (cells r)) (hb : ∀ c ∈ r, 0 ≤ c ∧ c ≤ 255) (hc : r.length ≤ cap) (hm : cap ≤ maxLen)
    (hk : k ≤ r.length) (n1 : 1 ≤ n) (n2 : n ≤ 64) (hp : Stop ((n + 6) / 7) (r.drop k) p) (hpM : p < (n + 6) / 7) (hpc : (r.drop k)[p]? = some c) (hf : ¬ c / 2 ^ (n - 7 * p) = 0) :
    Calls Tryd.prog 161 #[.slice A r.length cap, .int .i64 k, .int .i64 n] w fun x w' => x = .returned (.tuple #[.int .u64 0, .int .i64 0, .int .i64 3]) ∧ w = w' := by
  have CL := Lib.hid (length_right r A cap B k n p w hl hb hc hm hk n1 n2 hp)
  unfold maxLen at hm
  have hrp : k + p < r.length := by
    have := (List.getElem?_eq_some_iff.1 hpc).1
    rw [List.length_drop] at this; omega
  have hlt : ((r.drop k).take p).length = p := by rw [List.length_take, List.length_drop]; omega
  have hN : lenN ((n + 6) / 7) (r.length - k) p = (p : Int) + 1 := by unfold lenN; rw [if_neg (by omega), if_neg (by omega)]
  have hE : lenE ((n + 6) / 7) (r.length - k) p = 0 := by unfold lenE; rw [if_neg (by omega), if_neg (by omega)]
  rw [hN, hE] at CL
  obtain ⟨b, off, rfl, hbB, hcell⟩ := hl.byte (i := k + p) (c := c) (by rw [← hpc, List.getElem?_drop])
  have hpart := hl.part k p
  obtain ⟨c0, c1⟩ := hb c (List.mem_of_mem_drop (List.mem_of_getElem? hpc))
  have c2 := hp.off c hpM hpc
  have CW := Lib.hid (lower_any _ _ (cap - k) B w hpart (by omega) (fun d hd => hb d (List.mem_of_mem_drop (List.mem_of_mem_take hd))))
  have hbd := low_bd ((r.drop k).take p)
  rw [hlt] at hbd CW
  obtain ⟨v, hv⟩ : ∃ v, v = low ((r.drop k).take p) := ⟨_, rfl⟩
  rw [← hv] at CW hbd
  obtain ⟨v0, v1⟩ := hbd
  have p9 : p ≤ 9 := by omega
  have pn : 7 * p < n := by omega
  have e56 := mono2 (a := 7 * p) (b := 63) (by omega)
  have e63 : (2 : Int) ^ 63 = 9223372036854775808 := rfl
  have hs1 : Op.shift .shr .u8 c .i64 ((n : Int) - 7 * p) = pure (.int .u8 (c / 2 ^ (n - 7 * p))) := by rw [show (n : Int) - 7 * p = ((n - 7 * p : Nat) : Int) by omega, shr8 _ _ c0 c2]
  generalize c / 2 ^ (n - 7 * p) = z at *
  have hz : (z != 0) = true := by simpa using hf
  have hz2 : (z == 0) = false := by simpa using hf
  clear hl hb hp hpart hN hE hv hpc hlt e56 e63 v1 hpM hf
  go_enter Tryd.func161, Tryd.ntmps161
  go_wp2_with (first
    | (go_at_call 155; go_must (refine (Calls.mono CL.out ?_); rintro x w' ⟨rfl, rfl⟩))
    | (go_at_call 156; go_must (refine (Calls.mono CW.out ?_); rintro x w' ⟨rfl, rfl⟩)))
  go_ret3
  exact ⟨rfl, rfl⟩
set_option maxHeartbeats 1600000 in
theorem ri_ok (r : List Int) (A : Option Addr) (cap B : Nat) (k n p : Nat) (c : Int) (w : World)
    (hl : Lies w B A (cells r)) (hb : ∀ c ∈ r, 0 ≤ c ∧ c ≤ 255) (hc : r.length ≤ cap) (hm : cap ≤ maxLen)
    (hk : k ≤ r.length) (n1 : 1 ≤ n) (n2 : n ≤ 64) (hp : Stop ((n + 6) / 7) (r.drop k) p) (hpM : p < (n + 6) / 7) (hpc : (r.drop k)[p]? = some c) (hf : sg c / 2 ^ (n - 7 * p - 1) = 0 ∨ sg c / 2 ^ (n - 7 * p - 1) = -1) :
    Calls Tryd.prog 145 #[.slice A r.length cap, .int .i64 k, .int .i64 n] w fun x w' => x = .returned (.tuple #[.int .i64 (numS ((r.drop k).take p) c), .int .i64 ((k : Int) + (p + 1)), .int .i64 0]) ∧ w = w' := by
  have CL := Lib.hid (length_right r A cap B k n p w hl hb hc hm hk n1 n2 hp)
  unfold maxLen at hm
  have hrp : k + p < r.length := by
    have := (List.getElem?_eq_some_iff.1 hpc).1
    rw [List.length_drop] at this; omega
  have hlt : ((r.drop k).take p).length = p := by rw [List.length_take, List.length_drop]; omega
  have hN : lenN ((n + 6) / 7) (r.length - k) p = (p : Int) + 1 := by unfold lenN; rw [if_neg (by omega), if_neg (by omega)]
  have hE : lenE ((n + 6) / 7) (r.length - k) p = 0 := by unfold lenE; rw [if_neg (by omega), if_neg (by omega)]
  rw [hN, hE] at CL
  obtain ⟨b, off, rfl, hbB, hcell⟩ := hl.byte (i := k + p) (c := c) (by rw [← hpc, List.getElem?_drop])
  have hpart := hl.part k p
  obtain ⟨c0, c1⟩ := hb c (List.mem_of_mem_drop (List.mem_of_getElem? hpc))
  have c2 := hp.off c hpM hpc
  have CW := Lib.hid (lower_any _ _ (cap - k) B w hpart (by omega) (fun d hd => hb d (List.mem_of_mem_drop (List.mem_of_mem_take hd))))
  have hbd := low_bd ((r.drop k).take p)
  have hnum : numS ((r.drop k).take p) c = low ((r.drop k).take p) + sg c * 2 ^ (7 * p) := by unfold numS; rw [hlt]
  rw [hnum]
  rw [hlt] at hbd CW
  obtain ⟨v, hv⟩ : ∃ v, v = low ((r.drop k).take p) := ⟨_, rfl⟩
  rw [← hv] at CW hbd ⊢
  obtain ⟨v0, v1⟩ := hbd
  have p9 : p ≤ 9 := by omega
  have pn : 7 * p < n := by omega
  have e56 := mono2 (a := 7 * p) (b := 63) (by omega)
  have e63 : (2 : Int) ^ 63 = 9223372036854775808 := rfl
  have hbu := bdS (c := sg c) v0 v1 (b := n - 1) (by omega) (by rw [show n - 1 - 7 * p = n - 7 * p - 1 by omega]; exact hf)
  obtain ⟨u0, u1, u2⟩ := hbu
  have e64 := mono2 (a := n - 1) (b := 63) (by omega)
  have hs1 : Op.shift .shr .i64 (sg c) .i64 ((n : Int) - 7 * p - 1) = pure (.int .i64 (sg c / 2 ^ (n - 7 * p - 1))) := by rw [show (n : Int) - 7 * p - 1 = ((n - 7 * p - 1 : Nat) : Int) by omega, shr64 _ _ (by omega)]
  have hs2 : Op.shift .shl .i64 (sg c) .i64 (7 * (p : Int)) = pure (.int .i64 (sg c * 2 ^ (7 * p))) := by rw [show 7 * (p : Int) = ((7 * p : Nat) : Int) by omega, shl64i _ _ (by omega) (by omega) (by omega)]
  have hor := or_i64 v (sg c) (7 * p) (by omega) v0 v1 (by omega) (by omega)
  have v2 : v ≤ 9223372036854775807 := by omega
  have hw : IntKind.i64.wrap (sg c * 2 ^ (7 * p)) = sg c * 2 ^ (7 * p) := wrapI (by omega) (by omega)
  obtain ⟨z, hz⟩ : ∃ z, z = sg c * 2 ^ (7 * p) := ⟨_, rfl⟩
  have hw2 : wrap64 (sg c * 2 ^ (7 * p)) = z := by rw [hz, ← IntWalk.i64_left]; exact hw
  rw [← hz] at hor hs2 ⊢
  obtain ⟨y, hy⟩ : ∃ y, sg c / 2 ^ (n - 7 * p - 1) = y := ⟨_, rfl⟩
  have hy2 : sg c / 2 ^ ((n : Int) - 7 * p - 1).toNat = y := by rw [show ((n : Int) - 7 * p - 1).toNat = n - 7 * p - 1 by omega]; exact hy
  rw [hy] at hf hs1
  have CS := Lib.hid (fun W => signed_any c W c0 c2)
  generalize sg c = s at *
  clear hl hb hp hpart hN hE hv hpc hlt e56 e63 v1 hpM hnum u0 u1 u2 e64 hw hz
  rcases hf with rfl | rfl
  · go_enter Tryd.func145, Tryd.ntmps145
    go_wp2_with (first
      | (go_at_call 155; go_must (refine (Calls.mono CL.out ?_); rintro x w' ⟨rfl, rfl⟩))
      | (go_at_call 157; go_must (refine (Calls.mono (CS.out _) ?_); rintro x w' ⟨rfl, rfl⟩))
      | (go_at_call 156; go_must (refine (Calls.mono CW.out ?_); rintro x w' ⟨rfl, rfl⟩)))
    go_ret3
    exact ⟨rfl, rfl⟩
  · go_enter Tryd.func145, Tryd.ntmps145
    go_wp2_with (first
      | (go_at_call 155; go_must (refine (Calls.mono CL.out ?_); rintro x w' ⟨rfl, rfl⟩))
      | (go_at_call 157; go_must (refine (Calls.mono (CS.out _) ?_); rintro x w' ⟨rfl, rfl⟩))
      | (go_at_call 156; go_must (refine (Calls.mono CW.out ?_); rintro x w' ⟨rfl, rfl⟩)))
    go_ret3
    exact ⟨rfl, rfl⟩
set_option maxHeartbeats 1600000 in
theorem ri_far (r : List Int) (A : Option Addr) (cap B : Nat) (k n p : Nat) (c : Int) (w : World)
    (hl : Lies w B A (cells r)) (hb : ∀ c ∈ r, 0 ≤ c ∧ c ≤ 255) (hc : r.length ≤ cap) (hm : cap ≤ maxLen)
    (hk : k ≤ r.length) (n1 : 1 ≤ n) (n2 : n ≤ 64) (hp : Stop ((n + 6) / 7) (r.drop k) p) (hpM : p < (n + 6) / 7) (hpc : (r.drop k)[p]? = some c) (hf : ¬ (sg c / 2 ^ (n - 7 * p - 1) = 0 ∨ sg c / 2 ^ (n - 7 * p - 1) = -1)) :
    Calls Tryd.prog 145 #[.slice A r.length cap, .int .i64 k, .int .i64 n] w fun x w' => x = .returned (.tuple #[.int .i64 0, .int .i64 0, .int .i64 3]) ∧ w = w' := by
  have CL := Lib.hid (length_right r A cap B k n p w hl hb hc hm hk n1 n2 hp)
  unfold maxLen at hm
  have hrp : k + p < r.length := by
    have := (List.getElem?_eq_some_iff.1 hpc).1
    rw [List.length_drop] at this; omega
  have hlt : ((r.drop k).take p).length = p := by rw [List.length_take, List.length_drop]; omega
  have hN : lenN ((n + 6) / 7) (r.length - k) p = (p : Int) + 1 := by unfold lenN; rw [if_neg (by omega), if_neg (by omega)]
  have hE : lenE ((n + 6) / 7) (r.length - k) p = 0 := by unfold lenE; rw [if_neg (by omega), if_neg (by omega)]
  rw [hN, hE] at CL
  obtain ⟨b, off, rfl, hbB, hcell⟩ := hl.byte (i := k + p) (c := c) (by rw [← hpc, List.getElem?_drop])
  have hpart := hl.part k p
  obtain ⟨c0, c1⟩ := hb c (List.mem_of_mem_drop (List.mem_of_getElem? hpc))
  have c2 := hp.off c hpM hpc
  have CW := Lib.hid (lower_any _ _ (cap - k) B w hpart (by omega) (fun d hd => hb d (List.mem_of_mem_drop (List.mem_of_mem_take hd))))
  have hbd := low_bd ((r.drop k).take p)
  rw [hlt] at hbd CW
  obtain ⟨v, hv⟩ : ∃ v, v = low ((r.drop k).take p) := ⟨_, rfl⟩
  rw [← hv] at CW hbd
  obtain ⟨v0, v1⟩ := hbd
  have p9 : p ≤ 9 := by omega
  have pn : 7 * p < n := by omega
  have e56 := mono2 (a := 7 * p) (b := 63) (by omega)
  have e63 : (2 : Int) ^ 63 = 9223372036854775808 := rfl
  have hs1 : Op.shift .shr .i64 (sg c) .i64 ((n : Int) - 7 * p - 1) = pure (.int .i64 (sg c / 2 ^ (n - 7 * p - 1))) := by rw [show (n : Int) - 7 * p - 1 = ((n - 7 * p - 1 : Nat) : Int) by omega, shr64 _ _ (by omega)]
  obtain ⟨z, hy4⟩ : ∃ z, sg c / 2 ^ (n - 7 * p - 1) = z := ⟨_, rfl⟩
  have hy3 : sg c / 2 ^ ((n : Int) - 7 * p - 1).toNat = z := by rw [show ((n : Int) - 7 * p - 1).toNat = n - 7 * p - 1 by omega]; exact hy4
  rw [hy4] at hf hs1
  have hz : (z != 0) = true := by simp; omega
  have hz2 : (z == 0) = false := by simp; omega
  have hy : (z != -1) = true := by simp; omega
  have hy2 : (z == -1) = false := by simp; omega
  have CS := Lib.hid (fun W => signed_any c W c0 c2)
  generalize sg c = s at *
  clear hl hb hp hpart hN hE hv hpc hlt e56 e63 v1 hpM hf
  go_enter Tryd.func145, Tryd.ntmps145
  go_wp2_with (first
    | (go_at_call 155; go_must (refine (Calls.mono CL.out ?_); rintro x w' ⟨rfl, rfl⟩))
    | (go_at_call 157; go_must (refine (Calls.mono (CS.out _) ?_); rintro x w' ⟨rfl, rfl⟩))
    | (go_at_call 156; go_must (refine (Calls.mono CW.out ?_); rintro x w' ⟨rfl, rfl⟩)))
  go_ret3
  exact ⟨rfl, rfl⟩
end Go.Proofs.YtebgmfjgapmpfaaDoor

/- The contracts of package abort: Now, Unless, stopOf, call, Out. -/
namespace Go.Proofs.YtebgmfjgapmpfaaDoor
set_option linter.unusedVariables false
open Go.RowKit

/-- The panic with which a Stop aborts. -/
def stopP (c a : Int) : List PanicEntry := [{ v := .iface 35 (.agg #[.int .i64 c, .int .i64 a]), recovered := false }]

/-- How a step ends: with code 0 it returns, else it panics with its Stop. -/
def Ended (c a : Int) (e : Ending) : Prop := (c = 0 ∧ a = 0 ∧ e = .returned (.tuple #[])) ∨ (¬ c = 0 ∧ e = .panicked (stopP c a))

theorem now_any (c a : Int) (w : World) :
    Calls Tryd.prog 127 #[.int .i64 c, .int .i64 a] w fun e w' => e = .panicked (stopP c a) ∧ w' = w := by
  go_enter Tryd.func127, Tryd.ntmps127
  go_wp2
  exact ⟨rfl, rfl, rfl⟩

theorem unless_true (c a : Int) (w : World) :
    Calls Tryd.prog 80 #[.bool true, .int .i64 c, .int .i64 a] w fun e w' => e = .returned (.tuple #[]) ∧ w' = w := by
  go_enter Tryd.func80, Tryd.ntmps80
  go_wp2_with fail
  go_end0
  exact ⟨rfl, rfl⟩

theorem unless_false (c a : Int) (w : World) :
    Calls Tryd.prog 80 #[.bool false, .int .i64 c, .int .i64 a] w fun e w' => e = .panicked (stopP c a) ∧ w' = w := by
  go_enter Tryd.func80, Tryd.ntmps80
  go_wp2_with (go_at_call 127; refine (now_any _ _ _).mono ?_; rintro e w' ⟨rfl, rfl⟩)
  exact ⟨rfl, rfl, rfl⟩

theorem stopOf_any (c a : Int) (w : World) :
    Calls Tryd.prog 125 #[.iface 35 (.agg #[.int .i64 c, .int .i64 a])] w fun e w' => e = .returned (.agg #[.int .i64 c, .int .i64 a]) ∧ Below w.heap.size w w' := by
  have hta : ∀ w : World, (Instr.typeAssert (Value.iface 35 (Value.agg #[Value.int IntKind.i64 c, Value.int IntKind.i64 a])) 20 35 true).run Tryd.prog w = .ok (.tuple #[.agg #[Value.int IntKind.i64 c, Value.int IntKind.i64 a], .bool true]) w := fun _ => by kernel_rfl
  go_enter Tryd.func125, Tryd.ntmps125
  go_wp2
  exact bodyPost_ret (v := .agg #[.int .i64 c, .int .i64 a]) (by simp [results, Tryd.results125, go_sem]) rfl ⟨rfl, ((Below.refl _ _).alloc (Nat.le_refl _) _).alloc (by simp) _⟩

theorem call_any (g : FuncId) (cap : Array Value) (w : World) (R : Ending → World → Prop) (hcf : ∀ w : World, (callFunc g cap).run Tryd.prog w = .ok (.enter g cap) w) (h : Calls Tryd.prog g cap w R)
    (hR : ∀ v w', R (.returned v) w' → R (.returned (.tuple #[])) w') (hO : ∀ w', R .outgrown w' → False) :
    Calls Tryd.prog 126 #[.func (.func g) #[] cap] w R := by
  have hnil : ∀ w : World, (binOp BinOp.neq 1 (.func (.func g) #[] cap) .nilFunc).run Tryd.prog w = .ok (.bool true) w := fun _ => by kernel_rfl
  go_enter Tryd.func126, Tryd.ntmps126
  go_wp2_with fail
  refine h.mono ?_
  intro e w' hr
  cases e with
  | returned v =>
    have hr2 := hR v w' hr
    clear hr hR h
    go_wp2_with fail
    exact bodyPost_ret (v := .tuple #[]) (by simp [results, Tryd.results126, go_sem]) rfl hr2
  | panicked ch => exact ⟨rfl, hr⟩
  | outgrown => exact (hO _ hr).elim

theorem catch_panicking (b : Nat) (c a x y : Int) (older : List PanicEntry) (w : World) (hb : Whole w b 35 #[.int .i64 x, .int .i64 y]) :
    CallsD Tryd.prog 124 #[.pointer (some ⟨b, 0, none⟩)] (.panicking ({ v := .iface 35 (.agg #[.int .i64 c, .int .i64 a]), recovered := false } :: older)) w fun e u' w' =>
      e = .returned (.tuple #[]) ∧ u' = .panicking ({ v := .iface 35 (.agg #[.int .i64 c, .int .i64 a]), recovered := true } :: older) ∧ Whole w' b 35 #[.int .i64 c, .int .i64 a] ∧ w.grownBy w' (some b) := by
  refine callsD_of_wpS Tryd.func124 rfl fun c₀ cs hu => ?_
  apply wpS_seq
  apply wpS_region
  simp [wpOpsS, go_sem, recoverD, hu, Tryd.ntmps124, Exit.thenS]
  apply wpS_seq
  apply wpS_region
  simp [wpOpsS, go_sem, Exit.thenS]
  refine wpS_cond (t := true) (by simp [Act.eval, Array.replicate]) ?_
  simp only [if_true]
  apply wpS_region
  simp [wpOpsS, go_sem]
  refine (stopOf_any c a w).mono ?_
  rintro e w1 ⟨rfl, hb1⟩
  have hw1 := hb.below hb1
  have h0 := hw1.cell 0
  have h1 := hw1.cell 1
  have f0 := hw1.frozen 0
  have f1 := hw1.frozen 1
  simp [go_sem, h0, h1, f0, f1]
  obtain ⟨hW, hG⟩ := two_put (u := .int .i64 c) (v := .int .i64 a) hb hb1
  clear h0 h1 f0 f1 hw1 hb1 hb
  refine ⟨rfl, .panicking ({ v := .iface 35 (.agg #[.int .i64 c, .int .i64 a]), recovered := true } :: older), rfl, .tuple #[], ?_, rfl, rfl, hW, hG⟩
  simp [results, Tryd.results124]

theorem catch_idle (p : Addr) (w : World) :
    CallsD Tryd.prog 124 #[.pointer (some p)] .returning w fun e u' w' => e = .returned (.tuple #[]) ∧ u' = .returning ∧ w' = w := by
  refine callsD_of_wpS Tryd.func124 rfl fun c₀ cs hu => ?_
  apply wpS_seq
  apply wpS_region
  simp [wpOpsS, go_sem, recoverD, hu, Tryd.ntmps124, Exit.thenS]
  apply wpS_seq
  apply wpS_region
  simp [wpOpsS, go_sem, Exit.thenS]
  refine wpS_cond (t := false) (by simp [Act.eval, Array.replicate]) ?_
  simp only [Bool.false_eq_true, if_false]
  refine wpS_of_wp (wp_skip ?_)
  cases c₀
  simp_all [bodyPostS, results, Tryd.results124]

set_option maxHeartbeats 400000 in
/-- Out of a function that ends by returning, or with a Stop. -/
theorem out_any (g : FuncId) (cap : Array Value) (c a : Int) (w : World) (S : World → Prop) (hcf : ∀ w : World, (callFunc g cap).run Tryd.prog w = .ok (.enter g cap) w)
    (h : Calls Tryd.prog g cap (w.alloc (.cells #[.int .i64 0, .int .i64 0] 35)) (fun e w' => Ended c a e ∧ S w'))
    (hS : ∀ w', S w' → Whole w' w.heap.size 35 #[.int .i64 0, .int .i64 0]) :
    Calls Tryd.prog 78 #[.func (.func g) #[] cap] w fun e w' => e = .returned (.agg #[.int .i64 c, .int .i64 a]) ∧ ∃ w1, S w1 ∧ w1.grownBy w' (some w.heap.size) := by
  have hmf : ∀ (fn : Fn) (first cap : Array Value) (w : World), (Instr.makeFunc fn first cap).run Tryd.prog w = .ok (.func fn first cap) w := fun _ _ _ _ => rfl
  go_enter_defers Tryd.func78, Tryd.ntmps78
  go_wp2_with (go_at_call 126; refine (call_any g cap _ _ hcf h ?_ ?_).mono ?_)
  · rintro v w' ⟨he, hs⟩
    rcases he with ⟨h0, h1, _⟩ | ⟨_, h1⟩
    · exact ⟨.inl ⟨h0, h1, rfl⟩, hs⟩
    · cases h1
  · rintro w' ⟨he, _⟩
    rcases he with ⟨_, _, h1⟩ | ⟨_, h1⟩ <;> cases h1
  · rintro e w1 ⟨he, hs⟩
    have hw1 := hS _ hs
    have h0 := hw1.cell 0
    have h1 := hw1.cell 1
    have f0 := hw1.frozen 0
    have f1 := hw1.frozen 1
    clear h hS
    rcases he with ⟨rfl, rfl, rfl⟩ | ⟨hc, rfl⟩
    · simp at h0 h1
      go_wp2_with fail
      refine leaves_cons (f := 124) (args := #[.pointer (some ⟨w.heap.size, 0, none⟩)]) (by simp) (by simp [go_sem]) ?_
      refine (catch_idle ⟨w.heap.size, 0, none⟩ _).mono ?_
      rintro e u' w2 ⟨rfl, rfl, rfl⟩
      simp [Leaves, settle, results, Tryd.results78, go_sem, h0, h1]
      have g1 : w1.grownBy (w1.setCell ⟨w.heap.size, 0, none⟩ (.int .i64 0)) (some w.heap.size) := gb_put (p := ⟨w.heap.size, 0, none⟩) (gb_refl w1 _) (.inl rfl) _
      exact ⟨w1, hs, gb_put (p := ⟨w.heap.size, 1, none⟩) g1 (.inl rfl) _⟩
    · have H := Lib.hid hc
      clear hc
      simp at h0 h1
      go_wp2_with fail
      refine leaves_cons (f := 124) (args := #[.pointer (some ⟨w.heap.size, 0, none⟩)]) (by simp) (by simp [go_sem]) ?_
      refine (catch_panicking w.heap.size c a 0 0 [] _ hw1).mono ?_
      rintro e u' w2 ⟨rfl, rfl, hw2, hg2⟩
      have k0 := hw2.cell 0
      have k1 := hw2.cell 1
      simp at k0 k1
      simp [Leaves, settle, results, Tryd.results78, go_sem, k0, k1]
      exact ⟨w1, hs, hg2⟩

end Go.Proofs.YtebgmfjgapmpfaaDoor
