/- utf.Show. -/
import Derived.Test.YtcagnlafmakebaaDoorBytes
import Derived.Test.YtcagnlafmakebaaDoorPlain
import Derived.Deep.RegionHeld3
import Derived.WalkSpells
namespace Go.Proofs.YtcagnlafmakebaaDoor
open Go.RowKit

theorem digits_at : ∀ n : Fin 16, (({ data := #[48, 49, 50, 51, 52, 53, 54, 55, 56, 57, 97, 98, 99, 100, 101, 102] } : ByteArray))[n.val]? = some (hexB n.val) := by decide
theorem run_digit {P : Program} {t : TypeId} (hu : P.underlying t = some .string) (i : Int) (n : Nat) (hi : i = n) (hn : n < 16) (w : World) :
    (Instr.index t (.string { data := #[48, 49, 50, 51, 52, 53, 54, 55, 56, 57, 97, 98, 99, 100, 101, 102] }) (.int .u8 i)).run P w = .ok (.int .u8 ((hexB n).toNat : Int)) w := by
  subst hi
  have h : (({ data := #[48, 49, 50, 51, 52, 53, 54, 55, 56, 57, 97, 98, 99, 100, 101, 102] } : ByteArray))[n]? = some (hexB n) := digits_at ⟨n, hn⟩
  simp [Instr.index, asIntOf, run_underlying hu, h]
set_option maxRecDepth 100000 in
theorem and15f : ∀ a : Fin 256, bits .and .u8 ((a.val : Nat) : Int) 15 = ((a.val % 16 : Nat) : Int) := by decide
theorem and15 (a : UInt8) : bits .and .u8 (a.toNat : Int) 15 = ((a.toNat % 16 : Nat) : Int) := and15f ⟨a.toNat, a.toNat_lt⟩
theorem take_one {l : List UInt8} {k : Nat} {a : UInt8} (hk : k < (S l).size) (ha : (S l)[k] = a) : l.take (k + 1) = l.take k ++ [a] := by
  have hk' : k < l.length := by rw [S_size] at hk; exact hk
  rw [List.take_succ_eq_append_getElem hk', ← S_get l k hk, ha]
theorem row_one {w2 : World} {base : Nat} {v : Value} {l : List UInt8} {k n m : Nat} {a : UInt8} {news : List Int} (hk : k < (S l).size) (ha : (S l)[k] = a) (hn : nums (code a) = news) (hm : news.length = m) (h0 : n = (codes (l.take k)).length + 1)
    (h : w2.ownsRow base 5 1 v (n + m) (cells (nums (34 :: codes (l.take k)) ++ news))) :
    w2.ownsRow base 5 1 v ((codes (l.take (k + 1))).length + 1) (cells (nums (34 :: codes (l.take (k + 1))))) := by
  rw [take_one hk ha, codes_snoc]
  have e : nums (34 :: (codes (l.take k) ++ code a)) = nums (34 :: codes (l.take k)) ++ news := by rw [← hn, ← nums_append]; rfl
  rw [e]
  have e2 : (codes (l.take k) ++ code a).length + 1 = n + m := by rw [← hm, ← hn, nums_length, List.length_append]; omega
  rw [e2]
  exact h
theorem codes_take (l : List UInt8) (k : Nat) : (codes (l.take k)).length ≤ 3 * l.length := by
  have h1 := (codes_length (l.take k)).2
  have h2 : (l.take k).length ≤ l.length := by rw [List.length_take]; omega
  omega

set_option maxHeartbeats 400000 in
theorem show_any (l : List UInt8) (w : World) (hl : l.length ≤ 100000) :
    Calls Tryd.prog 13 #[.string (S l)] w fun e w' => e = .returned (.string (S (showL l))) ∧ Below w.heap.size w w' := by
  obtain ⟨i0, hi0, hz0, hz1, hz2⟩ := info_parts infoB
  have hs : (S l).size = l.length := S_size l
  have HS := Lib.hid hs
  have hm : (S l).size ≤ 100000 := by rw [hs]; exact hl
  clear hs
  go_enter Tryd.func13, Tryd.ntmps13
  go_wp2
  go_loopw [3, 9] (fun b v wr => ∃ k : Nat, v = .int .i64 k ∧ k ≤ (S l).size ∧ wr.ownsRow w.heap.size 5 1 b ((codes (l.take k)).length + 1) (cells (nums (34 :: codes (l.take k)))) ∧ Below w.heap.size w wr) (fun _ v _ => (S l).size - (intOf v).toNat)
  case atStart =>
    refine ⟨0, rfl, Nat.zero_le _, ?_, (Below.refl _ _).alloc (Nat.le_refl _) _⟩
    have h := World.ownsRow_lit (base := w.heap.size) (size := 1) (e := 5) w #[.int .u8 34] 1 (Nat.le_refl _) (by unfold maxLen; omega) rfl
    exact h
  case round =>
    obtain ⟨k, rfl, hk, hown, hbe⟩ := hrel
    by_cases hlt : k < (S l).size
    · obtain ⟨a, ha⟩ : ∃ a, (S l)[k] = a := ⟨_, rfl⟩
      have hal := a.toNat_lt
      have HT := Lib.hid (codes_take l k)
      have HB := Lib.hid hbe
      have hsz := hbe.size
      clear hbe
      obtain ⟨n, hn⟩ : ∃ n, n = (codes (l.take k)).length + 1 := ⟨_, rfl⟩
      rw [← hn] at hown
      have hn2 : n ≤ 300001 := by have := HT.out; omega
      have HN := Lib.hid hn
      clear hn
      have HA := Lib.hid ha
      by_cases hp : plainB a = true
      · have e : nums (code a) = [(a.toNat : Int)] := by unfold code; rw [if_pos hp]; rfl
        have HE := Lib.hid e
        clear e
        go_wp2_with (first
          | (go_at_call 18; go_must (refine (plain_yes _ _ a rfl hp).mono ?_; rintro e w' ⟨rfl, rfl⟩))
          | (at_builtin; go_must (refine wpList_app rfl _ _ rfl w.heap.size _ _ _ rfl (hown.alloc _) wr.heap.size 1 [(a.toNat : Int)] rfl rfl (heap_alloc_new wr _) (by omega) (by omega) (by simp; omega) ?_; intro v' w2 hown2 hgrow2; have HO2 := Lib.hid hown2; have HG2 := Lib.hid hgrow2; clear hown2 hgrow2)))
        go_roundw
        case rel => exact ⟨k + 1, by go_num, by omega, row_one hlt HA.out HE.out rfl HN.out HO2.out, below_app HB.out hown ((Below.refl _ _).alloc (Nat.le_refl _) _) HG2.out⟩
        case measure => simp [intOf]; omega
      · have hp' : plainB a = false := by simpa using hp
        have e : nums (code a) = [(92 : Int), ((hexB (a.toNat / 16)).toNat : Int), ((hexB (a.toNat % 16)).toNat : Int)] := by unfold code; rw [if_neg hp]; rfl
        have HE := Lib.hid e
        clear e
        obtain ⟨x1, hx1⟩ : ∃ x1 : Int, x1 = ((hexB (a.toNat / 16)).toNat : Int) := ⟨_, rfl⟩
        obtain ⟨x2, hx2⟩ : ∃ x2 : Int, x2 = ((hexB (a.toNat % 16)).toNat : Int) := ⟨_, rfl⟩
        rw [← hx1, ← hx2] at HE
        have f1 : ∀ w, (Instr.index 9 (.string { data := #[48, 49, 50, 51, 52, 53, 54, 55, 56, 57, 97, 98, 99, 100, 101, 102] }) (.int .u8 ((a.toNat : Int) / 16))).run Tryd.prog w = .ok (.int .u8 x1) w := by rw [hx1]; exact run_digit Tryd.underlying9 _ (a.toNat / 16) (by omega) (by omega)
        have f2 : ∀ w, (Instr.index 9 (.string { data := #[48, 49, 50, 51, 52, 53, 54, 55, 56, 57, 97, 98, 99, 100, 101, 102] }) (.int .u8 ((a.toNat : Int) % 16))).run Tryd.prog w = .ok (.int .u8 x2) w := by rw [hx2]; exact run_digit Tryd.underlying9 _ (a.toNat % 16) (by omega) (by omega)
        have f3 := and15 a
        clear hx1 hx2
        go_wp2_with (first
          | (go_at_call 18; go_must (refine (plain_no _ _ a rfl hp').mono ?_; rintro e w' ⟨rfl, rfl⟩)))
        go_region_held3 (fun _ => True) (trivial) ((refine step_app (by rfl) _ _ (by rfl) w.heap.size _ _ _ (by rfl) (hown.drew.alloc _) wr.heap.size 3 [(92 : Int), x1, x2] (by rfl) (by rfl) (heap_alloc_new wr.drew _) (by omega) (by omega) (by simp; omega) ?_; intro v' w2 hown2 hgrow2; have HO2 := Lib.hid hown2; have HG2 := Lib.hid hgrow2; clear hown2 hgrow2))
        all_goals
          go_wp2
          go_roundw
          case rel => exact ⟨k + 1, by go_num, by omega, row_one hlt HA.out HE.out rfl HN.out HO2.out, below_app HB.out hown (by first | exact ((Below.refl _ _).drew.alloc (Nat.le_refl _) _) | exact ((Below.refl _ _).alloc (Nat.le_refl _) _).drew) HG2.out⟩
          case measure => simp [intOf]; omega
    · obtain ⟨n, hn⟩ : ∃ n, n = (codes (l.take k)).length + 1 := ⟨_, rfl⟩
      have hk2 : l.length ≤ k := by have := HS.out; omega
      have h3 := codes_take l k
      have hsz := hbe.size
      rw [← hn] at hown
      have hn2 : n ≤ 300001 := by omega
      rw [List.take_of_length_le hk2] at hown hn
      have HB := Lib.hid hbe
      have HN := Lib.hid hn
      clear hbe hn h3
      go_wp2_with (first
          | (at_builtin; go_must (refine wpList_app rfl _ _ rfl w.heap.size _ _ _ rfl (hown.alloc _) wr.heap.size 1 [(34 : Int)] rfl rfl (heap_alloc_new wr _) (by omega) (by omega) (by simp; omega) ?_; intro v' w2 hown2 hgrow2; obtain ⟨A, c, rfl, _, _, hlies, _⟩ := lies_own hown2; have HO2 := Lib.hid hown2; have HG2 := Lib.hid hgrow2; clear hown2 hgrow2; have hstr := str_lies hlies (by simp [nums]) c Tryd.underlying25 Tryd.underlying5; rw [show nums (34 :: codes l) ++ [(34 : Int)] = nums (showL l) from by rw [show showL l = (34 :: codes l) ++ [34] from rfl, nums_append]; rfl, strOfNums_nums, show (nums (showL l)).length = n + 1 from by rw [nums_length, showL_length]; have := HN.out; omega] at hstr; clear hlies)))
      go_ret
      exact ⟨rfl, below_app HB.out hown ((Below.refl _ _).alloc (Nat.le_refl _) _) HG2.out⟩
end Go.Proofs.YtcagnlafmakebaaDoor
