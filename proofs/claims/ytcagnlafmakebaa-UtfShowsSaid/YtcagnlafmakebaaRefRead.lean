/- creelref03.Read. -/
import Derived.Test.YtcagnlafmakebaaRefShow
namespace Go.Proofs.Ytcagnlafmakebaa
open Go.RowKit

/-- The code of c stands at place k of t, ahead of the last byte. -/
def At (t : List UInt8) (k : Nat) (c : UInt8) : Prop := (code c).length + k + 1 ≤ t.length ∧ (t.drop k).take (code c).length = code c
/-- What has been read so far, and how far. -/
def Sofar (t o : List UInt8) (k : Nat) : Prop := 1 ≤ k ∧ o.length < k ∧ k ≤ t.length + 1 ∧ ∀ v, showL v = t → ∃ r, v = o ++ r ∧ k = 1 + (codes o).length
theorem sofar_start (t : List UInt8) : Sofar t [] 1 := ⟨by omega, by simp, by omega, fun v _ => ⟨v, rfl, rfl⟩⟩
theorem showL_drop (o r : List UInt8) : (showL (o ++ r)).drop (1 + (codes o).length) = codes r ++ [34] := by
  unfold showL
  rw [codes_append, Nat.add_comm, List.drop_succ_cons, List.append_assoc, List.drop_left]
theorem sofar_found {t o : List UInt8} {k : Nat} {c : UInt8} (h : Sofar t o k) (ha : At t k c) : Sofar t (o ++ [c]) (k + (code c).length) := by
  obtain ⟨h1, h2, h3, h4⟩ := h
  have hp := code_pos c
  refine ⟨by omega, by rw [List.length_append, List.length_singleton]; omega, by have := ha.1; omega, fun v hv => ?_⟩
  obtain ⟨r, rfl, hk⟩ := h4 v hv
  have hd := showL_drop o r
  rw [hv, ← hk] at hd
  have ht := congrArg List.length hv
  rw [showL_length, codes_append, List.length_append] at ht
  have ha1 := ha.1
  cases r with
  | nil => rw [codes_nil] at ht; simp at ht; omega
  | cons a r =>
    have ha2 := ha.2
    rw [hd, codes_cons, List.append_assoc] at ha2
    have e : code a ++ (codes r ++ [34]) = code c ++ (code a ++ (codes r ++ [34])).drop (code c).length := by
      conv => lhs; rw [← List.take_append_drop (code c).length (code a ++ (codes r ++ [34])), ha2]
    obtain ⟨rfl, _⟩ := code_split e
    refine ⟨r, by simp, ?_⟩
    rw [codes_snoc, List.length_append]; omega
theorem sofar_stuck {t o : List UInt8} {k : Nat} (h : Sofar t o k) (hk : k + 1 < t.length) (hn : ∀ c, ¬ At t k c) : ∀ v, showL v ≠ t := fun v hv => by
  obtain ⟨r, rfl, hk2⟩ := h.2.2.2 v hv
  have hd := showL_drop o r
  rw [hv, ← hk2] at hd
  have ht := congrArg List.length hv
  rw [showL_length, codes_append, List.length_append] at ht
  cases r with
  | nil => rw [codes_nil] at ht; simp at ht; omega
  | cons a r =>
    refine hn a ⟨?_, ?_⟩
    · rw [codes_cons, List.length_append] at ht; omega
    · rw [hd, codes_cons, List.append_assoc, List.take_left]
theorem sofar_end {t o : List UInt8} {k : Nat} (h : Sofar t o k) (hk : t.length ≤ k + 1) (hne : showL o ≠ t) : ∀ v, showL v ≠ t := fun v hv => by
  obtain ⟨r, rfl, hk2⟩ := h.2.2.2 v hv
  have ht := congrArg List.length hv
  rw [showL_length, codes_append, List.length_append] at ht
  cases r with
  | nil => exact hne (by rw [← hv, List.append_nil])
  | cons a r => rw [codes_cons, List.length_append] at ht; have := code_pos a; omega

theorem str_one (w : World) (c : UInt8) : ∀ dst, Try.prog.underlying dst = some .string → (convert 27 dst (.slice (some ⟨w.heap.size, 0, none⟩) 1 1)).run Try.prog (w.alloc (.cells #[.int .u8 (c.toNat : Int)] 5)) = .ok (.string (S [c])) (w.alloc (.cells #[.int .u8 (c.toNat : Int)] 5)) := by
  have h : Lies (w.alloc (.cells #[.int .u8 (c.toNat : Int)] 5)) (w.heap.size + 1) (some ⟨w.heap.size, 0, none⟩) (cells (nums [c])) := by
    intro i v hv
    refine ⟨w.heap.size, 0, rfl, by omega, ?_⟩
    rw [Nat.zero_add, cell_of_row _ w.heap.size i _ _ (0, 0) (heap_alloc_new w _)]
    rw [← hv]
    simp [cells, nums]
  have := str_lies h (by simp [nums]) 1 Try.underlying27 Try.underlying5
  rw [strOfNums_nums] at this
  exact this
theorem run_inner (c : UInt8) (w : World) : (Instr.slice 9 (.string (S (showL [c]))) (some (.int .i64 1)) (some (.int .i64 (((S (showL [c])).size : Int) - 1))) none).run Try.prog w = .ok (.string (S (code c))) w := by
  obtain ⟨h1, _, _, h4⟩ := ends (a := 34) (b := 34) (m := codes [c]) (z := S (showL [c])) rfl
  have h := run_slice_string (P := Try.prog) w 9 (S (showL [c])) .i64 .i64 1 (((S (showL [c])).size : Int) - 1) Try.underlying9 (by omega) (by omega) (by omega)
  rw [h, show (1 : Int).toNat = 1 from rfl, show (((S (showL [c])).size : Int) - 1).toNat = (S (showL [c])).size - 1 from by omega, h4]
  simp [codes]

/-- The state of the inner loop: nothing found among the bytes below j, or one found. -/
def Inner (t o : List UInt8) (k : Nat) (out i found : Value) (j : Nat) : Prop :=
  (out = .string (S o) ∧ i = .int .i64 k ∧ found = .bool false ∧ ∀ c : UInt8, c.toNat < j → ¬ At t k c) ∨
  ∃ c : UInt8, At t k c ∧ out = .string (S (o ++ [c])) ∧ i = .int .i64 ((k : Int) + ((code c).length : Int) - 1) ∧ found = .bool true

theorem no_more {t : List UInt8} {k : Nat} {c : UInt8} (h : ∀ a : UInt8, a.toNat < c.toNat → ¬ At t k a) (hc : ¬ At t k c) : ∀ a : UInt8, a.toNat < c.toNat + 1 → ¬ At t k a := fun a ha => by
  by_cases h2 : a.toNat < c.toNat
  · exact h a h2
  · obtain rfl : a = c := u8_ext (by omega)
    exact hc
theorem cut_at {t : List UInt8} {k : Nat} {c : UInt8} {z X : ByteArray} (hz : S t = z) (hX : S (code c) = X) : (z.extract k (k + X.size)).toList = (t.drop k).take (code c).length := by
  subst hz
  subst hX
  rw [S_extract, S_toList, S_size, show k + (code c).length - k = (code c).length by omega]
theorem at_of {t : List UInt8} {k : Nat} {c : UInt8} {z X : ByteArray} (hz : S t = z) (hX : S (code c) = X) (hf : (X.size : Int) ≤ (z.size : Int) - 1 - (k : Int)) (he : (z.extract k (k + X.size)).toList = X.toList) : At t k c := by
  have h1 : X.size = (code c).length := by rw [← hX, S_size]
  have h2 : z.size = t.length := by rw [← hz, S_size]
  rw [cut_at hz hX, ← hX, S_toList] at he
  exact ⟨by omega, he⟩
theorem of_at {t : List UInt8} {k : Nat} {c : UInt8} {z X : ByteArray} (hz : S t = z) (hX : S (code c) = X) (h : At t k c) : (z.extract k (k + X.size)).toList = X.toList := by
  rw [cut_at hz hX, ← hX, S_toList]
  exact h.2

set_option maxRecDepth 100000 in
set_option maxHeartbeats 2000000 in
theorem refRead_any (t : List UInt8) (w : World) (hl : t.length ≤ 50000) : Calls Try.prog 7 #[.string (S t)] w (ReadOut t w) := by
  obtain ⟨z, hz⟩ : ∃ z, S t = z := ⟨_, rfl⟩
  have hN : z.size = t.length := by rw [← hz, S_size]
  rw [hz]
  have hz9 : z.size ≤ 50000 := by omega
  have HZ := Lib.hid hz
  have HN := Lib.hid hN
  clear hz hN
  go_enter Try.func7, Try.ntmps7
  go_wp2
  go_loopw [4, 5] (fun b v wr => ∃ (o : List UInt8) (k : Nat), b = .string (S o) ∧ v = .int .i64 k ∧ Sofar t o k ∧ Below w.heap.size w wr) (fun _ v _ => z.size + 2 - (intOf v).toNat)
  case atStart => exact ⟨[], 1, rfl, rfl, sofar_start t, Below.refl _ _⟩
  case round =>
    obtain ⟨o, k, rfl, rfl, hso, hbe⟩ := hrel
    have h1 := hso.1
    have h2 : k ≤ z.size + 1 := by have := hso.2.2.1; have := HN.out; omega
    have h3 : o.length ≤ 50000 := by have := hso.2.1; omega
    have HS := Lib.hid hso
    have HB := Lib.hid hbe
    clear hso hbe
    by_cases hlt : (k : Int) < (z.size : Int) - 1
    · go_wp2
      go_loopw [4, 5, 6, 7] (fun out i found c wi => ∃ j : Nat, c = .int .i64 j ∧ j ≤ 256 ∧ Inner t o k out i found j ∧ Below w.heap.size w wi) (fun _ _ _ c _ => 256 - (intOf c).toNat)
      case atStart => exact ⟨0, rfl, by omega, .inl ⟨rfl, rfl, rfl, fun c hc => absurd hc (by omega)⟩, HB.out⟩
      case round =>
        obtain ⟨j, rfl, hj, hin, hbi⟩ := hrel
        have HI := Lib.hid hbi
        have hszi := hbi.size
        clear hbi
        rcases hin with ⟨rfl, rfl, rfl, hno⟩ | ⟨c, hat, rfl, rfl, rfl⟩
        · have HNO := Lib.hid hno
          clear hno
          by_cases hj2 : j < 256
          · obtain ⟨c, hc⟩ : ∃ c : UInt8, c.toNat = j := ⟨UInt8.ofNat j, by simp; omega⟩
            subst hc
            have hcl := c.toNat_lt
            have hstr := str_one wr c
            go_wp2_with fail
            refine (refShow_any [c] _ (by simp)).mono ?_
            rintro e w1 ⟨rfl, q, rfl⟩
            obtain ⟨W, hW⟩ : ∃ W, (wr.alloc (.cells #[.int .u8 (c.toNat : Int)] 5)).drewN q = W := ⟨_, rfl⟩
            have hbW : Below w.heap.size w W := by rw [← hW]; exact below_drewN (HI.out.alloc HI.out.size _) q
            rw [hW]
            have HBW := Lib.hid hbW
            clear hbW hW hstr hszi
            have hcut := run_inner c
            have hp := code_len c
            have hz1 : (S (code c)).size = (code c).length := S_size _
            have hz2 : 1 ≤ (S (code c)).size := by omega
            have hz3 : (S (code c)).size ≤ 3 := by omega
            have hz4 : (S (showL [c])).size = (code c).length + 2 := by rw [S_size, showL_length]; simp [codes]
            have hz5 : 3 ≤ (S (showL [c])).size := by omega
            have hz6 : (S (showL [c])).size ≤ 5 := by omega
            have HZ1 := Lib.hid hz1
            obtain ⟨X, hX⟩ : ∃ X, S (code c) = X := ⟨_, rfl⟩
            obtain ⟨Y, hY⟩ : ∃ Y, S (showL [c]) = Y := ⟨_, rfl⟩
            rw [hX] at hcut hz2 hz3
            rw [hY] at hcut hz5 hz6 ⊢
            have HX := Lib.hid hX
            rw [hX] at HZ1
            clear hY hz1 hz4 hX
            by_cases hfit : (X.size : Int) ≤ (z.size : Int) - 1 - (k : Int)
            · have hfit2 : (k : Int) + (X.size : Int) ≤ (z.size : Int) := by omega
              by_cases heq : (z.extract k (k + X.size)).toList = X.toList
              · have hbq : ((z.extract k (k + X.size)).toList == X.toList) = true := by simpa using heq
                have hstr2 := str_one W c
                have ho9 : (S o).size ≤ 50000 := by rw [S_size]; exact h3
                have hc9 : (S [c]).size ≤ 1 := by rw [S_size]; simp
                have F : At t k c := at_of HZ.out HX.out (by omega) heq
                have HF := Lib.hid F
                clear F heq
                go_wp2
                go_roundw
                case rel => exact ⟨c.toNat + 1, by go_num, by omega, .inr ⟨c, HF.out, by rw [S_append], by rw [HZ1.out], rfl⟩, HBW.out.alloc HBW.out.size _⟩
                case measure => simp [intOf]; omega
              · have hbq : ((z.extract k (k + X.size)).toList == X.toList) = false := by simpa using heq
                have F : ¬ At t k c := fun h => heq (of_at HZ.out HX.out h)
                have HF := Lib.hid (no_more HNO.out F)
                clear F heq
                go_wp2
                go_roundw
                case rel => exact ⟨c.toNat + 1, by go_num, by omega, .inl ⟨rfl, rfl, rfl, HF.out⟩, HBW.out⟩
                case measure => simp [intOf]; omega
            · have hfd : decide ((X.size : Int) ≤ (z.size : Int) - 1 - (k : Int)) = false := by simpa using hfit
              have F : ¬ At t k c := fun h => hfit (by have := h.1; have := HN.out; have := HZ1.out; omega)
              have HF := Lib.hid (no_more HNO.out F)
              clear F
              go_wp2
              go_roundw
              case rel => exact ⟨c.toNat + 1, by go_num, by omega, .inl ⟨rfl, rfl, rfl, HF.out⟩, HBW.out⟩
              case measure => simp [intOf]; omega
          · have hjd : decide ((j : Int) < 256) = false := by simp; omega
            have F : ∀ v, showL v ≠ t := sofar_stuck HS.out (by have := HN.out; omega) (fun c => HNO.out c (by have := c.toNat_lt; omega))
            have HF := Lib.hid F
            clear F
            go_wp2
            go_ret2
            exact readOut_no HF.out HI.out
        · have hp := code_len c
          have hso2 := sofar_found HS.out hat
          have hb2 : k + (code c).length ≤ z.size + 1 := by have := hso2.2.2.1; have := HN.out; omega
          have HS2 := Lib.hid hso2
          clear hso2 hat
          by_cases hj2 : j < 256
          · have hjd : (j : Int) < 256 := by omega
            go_wp2
            go_roundw
            case rel => exact ⟨_, _, rfl, by go_num, HS2.out, HI.out⟩
            case measure => simp [intOf]; omega
          · have hjd : decide ((j : Int) < 256) = false := by simp; omega
            go_wp2
            go_roundw
            case rel => exact ⟨_, _, rfl, by go_num, HS2.out, HI.out⟩
            case measure => simp [intOf]; omega
    · have hd : decide ((k : Int) < (z.size : Int) - 1) = false := by simpa using hlt
      by_cases heq : showL o = t
      · have e : (!(S (showL o)).toList == z.toList) = false := by rw [← HZ.out, S_toList, S_toList, heq]; simp
        have HE := Lib.hid heq
        clear heq
        go_wp2_with (first
          | (go_at_call 8; go_must (refine (refShow_any _ _ (by omega)).mono ?_; rintro e w' ⟨rfl, q, rfl⟩)))
        go_ret2
        exact ⟨o, true, rfl, .inl ⟨rfl, HE.out⟩, below_drewN HB.out q⟩
      · have e : (!(S (showL o)).toList == z.toList) = true := by rw [← HZ.out, S_toList, S_toList]; simpa using heq
        have HE := Lib.hid (sofar_end HS.out (by have := HN.out; omega) heq)
        clear heq
        go_wp2_with (first
          | (go_at_call 8; go_must (refine (refShow_any _ _ (by omega)).mono ?_; rintro e w' ⟨rfl, q, rfl⟩)))
        go_ret2
        exact readOut_no HE.out (below_drewN HB.out q)
end Go.Proofs.Ytcagnlafmakebaa
