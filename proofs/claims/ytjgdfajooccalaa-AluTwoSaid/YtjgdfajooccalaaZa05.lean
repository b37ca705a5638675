/- shift, rotate, times of creelref18. (By gen/genBt.py.) -/
import Derived.Test.YtjgdfajooccalaaZa04
namespace Go.Proofs.Ytjgdfajooccalaa
open Go.RowKit
set_option linter.unusedVariables false
set_option maxRecDepth 100000

set_option maxHeartbeats 4000000 in
theorem shiftt {w : World} {A : Option Addr} {c : Nat} {a : List Bool} (ha : LB w A a) (na : a.length = 32) (q : Int) (fl : Bool) (q0 : -1000 ≤ q) (q1 : q ≤ 1000) :
    Calls Try.prog 36 #[.slice A 32 c, .int .i64 q, .bool fl] w (Ownt (shiftL 32 a q fl) w) := by
  have HA := Lib.hid ha
  have HAL := Lib.hid (shiftL_len 32 a q fl)
  clear ha
  go_enter Try.func36, Try.ntmps36
  go_wp2
  go_loopw [7, 8] (fun o i wr => ∃ k : Nat, k ≤ 32 ∧ i = .int .i64 k ∧ RowB wr w.heap.size o ((shiftL 32 a q fl).take k) ∧ Below w.heap.size w wr) (fun _ i _ => 32 - (intOf i).toNat)
  case atStart => exact ⟨0, Nat.zero_le _, rfl, RowB.nil _ _, Below.refl _ _⟩
  case round =>
    obtain ⟨k, hk, rfl, hr, hbw⟩ := hrel
    have hz := hbw.size
    by_cases hlt : k < 32
    · obtain ⟨bb, hbb⟩ : ∃ bb, bb = (shiftL 32 a q fl).getD k false := ⟨_, rfl⟩
      have HD := Lib.hid (show (shiftL 32 a q fl).take (k + 1) = (shiftL 32 a q fl).take k ++ [bb] by
        rw [List.take_add_one, hbb, List.getD_eq_getElem?_getD, List.getElem?_eq_getElem (by rw [HAL.out]; omega)]; rfl)
      rw [shiftL_get hlt] at hbb
      have hlen : ((shiftL 32 a q fl).take k).length ≤ 1000 := by rw [List.length_take]; omega
      obtain ⟨acc, hacc⟩ : ∃ acc, acc = (shiftL 32 a q fl).take k := ⟨_, rfl⟩
      have HR2 := Lib.hid (hr.later (below_box wr (.cells #[.bool bb] 4)))
      have HB2 := Lib.hid (hbw.alloc hz (.cells #[.bool bb] 4))
      have HX := Lib.hid (Whole.made wr 4 #[.bool bb])
      have hsz : (wr.alloc (.cells #[.bool bb] 4)).heap.size = wr.heap.size + 1 := size_box _ _
      rw [← hacc] at HR2 HD hlen
      have w1 : IntKind.i64.wrap ((k : Int) - q) = (k : Int) - q := by simp only [IntKind.wrap, IntKind.bits, IntKind.signed]; simp; omega
      by_cases h1 : 0 ≤ (k : Int) - q
      · by_cases h2 : (k : Int) - q < 32
        · rw [if_pos ⟨h1, by simpa using h2⟩] at hbb
          obtain ⟨j, hj⟩ : ∃ j : Nat, (k : Int) - q = j := ⟨((k : Int) - q).toNat, by omega⟩
          rw [hj] at h1 h2 hbb
          have hx : a[j]? = some bb := by rw [hbb, Int.toNat_natCast, List.getD_eq_getElem?_getD, List.getElem?_eq_getElem (by omega)]; rfl
          obtain ⟨bl, off, rfl, _, hc1⟩ := (HA.out.below hbw).at hx
          have d1 : decide ((0 : Int) ≤ (j : Int)) = true := decide_eq_true (by omega)
          have d2 : decide ((j : Int) < 32) = true := decide_eq_true (by omega)
          have d3 : decide ((j : Int) < 0) = false := decide_eq_false (by omega)
          have d4 : decide ((32 : Int) ≤ (j : Int)) = false := decide_eq_false (by omega)
          clear hr hbw hacc hbb hx w1
          cases bb
          · go_wp2_with (at_builtin; (refine rowB_new rfl _ _ rfl w.heap.size _ acc rfl HR2.out wr.heap.size _ rfl HX.out (by omega) (by rw [hsz]; omega) ?_; intro v5 w5 hr5 hb5; have HR5 := Lib.hid hr5; have HB5 := Lib.hid (HB2.out.trans hb5); clear hr5 hb5))
            go_roundw
            case rel => exact ⟨k + 1, by omega, by go_num, by rw [HD.out]; exact HR5.out, HB5.out⟩
            case measure => simp [intOf]; omega
          · go_wp2_with (at_builtin; (refine rowB_new rfl _ _ rfl w.heap.size _ acc rfl HR2.out wr.heap.size _ rfl HX.out (by omega) (by rw [hsz]; omega) ?_; intro v5 w5 hr5 hb5; have HR5 := Lib.hid hr5; have HB5 := Lib.hid (HB2.out.trans hb5); clear hr5 hb5))
            go_roundw
            case rel => exact ⟨k + 1, by omega, by go_num, by rw [HD.out]; exact HR5.out, HB5.out⟩
            case measure => simp [intOf]; omega
        · rw [if_neg (fun h => h2 (by simpa using h.2))] at hbb
          subst hbb
          obtain ⟨y, hy⟩ : ∃ y, y = (k : Int) - q := ⟨_, rfl⟩
          rw [← hy] at h1 h2
          have hy2 := hy.symm
          have d1 : decide ((0 : Int) ≤ y) = true := decide_eq_true h1
          have d2 : decide (y < 32) = false := decide_eq_false h2
          have d3 : decide (y < 0) = false := decide_eq_false (by omega)
          have d4 : decide ((32 : Int) ≤ y) = true := decide_eq_true (by omega)
          clear hr hbw hacc hy w1
          cases bb
          · go_wp2_with (at_builtin; (refine rowB_new rfl _ _ rfl w.heap.size _ acc rfl HR2.out wr.heap.size _ rfl HX.out (by omega) (by rw [hsz]; omega) ?_; intro v5 w5 hr5 hb5; have HR5 := Lib.hid hr5; have HB5 := Lib.hid (HB2.out.trans hb5); clear hr5 hb5))
            go_roundw
            case rel => exact ⟨k + 1, by omega, by go_num, by rw [HD.out]; exact HR5.out, HB5.out⟩
            case measure => simp [intOf]; omega
          · go_wp2_with (at_builtin; (refine rowB_new rfl _ _ rfl w.heap.size _ acc rfl HR2.out wr.heap.size _ rfl HX.out (by omega) (by rw [hsz]; omega) ?_; intro v5 w5 hr5 hb5; have HR5 := Lib.hid hr5; have HB5 := Lib.hid (HB2.out.trans hb5); clear hr5 hb5))
            go_roundw
            case rel => exact ⟨k + 1, by omega, by go_num, by rw [HD.out]; exact HR5.out, HB5.out⟩
            case measure => simp [intOf]; omega
      · rw [if_neg (fun h => h1 h.1)] at hbb
        subst hbb
        obtain ⟨y, hy⟩ : ∃ y, y = (k : Int) - q := ⟨_, rfl⟩
        rw [← hy] at h1
        have hy2 := hy.symm
        have d1 : decide ((0 : Int) ≤ y) = false := decide_eq_false h1
        have d3 : decide (y < 0) = true := decide_eq_true (by omega)
        clear hr hbw hacc hy w1
        cases bb
        · go_wp2_with (at_builtin; (refine rowB_new rfl _ _ rfl w.heap.size _ acc rfl HR2.out wr.heap.size _ rfl HX.out (by omega) (by rw [hsz]; omega) ?_; intro v5 w5 hr5 hb5; have HR5 := Lib.hid hr5; have HB5 := Lib.hid (HB2.out.trans hb5); clear hr5 hb5))
          go_roundw
          case rel => exact ⟨k + 1, by omega, by go_num, by rw [HD.out]; exact HR5.out, HB5.out⟩
          case measure => simp [intOf]; omega
        · go_wp2_with (at_builtin; (refine rowB_new rfl _ _ rfl w.heap.size _ acc rfl HR2.out wr.heap.size _ rfl HX.out (by omega) (by rw [hsz]; omega) ?_; intro v5 w5 hr5 hb5; have HR5 := Lib.hid hr5; have HB5 := Lib.hid (HB2.out.trans hb5); clear hr5 hb5))
          go_roundw
          case rel => exact ⟨k + 1, by omega, by go_num, by rw [HD.out]; exact HR5.out, HB5.out⟩
          case measure => simp [intOf]; omega
    · obtain rfl : k = 32 := by omega
      rw [List.take_of_length_le (by rw [HAL.out]; omega)] at hr
      obtain ⟨A9, c9, rfl, ho⟩ := hr.ob (by rw [HAL.out]; omega)
      rw [HAL.out]
      have HO := Lib.hid ho
      have HBW := Lib.hid hbw
      clear hr hbw ho
      go_wp2
      go_ret
      exact ⟨A9, c9, rfl, HO.out, HBW.out⟩
set_option maxHeartbeats 2000000 in
theorem rotatet {w : World} {A : Option Addr} {c : Nat} {a : List Bool} (ha : LB w A a) (na : a.length = 32) (q : Int) (q0 : -1000 ≤ q) (q1 : q ≤ 1000) :
    Calls Try.prog 37 #[.slice A 32 c, .int .i64 q] w (Ownt (rotL 32 a q) w) := by
  have HA := Lib.hid ha
  have HAL := Lib.hid (rotL_len 32 a q)
  clear ha
  go_enter Try.func37, Try.ntmps37
  go_wp2
  go_loopw [5, 6] (fun o i wr => ∃ k : Nat, k ≤ 32 ∧ i = .int .i64 k ∧ RowB wr w.heap.size o ((rotL 32 a q).take k) ∧ Below w.heap.size w wr) (fun _ i _ => 32 - (intOf i).toNat)
  case atStart => exact ⟨0, Nat.zero_le _, rfl, RowB.nil _ _, Below.refl _ _⟩
  case round =>
    obtain ⟨k, hk, rfl, hr, hbw⟩ := hrel
    have hz := hbw.size
    by_cases hlt : k < 32
    · obtain ⟨bb, hbb⟩ : ∃ bb, bb = (rotL 32 a q).getD k false := ⟨_, rfl⟩
      have HD := Lib.hid (show (rotL 32 a q).take (k + 1) = (rotL 32 a q).take k ++ [bb] by
        rw [List.take_add_one, hbb, List.getD_eq_getElem?_getD, List.getElem?_eq_getElem (by rw [HAL.out]; omega)]; rfl)
      rw [rotL_get hlt] at hbb
      have hlen : ((rotL 32 a q).take k).length ≤ 1000 := by rw [List.length_take]; omega
      obtain ⟨acc, hacc⟩ : ∃ acc, acc = (rotL 32 a q).take k := ⟨_, rfl⟩
      have HR2 := Lib.hid (hr.later (below_box wr (.cells #[.bool bb] 4)))
      have HB2 := Lib.hid (hbw.alloc hz (.cells #[.bool bb] 4))
      have HX := Lib.hid (Whole.made wr 4 #[.bool bb])
      have hsz : (wr.alloc (.cells #[.bool bb] 4)).heap.size = wr.heap.size + 1 := size_box _ _
      rw [← hacc] at HR2 HD hlen
      have w1 : IntKind.i64.wrap ((k : Int) - q) = (k : Int) - q := by simp only [IntKind.wrap, IntKind.bits, IntKind.signed]; simp; omega
      obtain ⟨y, hy⟩ : ∃ y, y = (k : Int) - q := ⟨_, rfl⟩
      rw [← hy] at hbb
      have hy2 := hy.symm
      obtain ⟨m, hm⟩ : ∃ m, m = Int.tmod y 32 := ⟨_, rfl⟩
      have b1 : -32 < m ∧ m < 32 := by rw [hm]; exact tmod_bounds y 32 (by omega)
      have w2 : wrap64 (m + 32) = m + 32 := by unfold wrap64; omega
      obtain ⟨j, hj, hjn⟩ : ∃ j : Nat, (m + 32) % 32 = j ∧ j < 32 := ⟨((m + 32) % 32).toNat, by omega, by omega⟩
      have e3 : Int.tmod (m + 32) 32 = j := by rw [Int.tmod_eq_emod_of_nonneg (by omega)]; exact hj
      have e4 : (y % (32 : Nat)).toNat = j := by
        have := tmod_emod y 32 (by omega)
        rw [← hm] at this
        have h5 : (m + 32) % 32 = y % 32 := by rw [Int.add_emod_right]; exact this
        omega
      rw [e4] at hbb
      have hx : a[j]? = some bb := by rw [hbb, List.getD_eq_getElem?_getD, List.getElem?_eq_getElem (by omega)]; rfl
      obtain ⟨bl, off, rfl, _, hc1⟩ := (HA.out.below hbw).at hx
      have hm2 := hm.symm
      clear hr hbw hacc hbb hx hy e4 hm w1
      go_wp2_with (at_builtin; (refine rowB_new rfl _ _ rfl w.heap.size _ acc rfl HR2.out wr.heap.size _ rfl HX.out (by omega) (by rw [hsz]; omega) ?_; intro v5 w5 hr5 hb5; have HR5 := Lib.hid hr5; have HB5 := Lib.hid (HB2.out.trans hb5); clear hr5 hb5))
      go_roundw
      case rel => exact ⟨k + 1, by omega, by go_num, by rw [HD.out]; exact HR5.out, HB5.out⟩
      case measure => simp [intOf]; omega
    · obtain rfl : k = 32 := by omega
      rw [List.take_of_length_le (by rw [HAL.out]; omega)] at hr
      obtain ⟨A9, c9, rfl, ho⟩ := hr.ob (by rw [HAL.out]; omega)
      rw [HAL.out]
      have HO := Lib.hid ho
      have HBW := Lib.hid hbw
      clear hr hbw ho
      go_wp2
      go_ret
      exact ⟨A9, c9, rfl, HO.out, HBW.out⟩
set_option maxHeartbeats 2000000 in
theorem timest {w : World} {A B : Option Addr} {c d : Nat} {a b : List Bool} (ha : LB w A a) (hb : LB w B b) (na : a.length = 32) (nb : b.length = 32) :
    Calls Try.prog 33 #[.slice A 32 c, .slice B 32 d] w (Ownt (timesK 32 a b 32) w) := by
  have HA := Lib.hid ha
  have HB := Lib.hid hb
  have hmk : ∀ w : World, (Instr.makeSlice 43 (.int .i64 32) (.int .i64 32)).run Try.prog w = .ok (.slice (some ⟨w.heap.size, 0, none⟩) 32 32) (w.alloc (.cells (madeCells #[.bool false] 32) 4)) := hmk_any 32 (by omega)
  have HZ := Lib.hid (OB.zero w 32)
  have HTL := Lib.hid (fun k => timesK_len 32 a b k)
  clear ha hb
  go_enter Try.func33, Try.ntmps33
  go_wp2
  go_loopw [5, 6] (fun o i wr => ∃ (k : Nat) (A2 : Option Addr) (c2 : Nat), k ≤ 32 ∧ i = .int .i64 k ∧ o = .slice A2 32 c2 ∧ OB wr w.heap.size A2 (timesK 32 a b k) ∧ Below w.heap.size w wr) (fun _ i _ => 32 - (intOf i).toNat)
  case atStart => exact ⟨0, _, _, Nat.zero_le _, rfl, rfl, HZ.out, below_box _ _⟩
  case round =>
    obtain ⟨k, A2, c2, hk, rfl, rfl, ho, hbw⟩ := hrel
    have hz := hbw.size
    by_cases hlt : k < 32
    · obtain ⟨y, hy⟩ : ∃ y, b[k]? = some y := ⟨_, List.getElem?_eq_getElem (by omega)⟩
      obtain ⟨bl, off, rfl, _, hc1⟩ := (HB.out.below hbw).at hy
      have HD := Lib.hid (timesK_succ (n := 32) (a := a) hy)
      cases y
      · have HO := Lib.hid ho
        have HBW := Lib.hid hbw
        clear hy ho hbw
        go_wp2
        go_roundw
        case rel => exact ⟨k + 1, A2, c2, by omega, by go_num, rfl, by rw [HD.out]; exact HO.out, HBW.out⟩
        case measure => simp [intOf]; omega
      · have HSh := Lib.hid (shiftt (c := c) (HA.out.below hbw) na k false (by omega) (by omega))
        have HO := Lib.hid ho
        have HBW := Lib.hid hbw
        have HAD := Lib.hid (fun W A3 c3 (h2 : LB W A2 (timesK 32 a b k)) (h3 : LB W A3 (shiftL 32 a k false)) => addt (c := c2) (d := c3) h2 h3 (HTL.out k) (shiftL_len _ _ _ _) false)
        clear hy ho hbw
        go_wp2_with (first
          | (go_at_call 36; go_must ((with_reducible refine HSh.out.mono ?_); rintro e w3 ⟨A3, c3, rfl, ho3, hb3⟩; have HB3 := Lib.hid hb3; have HO3 := Lib.hid ho3.lb; have HO2 := Lib.hid (HO.out.later hb3); clear hb3 ho3))
          | (go_at_call 31; go_must ((with_reducible refine (HAD.out _ _ _ HO2.out.lb HO3.out).mono ?_); rintro e w4 ⟨A4, c4, rfl, ho4, hb4⟩; have HB4 := Lib.hid (HBW.out.trans ((HB3.out.trans (hb4.mono HB3.out.size)).mono hz)); have HO4 := Lib.hid (ho4.mono (Nat.le_trans hz HB3.out.size)); clear hb4 ho4)))
        go_roundw
        case rel => exact ⟨k + 1, A4, c4, by omega, by go_num, rfl, by rw [HD.out]; exact HO4.out, HB4.out⟩
        case measure => simp [intOf]; omega
    · obtain rfl : k = 32 := by omega
      have HO := Lib.hid ho
      have HBW := Lib.hid hbw
      clear ho hbw
      go_wp2
      go_ret
      exact ⟨A2, c2, rfl, HO.out, HBW.out⟩
end Go.Proofs.Ytjgdfajooccalaa

/- divide of creelref18. (By gen/genBt.py.) -/
namespace Go.Proofs.Ytjgdfajooccalaa
open Go.RowKit
set_option linter.unusedVariables false
set_option maxRecDepth 100000

set_option maxHeartbeats 8000000 in
theorem dividet {w : World} {A B : Option Addr} {c d : Nat} {a b : List Bool} (ha : LB w A a) (hb : LB w B b) (na : a.length = 32) (nb : b.length = 32) :
    Calls Try.prog 52 #[.slice A 32 c, .slice B 32 d] w fun e w' => ∃ A1 c1 A2 c2, e = .returned (.tuple #[.slice A1 32 c1, .slice A2 32 c2]) ∧ OB w' w.heap.size A1 (divK 32 a b 32).1 ∧ OB w' w.heap.size A2 (divK 32 a b 32).2 ∧ Below w.heap.size w w' := by
  have HA := Lib.hid ha
  have HB := Lib.hid hb
  have hmk : ∀ w : World, (Instr.makeSlice 43 (.int .i64 32) (.int .i64 32)).run Try.prog w = .ok (.slice (some ⟨w.heap.size, 0, none⟩) 32 32) (w.alloc (.cells (madeCells #[.bool false] 32) 4)) := hmk_any 32 (by omega)
  clear ha hb
  go_enter Try.func52, Try.ntmps52
  go_upto_region 1 with fail
  go_cut [6, 7] (fun q r W => ∃ gq g2, gq ≠ g2 ∧ q = .slice (some ⟨gq, 0, none⟩) 32 32 ∧ r = .slice (some ⟨g2, 0, none⟩) 32 32 ∧ OB W w.heap.size (some ⟨gq, 0, none⟩) (List.replicate 32 false) ∧ OB W w.heap.size (some ⟨g2, 0, none⟩) (List.replicate 32 false) ∧ Below w.heap.size w W)
  case first =>
    have hS : Below w.heap.size w w.drew := (Below.refl _ _).drew
    refine wp_region_noPanic ?_
    refine wp_region_held_drew (S := fun W => Below w.heap.size w W) (by kernel_rfl) hS (fun hHeld => ?_)
    clear hS
    refine wpAnyH_ready (rs := [0, 1]) (by kernel_rfl) (by simp) ?_
    refine (AllReadyH.cons (o := { dst := some 10, op := Op.makeSlice 43 (Operand.const (Value.int IntKind.i64 32)) (Operand.const (Value.int IntKind.i64 32)), type := 43, pos := "ref.go:102", after := #[], guard := none }) rfl (fun K hK => ?_) (AllReadyH.cons (o := { dst := some 11, op := Op.makeSlice 43 (Operand.const (Value.int IntKind.i64 32)) (Operand.const (Value.int IntKind.i64 32)), type := 43, pos := "ref.go:102", after := #[], guard := none }) rfl (fun K hK => ?_) AllReadyH.nil))
    · refine step_make rfl 32 (by omega) _ _ rfl rfl rfl ?_; intro g0 w0 hg0 hb0 ho0; have HB0 := Lib.hid hb0; have hl0 := ho0.lt.2; have HO0 := Lib.hid (ho0.mono hHeld.size); clear hb0 ho0
      refine hK.out _ _ (hHeld.trans (HB0.out.mono hHeld.size)) (fun hHeld0 => ?_)
      clear hK K hHeld
      (try simp only [Act.put, List.setIfInBounds_toArray, List.set_cons_zero, List.set_cons_succ])
      (refine heldTake (i := 2) (oi := { dst := some 6, op := Op.assign (Operand.tmp 10), type := 43, pos := "ref.go:102", after := #[{ on := 0, ground := Ground.data }, { on := 0, ground := Ground.phase }, { on := 1, ground := Ground.textOnly Departure.lateStoresUnsure }], guard := none }) (v := ?_) rfl (by kernel_rfl) (by kernel_rfl) (by kernel_rfl) (by assumption) ?_ ?_; rotate_left; focus (refine .inl ⟨by kernel_rfl, ?_⟩; intro w hSw; (try dsimp only at hSw); go_simp; (try with_reducible rfl)); skip)
      (try simp only [Act.put, List.setIfInBounds_toArray, List.set_cons_zero, List.set_cons_succ])
      refine wpAnyH_ready (rs := [1]) (by kernel_rfl) (by simp) ?_
      refine (AllReadyH.cons (o := { dst := some 11, op := Op.makeSlice 43 (Operand.const (Value.int IntKind.i64 32)) (Operand.const (Value.int IntKind.i64 32)), type := 43, pos := "ref.go:102", after := #[], guard := none }) rfl (fun K hK => ?_) AllReadyH.nil)
      refine step_make rfl 32 (by omega) _ _ rfl rfl rfl ?_; intro g1 w1 hg1 hb1 ho1; have HB1 := Lib.hid hb1; have hl1 := ho1.lt.2; have HO1 := Lib.hid (ho1.mono hHeld0.size); clear hb1 ho1
      refine hK.out _ _ (hHeld0.trans (HB1.out.mono hHeld0.size)) (fun hHeld1 => ?_)
      clear hK K hHeld0
      (try simp only [Act.put, List.setIfInBounds_toArray, List.set_cons_zero, List.set_cons_succ])
      (refine heldTake (i := 3) (oi := { dst := some 7, op := Op.assign (Operand.tmp 11), type := 43, pos := "ref.go:102", after := #[{ on := 1, ground := Ground.data }, { on := 2, ground := Ground.chain }, { on := 0, ground := Ground.phase }, { on := 1, ground := Ground.phase }, { on := 2, ground := Ground.phase }], guard := none }) (v := ?_) rfl (by kernel_rfl) (by kernel_rfl) (by kernel_rfl) (by assumption) ?_ ?_; rotate_left; focus (refine .inl ⟨by kernel_rfl, ?_⟩; intro w hSw; (try dsimp only at hSw); go_simp; (try with_reducible rfl)); skip)
      (try simp only [Act.put, List.setIfInBounds_toArray, List.set_cons_zero, List.set_cons_succ])
      refine wpAnyH_done (by kernel_rfl) ?_ _
      refine NoPanic.normal ?_
      have hLast := hHeld1
      clear hHeld1
      go_wp2
      go_meet
      exact ⟨g0, g1, by omega, rfl, rfl, (((HO0.out).below HB1.out)), (HO1.out), hLast⟩
    · refine step_make rfl 32 (by omega) _ _ rfl rfl rfl ?_; intro g1 w1 hg1 hb1 ho1; have HB1 := Lib.hid hb1; have hl1 := ho1.lt.2; have HO1 := Lib.hid (ho1.mono hHeld.size); clear hb1 ho1
      refine hK.out _ _ (hHeld.trans (HB1.out.mono hHeld.size)) (fun hHeld1 => ?_)
      clear hK K hHeld
      (try simp only [Act.put, List.setIfInBounds_toArray, List.set_cons_zero, List.set_cons_succ])
      refine wpAnyH_ready (rs := [0]) (by kernel_rfl) (by simp) ?_
      refine (AllReadyH.cons (o := { dst := some 10, op := Op.makeSlice 43 (Operand.const (Value.int IntKind.i64 32)) (Operand.const (Value.int IntKind.i64 32)), type := 43, pos := "ref.go:102", after := #[], guard := none }) rfl (fun K hK => ?_) AllReadyH.nil)
      refine step_make rfl 32 (by omega) _ _ rfl rfl rfl ?_; intro g0 w0 hg0 hb0 ho0; have HB0 := Lib.hid hb0; have hl0 := ho0.lt.2; have HO0 := Lib.hid (ho0.mono hHeld1.size); clear hb0 ho0
      refine hK.out _ _ (hHeld1.trans (HB0.out.mono hHeld1.size)) (fun hHeld0 => ?_)
      clear hK K hHeld1
      (try simp only [Act.put, List.setIfInBounds_toArray, List.set_cons_zero, List.set_cons_succ])
      (refine heldTake (i := 2) (oi := { dst := some 6, op := Op.assign (Operand.tmp 10), type := 43, pos := "ref.go:102", after := #[{ on := 0, ground := Ground.data }, { on := 0, ground := Ground.phase }, { on := 1, ground := Ground.textOnly Departure.lateStoresUnsure }], guard := none }) (v := ?_) rfl (by kernel_rfl) (by kernel_rfl) (by kernel_rfl) (by assumption) ?_ ?_; rotate_left; focus (refine .inl ⟨by kernel_rfl, ?_⟩; intro w hSw; (try dsimp only at hSw); go_simp; (try with_reducible rfl)); skip)
      (try simp only [Act.put, List.setIfInBounds_toArray, List.set_cons_zero, List.set_cons_succ])
      (refine heldTake (i := 3) (oi := { dst := some 7, op := Op.assign (Operand.tmp 11), type := 43, pos := "ref.go:102", after := #[{ on := 1, ground := Ground.data }, { on := 2, ground := Ground.chain }, { on := 0, ground := Ground.phase }, { on := 1, ground := Ground.phase }, { on := 2, ground := Ground.phase }], guard := none }) (v := ?_) rfl (by kernel_rfl) (by kernel_rfl) (by kernel_rfl) (by assumption) ?_ ?_; rotate_left; focus (refine .inl ⟨by kernel_rfl, ?_⟩; intro w hSw; (try dsimp only at hSw); go_simp; (try with_reducible rfl)); skip)
      (try simp only [Act.put, List.setIfInBounds_toArray, List.set_cons_zero, List.set_cons_succ])
      refine wpAnyH_done (by kernel_rfl) ?_ _
      refine NoPanic.normal ?_
      have hLast := hHeld0
      clear hHeld0
      go_wp2
      go_meet
      exact ⟨g0, g1, by omega, rfl, rfl, (HO0.out), (((HO1.out).below HB0.out)), hLast⟩
  case rest =>
    obtain ⟨gq, g2, hne0, rfl, rfl, hq0, hr0, hb0⟩ := hcut
    have HQ0 := Lib.hid hq0
    have HR0 := Lib.hid hr0
    have HB0 := Lib.hid hb0
    have HLN := Lib.hid (fun t => divK_len (a := a) nb t)
    clear hq0 hr0 hb0 hmk
    go_wp2
    go_loopw [7, 8] (fun r i wr => ∃ (t : Nat) (A2 : Option Addr) (c2 : Nat), t ≤ 32 ∧ i = .int .i64 (32 - 1 - (t : Int)) ∧ r = .slice A2 32 c2 ∧ OB wr w.heap.size (some ⟨gq, 0, none⟩) (divK 32 a b t).1 ∧ OB wr w.heap.size A2 (divK 32 a b t).2 ∧ Below w.heap.size w wr) (fun _ i _ => (intOf i + 1).toNat)
    case atStart => exact ⟨0, _, _, Nat.zero_le _, rfl, rfl, HQ0.out, HR0.out, HB0.out⟩
    case round =>
      obtain ⟨t, A2, c2, ht, rfl, rfl, hq, hr, hbw⟩ := hrel
      have hz := hbw.size
      by_cases hlt : t < 32
      · obtain ⟨j, hj⟩ : ∃ j : Nat, j = 32 - 1 - t := ⟨_, rfl⟩
        have hj2 : (32 - 1 - (t : Int)) = (j : Int) := by omega
        rw [hj2]
        have hjn : j < 32 := by omega
        obtain ⟨x, hx⟩ : ∃ x, a[j]? = some x := ⟨_, List.getElem?_eq_getElem (by omega)⟩
        have hgx : a.getD j false = x := by rw [List.getD_eq_getElem?_getD, hx]; rfl
        obtain ⟨bl, off, rfl, hbl, hc1⟩ := (HA.out.below hbw).at hx
        have HLn := Lib.hid (HLN.out t)
        have hD : divK 32 a b (t + 1) = divStep 32 a b j (divK 32 a b t) := by rw [hj]; rfl
        obtain ⟨st, hst⟩ : ∃ st, st = divK 32 a b t := ⟨_, rfl⟩
        rw [← hst] at hD hq hr HLn
        obtain ⟨qL, rL⟩ := st
        have hln := HLn.out
        have hql : qL.length = 32 := hln.1
        have hrl : rL.length = 32 := hln.2
        obtain ⟨h, hh⟩ : ∃ h, rL[31]? = some h := ⟨_, List.getElem?_eq_getElem (by omega)⟩
        have hgh : rL.getD (32 - 1) false = h := by rw [List.getD_eq_getElem?_getD, show 32 - 1 = 31 from rfl, hh]; rfl
        obtain ⟨gr, rfl, _, _, kr, _⟩ := hr.at hh
        obtain ⟨z0, hz0⟩ : ∃ z0, (shiftL 32 rL 1 false)[0]? = some z0 := ⟨_, List.getElem?_eq_getElem (by rw [shiftL_len]; omega)⟩
        obtain ⟨yq, hqj⟩ : ∃ yq, qL[j]? = some yq := ⟨_, List.getElem?_eq_getElem (by omega)⟩
        have HSh := Lib.hid (shiftt (c := c2) hr.lb hrl 1 false (by omega) (by omega))
        unfold divStep at hD
        rw [show (qL, rL).2 = rL from rfl, show (qL, rL).1 = qL from rfl, hgh, hgx] at hD
        obtain ⟨r2, hr2⟩ : ∃ r2, r2 = (shiftL 32 rL 1 false).set 0 x := ⟨_, rfl⟩
        have hr2l : r2.length = 32 := by rw [hr2, List.length_set, shiftL_len]
        rw [← hr2] at hD
        have HLs := Lib.hid (fun W A4 c4 (h1 : LB W A4 ((shiftL 32 rL 1 false).set 0 x)) (h2 : LB W B b) => lesst (c := c4) (d := d) h1 h2 (by rw [← hr2]; exact hr2l) nb)
        have HNt := Lib.hid (fun W (h2 : LB W B b) => nott (c := d) h2 nb)
        have HAd := Lib.hid (fun W A4 c4 A5 c5 (h1 : LB W A4 ((shiftL 32 rL 1 false).set 0 x)) (h2 : LB W A5 (notL b)) => addt (c := c4) (d := c5) h1 h2 (by rw [← hr2]; exact hr2l) (by rw [notL_len]; exact nb) true)
        rw [← hr2] at HLs HAd
        have HR2E := Lib.hid hr2
        clear hr2
        have hql2 := hq.lt.1
        have hql3 := hq.lt.2
        have HQ := Lib.hid hq
        have HBW := Lib.hid hbw
        have HHQ := Lib.hid hqj
        clear hq hr hbw hx hst hh hgh hgx hj hln
        cases h
        · rw [Bool.false_or] at hD
          cases hls : lessL r2 b
          · rw [hls] at hD HLs
            have HD := Lib.hid hD
            clear hD hls
            go_wp2_with (first
              | (go_at_call 36; go_must ((with_reducible refine HSh.out.mono ?_); rintro e w3 ⟨A3, c3, rfl, ho3, hb3⟩; obtain ⟨g3, rfl, hg3, hl3, k3, f3⟩ := ho3.at hz0; have hW4 : w3.grownBy (w3.setCell ⟨g3, 0, none⟩ (.bool x)) (some g3) := gb_put (gb_refl _ _) (p := ⟨g3, 0, none⟩) (.inl rfl) _; have ho4 := ho3.put 0 x (by simp [shiftL_len]); rw [← HR2E.out] at ho4; have HO4 := Lib.hid ho4; clear ho4; have HQ4 := Lib.hid ((HQ.out.later hb3).keep hW4 (by omega)); have hB3 := HBW.out.trans (hb3.mono hz); have HB4 := Lib.hid (Below.grown hB3 hW4 hB3.size (fun k e => by injection e with e; omega)); have q3 := (hb3.cell (p := ⟨bl, off + j, none⟩) hbl).trans hc1; have hs4 : (w3.setCell ⟨g3, 0, none⟩ (.bool x)).heap.size = w3.heap.size := size_set _ _ _; have hs3 := hb3.size; clear hb3 ho3 hB3 hW4))
              | (go_at_call 51; go_must ((with_reducible refine (HLs.out _ _ _ HO4.out.lb (HB.out.below HB4.out)).mono ?_); rintro e w5 ⟨rfl, hb5⟩; have HO5 := Lib.hid (HO4.out.later hb5); have HQ5 := Lib.hid (HQ4.out.later hb5); have HB5 := Lib.hid (HB4.out.trans (hb5.mono HB4.out.size)); have hs5 := hb5.size; clear hb5))
              | (go_at_call 32; go_must ((with_reducible refine (HNt.out _ (HB.out.below HB5.out)).mono ?_); rintro e w6 ⟨A6, c6, rfl, ho6, hb6⟩; have HN6 := Lib.hid ho6.lb; have HO6 := Lib.hid (HO5.out.later hb6); have HQ6 := Lib.hid (HQ5.out.later hb6); have HB6 := Lib.hid (HB5.out.trans (hb6.mono HB5.out.size)); have hs6 := hb6.size; clear hb6 ho6)) | (go_at_call 31; go_must ((with_reducible refine (HAd.out _ _ _ _ _ HO6.out.lb HN6.out).mono ?_); rintro e w7 ⟨A7, c7, rfl, ho7, hb7⟩; have HQ7 := Lib.hid (HQ6.out.later hb7); have HB7 := Lib.hid (HB6.out.trans (hb7.mono HB6.out.size)); have HO7 := Lib.hid ho7; obtain ⟨gq2, eq2, _, _, k7, f7⟩ := HQ7.out.at hqj; injection eq2 with eq2; injection eq2 with eq2; subst eq2; have hs7 := hb7.size; clear hb7 ho7)))
            have hW8 : w7.grownBy (w7.setCell ⟨gq, j, none⟩ (.bool true)) (some gq) := gb_put (gb_refl _ _) (p := ⟨gq, j, none⟩) (.inl rfl) _
            go_roundw
            case rel => exact ⟨t + 1, A7, c7, by omega, congrArg (Value.int .i64) (by omega), rfl, by rw [HD.out]; exact HQ7.out.put j true (by rw [HLn.out.1]; omega), by rw [HD.out]; exact (HO7.out.keep2 hW8 (by omega)).mono (by omega), Below.grown HB7.out hW8 HB7.out.size (fun k e => by injection e with e; omega)⟩
            case measure => (simp [intOf]; try omega)
          · rw [hls] at hD HLs
            have HD := Lib.hid hD
            clear hD hls
            go_wp2_with (first
              | (go_at_call 36; go_must ((with_reducible refine HSh.out.mono ?_); rintro e w3 ⟨A3, c3, rfl, ho3, hb3⟩; obtain ⟨g3, rfl, hg3, hl3, k3, f3⟩ := ho3.at hz0; have hW4 : w3.grownBy (w3.setCell ⟨g3, 0, none⟩ (.bool x)) (some g3) := gb_put (gb_refl _ _) (p := ⟨g3, 0, none⟩) (.inl rfl) _; have ho4 := ho3.put 0 x (by simp [shiftL_len]); rw [← HR2E.out] at ho4; have HO4 := Lib.hid ho4; clear ho4; have HQ4 := Lib.hid ((HQ.out.later hb3).keep hW4 (by omega)); have hB3 := HBW.out.trans (hb3.mono hz); have HB4 := Lib.hid (Below.grown hB3 hW4 hB3.size (fun k e => by injection e with e; omega)); have q3 := (hb3.cell (p := ⟨bl, off + j, none⟩) hbl).trans hc1; have hs4 : (w3.setCell ⟨g3, 0, none⟩ (.bool x)).heap.size = w3.heap.size := size_set _ _ _; have hs3 := hb3.size; clear hb3 ho3 hB3 hW4))
              | (go_at_call 51; go_must ((with_reducible refine (HLs.out _ _ _ HO4.out.lb (HB.out.below HB4.out)).mono ?_); rintro e w5 ⟨rfl, hb5⟩; have HO5 := Lib.hid (HO4.out.later hb5); have HQ5 := Lib.hid (HQ4.out.later hb5); have HB5 := Lib.hid (HB4.out.trans (hb5.mono HB4.out.size)); have hs5 := hb5.size; clear hb5)))
            go_roundw
            case rel => exact ⟨t + 1, _, _, by omega, congrArg (Value.int .i64) (by omega), rfl, by rw [HD.out]; exact HQ5.out, by rw [HD.out]; exact HO5.out.mono (by omega), HB5.out⟩
            case measure => (simp [intOf]; try omega)
        · rw [Bool.true_or] at hD
          have HD := Lib.hid hD
          clear hD
          go_wp2_with (first
            | (go_at_call 36; go_must ((with_reducible refine HSh.out.mono ?_); rintro e w3 ⟨A3, c3, rfl, ho3, hb3⟩; obtain ⟨g3, rfl, hg3, hl3, k3, f3⟩ := ho3.at hz0; have hW4 : w3.grownBy (w3.setCell ⟨g3, 0, none⟩ (.bool x)) (some g3) := gb_put (gb_refl _ _) (p := ⟨g3, 0, none⟩) (.inl rfl) _; have ho4 := ho3.put 0 x (by simp [shiftL_len]); rw [← HR2E.out] at ho4; have HO4 := Lib.hid ho4; clear ho4; have HQ4 := Lib.hid ((HQ.out.later hb3).keep hW4 (by omega)); have hB3 := HBW.out.trans (hb3.mono hz); have HB4 := Lib.hid (Below.grown hB3 hW4 hB3.size (fun k e => by injection e with e; omega)); have q3 := (hb3.cell (p := ⟨bl, off + j, none⟩) hbl).trans hc1; have hs4 : (w3.setCell ⟨g3, 0, none⟩ (.bool x)).heap.size = w3.heap.size := size_set _ _ _; have hs3 := hb3.size; clear hb3 ho3 hB3 hW4))
            | (go_at_call 32; go_must ((with_reducible refine (HNt.out _ (HB.out.below HB4.out)).mono ?_); rintro e w6 ⟨A6, c6, rfl, ho6, hb6⟩; have HN6 := Lib.hid ho6.lb; have HO6 := Lib.hid (HO4.out.later hb6); have HQ6 := Lib.hid (HQ4.out.later hb6); have HB6 := Lib.hid (HB4.out.trans (hb6.mono HB4.out.size)); have hs6 := hb6.size; clear hb6 ho6)) | (go_at_call 31; go_must ((with_reducible refine (HAd.out _ _ _ _ _ HO6.out.lb HN6.out).mono ?_); rintro e w7 ⟨A7, c7, rfl, ho7, hb7⟩; have HQ7 := Lib.hid (HQ6.out.later hb7); have HB7 := Lib.hid (HB6.out.trans (hb7.mono HB6.out.size)); have HO7 := Lib.hid ho7; obtain ⟨gq2, eq2, _, _, k7, f7⟩ := HQ7.out.at hqj; injection eq2 with eq2; injection eq2 with eq2; subst eq2; have hs7 := hb7.size; clear hb7 ho7)))
          have hW8 : w7.grownBy (w7.setCell ⟨gq, j, none⟩ (.bool true)) (some gq) := gb_put (gb_refl _ _) (p := ⟨gq, j, none⟩) (.inl rfl) _
          go_roundw
          case rel => exact ⟨t + 1, A7, c7, by omega, congrArg (Value.int .i64) (by omega), rfl, by rw [HD.out]; exact HQ7.out.put j true (by rw [HLn.out.1]; omega), by rw [HD.out]; exact (HO7.out.keep2 hW8 (by omega)).mono (by omega), Below.grown HB7.out hW8 HB7.out.size (fun k e => by injection e with e; omega)⟩
          case measure => (simp [intOf]; try omega)
      · obtain rfl : t = 32 := by omega
        have HQ := Lib.hid hq
        have HR := Lib.hid hr
        have HBW := Lib.hid hbw
        clear hq hr hbw
        go_wp2
        go_ret2
        exact ⟨_, _, _, _, rfl, HQ.out, HR.out, HBW.out⟩
end Go.Proofs.Ytjgdfajooccalaa

/- signed, quotient, bit of creelref18. (By gen/genBt.py.) -/
namespace Go.Proofs.Ytjgdfajooccalaa
open Go.RowKit
set_option linter.unusedVariables false
set_option maxRecDepth 100000

theorem turnTt (n : Nat) (A : Option Addr) (c : Nat) (l : List Bool) {w : World} (h : LB w A l) (hl : l.length = 32) : Calls Try.prog 62 #[.slice A 32 c] w (Ownt (turnL l) w) := turnedt h hl
set_option maxHeartbeats 8000000 in
theorem signedt {w : World} {A B : Option Addr} {c d : Nat} {a b : List Bool} (ha : LB w A a) (hb : LB w B b) (na : a.length = 32) (nb : b.length = 32) :
    Calls Try.prog 53 #[.slice A 32 c, .slice B 32 d] w fun e w' => ∃ A1 c1 A2 c2, e = .returned (.tuple #[.slice A1 32 c1, .slice A2 32 c2]) ∧ OB w' w.heap.size A1 (signedL 32 a b).1 ∧ OB w' w.heap.size A2 (signedL 32 a b).2 ∧ Below w.heap.size w w' := by
  obtain ⟨x, hx⟩ : ∃ x, a[31]? = some x := ⟨_, List.getElem?_eq_getElem (by omega)⟩
  obtain ⟨y, hy⟩ : ∃ y, b[31]? = some y := ⟨_, List.getElem?_eq_getElem (by omega)⟩
  have gx : a.getD (32 - 1) false = x := by rw [List.getD_eq_getElem?_getD, show 32 - 1 = 31 from rfl, hx]; rfl
  have gy : b.getD (32 - 1) false = y := by rw [List.getD_eq_getElem?_getD, show 32 - 1 = 31 from rfl, hy]; rfl
  obtain ⟨bl, off, rfl, hbl, ca⟩ := ha.at hx
  obtain ⟨bl2, off2, rfl, hbl2, cb⟩ := hb.at hy
  have HA := Lib.hid ha
  have HB := Lib.hid hb
  have hgl := sgnL_len 32 b
  obtain ⟨⟨p, r⟩, hst⟩ : ∃ st, st = divK 32 (sgnL 32 a) (sgnL 32 b) 32 := ⟨_, rfl⟩
  have hsg : signedL 32 a b = signedS x y (p, r) := by unfold signedL; rw [gx, gy, hst]
  have HLn := Lib.hid (show p.length = 32 ∧ r.length = 32 by
    have := divK_len (n := 32) (a := sgnL 32 a) (b := sgnL 32 b) (by rw [hgl]; exact nb) 32
    rw [← hst] at this
    exact this)
  have HDv := Lib.hid (fun W A3 c3 A4 c4 (h3 : LB W A3 (sgnL 32 a)) (h4 : LB W A4 (sgnL 32 b)) => show Calls Try.prog 52 #[.slice A3 32 c3, .slice A4 32 c4] W (fun e w' => ∃ A1 c1 A2 c2, e = .returned (.tuple #[.slice A1 32 c1, .slice A2 32 c2]) ∧ OB w' W.heap.size A1 p ∧ OB w' W.heap.size A2 r ∧ Below W.heap.size W w') from by
    have := dividet (c := c3) (d := c4) h3 h4 (by rw [sgnL_len]; exact na) (by rw [sgnL_len]; exact nb)
    rw [← hst] at this
    exact this)
  rw [show sgnL 32 a = if x then turnL a else a by unfold sgnL; rw [gx], show sgnL 32 b = if y then turnL b else b by unfold sgnL; rw [gy]] at HDv
  rw [hsg]
  clear hst hsg hgl
  have HB0 := Lib.hid (Below.refl w.heap.size w)
  clear ha hb hx hy gx gy
  cases x <;> cases y
  · as_aux_lemma =>
      go_enter Try.func53, Try.ntmps53
      go_upto_region 7 with (first
        | (go_at_call 52; (with_reducible refine (HDv.out _ _ _ _ _ (HA.out.below HB0.out) (HB.out.below HB0.out)).mono ?_); rintro e w1 ⟨Aq, cq, Ar, cr, rfl, hoq, hor, hb1⟩; have HB1 := Lib.hid (HB0.out.trans (hb1.mono HB0.out.size)); have qa1 := (HB1.out.cell (p := ⟨bl, off + 31, none⟩) hbl).trans ca; have qb1 := (HB1.out.cell (p := ⟨bl2, off2 + 31, none⟩) hbl2).trans cb; have HQ := Lib.hid (hoq.mono HB0.out.size); have HR := Lib.hid (hor.mono HB0.out.size); clear hb1 hoq hor))
      go_quiet (fail)
      have HB9 := Lib.hid (below_drewN HB1.out nq)
      have qa9 := (HB9.out.cell (p := ⟨bl, off + 31, none⟩) hbl).trans ca
      have HQ9 := Lib.hid (HQ.out.later (below_drewN (Below.refl _ _) nq))
      have HR9 := Lib.hid (HR.out.later (below_drewN (Below.refl _ _) nq))
      go_wp2
      go_ret2
      exact ⟨_, _, _, _, rfl, HQ9.out, HR9.out, HB9.out⟩
  · as_aux_lemma =>
      go_enter Try.func53, Try.ntmps53
      go_upto_region 7 with (first
        | (go_at_call 62; (with_reducible refine (turnTt 1 _ d _ (HB.out.below HB0.out) nb).mono ?_); rintro e w1 ⟨A1, c1, rfl, ho1, hb1⟩; have HB1 := Lib.hid (HB0.out.trans (hb1.mono HB0.out.size)); have qa1 := (HB1.out.cell (p := ⟨bl, off + 31, none⟩) hbl).trans ca; have qb1 := (HB1.out.cell (p := ⟨bl2, off2 + 31, none⟩) hbl2).trans cb;  have HY := Lib.hid (ho1.mono HB0.out.size); clear hb1 ho1)
        | (go_at_call 52; (with_reducible refine (HDv.out _ _ _ _ _ (HA.out.below HB1.out) (HY.out.lb)).mono ?_); rintro e w2 ⟨Aq, cq, Ar, cr, rfl, hoq, hor, hb2⟩; have HB2 := Lib.hid (HB1.out.trans (hb2.mono HB1.out.size)); have qa2 := (HB2.out.cell (p := ⟨bl, off + 31, none⟩) hbl).trans ca; have qb2 := (HB2.out.cell (p := ⟨bl2, off2 + 31, none⟩) hbl2).trans cb; have HQ := Lib.hid (hoq.mono HB1.out.size); have HR := Lib.hid (hor.mono HB1.out.size); clear hb2 hoq hor))
      go_quiet (fail)
      have HB9 := Lib.hid (below_drewN HB2.out nq)
      have qa9 := (HB9.out.cell (p := ⟨bl, off + 31, none⟩) hbl).trans ca
      have HQ9 := Lib.hid (HQ.out.later (below_drewN (Below.refl _ _) nq))
      have HR9 := Lib.hid (HR.out.later (below_drewN (Below.refl _ _) nq))
      go_wp2_with (first
        | (go_at_call 62; (with_reducible refine (turnTt 2 _ cq _ HQ9.out.lb HLn.out.1).mono ?_); rintro e w10 ⟨A10, c10, rfl, ho10, hb10⟩; have HB10 := Lib.hid (HB9.out.trans (hb10.mono HB9.out.size)); have qa10 := (HB10.out.cell (p := ⟨bl, off + 31, none⟩) hbl).trans ca; have HQ10 := Lib.hid (ho10.mono HB9.out.size); have HR10 := Lib.hid (HR9.out.later hb10); clear hb10 ho10))
      go_ret2
      exact ⟨_, _, _, _, rfl, HQ10.out, HR10.out, HB10.out⟩
  · as_aux_lemma =>
      go_enter Try.func53, Try.ntmps53
      go_upto_region 7 with (first
        | (go_at_call 62; (with_reducible refine (turnTt 0 _ c _ HA.out na).mono ?_); rintro e w1 ⟨A1, c1, rfl, ho1, hb1⟩; have HB1 := Lib.hid (HB0.out.trans (hb1.mono HB0.out.size)); have qa1 := (HB1.out.cell (p := ⟨bl, off + 31, none⟩) hbl).trans ca; have qb1 := (HB1.out.cell (p := ⟨bl2, off2 + 31, none⟩) hbl2).trans cb; have HX := Lib.hid ho1; clear hb1 ho1)
        | (go_at_call 52; (with_reducible refine (HDv.out _ _ _ _ _ (HX.out.lb) (HB.out.below HB1.out)).mono ?_); rintro e w2 ⟨Aq, cq, Ar, cr, rfl, hoq, hor, hb2⟩; have HB2 := Lib.hid (HB1.out.trans (hb2.mono HB1.out.size)); have qa2 := (HB2.out.cell (p := ⟨bl, off + 31, none⟩) hbl).trans ca; have qb2 := (HB2.out.cell (p := ⟨bl2, off2 + 31, none⟩) hbl2).trans cb; have HQ := Lib.hid (hoq.mono HB1.out.size); have HR := Lib.hid (hor.mono HB1.out.size); clear hb2 hoq hor))
      go_quiet (fail)
      have HB9 := Lib.hid (below_drewN HB2.out nq)
      have qa9 := (HB9.out.cell (p := ⟨bl, off + 31, none⟩) hbl).trans ca
      have HQ9 := Lib.hid (HQ.out.later (below_drewN (Below.refl _ _) nq))
      have HR9 := Lib.hid (HR.out.later (below_drewN (Below.refl _ _) nq))
      go_wp2_with (first
        | (go_at_call 62; (with_reducible refine (turnTt 2 _ cq _ HQ9.out.lb HLn.out.1).mono ?_); rintro e w10 ⟨A10, c10, rfl, ho10, hb10⟩; have HB10 := Lib.hid (HB9.out.trans (hb10.mono HB9.out.size)); have qa10 := (HB10.out.cell (p := ⟨bl, off + 31, none⟩) hbl).trans ca; have HQ10 := Lib.hid (ho10.mono HB9.out.size); have HR10 := Lib.hid (HR9.out.later hb10); clear hb10 ho10)
        | (go_at_call 62; (with_reducible refine (turnTt 3 _ cr _ HR10.out.lb HLn.out.2).mono ?_); rintro e w11 ⟨A11, c11, rfl, ho11, hb11⟩; have HB11 := Lib.hid (HB10.out.trans (hb11.mono HB10.out.size)); have HR11 := Lib.hid (ho11.mono HB10.out.size); have HQ11 := Lib.hid (HQ10.out.later hb11); clear hb11 ho11))
      go_ret2
      exact ⟨_, _, _, _, rfl, HQ11.out, HR11.out, HB11.out⟩
  · as_aux_lemma =>
      go_enter Try.func53, Try.ntmps53
      go_upto_region 7 with (first
        | (go_at_call 62; (with_reducible refine (turnTt 0 _ c _ HA.out na).mono ?_); rintro e w1 ⟨A1, c1, rfl, ho1, hb1⟩; have HB1 := Lib.hid (HB0.out.trans (hb1.mono HB0.out.size)); have qa1 := (HB1.out.cell (p := ⟨bl, off + 31, none⟩) hbl).trans ca; have qb1 := (HB1.out.cell (p := ⟨bl2, off2 + 31, none⟩) hbl2).trans cb; have HX := Lib.hid ho1; clear hb1 ho1)
        | (go_at_call 62; (with_reducible refine (turnTt 1 _ d _ (HB.out.below HB1.out) nb).mono ?_); rintro e w2 ⟨A2, c2, rfl, ho2, hb2⟩; have HB2 := Lib.hid (HB1.out.trans (hb2.mono HB1.out.size)); have qa2 := (HB2.out.cell (p := ⟨bl, off + 31, none⟩) hbl).trans ca; have qb2 := (HB2.out.cell (p := ⟨bl2, off2 + 31, none⟩) hbl2).trans cb; have HX2 := Lib.hid (HX.out.later hb2); have HY := Lib.hid (ho2.mono HB1.out.size); clear hb2 ho2)
        | (go_at_call 52; (with_reducible refine (HDv.out _ _ _ _ _ (HX2.out.lb) (HY.out.lb)).mono ?_); rintro e w3 ⟨Aq, cq, Ar, cr, rfl, hoq, hor, hb3⟩; have HB3 := Lib.hid (HB2.out.trans (hb3.mono HB2.out.size)); have qa3 := (HB3.out.cell (p := ⟨bl, off + 31, none⟩) hbl).trans ca; have qb3 := (HB3.out.cell (p := ⟨bl2, off2 + 31, none⟩) hbl2).trans cb; have HQ := Lib.hid (hoq.mono HB2.out.size); have HR := Lib.hid (hor.mono HB2.out.size); clear hb3 hoq hor))
      go_quiet (fail)
      have HB9 := Lib.hid (below_drewN HB3.out nq)
      have qa9 := (HB9.out.cell (p := ⟨bl, off + 31, none⟩) hbl).trans ca
      have HQ9 := Lib.hid (HQ.out.later (below_drewN (Below.refl _ _) nq))
      have HR9 := Lib.hid (HR.out.later (below_drewN (Below.refl _ _) nq))
      go_wp2_with (first
        | (go_at_call 62; (with_reducible refine (turnTt 3 _ cr _ HR9.out.lb HLn.out.2).mono ?_); rintro e w11 ⟨A11, c11, rfl, ho11, hb11⟩; have HB11 := Lib.hid (HB9.out.trans (hb11.mono HB9.out.size)); have HR11 := Lib.hid (ho11.mono HB9.out.size); have HQ11 := Lib.hid (HQ9.out.later hb11); clear hb11 ho11))
      go_ret2
      exact ⟨_, _, _, _, rfl, HQ11.out, HR11.out, HB11.out⟩
end Go.Proofs.Ytjgdfajooccalaa
