/- add, not, less, turned, shift, rotate of creelref18. (By gen/genBt.py.) -/
import Derived.Test.YtfjlknanaempdaaZa03
namespace Go.Proofs.Ytfjlknanaempdaa
open Go.RowKit
set_option linter.unusedVariables false
set_option maxRecDepth 100000

set_option maxHeartbeats 2000000 in
theorem addt {w : World} {A B : Option Addr} {c d : Nat} {a b : List Bool} (ha : LB w A a) (hb : LB w B b) (na : a.length = 32) (nb : b.length = 32) (z : Bool) :
    Calls Try.prog 15 #[.slice A 32 c, .slice B 32 d, .bool z] w (Ownt (addL a b z) w) := by
  have HA := Lib.hid ha
  have HB := Lib.hid hb
  have HAL := Lib.hid (addL_len a b z (by omega))
  clear ha hb
  go_enter Try.func15, Try.ntmps15
  go_wp2
  go_loopw [2, 7, 8] (fun cv o i wr => ∃ (k : Nat) (cc : Bool), k ≤ 32 ∧ i = .int .i64 k ∧ cv = .bool cc ∧ addL (a.drop k) (b.drop k) cc = (addL a b z).drop k ∧ RowB wr w.heap.size o ((addL a b z).take k) ∧ Below w.heap.size w wr) (fun _ _ i _ => 32 - (intOf i).toNat)
  case atStart => exact ⟨0, z, Nat.zero_le _, rfl, rfl, rfl, RowB.nil _ _, Below.refl _ _⟩
  case round =>
    obtain ⟨k, cc, hk, rfl, rfl, hd, hr, hbw⟩ := hrel
    by_cases hlt : k < 32
    · obtain ⟨x, hx⟩ : ∃ x, a[k]? = some x := ⟨_, List.getElem?_eq_getElem (by omega)⟩
      obtain ⟨y, hy⟩ : ∃ y, b[k]? = some y := ⟨_, List.getElem?_eq_getElem (by omega)⟩
      obtain ⟨bl, off, rfl, _, hc1⟩ := (HA.out.below hbw).at hx
      obtain ⟨bl2, off2, rfl, _, hc2⟩ := (HB.out.below hbw).at hy
      rw [drop_atB hx, drop_atB hy] at hd
      obtain ⟨n, hn⟩ : ∃ n, n = x.toNat + y.toNat + cc.toNat := ⟨_, rfl⟩
      have hd2 : ((n % 2 == 1) :: addL (a.drop (k + 1)) (b.drop (k + 1)) (decide (1 < n)) : List Bool) = (addL a b z).drop k := by rw [hn]; exact hd
      have HD := Lib.hid (cons_dropB hd2)
      have hx1 : x.toNat ≤ 1 := by cases x <;> decide
      have hy1 : y.toNat ≤ 1 := by cases y <;> decide
      have hc1' : cc.toNat ≤ 1 := by cases cc <;> decide
      obtain ⟨p, hp⟩ : ∃ p, p = x.toNat + y.toNat := ⟨_, rfl⟩
      have q1 : IntKind.u64.wrap ((x.toNat : Int) + (y.toNat : Int)) = p := by simp only [IntKind.wrap, IntKind.bits, IntKind.signed]; simp; omega
      have q2 : IntKind.u64.wrap ((p : Int) + (cc.toNat : Int)) = n := by simp only [IntKind.wrap, IntKind.bits, IntKind.signed]; simp; omega
      have HT1 := Lib.hid (fun W => trutht x W)
      have HT2 := Lib.hid (fun W => trutht y W)
      have HT3 := Lib.hid (fun W => trutht cc W)
      have HR := Lib.hid hr
      have HBW := Lib.hid hbw
      have hlen : ((addL a b z).take k).length ≤ 1000 := by rw [List.length_take]; omega
      obtain ⟨acc, hacc⟩ : ∃ acc, acc = (addL a b z).take k := ⟨_, rfl⟩
      rw [← hacc] at HR HD hlen
      obtain ⟨bb, hbb⟩ : ∃ bb, bb = (n % 2 == 1) := ⟨_, rfl⟩
      obtain ⟨cc2, hcc⟩ : ∃ cc2, cc2 = decide (1 < n) := ⟨_, rfl⟩
      rw [← hbb, ← hcc] at HD
      have e2 : ((n : Int) % 2 == 1) = bb := (odd_eq n).trans hbb.symm
      have hz := hbw.size
      have HR2 := Lib.hid (hr.later (below_box wr (.cells #[.bool bb] 4)).drew)
      have HB2 := Lib.hid (hbw.alloc hz (.cells #[.bool bb] 4)).drew
      have HX := Lib.hid (show Whole (wr.alloc (.cells #[.bool bb] 4)).drew wr.heap.size 4 #[.bool bb] from Whole.made wr 4 #[.bool bb])
      have hsz : (wr.alloc (.cells #[.bool bb] 4)).drew.heap.size = wr.heap.size + 1 := size_box _ _
      rw [← hacc] at HR2
      clear hr hbw hd hd2 hx hy hacc hn hp hbb HR
      obtain ⟨x1, ex⟩ : ∃ x1, x1 = x.toNat := ⟨_, rfl⟩
      obtain ⟨y1, ey⟩ : ∃ y1, y1 = y.toNat := ⟨_, rfl⟩
      obtain ⟨c1, ec⟩ : ∃ c1, c1 = cc.toNat := ⟨_, rfl⟩
      rw [← ex] at HT1 q1 hx1
      rw [← ey] at HT2 q1 hy1
      rw [← ec] at HT3 q2 hc1'
      clear ex ey ec
      have hS : (wr.drew.cell? ⟨bl, off + k, none⟩ = some (.bool x) ∧ wr.drew.cell? ⟨bl2, off2 + k, none⟩ = some (.bool y)) ∧ Below wr.heap.size wr wr.drew := ⟨⟨hc1, hc2⟩, (Below.refl _ _).drew⟩
      clear hc1 hc2
      go_upto_region 5 with fail
      refine wp_region_noPanic ?_
      refine wp_region_held_drew (S := fun W => (W.cell? ⟨bl, off + k, none⟩ = some (.bool x) ∧ W.cell? ⟨bl2, off2 + k, none⟩ = some (.bool y)) ∧ Below wr.heap.size wr W) (by kernel_rfl) hS (fun hHeld => ?_)
      clear hS
      (refine heldTake (i := 0) (oi := { dst := some 14, op := Op.move (Operand.tmp 0), type := 35, pos := "ref.go:41", after := #[], guard := none }) (v := ?_) rfl (by kernel_rfl) (by kernel_rfl) (by kernel_rfl) (by assumption) ?_ ?_; rotate_left; focus (refine .inl ⟨by kernel_rfl, ?_⟩; intro w hSw; (try dsimp only at hSw); go_simp; (try with_reducible rfl)); skip)
      (try simp only [Act.put, List.setIfInBounds_toArray, List.set_cons_zero, List.set_cons_succ])
      (refine heldTake (i := 1) (oi := { dst := some 15, op := Op.move (Operand.tmp 8), type := 3, pos := "ref.go:41", after := #[], guard := none }) (v := ?_) rfl (by kernel_rfl) (by kernel_rfl) (by kernel_rfl) (by assumption) ?_ ?_; rotate_left; focus (refine .inl ⟨by kernel_rfl, ?_⟩; intro w hSw; (try dsimp only at hSw); go_simp; (try with_reducible rfl)); skip)
      (try simp only [Act.put, List.setIfInBounds_toArray, List.set_cons_zero, List.set_cons_succ])
      (refine heldTake (i := 2) (oi := { dst := some 16, op := Op.indexAddr 35 (Operand.tmp 14) (Operand.tmp 15), type := 0, pos := "ref.go:41", after := #[{ on := 0, ground := Ground.data }, { on := 1, ground := Ground.data }], guard := none }) (v := ?_) rfl (by kernel_rfl) (by kernel_rfl) (by kernel_rfl) (by assumption) ?_ ?_; rotate_left; focus (refine .inl ⟨by kernel_rfl, ?_⟩; intro w hSw; (try dsimp only at hSw); go_simp; (try with_reducible rfl)); skip)
      (try simp only [Act.put, List.setIfInBounds_toArray, List.set_cons_zero, List.set_cons_succ])
      (refine heldTake (i := 3) (oi := { dst := some 17, op := Op.load 4 (Operand.tmp 16), type := 4, pos := "ref.go:41", after := #[{ on := 2, ground := Ground.data }], guard := none }) (v := ?_) rfl (by kernel_rfl) (by kernel_rfl) (by kernel_rfl) (by assumption) ?_ ?_; rotate_left; focus (refine .inl ⟨by kernel_rfl, ?_⟩; intro w hSw; (try dsimp only at hSw); go_simp; (try with_reducible rfl)); skip)
      (try simp only [Act.put, List.setIfInBounds_toArray, List.set_cons_zero, List.set_cons_succ])
      (refine heldTake (i := 5) (oi := { dst := some 19, op := Op.move (Operand.tmp 1), type := 35, pos := "ref.go:41", after := #[], guard := none }) (v := ?_) rfl (by kernel_rfl) (by kernel_rfl) (by kernel_rfl) (by assumption) ?_ ?_; rotate_left; focus (refine .inl ⟨by kernel_rfl, ?_⟩; intro w hSw; (try dsimp only at hSw); go_simp; (try with_reducible rfl)); skip)
      (try simp only [Act.put, List.setIfInBounds_toArray, List.set_cons_zero, List.set_cons_succ])
      (refine heldTake (i := 6) (oi := { dst := some 20, op := Op.move (Operand.tmp 8), type := 3, pos := "ref.go:41", after := #[], guard := none }) (v := ?_) rfl (by kernel_rfl) (by kernel_rfl) (by kernel_rfl) (by assumption) ?_ ?_; rotate_left; focus (refine .inl ⟨by kernel_rfl, ?_⟩; intro w hSw; (try dsimp only at hSw); go_simp; (try with_reducible rfl)); skip)
      (try simp only [Act.put, List.setIfInBounds_toArray, List.set_cons_zero, List.set_cons_succ])
      (refine heldTake (i := 7) (oi := { dst := some 21, op := Op.indexAddr 35 (Operand.tmp 19) (Operand.tmp 20), type := 0, pos := "ref.go:41", after := #[{ on := 5, ground := Ground.data }, { on := 6, ground := Ground.data }], guard := none }) (v := ?_) rfl (by kernel_rfl) (by kernel_rfl) (by kernel_rfl) (by assumption) ?_ ?_; rotate_left; focus (refine .inl ⟨by kernel_rfl, ?_⟩; intro w hSw; (try dsimp only at hSw); go_simp; (try with_reducible rfl)); skip)
      (try simp only [Act.put, List.setIfInBounds_toArray, List.set_cons_zero, List.set_cons_succ])
      (refine heldTake (i := 8) (oi := { dst := some 22, op := Op.load 4 (Operand.tmp 21), type := 4, pos := "ref.go:41", after := #[{ on := 7, ground := Ground.data }], guard := none }) (v := ?_) rfl (by kernel_rfl) (by kernel_rfl) (by kernel_rfl) (by assumption) ?_ ?_; rotate_left; focus (refine .inl ⟨by kernel_rfl, ?_⟩; intro w hSw; (try dsimp only at hSw); go_simp; (try with_reducible rfl)); skip)
      (try simp only [Act.put, List.setIfInBounds_toArray, List.set_cons_zero, List.set_cons_succ])
      (refine heldTake (i := 11) (oi := { dst := some 25, op := Op.move (Operand.tmp 2), type := 4, pos := "ref.go:41", after := #[], guard := none }) (v := ?_) rfl (by kernel_rfl) (by kernel_rfl) (by kernel_rfl) (by assumption) ?_ ?_; rotate_left; focus (refine .inl ⟨by kernel_rfl, ?_⟩; intro w hSw; (try dsimp only at hSw); go_simp; (try with_reducible rfl)); skip)
      (try simp only [Act.put, List.setIfInBounds_toArray, List.set_cons_zero, List.set_cons_succ])
      refine wpAnyH_ready (rs := [4]) (by kernel_rfl) (by simp) ?_
      refine (AllReadyH.cons (o := { dst := some 18, op := Op.call { callee := Callee.value (Operand.func 25), args := #[Operand.tmp 17], argTypes := #[4] }, type := 27, pos := "ref.go:41", after := #[{ on := 3, ground := Ground.data }], guard := none }) rfl (fun K hK => ?_) AllReadyH.nil)
      go_simp
      (go_at_call 25; (with_reducible refine (HT1.out _).mono ?_); rintro e w2 ⟨rfl, rfl⟩)
      refine hK.out _ _ hHeld (fun hHeld4 => ?_)
      clear hK K hHeld
      (try simp only [Act.put, List.setIfInBounds_toArray, List.set_cons_zero, List.set_cons_succ])
      refine wpAnyH_ready (rs := [9]) (by kernel_rfl) (by simp) ?_
      refine (AllReadyH.cons (o := { dst := some 23, op := Op.call { callee := Callee.value (Operand.func 25), args := #[Operand.tmp 22], argTypes := #[4] }, type := 27, pos := "ref.go:41", after := #[{ on := 8, ground := Ground.data }, { on := 4, ground := Ground.chain }], guard := none }) rfl (fun K hK => ?_) AllReadyH.nil)
      go_simp
      (go_at_call 25; (with_reducible refine (HT2.out _).mono ?_); rintro e w3 ⟨rfl, rfl⟩)
      refine hK.out _ _ hHeld4 (fun hHeld9 => ?_)
      clear hK K hHeld4
      (try simp only [Act.put, List.setIfInBounds_toArray, List.set_cons_zero, List.set_cons_succ])
      (refine heldTake (i := 10) (oi := { dst := some 24, op := Op.binOp BinOp.add 27 (Operand.tmp 18) (Operand.tmp 23) 27, type := 27, pos := "ref.go:41", after := #[{ on := 4, ground := Ground.data }, { on := 9, ground := Ground.data }], guard := none }) (v := ?_) rfl (by kernel_rfl) (by kernel_rfl) (by kernel_rfl) (by assumption) ?_ ?_; rotate_left; focus (refine .inl ⟨by kernel_rfl, ?_⟩; intro w hSw; (try dsimp only at hSw); go_simp; (try with_reducible rfl)); skip)
      (try simp only [Act.put, List.setIfInBounds_toArray, List.set_cons_zero, List.set_cons_succ])
      refine wpAnyH_ready (rs := [12]) (by kernel_rfl) (by simp) ?_
      refine (AllReadyH.cons (o := { dst := some 26, op := Op.call { callee := Callee.value (Operand.func 25), args := #[Operand.tmp 25], argTypes := #[4] }, type := 27, pos := "ref.go:41", after := #[{ on := 11, ground := Ground.data }, { on := 9, ground := Ground.chain }], guard := none }) rfl (fun K hK => ?_) AllReadyH.nil)
      go_simp
      (go_at_call 25; (with_reducible refine (HT3.out _).mono ?_); rintro e w4 ⟨rfl, rfl⟩)
      refine hK.out _ _ hHeld9 (fun hHeld12 => ?_)
      clear hK K hHeld9
      (try simp only [Act.put, List.setIfInBounds_toArray, List.set_cons_zero, List.set_cons_succ])
      (refine heldTake (i := 13) (oi := { dst := some 27, op := Op.binOp BinOp.add 27 (Operand.tmp 24) (Operand.tmp 26) 27, type := 27, pos := "ref.go:41", after := #[{ on := 10, ground := Ground.data }, { on := 12, ground := Ground.data }], guard := none }) (v := ?_) rfl (by kernel_rfl) (by kernel_rfl) (by kernel_rfl) (by assumption) ?_ ?_; rotate_left; focus (refine .inl ⟨by kernel_rfl, ?_⟩; intro w hSw; (try dsimp only at hSw); go_simp; (try with_reducible rfl)); skip)
      (try simp only [Act.put, List.setIfInBounds_toArray, List.set_cons_zero, List.set_cons_succ])
      (refine heldTake (i := 14) (oi := { dst := some 9, op := Op.assign (Operand.tmp 27), type := 27, pos := "ref.go:41", after := #[{ on := 13, ground := Ground.data }, { on := 12, ground := Ground.chain }, { on := 0, ground := Ground.phase }, { on := 1, ground := Ground.phase }, { on := 2, ground := Ground.phase }, { on := 3, ground := Ground.phase }, { on := 4, ground := Ground.phase }, { on := 5, ground := Ground.phase }, { on := 6, ground := Ground.phase }, { on := 7, ground := Ground.phase }, { on := 8, ground := Ground.phase }, { on := 9, ground := Ground.phase }, { on := 10, ground := Ground.phase }, { on := 11, ground := Ground.phase }, { on := 12, ground := Ground.phase }, { on := 13, ground := Ground.phase }], guard := none }) (v := ?_) rfl (by kernel_rfl) (by kernel_rfl) (by kernel_rfl) (by assumption) ?_ ?_; rotate_left; focus (refine .inl ⟨by kernel_rfl, ?_⟩; intro w hSw; (try dsimp only at hSw); go_simp; (try with_reducible rfl)); skip)
      (try simp only [Act.put, List.setIfInBounds_toArray, List.set_cons_zero, List.set_cons_succ])
      refine wpAnyH_done (by kernel_rfl) ?_ _
      refine NoPanic.normal ?_
      have hLast := hHeld12
      clear hHeld12
      go_wp2_with (at_builtin; (refine rowB_new rfl _ _ rfl w.heap.size _ acc rfl HR2.out wr.heap.size bb rfl HX.out (by omega) (by rw [hsz]; omega) ?_; intro v5 w5 hr5 hb5; have HR5 := Lib.hid hr5; have HB5 := Lib.hid (HB2.out.trans hb5); clear hr5 hb5))
      go_roundw
      case rel => exact ⟨k + 1, cc2, by omega, by go_num, (by rw [hcc]; exact congrArg Value.bool (decide_eq_decide.2 (by omega))), HD.out.1, by rw [HD.out.2]; exact HR5.out, HB5.out⟩
      case measure => simp [intOf]; omega
    · obtain rfl : k = 32 := by omega
      rw [List.take_of_length_le (by rw [HAL.out]; omega)] at hr
      obtain ⟨A9, c9, rfl, ho⟩ := hr.ob (by rw [HAL.out]; omega)
      rw [HAL.out, na]
      have HO := Lib.hid ho
      have HBW := Lib.hid hbw
      clear hr hbw ho hd
      go_wp2
      go_ret
      exact ⟨A9, c9, rfl, HO.out, HBW.out⟩
set_option maxHeartbeats 1000000 in
theorem nott {w : World} {A : Option Addr} {c : Nat} {a : List Bool} (ha : LB w A a) (na : a.length = 32) :
    Calls Try.prog 16 #[.slice A 32 c] w (Ownt (notL a) w) := by
  have HA := Lib.hid ha
  have HAL := Lib.hid (notL_len a)
  clear ha
  go_enter Try.func16, Try.ntmps16
  go_wp2
  go_loopw [3, 4] (fun o i wr => ∃ k : Nat, k ≤ 32 ∧ i = .int .i64 k ∧ RowB wr w.heap.size o ((notL a).take k) ∧ Below w.heap.size w wr) (fun _ i _ => 32 - (intOf i).toNat)
  case atStart => exact ⟨0, Nat.zero_le _, rfl, RowB.nil _ _, Below.refl _ _⟩
  case round =>
    obtain ⟨k, hk, rfl, hr, hbw⟩ := hrel
    have hz := hbw.size
    by_cases hlt : k < 32
    · obtain ⟨x, hx⟩ : ∃ x, a[k]? = some x := ⟨_, List.getElem?_eq_getElem (by omega)⟩
      obtain ⟨bl, off, rfl, _, hc1⟩ := (HA.out.below hbw).at hx
      have HD := Lib.hid (show (notL a).take (k + 1) = (notL a).take k ++ [!x] by rw [List.take_add_one]; unfold notL; rw [List.getElem?_map, hx]; rfl)
      have hlen : ((notL a).take k).length ≤ 1000 := by rw [List.length_take]; omega
      obtain ⟨acc, hacc⟩ : ∃ acc, acc = (notL a).take k := ⟨_, rfl⟩
      have HR2 := Lib.hid (hr.later (below_box wr (.cells #[.bool (!x)] 4)))
      have HB2 := Lib.hid (hbw.alloc hz (.cells #[.bool (!x)] 4))
      have HX := Lib.hid (Whole.made wr 4 #[.bool (!x)])
      have hsz : (wr.alloc (.cells #[.bool (!x)] 4)).heap.size = wr.heap.size + 1 := size_box _ _
      rw [← hacc] at HR2 HD hlen
      clear hr hbw hx hacc
      go_wp2_with (at_builtin; (refine rowB_new rfl _ _ rfl w.heap.size _ acc rfl HR2.out wr.heap.size (!x) rfl HX.out (by omega) (by rw [hsz]; omega) ?_; intro v5 w5 hr5 hb5; have HR5 := Lib.hid hr5; have HB5 := Lib.hid (HB2.out.trans hb5); clear hr5 hb5))
      go_roundw
      case rel => exact ⟨k + 1, by omega, by go_num, by rw [HD.out]; exact HR5.out, HB5.out⟩
      case measure => simp [intOf]; omega
    · obtain rfl : k = 32 := by omega
      rw [List.take_of_length_le (by rw [HAL.out]; omega)] at hr
      obtain ⟨A9, c9, rfl, ho⟩ := hr.ob (by rw [HAL.out]; omega)
      rw [HAL.out, na]
      have HO := Lib.hid ho
      have HBW := Lib.hid hbw
      clear hr hbw ho
      go_wp2
      go_ret
      exact ⟨A9, c9, rfl, HO.out, HBW.out⟩
set_option maxHeartbeats 1000000 in
theorem lesst {w : World} {A B : Option Addr} {c d : Nat} {a b : List Bool} (ha : LB w A a) (hb : LB w B b) (na : a.length = 32) (nb : b.length = 32) :
    Calls Try.prog 26 #[.slice A 32 c, .slice B 32 d] w fun e w' => e = .returned (.bool (lessL a b)) ∧ Below w.heap.size w w' := by
  have HA := Lib.hid ha
  have HB := Lib.hid hb
  clear ha hb
  go_enter Try.func26, Try.ntmps26
  go_wp2
  go_loopw [5] (fun i wr => ∃ k : Nat, k ≤ 32 ∧ i = .int .i64 ((k : Int) - 1) ∧ a.drop k = b.drop k ∧ Below w.heap.size w wr) (fun i _ => (intOf i + 1).toNat)
  case atStart => exact ⟨32, Nat.le_refl _, rfl, by rw [List.drop_of_length_le (by omega), List.drop_of_length_le (by omega)], Below.refl _ _⟩
  case round =>
    obtain ⟨k, hk, rfl, hd, hbw⟩ := hrel
    cases k with
    | succ k =>
      obtain ⟨x, hx⟩ : ∃ x, a[k]? = some x := ⟨_, List.getElem?_eq_getElem (by omega)⟩
      obtain ⟨y, hy⟩ : ∃ y, b[k]? = some y := ⟨_, List.getElem?_eq_getElem (by omega)⟩
      obtain ⟨bl, off, rfl, _, hc1⟩ := (HA.out.below hbw).at hx
      obtain ⟨bl2, off2, rfl, _, hc2⟩ := (HB.out.below hbw).at hy
      have e0 : (((k + 1 : Nat) : Int) - 1) = k := by omega
      rw [e0]
      by_cases hxy : x = y
      · subst hxy
        have HD := Lib.hid (show a.drop k = b.drop k by rw [drop_atB hx, drop_atB hy, hd])
        have HBW := Lib.hid hbw
        clear hd hbw hx hy
        go_upto_region 4 with fail
        cases x
        · go_quiet (fail)
          go_wp2
          go_roundw
          case rel => exact ⟨k, by omega, by go_num, HD.out, below_drewN HBW.out _⟩
          case measure => (simp [intOf]; try omega)
        · go_quiet (fail)
          go_wp2
          go_roundw
          case rel => exact ⟨k, by omega, by go_num, HD.out, below_drewN HBW.out _⟩
          case measure => (simp [intOf]; try omega)
      · have HL := Lib.hid (less_top hx hy hxy hd (by omega))
        have HBW := Lib.hid hbw
        clear hd hbw hx hy
        have e9 : x = !y := by cases x <;> cases y <;> simp at hxy ⊢
        subst e9
        clear hxy
        go_upto_region 4 with fail
        cases y
        · go_quiet (fail)
          have hc3 : (wr.drewN nq).cell? ⟨bl2, off2 + k, none⟩ = some (.bool false) := hc2
          go_wp2
          go_ret
          exact ⟨by rw [HL.out]; rfl, below_drewN HBW.out _⟩
        · go_quiet (fail)
          have hc3 : (wr.drewN nq).cell? ⟨bl2, off2 + k, none⟩ = some (.bool true) := hc2
          go_wp2
          go_ret
          exact ⟨by rw [HL.out]; rfl, below_drewN HBW.out _⟩
    | zero =>
      have HE := Lib.hid (show lessL a b = false by
        have e : a = b := by simpa using hd
        rw [e]; unfold lessL; simp)
      have HBW := Lib.hid hbw
      clear hd hbw
      go_wp2
      go_ret
      exact ⟨by rw [HE.out]; rfl, HBW.out⟩
set_option maxHeartbeats 1000000 in
theorem turnedt {w : World} {A : Option Addr} {c : Nat} {a : List Bool} (ha : LB w A a) (na : a.length = 32) :
    Calls Try.prog 29 #[.slice A 32 c] w (Ownt (turnL a) w) := by
  have HN := Lib.hid (fun W (h : LB W A a) => nott (c := c) h na)
  have hnl := notL_len a
  have HAD := Lib.hid (fun W A2 c2 A3 c3 (h : LB W A2 (notL a)) (h3 : LB W A3 (List.replicate 32 false)) => show Calls Try.prog 15 #[.slice A2 32 c2, .slice A3 32 c3, .bool true] W (Ownt (turnL a) W) from by
    have := addt (c := c2) (d := c3) h h3 (by rw [hnl, na]) (by simp) true
    unfold turnL
    rw [na]
    exact this)
  have hS : LB w.drew A a ∧ Below w.heap.size w w.drew := ⟨ha, (Below.refl _ _).drew⟩
  clear ha hnl
  go_enter Try.func29, Try.ntmps29
  go_upto_region 1 with fail
  refine wp_region_noPanic ?_
  refine wp_region_held_drew (S := fun W => LB W A a ∧ Below w.heap.size w W) (by kernel_rfl) hS (fun hHeld => ?_)
  clear hS
  (refine heldTake (i := 0) (oi := { dst := some 3, op := Op.move (Operand.tmp 0), type := 35, pos := "ref.go:68", after := #[], guard := none }) (v := ?_) rfl (by kernel_rfl) (by kernel_rfl) (by kernel_rfl) (by assumption) ?_ ?_; rotate_left; focus (refine .inl ⟨by kernel_rfl, ?_⟩; intro w hSw; (try dsimp only at hSw); go_simp; (try with_reducible rfl)); skip)
  (try simp only [Act.put, List.setIfInBounds_toArray, List.set_cons_zero, List.set_cons_succ])
  refine wpAnyH_ready (rs := [1, 2]) (by kernel_rfl) (by simp) ?_
  refine (AllReadyH.cons (o := { dst := some 4, op := Op.call { callee := Callee.value (Operand.func 16), args := #[Operand.tmp 3], argTypes := #[35] }, type := 35, pos := "ref.go:68", after := #[{ on := 0, ground := Ground.data }], guard := none }) rfl (fun K hK => ?_) (AllReadyH.cons (o := { dst := some 5, op := Op.makeSlice 35 (Operand.const (Value.int IntKind.i64 32)) (Operand.const (Value.int IntKind.i64 32)), type := 35, pos := "ref.go:68", after := #[], guard := none }) rfl (fun K hK => ?_) AllReadyH.nil))
  · go_simp
    (go_at_call 16; (with_reducible refine (HN.out _ hHeld.1).mono ?_); rintro e w2 ⟨A2, c2, rfl, ho2, hb2⟩; have HB1 := Lib.hid hb2; have HO1 := Lib.hid ho2.lb; clear hb2 ho2)
    refine hK.out _ _ ⟨hHeld.1.below HB1.out, hHeld.2.trans (HB1.out.mono hHeld.2.size)⟩ (fun hHeld1 => ?_)
    clear hK K hHeld
    (try simp only [Act.put, List.setIfInBounds_toArray, List.set_cons_zero, List.set_cons_succ])
    refine wpAnyH_ready (rs := [2]) (by kernel_rfl) (by simp) ?_
    refine (AllReadyH.cons (o := { dst := some 5, op := Op.makeSlice 35 (Operand.const (Value.int IntKind.i64 32)) (Operand.const (Value.int IntKind.i64 32)), type := 35, pos := "ref.go:68", after := #[], guard := none }) rfl (fun K hK => ?_) AllReadyH.nil)
    refine step_make rfl 32 (by omega) _ _ rfl rfl rfl ?_; intro g3 w3 hg3 hb3 ho3; have HB2 := Lib.hid hb3; have HO2 := Lib.hid ho3.lb; clear hb3 ho3
    refine hK.out _ _ ⟨hHeld1.1.below HB2.out, hHeld1.2.trans (HB2.out.mono hHeld1.2.size)⟩ (fun hHeld2 => ?_)
    clear hK K hHeld1
    (try simp only [Act.put, List.setIfInBounds_toArray, List.set_cons_zero, List.set_cons_succ])
    refine wpAnyH_ready (rs := [3]) (by kernel_rfl) (by simp) ?_
    refine (AllReadyH.cons (o := { dst := some 6, op := Op.call { callee := Callee.value (Operand.func 15), args := #[Operand.tmp 4, Operand.tmp 5, Operand.const (Value.bool true)], argTypes := #[35, 35, 4] }, type := 35, pos := "ref.go:68", after := #[{ on := 1, ground := Ground.data }, { on := 2, ground := Ground.data }, { on := 1, ground := Ground.chain }], guard := none }) rfl (fun K hK => ?_) AllReadyH.nil)
    go_simp
    (go_at_call 15; (with_reducible refine (HAD.out _ _ _ _ _ (((HO1.out).below HB2.out)) (HO2.out)).mono ?_); rintro e w4 ⟨A4, c4, rfl, ho4, hb4⟩; have HB3 := Lib.hid hb4; have HO3 := Lib.hid (ho4.mono hHeld2.2.size); clear hb4 ho4)
    refine hK.out _ _ ⟨hHeld2.1.below HB3.out, hHeld2.2.trans (HB3.out.mono hHeld2.2.size)⟩ (fun hHeld3 => ?_)
    clear hK K hHeld2
    (try simp only [Act.put, List.setIfInBounds_toArray, List.set_cons_zero, List.set_cons_succ])
    (refine heldTake (i := 4) (oi := { dst := some 2, op := Op.assign (Operand.tmp 6), type := 35, pos := "ref.go:68", after := #[{ on := 3, ground := Ground.data }, { on := 3, ground := Ground.chain }, { on := 0, ground := Ground.phase }, { on := 1, ground := Ground.phase }, { on := 2, ground := Ground.phase }, { on := 3, ground := Ground.phase }], guard := none }) (v := ?_) rfl (by kernel_rfl) (by kernel_rfl) (by kernel_rfl) (by assumption) ?_ ?_; rotate_left; focus (refine .inl ⟨by kernel_rfl, ?_⟩; intro w hSw; (try dsimp only at hSw); go_simp; (try with_reducible rfl)); skip)
    (try simp only [Act.put, List.setIfInBounds_toArray, List.set_cons_zero, List.set_cons_succ])
    refine wpAnyH_done (by kernel_rfl) ?_ _
    refine NoPanic.normal ?_
    have hLast := hHeld3
    clear hHeld3
    go_wp2
    go_ret
    exact ⟨A4, c4, rfl, HO3.out, hLast.2⟩
  · refine step_make rfl 32 (by omega) _ _ rfl rfl rfl ?_; intro g3 w3 hg3 hb3 ho3; have HB2 := Lib.hid hb3; have HO2 := Lib.hid ho3.lb; clear hb3 ho3
    refine hK.out _ _ ⟨hHeld.1.below HB2.out, hHeld.2.trans (HB2.out.mono hHeld.2.size)⟩ (fun hHeld2 => ?_)
    clear hK K hHeld
    (try simp only [Act.put, List.setIfInBounds_toArray, List.set_cons_zero, List.set_cons_succ])
    refine wpAnyH_ready (rs := [1]) (by kernel_rfl) (by simp) ?_
    refine (AllReadyH.cons (o := { dst := some 4, op := Op.call { callee := Callee.value (Operand.func 16), args := #[Operand.tmp 3], argTypes := #[35] }, type := 35, pos := "ref.go:68", after := #[{ on := 0, ground := Ground.data }], guard := none }) rfl (fun K hK => ?_) AllReadyH.nil)
    go_simp
    (go_at_call 16; (with_reducible refine (HN.out _ hHeld2.1).mono ?_); rintro e w2 ⟨A2, c2, rfl, ho2, hb2⟩; have HB1 := Lib.hid hb2; have HO1 := Lib.hid ho2.lb; clear hb2 ho2)
    refine hK.out _ _ ⟨hHeld2.1.below HB1.out, hHeld2.2.trans (HB1.out.mono hHeld2.2.size)⟩ (fun hHeld1 => ?_)
    clear hK K hHeld2
    (try simp only [Act.put, List.setIfInBounds_toArray, List.set_cons_zero, List.set_cons_succ])
    refine wpAnyH_ready (rs := [3]) (by kernel_rfl) (by simp) ?_
    refine (AllReadyH.cons (o := { dst := some 6, op := Op.call { callee := Callee.value (Operand.func 15), args := #[Operand.tmp 4, Operand.tmp 5, Operand.const (Value.bool true)], argTypes := #[35, 35, 4] }, type := 35, pos := "ref.go:68", after := #[{ on := 1, ground := Ground.data }, { on := 2, ground := Ground.data }, { on := 1, ground := Ground.chain }], guard := none }) rfl (fun K hK => ?_) AllReadyH.nil)
    go_simp
    (go_at_call 15; (with_reducible refine (HAD.out _ _ _ _ _ (HO1.out) (((HO2.out).below HB1.out))).mono ?_); rintro e w4 ⟨A4, c4, rfl, ho4, hb4⟩; have HB3 := Lib.hid hb4; have HO3 := Lib.hid (ho4.mono hHeld1.2.size); clear hb4 ho4)
    refine hK.out _ _ ⟨hHeld1.1.below HB3.out, hHeld1.2.trans (HB3.out.mono hHeld1.2.size)⟩ (fun hHeld3 => ?_)
    clear hK K hHeld1
    (try simp only [Act.put, List.setIfInBounds_toArray, List.set_cons_zero, List.set_cons_succ])
    (refine heldTake (i := 4) (oi := { dst := some 2, op := Op.assign (Operand.tmp 6), type := 35, pos := "ref.go:68", after := #[{ on := 3, ground := Ground.data }, { on := 3, ground := Ground.chain }, { on := 0, ground := Ground.phase }, { on := 1, ground := Ground.phase }, { on := 2, ground := Ground.phase }, { on := 3, ground := Ground.phase }], guard := none }) (v := ?_) rfl (by kernel_rfl) (by kernel_rfl) (by kernel_rfl) (by assumption) ?_ ?_; rotate_left; focus (refine .inl ⟨by kernel_rfl, ?_⟩; intro w hSw; (try dsimp only at hSw); go_simp; (try with_reducible rfl)); skip)
    (try simp only [Act.put, List.setIfInBounds_toArray, List.set_cons_zero, List.set_cons_succ])
    refine wpAnyH_done (by kernel_rfl) ?_ _
    refine NoPanic.normal ?_
    have hLast := hHeld3
    clear hHeld3
    go_wp2
    go_ret
    exact ⟨A4, c4, rfl, HO3.out, hLast.2⟩
end Go.Proofs.Ytfjlknanaempdaa

/- shift, rotate, times of creelref18. (By gen/genBt.py.) -/
namespace Go.Proofs.Ytfjlknanaempdaa
open Go.RowKit
set_option linter.unusedVariables false
set_option maxRecDepth 100000

set_option maxHeartbeats 4000000 in
theorem shiftt {w : World} {A : Option Addr} {c : Nat} {a : List Bool} (ha : LB w A a) (na : a.length = 32) (q : Int) (fl : Bool) (q0 : -1000 ≤ q) (q1 : q ≤ 1000) :
    Calls Try.prog 20 #[.slice A 32 c, .int .i64 q, .bool fl] w (Ownt (shiftL 32 a q fl) w) := by
  have HA := Lib.hid ha
  have HAL := Lib.hid (shiftL_len 32 a q fl)
  clear ha
  go_enter Try.func20, Try.ntmps20
  go_wp2
  go_loopw [7, 8] (fun o i wr => ∃ k : Nat, k ≤ 32 ∧ i = .int .i64 k ∧ RowB wr w.heap.size o ((shiftL 32 a q fl).take k) ∧ Below w.heap.size w wr) (fun _ i _ => 32 - (intOf i).toNat)
  case atStart => exact ⟨0, Nat.zero_le _, rfl, RowB.nil _ _, Below.refl _ _⟩
  case round =>
    obtain ⟨k, hk, rfl, hr, hbw⟩ := hrel
    have hz := hbw.size
    by_cases hlt : k < 32
    · obtain ⟨bb, hbb⟩ : ∃ bb, bb = (shiftL 32 a q fl).getD k false := ⟨_, rfl⟩
      have HD := Lib.hid (show (shiftL 32 a q fl).take (k + 1) = (shiftL 32 a q fl).take k ++ [bb] by
        rw [List.take_add_one, hbb, List.getD_eq_getElem?_getD, List.getElem?_eq_getElem (by rw [HAL.out]; omega)]; rfl)
      rw [shiftL_get hlt] at hbb
      have hlen : ((shiftL 32 a q fl).take k).length ≤ 1000 := by rw [List.length_take]; omega
      obtain ⟨acc, hacc⟩ : ∃ acc, acc = (shiftL 32 a q fl).take k := ⟨_, rfl⟩
      have HR2 := Lib.hid (hr.later (below_box wr (.cells #[.bool bb] 4)))
      have HB2 := Lib.hid (hbw.alloc hz (.cells #[.bool bb] 4))
      have HX := Lib.hid (Whole.made wr 4 #[.bool bb])
      have hsz : (wr.alloc (.cells #[.bool bb] 4)).heap.size = wr.heap.size + 1 := size_box _ _
      rw [← hacc] at HR2 HD hlen
      have w1 : IntKind.i64.wrap ((k : Int) - q) = (k : Int) - q := by simp only [IntKind.wrap, IntKind.bits, IntKind.signed]; simp; omega
      by_cases h1 : 0 ≤ (k : Int) - q
      · by_cases h2 : (k : Int) - q < 32
        · rw [if_pos ⟨h1, by simpa using h2⟩] at hbb
          obtain ⟨j, hj⟩ : ∃ j : Nat, (k : Int) - q = j := ⟨((k : Int) - q).toNat, by omega⟩
          rw [hj] at h1 h2 hbb
          have hx : a[j]? = some bb := by rw [hbb, Int.toNat_natCast, List.getD_eq_getElem?_getD, List.getElem?_eq_getElem (by omega)]; rfl
          obtain ⟨bl, off, rfl, _, hc1⟩ := (HA.out.below hbw).at hx
          have d1 : decide ((0 : Int) ≤ (j : Int)) = true := decide_eq_true (by omega)
          have d2 : decide ((j : Int) < 32) = true := decide_eq_true (by omega)
          have d3 : decide ((j : Int) < 0) = false := decide_eq_false (by omega)
          have d4 : decide ((32 : Int) ≤ (j : Int)) = false := decide_eq_false (by omega)
          clear hr hbw hacc hbb hx w1
          cases bb
          · go_wp2_with (at_builtin; (refine rowB_new rfl _ _ rfl w.heap.size _ acc rfl HR2.out wr.heap.size _ rfl HX.out (by omega) (by rw [hsz]; omega) ?_; intro v5 w5 hr5 hb5; have HR5 := Lib.hid hr5; have HB5 := Lib.hid (HB2.out.trans hb5); clear hr5 hb5))
            go_roundw
            case rel => exact ⟨k + 1, by omega, by go_num, by rw [HD.out]; exact HR5.out, HB5.out⟩
            case measure => simp [intOf]; omega
          · go_wp2_with (at_builtin; (refine rowB_new rfl _ _ rfl w.heap.size _ acc rfl HR2.out wr.heap.size _ rfl HX.out (by omega) (by rw [hsz]; omega) ?_; intro v5 w5 hr5 hb5; have HR5 := Lib.hid hr5; have HB5 := Lib.hid (HB2.out.trans hb5); clear hr5 hb5))
            go_roundw
            case rel => exact ⟨k + 1, by omega, by go_num, by rw [HD.out]; exact HR5.out, HB5.out⟩
            case measure => simp [intOf]; omega
        · rw [if_neg (fun h => h2 (by simpa using h.2))] at hbb
          subst hbb
          obtain ⟨y, hy⟩ : ∃ y, y = (k : Int) - q := ⟨_, rfl⟩
          rw [← hy] at h1 h2
          have hy2 := hy.symm
          have d1 : decide ((0 : Int) ≤ y) = true := decide_eq_true h1
          have d2 : decide (y < 32) = false := decide_eq_false h2
          have d3 : decide (y < 0) = false := decide_eq_false (by omega)
          have d4 : decide ((32 : Int) ≤ y) = true := decide_eq_true (by omega)
          clear hr hbw hacc hy w1
          cases bb
          · go_wp2_with (at_builtin; (refine rowB_new rfl _ _ rfl w.heap.size _ acc rfl HR2.out wr.heap.size _ rfl HX.out (by omega) (by rw [hsz]; omega) ?_; intro v5 w5 hr5 hb5; have HR5 := Lib.hid hr5; have HB5 := Lib.hid (HB2.out.trans hb5); clear hr5 hb5))
            go_roundw
            case rel => exact ⟨k + 1, by omega, by go_num, by rw [HD.out]; exact HR5.out, HB5.out⟩
            case measure => simp [intOf]; omega
          · go_wp2_with (at_builtin; (refine rowB_new rfl _ _ rfl w.heap.size _ acc rfl HR2.out wr.heap.size _ rfl HX.out (by omega) (by rw [hsz]; omega) ?_; intro v5 w5 hr5 hb5; have HR5 := Lib.hid hr5; have HB5 := Lib.hid (HB2.out.trans hb5); clear hr5 hb5))
            go_roundw
            case rel => exact ⟨k + 1, by omega, by go_num, by rw [HD.out]; exact HR5.out, HB5.out⟩
            case measure => simp [intOf]; omega
      · rw [if_neg (fun h => h1 h.1)] at hbb
        subst hbb
        obtain ⟨y, hy⟩ : ∃ y, y = (k : Int) - q := ⟨_, rfl⟩
        rw [← hy] at h1
        have hy2 := hy.symm
        have d1 : decide ((0 : Int) ≤ y) = false := decide_eq_false h1
        have d3 : decide (y < 0) = true := decide_eq_true (by omega)
        clear hr hbw hacc hy w1
        cases bb
        · go_wp2_with (at_builtin; (refine rowB_new rfl _ _ rfl w.heap.size _ acc rfl HR2.out wr.heap.size _ rfl HX.out (by omega) (by rw [hsz]; omega) ?_; intro v5 w5 hr5 hb5; have HR5 := Lib.hid hr5; have HB5 := Lib.hid (HB2.out.trans hb5); clear hr5 hb5))
          go_roundw
          case rel => exact ⟨k + 1, by omega, by go_num, by rw [HD.out]; exact HR5.out, HB5.out⟩
          case measure => simp [intOf]; omega
        · go_wp2_with (at_builtin; (refine rowB_new rfl _ _ rfl w.heap.size _ acc rfl HR2.out wr.heap.size _ rfl HX.out (by omega) (by rw [hsz]; omega) ?_; intro v5 w5 hr5 hb5; have HR5 := Lib.hid hr5; have HB5 := Lib.hid (HB2.out.trans hb5); clear hr5 hb5))
          go_roundw
          case rel => exact ⟨k + 1, by omega, by go_num, by rw [HD.out]; exact HR5.out, HB5.out⟩
          case measure => simp [intOf]; omega
    · obtain rfl : k = 32 := by omega
      rw [List.take_of_length_le (by rw [HAL.out]; omega)] at hr
      obtain ⟨A9, c9, rfl, ho⟩ := hr.ob (by rw [HAL.out]; omega)
      rw [HAL.out]
      have HO := Lib.hid ho
      have HBW := Lib.hid hbw
      clear hr hbw ho
      go_wp2
      go_ret
      exact ⟨A9, c9, rfl, HO.out, HBW.out⟩
set_option maxHeartbeats 2000000 in
theorem rotatet {w : World} {A : Option Addr} {c : Nat} {a : List Bool} (ha : LB w A a) (na : a.length = 32) (q : Int) (q0 : -1000 ≤ q) (q1 : q ≤ 1000) :
    Calls Try.prog 21 #[.slice A 32 c, .int .i64 q] w (Ownt (rotL 32 a q) w) := by
  have HA := Lib.hid ha
  have HAL := Lib.hid (rotL_len 32 a q)
  clear ha
  go_enter Try.func21, Try.ntmps21
  go_wp2
  go_loopw [5, 6] (fun o i wr => ∃ k : Nat, k ≤ 32 ∧ i = .int .i64 k ∧ RowB wr w.heap.size o ((rotL 32 a q).take k) ∧ Below w.heap.size w wr) (fun _ i _ => 32 - (intOf i).toNat)
  case atStart => exact ⟨0, Nat.zero_le _, rfl, RowB.nil _ _, Below.refl _ _⟩
  case round =>
    obtain ⟨k, hk, rfl, hr, hbw⟩ := hrel
    have hz := hbw.size
    by_cases hlt : k < 32
    · obtain ⟨bb, hbb⟩ : ∃ bb, bb = (rotL 32 a q).getD k false := ⟨_, rfl⟩
      have HD := Lib.hid (show (rotL 32 a q).take (k + 1) = (rotL 32 a q).take k ++ [bb] by
        rw [List.take_add_one, hbb, List.getD_eq_getElem?_getD, List.getElem?_eq_getElem (by rw [HAL.out]; omega)]; rfl)
      rw [rotL_get hlt] at hbb
      have hlen : ((rotL 32 a q).take k).length ≤ 1000 := by rw [List.length_take]; omega
      obtain ⟨acc, hacc⟩ : ∃ acc, acc = (rotL 32 a q).take k := ⟨_, rfl⟩
      have HR2 := Lib.hid (hr.later (below_box wr (.cells #[.bool bb] 4)))
      have HB2 := Lib.hid (hbw.alloc hz (.cells #[.bool bb] 4))
      have HX := Lib.hid (Whole.made wr 4 #[.bool bb])
      have hsz : (wr.alloc (.cells #[.bool bb] 4)).heap.size = wr.heap.size + 1 := size_box _ _
      rw [← hacc] at HR2 HD hlen
      have w1 : IntKind.i64.wrap ((k : Int) - q) = (k : Int) - q := by simp only [IntKind.wrap, IntKind.bits, IntKind.signed]; simp; omega
      obtain ⟨y, hy⟩ : ∃ y, y = (k : Int) - q := ⟨_, rfl⟩
      rw [← hy] at hbb
      have hy2 := hy.symm
      obtain ⟨m, hm⟩ : ∃ m, m = Int.tmod y 32 := ⟨_, rfl⟩
      have b1 : -32 < m ∧ m < 32 := by rw [hm]; exact tmod_bounds y 32 (by omega)
      have w2 : wrap64 (m + 32) = m + 32 := by unfold wrap64; omega
      obtain ⟨j, hj, hjn⟩ : ∃ j : Nat, (m + 32) % 32 = j ∧ j < 32 := ⟨((m + 32) % 32).toNat, by omega, by omega⟩
      have e3 : Int.tmod (m + 32) 32 = j := by rw [Int.tmod_eq_emod_of_nonneg (by omega)]; exact hj
      have e4 : (y % (32 : Nat)).toNat = j := by
        have := tmod_emod y 32 (by omega)
        rw [← hm] at this
        have h5 : (m + 32) % 32 = y % 32 := by rw [Int.add_emod_right]; exact this
        omega
      rw [e4] at hbb
      have hx : a[j]? = some bb := by rw [hbb, List.getD_eq_getElem?_getD, List.getElem?_eq_getElem (by omega)]; rfl
      obtain ⟨bl, off, rfl, _, hc1⟩ := (HA.out.below hbw).at hx
      have hm2 := hm.symm
      clear hr hbw hacc hbb hx hy e4 hm w1
      go_wp2_with (at_builtin; (refine rowB_new rfl _ _ rfl w.heap.size _ acc rfl HR2.out wr.heap.size _ rfl HX.out (by omega) (by rw [hsz]; omega) ?_; intro v5 w5 hr5 hb5; have HR5 := Lib.hid hr5; have HB5 := Lib.hid (HB2.out.trans hb5); clear hr5 hb5))
      go_roundw
      case rel => exact ⟨k + 1, by omega, by go_num, by rw [HD.out]; exact HR5.out, HB5.out⟩
      case measure => simp [intOf]; omega
    · obtain rfl : k = 32 := by omega
      rw [List.take_of_length_le (by rw [HAL.out]; omega)] at hr
      obtain ⟨A9, c9, rfl, ho⟩ := hr.ob (by rw [HAL.out]; omega)
      rw [HAL.out]
      have HO := Lib.hid ho
      have HBW := Lib.hid hbw
      clear hr hbw ho
      go_wp2
      go_ret
      exact ⟨A9, c9, rfl, HO.out, HBW.out⟩
set_option maxHeartbeats 2000000 in
theorem timest {w : World} {A B : Option Addr} {c d : Nat} {a b : List Bool} (ha : LB w A a) (hb : LB w B b) (na : a.length = 32) (nb : b.length = 32) :
    Calls Try.prog 17 #[.slice A 32 c, .slice B 32 d] w (Ownt (timesK 32 a b 32) w) := by
  have HA := Lib.hid ha
  have HB := Lib.hid hb
  have hmk : ∀ w : World, (Instr.makeSlice 35 (.int .i64 32) (.int .i64 32)).run Try.prog w = .ok (.slice (some ⟨w.heap.size, 0, none⟩) 32 32) (w.alloc (.cells (madeCells #[.bool false] 32) 4)) := hmk_any 32 (by omega)
  have HZ := Lib.hid (OB.zero w 32)
  have HTL := Lib.hid (fun k => timesK_len 32 a b k)
  clear ha hb
  go_enter Try.func17, Try.ntmps17
  go_wp2
  go_loopw [5, 6] (fun o i wr => ∃ (k : Nat) (A2 : Option Addr) (c2 : Nat), k ≤ 32 ∧ i = .int .i64 k ∧ o = .slice A2 32 c2 ∧ OB wr w.heap.size A2 (timesK 32 a b k) ∧ Below w.heap.size w wr) (fun _ i _ => 32 - (intOf i).toNat)
  case atStart => exact ⟨0, _, _, Nat.zero_le _, rfl, rfl, HZ.out, below_box _ _⟩
  case round =>
    obtain ⟨k, A2, c2, hk, rfl, rfl, ho, hbw⟩ := hrel
    have hz := hbw.size
    by_cases hlt : k < 32
    · obtain ⟨y, hy⟩ : ∃ y, b[k]? = some y := ⟨_, List.getElem?_eq_getElem (by omega)⟩
      obtain ⟨bl, off, rfl, _, hc1⟩ := (HB.out.below hbw).at hy
      have HD := Lib.hid (timesK_succ (n := 32) (a := a) hy)
      cases y
      · have HO := Lib.hid ho
        have HBW := Lib.hid hbw
        clear hy ho hbw
        go_wp2
        go_roundw
        case rel => exact ⟨k + 1, A2, c2, by omega, by go_num, rfl, by rw [HD.out]; exact HO.out, HBW.out⟩
        case measure => simp [intOf]; omega
      · have HSh := Lib.hid (shiftt (c := c) (HA.out.below hbw) na k false (by omega) (by omega))
        have HO := Lib.hid ho
        have HBW := Lib.hid hbw
        have HAD := Lib.hid (fun W A3 c3 (h2 : LB W A2 (timesK 32 a b k)) (h3 : LB W A3 (shiftL 32 a k false)) => addt (c := c2) (d := c3) h2 h3 (HTL.out k) (shiftL_len _ _ _ _) false)
        clear hy ho hbw
        go_wp2_with (first
          | (go_at_call 20; go_must ((with_reducible refine HSh.out.mono ?_); rintro e w3 ⟨A3, c3, rfl, ho3, hb3⟩; have HB3 := Lib.hid hb3; have HO3 := Lib.hid ho3.lb; have HO2 := Lib.hid (HO.out.later hb3); clear hb3 ho3))
          | (go_at_call 15; go_must ((with_reducible refine (HAD.out _ _ _ HO2.out.lb HO3.out).mono ?_); rintro e w4 ⟨A4, c4, rfl, ho4, hb4⟩; have HB4 := Lib.hid (HBW.out.trans ((HB3.out.trans (hb4.mono HB3.out.size)).mono hz)); have HO4 := Lib.hid (ho4.mono (Nat.le_trans hz HB3.out.size)); clear hb4 ho4)))
        go_roundw
        case rel => exact ⟨k + 1, A4, c4, by omega, by go_num, rfl, by rw [HD.out]; exact HO4.out, HB4.out⟩
        case measure => simp [intOf]; omega
    · obtain rfl : k = 32 := by omega
      have HO := Lib.hid ho
      have HBW := Lib.hid hbw
      clear ho hbw
      go_wp2
      go_ret
      exact ⟨A2, c2, rfl, HO.out, HBW.out⟩
end Go.Proofs.Ytfjlknanaempdaa
