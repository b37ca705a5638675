/- bit, Compare of creelref18. (By gen/genBt.py.) -/
import Derived.Test.YtfjlknanaempdaaZa05
namespace Go.Proofs.Ytfjlknanaempdaa
open Go.RowKit
set_option linter.unusedVariables false
set_option maxRecDepth 100000

set_option maxHeartbeats 4000000 in
theorem bitt0 {w : World} {A B : Option Addr} {c d : Nat} {a b : List Bool} (ha : LB w A a) (hb : LB w B b) (na : a.length = 32) (nb : b.length = 32) :
    Calls Try.prog 19 #[.int .i64 0, .slice A 32 c, .slice B 32 d] w fun e w' => e = .returned (.int .u64 (numL (bopL 0 a b))) ∧ Below w.heap.size w w' := by
  have HA := Lib.hid ha
  have HB := Lib.hid hb
  have HAL := Lib.hid (bopL_len (k := 0) (a := a) (b := b) (by omega))
  clear ha hb
  go_enter Try.func19, Try.ntmps19
  go_wp2
  go_loopw [7, 8] (fun o i wr => ∃ k : Nat, k ≤ 32 ∧ i = .int .i64 k ∧ RowB wr w.heap.size o ((bopL 0 a b).take k) ∧ Below w.heap.size w wr) (fun _ i _ => 32 - (intOf i).toNat)
  case atStart => exact ⟨0, Nat.zero_le _, rfl, RowB.nil _ _, Below.refl _ _⟩
  case round =>
    obtain ⟨k, hk, rfl, hr, hbw⟩ := hrel
    have hz := hbw.size
    by_cases hlt : k < 32
    · obtain ⟨x, hx⟩ : ∃ x, a[k]? = some x := ⟨_, List.getElem?_eq_getElem (by omega)⟩
      obtain ⟨y, hy⟩ : ∃ y, b[k]? = some y := ⟨_, List.getElem?_eq_getElem (by omega)⟩
      obtain ⟨bl, off, rfl, hbl, hc1⟩ := HA.out.at hx
      obtain ⟨bl2, off2, rfl, hbl2, hc2⟩ := HB.out.at hy
      have hc1 := (hbw.cell (p := ⟨bl, off + k, none⟩) hbl).trans hc1
      have hc2 := (hbw.cell (p := ⟨bl2, off2 + k, none⟩) hbl2).trans hc2
      have hd := bopL_get (k := 0) hx hy
      have hlen : ((bopL 0 a b).take k).length ≤ 1000 := by rw [List.length_take]; omega
      obtain ⟨acc, hacc⟩ : ∃ acc, acc = (bopL 0 a b).take k := ⟨_, rfl⟩
      rw [← hacc] at hd hr hlen
      clear hx hy hacc
      cases x <;> cases y
      · have HD := Lib.hid (show (bopL 0 a b).take (k + 1) = acc ++ [false] from hd)
        clear hd
        have HR2 := Lib.hid (hr.later (below_box wr (.cells #[.bool false] 4)))
        have HB2 := Lib.hid (hbw.alloc hz (.cells #[.bool false] 4))
        have HX := Lib.hid (Whole.made wr 4 #[.bool false])
        have hsz : (wr.alloc (.cells #[.bool false] 4)).heap.size = wr.heap.size + 1 := size_box _ _
        clear hr hbw
        go_wp2_with (at_builtin; (refine rowB_new rfl _ _ rfl w.heap.size _ acc rfl HR2.out wr.heap.size _ rfl HX.out (by omega) (by rw [hsz]; omega) ?_; intro v5 w5 hr5 hb5; have HR5 := Lib.hid hr5; have HB5 := Lib.hid (HB2.out.trans hb5); clear hr5 hb5))
        go_roundw
        case rel => exact ⟨k + 1, by omega, by go_num, by rw [HD.out]; exact HR5.out, HB5.out⟩
        case measure => simp [intOf]; omega
      · have HD := Lib.hid (show (bopL 0 a b).take (k + 1) = acc ++ [false] from hd)
        clear hd
        have HR2 := Lib.hid (hr.later (below_box wr (.cells #[.bool false] 4)))
        have HB2 := Lib.hid (hbw.alloc hz (.cells #[.bool false] 4))
        have HX := Lib.hid (Whole.made wr 4 #[.bool false])
        have hsz : (wr.alloc (.cells #[.bool false] 4)).heap.size = wr.heap.size + 1 := size_box _ _
        clear hr hbw
        go_wp2_with (at_builtin; (refine rowB_new rfl _ _ rfl w.heap.size _ acc rfl HR2.out wr.heap.size _ rfl HX.out (by omega) (by rw [hsz]; omega) ?_; intro v5 w5 hr5 hb5; have HR5 := Lib.hid hr5; have HB5 := Lib.hid (HB2.out.trans hb5); clear hr5 hb5))
        go_roundw
        case rel => exact ⟨k + 1, by omega, by go_num, by rw [HD.out]; exact HR5.out, HB5.out⟩
        case measure => simp [intOf]; omega
      · have HD := Lib.hid (show (bopL 0 a b).take (k + 1) = acc ++ [false] from hd)
        clear hd
        have HR2 := Lib.hid (hr.later (below_box wr (.cells #[.bool false] 4)))
        have HB2 := Lib.hid (hbw.alloc hz (.cells #[.bool false] 4))
        have HX := Lib.hid (Whole.made wr 4 #[.bool false])
        have hsz : (wr.alloc (.cells #[.bool false] 4)).heap.size = wr.heap.size + 1 := size_box _ _
        clear hr hbw
        go_wp2_with (at_builtin; (refine rowB_new rfl _ _ rfl w.heap.size _ acc rfl HR2.out wr.heap.size _ rfl HX.out (by omega) (by rw [hsz]; omega) ?_; intro v5 w5 hr5 hb5; have HR5 := Lib.hid hr5; have HB5 := Lib.hid (HB2.out.trans hb5); clear hr5 hb5))
        go_roundw
        case rel => exact ⟨k + 1, by omega, by go_num, by rw [HD.out]; exact HR5.out, HB5.out⟩
        case measure => simp [intOf]; omega
      · have HD := Lib.hid (show (bopL 0 a b).take (k + 1) = acc ++ [true] from hd)
        clear hd
        have HR2 := Lib.hid (hr.later (below_box wr (.cells #[.bool true] 4)))
        have HB2 := Lib.hid (hbw.alloc hz (.cells #[.bool true] 4))
        have HX := Lib.hid (Whole.made wr 4 #[.bool true])
        have hsz : (wr.alloc (.cells #[.bool true] 4)).heap.size = wr.heap.size + 1 := size_box _ _
        clear hr hbw
        go_wp2_with (at_builtin; (refine rowB_new rfl _ _ rfl w.heap.size _ acc rfl HR2.out wr.heap.size _ rfl HX.out (by omega) (by rw [hsz]; omega) ?_; intro v5 w5 hr5 hb5; have HR5 := Lib.hid hr5; have HB5 := Lib.hid (HB2.out.trans hb5); clear hr5 hb5))
        go_roundw
        case rel => exact ⟨k + 1, by omega, by go_num, by rw [HD.out]; exact HR5.out, HB5.out⟩
        case measure => simp [intOf]; omega
    · obtain rfl : k = 32 := by omega
      rw [List.take_of_length_le (by rw [HAL.out]; omega)] at hr
      obtain ⟨A9, c9, rfl, ho⟩ := hr.ob (by rw [HAL.out]; omega)
      rw [HAL.out, na]
      have HO := Lib.hid (numbert (c := c9) ho.lb (by rw [HAL.out]; exact na))
      have HBW := Lib.hid hbw
      clear hr hbw ho
      go_wp2_with (go_at_call 14; go_must ((with_reducible refine HO.out.mono ?_); rintro e w9 ⟨rfl, rfl⟩))
      go_ret
      exact ⟨rfl, HBW.out⟩
set_option maxHeartbeats 4000000 in
theorem bitt1 {w : World} {A B : Option Addr} {c d : Nat} {a b : List Bool} (ha : LB w A a) (hb : LB w B b) (na : a.length = 32) (nb : b.length = 32) :
    Calls Try.prog 19 #[.int .i64 1, .slice A 32 c, .slice B 32 d] w fun e w' => e = .returned (.int .u64 (numL (bopL 1 a b))) ∧ Below w.heap.size w w' := by
  have HA := Lib.hid ha
  have HB := Lib.hid hb
  have HAL := Lib.hid (bopL_len (k := 1) (a := a) (b := b) (by omega))
  clear ha hb
  go_enter Try.func19, Try.ntmps19
  go_wp2
  go_loopw [7, 8] (fun o i wr => ∃ k : Nat, k ≤ 32 ∧ i = .int .i64 k ∧ RowB wr w.heap.size o ((bopL 1 a b).take k) ∧ Below w.heap.size w wr) (fun _ i _ => 32 - (intOf i).toNat)
  case atStart => exact ⟨0, Nat.zero_le _, rfl, RowB.nil _ _, Below.refl _ _⟩
  case round =>
    obtain ⟨k, hk, rfl, hr, hbw⟩ := hrel
    have hz := hbw.size
    by_cases hlt : k < 32
    · obtain ⟨x, hx⟩ : ∃ x, a[k]? = some x := ⟨_, List.getElem?_eq_getElem (by omega)⟩
      obtain ⟨y, hy⟩ : ∃ y, b[k]? = some y := ⟨_, List.getElem?_eq_getElem (by omega)⟩
      obtain ⟨bl, off, rfl, hbl, hc1⟩ := HA.out.at hx
      obtain ⟨bl2, off2, rfl, hbl2, hc2⟩ := HB.out.at hy
      have hc1 := (hbw.cell (p := ⟨bl, off + k, none⟩) hbl).trans hc1
      have hc2 := (hbw.cell (p := ⟨bl2, off2 + k, none⟩) hbl2).trans hc2
      have hd := bopL_get (k := 1) hx hy
      have hlen : ((bopL 1 a b).take k).length ≤ 1000 := by rw [List.length_take]; omega
      obtain ⟨acc, hacc⟩ : ∃ acc, acc = (bopL 1 a b).take k := ⟨_, rfl⟩
      rw [← hacc] at hd hr hlen
      clear hx hy hacc
      cases x <;> cases y
      · have HD := Lib.hid (show (bopL 1 a b).take (k + 1) = acc ++ [false] from hd)
        clear hd
        have HR2 := Lib.hid (hr.later (below_box wr (.cells #[.bool false] 4)))
        have HB2 := Lib.hid (hbw.alloc hz (.cells #[.bool false] 4))
        have HX := Lib.hid (Whole.made wr 4 #[.bool false])
        have hsz : (wr.alloc (.cells #[.bool false] 4)).heap.size = wr.heap.size + 1 := size_box _ _
        clear hr hbw
        go_wp2_with (at_builtin; (refine rowB_new rfl _ _ rfl w.heap.size _ acc rfl HR2.out wr.heap.size _ rfl HX.out (by omega) (by rw [hsz]; omega) ?_; intro v5 w5 hr5 hb5; have HR5 := Lib.hid hr5; have HB5 := Lib.hid (HB2.out.trans hb5); clear hr5 hb5))
        go_roundw
        case rel => exact ⟨k + 1, by omega, by go_num, by rw [HD.out]; exact HR5.out, HB5.out⟩
        case measure => simp [intOf]; omega
      · have HD := Lib.hid (show (bopL 1 a b).take (k + 1) = acc ++ [true] from hd)
        clear hd
        have HR2 := Lib.hid (hr.later (below_box wr (.cells #[.bool true] 4)))
        have HB2 := Lib.hid (hbw.alloc hz (.cells #[.bool true] 4))
        have HX := Lib.hid (Whole.made wr 4 #[.bool true])
        have hsz : (wr.alloc (.cells #[.bool true] 4)).heap.size = wr.heap.size + 1 := size_box _ _
        clear hr hbw
        go_wp2_with (at_builtin; (refine rowB_new rfl _ _ rfl w.heap.size _ acc rfl HR2.out wr.heap.size _ rfl HX.out (by omega) (by rw [hsz]; omega) ?_; intro v5 w5 hr5 hb5; have HR5 := Lib.hid hr5; have HB5 := Lib.hid (HB2.out.trans hb5); clear hr5 hb5))
        go_roundw
        case rel => exact ⟨k + 1, by omega, by go_num, by rw [HD.out]; exact HR5.out, HB5.out⟩
        case measure => simp [intOf]; omega
      · have HD := Lib.hid (show (bopL 1 a b).take (k + 1) = acc ++ [true] from hd)
        clear hd
        have HR2 := Lib.hid (hr.later (below_box wr (.cells #[.bool true] 4)))
        have HB2 := Lib.hid (hbw.alloc hz (.cells #[.bool true] 4))
        have HX := Lib.hid (Whole.made wr 4 #[.bool true])
        have hsz : (wr.alloc (.cells #[.bool true] 4)).heap.size = wr.heap.size + 1 := size_box _ _
        clear hr hbw
        go_wp2_with (at_builtin; (refine rowB_new rfl _ _ rfl w.heap.size _ acc rfl HR2.out wr.heap.size _ rfl HX.out (by omega) (by rw [hsz]; omega) ?_; intro v5 w5 hr5 hb5; have HR5 := Lib.hid hr5; have HB5 := Lib.hid (HB2.out.trans hb5); clear hr5 hb5))
        go_roundw
        case rel => exact ⟨k + 1, by omega, by go_num, by rw [HD.out]; exact HR5.out, HB5.out⟩
        case measure => simp [intOf]; omega
      · have HD := Lib.hid (show (bopL 1 a b).take (k + 1) = acc ++ [true] from hd)
        clear hd
        have HR2 := Lib.hid (hr.later (below_box wr (.cells #[.bool true] 4)))
        have HB2 := Lib.hid (hbw.alloc hz (.cells #[.bool true] 4))
        have HX := Lib.hid (Whole.made wr 4 #[.bool true])
        have hsz : (wr.alloc (.cells #[.bool true] 4)).heap.size = wr.heap.size + 1 := size_box _ _
        clear hr hbw
        go_wp2_with (at_builtin; (refine rowB_new rfl _ _ rfl w.heap.size _ acc rfl HR2.out wr.heap.size _ rfl HX.out (by omega) (by rw [hsz]; omega) ?_; intro v5 w5 hr5 hb5; have HR5 := Lib.hid hr5; have HB5 := Lib.hid (HB2.out.trans hb5); clear hr5 hb5))
        go_roundw
        case rel => exact ⟨k + 1, by omega, by go_num, by rw [HD.out]; exact HR5.out, HB5.out⟩
        case measure => simp [intOf]; omega
    · obtain rfl : k = 32 := by omega
      rw [List.take_of_length_le (by rw [HAL.out]; omega)] at hr
      obtain ⟨A9, c9, rfl, ho⟩ := hr.ob (by rw [HAL.out]; omega)
      rw [HAL.out, na]
      have HO := Lib.hid (numbert (c := c9) ho.lb (by rw [HAL.out]; exact na))
      have HBW := Lib.hid hbw
      clear hr hbw ho
      go_wp2_with (go_at_call 14; go_must ((with_reducible refine HO.out.mono ?_); rintro e w9 ⟨rfl, rfl⟩))
      go_ret
      exact ⟨rfl, HBW.out⟩
set_option maxHeartbeats 4000000 in
theorem bitt2 {w : World} {A B : Option Addr} {c d : Nat} {a b : List Bool} (ha : LB w A a) (hb : LB w B b) (na : a.length = 32) (nb : b.length = 32) :
    Calls Try.prog 19 #[.int .i64 2, .slice A 32 c, .slice B 32 d] w fun e w' => e = .returned (.int .u64 (numL (bopL 2 a b))) ∧ Below w.heap.size w w' := by
  have HA := Lib.hid ha
  have HB := Lib.hid hb
  have HAL := Lib.hid (bopL_len (k := 2) (a := a) (b := b) (by omega))
  clear ha hb
  go_enter Try.func19, Try.ntmps19
  go_wp2
  go_loopw [7, 8] (fun o i wr => ∃ k : Nat, k ≤ 32 ∧ i = .int .i64 k ∧ RowB wr w.heap.size o ((bopL 2 a b).take k) ∧ Below w.heap.size w wr) (fun _ i _ => 32 - (intOf i).toNat)
  case atStart => exact ⟨0, Nat.zero_le _, rfl, RowB.nil _ _, Below.refl _ _⟩
  case round =>
    obtain ⟨k, hk, rfl, hr, hbw⟩ := hrel
    have hz := hbw.size
    by_cases hlt : k < 32
    · obtain ⟨x, hx⟩ : ∃ x, a[k]? = some x := ⟨_, List.getElem?_eq_getElem (by omega)⟩
      obtain ⟨y, hy⟩ : ∃ y, b[k]? = some y := ⟨_, List.getElem?_eq_getElem (by omega)⟩
      obtain ⟨bl, off, rfl, hbl, hc1⟩ := HA.out.at hx
      obtain ⟨bl2, off2, rfl, hbl2, hc2⟩ := HB.out.at hy
      have hc1 := (hbw.cell (p := ⟨bl, off + k, none⟩) hbl).trans hc1
      have hc2 := (hbw.cell (p := ⟨bl2, off2 + k, none⟩) hbl2).trans hc2
      have hd := bopL_get (k := 2) hx hy
      have hlen : ((bopL 2 a b).take k).length ≤ 1000 := by rw [List.length_take]; omega
      obtain ⟨acc, hacc⟩ : ∃ acc, acc = (bopL 2 a b).take k := ⟨_, rfl⟩
      rw [← hacc] at hd hr hlen
      clear hx hy hacc
      cases x <;> cases y
      · have HD := Lib.hid (show (bopL 2 a b).take (k + 1) = acc ++ [false] from hd)
        clear hd
        have hS : (wr.drew.cell? ⟨bl, off + k, none⟩ = some (.bool false) ∧ wr.drew.cell? ⟨bl2, off2 + k, none⟩ = some (.bool false)) ∧ Below w.heap.size w wr.drew := ⟨⟨hc1, hc2⟩, hbw.drew⟩
        have HR := Lib.hid hr
        clear hr hbw hc1 hc2
        go_upto_region 6 with fail
        refine wp_region_noPanic ?_
        refine wp_region_held_drew (S := fun W => (W.cell? ⟨bl, off + k, none⟩ = some (.bool false) ∧ W.cell? ⟨bl2, off2 + k, none⟩ = some (.bool false)) ∧ Below w.heap.size w W) (by kernel_rfl) hS (fun hHeld => ?_)
        clear hS
        (refine heldTake (i := 0) (oi := { dst := some 14, op := Op.move (Operand.tmp 7), type := 35, pos := "ref.go:214", after := #[], guard := none }) (v := ?_) rfl (by kernel_rfl) (by kernel_rfl) (by kernel_rfl) (by assumption) ?_ ?_; rotate_left; focus (refine .inl ⟨by kernel_rfl, ?_⟩; intro w hSw; (try dsimp only at hSw); go_simp; (try with_reducible rfl)); skip)
        (try simp only [Act.put, List.setIfInBounds_toArray, List.set_cons_zero, List.set_cons_succ])
        (refine heldTake (i := 1) (oi := { dst := some 15, op := Op.move (Operand.tmp 1), type := 35, pos := "ref.go:214", after := #[], guard := none }) (v := ?_) rfl (by kernel_rfl) (by kernel_rfl) (by kernel_rfl) (by assumption) ?_ ?_; rotate_left; focus (refine .inl ⟨by kernel_rfl, ?_⟩; intro w hSw; (try dsimp only at hSw); go_simp; (try with_reducible rfl)); skip)
        (try simp only [Act.put, List.setIfInBounds_toArray, List.set_cons_zero, List.set_cons_succ])
        (refine heldTake (i := 2) (oi := { dst := some 16, op := Op.move (Operand.tmp 8), type := 3, pos := "ref.go:214", after := #[], guard := none }) (v := ?_) rfl (by kernel_rfl) (by kernel_rfl) (by kernel_rfl) (by assumption) ?_ ?_; rotate_left; focus (refine .inl ⟨by kernel_rfl, ?_⟩; intro w hSw; (try dsimp only at hSw); go_simp; (try with_reducible rfl)); skip)
        (try simp only [Act.put, List.setIfInBounds_toArray, List.set_cons_zero, List.set_cons_succ])
        (refine heldTake (i := 3) (oi := { dst := some 17, op := Op.indexAddr 35 (Operand.tmp 15) (Operand.tmp 16), type := 0, pos := "ref.go:214", after := #[{ on := 1, ground := Ground.data }, { on := 2, ground := Ground.data }], guard := none }) (v := ?_) rfl (by kernel_rfl) (by kernel_rfl) (by kernel_rfl) (by assumption) ?_ ?_; rotate_left; focus (refine .inl ⟨by kernel_rfl, ?_⟩; intro w hSw; (try dsimp only at hSw); go_simp; (try with_reducible rfl)); skip)
        (try simp only [Act.put, List.setIfInBounds_toArray, List.set_cons_zero, List.set_cons_succ])
        (refine heldTake (i := 4) (oi := { dst := some 18, op := Op.load 4 (Operand.tmp 17), type := 4, pos := "ref.go:214", after := #[{ on := 3, ground := Ground.data }], guard := none }) (v := ?_) rfl (by kernel_rfl) (by kernel_rfl) (by kernel_rfl) (by assumption) ?_ ?_; rotate_left; focus (refine .inl ⟨by kernel_rfl, ?_⟩; intro w hSw; (try dsimp only at hSw); go_simp; (try with_reducible rfl)); skip)
        (try simp only [Act.put, List.setIfInBounds_toArray, List.set_cons_zero, List.set_cons_succ])
        (refine heldTake (i := 5) (oi := { dst := some 19, op := Op.move (Operand.tmp 2), type := 35, pos := "ref.go:214", after := #[], guard := none }) (v := ?_) rfl (by kernel_rfl) (by kernel_rfl) (by kernel_rfl) (by assumption) ?_ ?_; rotate_left; focus (refine .inl ⟨by kernel_rfl, ?_⟩; intro w hSw; (try dsimp only at hSw); go_simp; (try with_reducible rfl)); skip)
        (try simp only [Act.put, List.setIfInBounds_toArray, List.set_cons_zero, List.set_cons_succ])
        (refine heldTake (i := 6) (oi := { dst := some 20, op := Op.move (Operand.tmp 8), type := 3, pos := "ref.go:214", after := #[], guard := none }) (v := ?_) rfl (by kernel_rfl) (by kernel_rfl) (by kernel_rfl) (by assumption) ?_ ?_; rotate_left; focus (refine .inl ⟨by kernel_rfl, ?_⟩; intro w hSw; (try dsimp only at hSw); go_simp; (try with_reducible rfl)); skip)
        (try simp only [Act.put, List.setIfInBounds_toArray, List.set_cons_zero, List.set_cons_succ])
        (refine heldTake (i := 7) (oi := { dst := some 21, op := Op.indexAddr 35 (Operand.tmp 19) (Operand.tmp 20), type := 0, pos := "ref.go:214", after := #[{ on := 5, ground := Ground.data }, { on := 6, ground := Ground.data }], guard := none }) (v := ?_) rfl (by kernel_rfl) (by kernel_rfl) (by kernel_rfl) (by assumption) ?_ ?_; rotate_left; focus (refine .inl ⟨by kernel_rfl, ?_⟩; intro w hSw; (try dsimp only at hSw); go_simp; (try with_reducible rfl)); skip)
        (try simp only [Act.put, List.setIfInBounds_toArray, List.set_cons_zero, List.set_cons_succ])
        (refine heldTake (i := 8) (oi := { dst := some 22, op := Op.load 4 (Operand.tmp 21), type := 4, pos := "ref.go:214", after := #[{ on := 7, ground := Ground.data }], guard := none }) (v := ?_) rfl (by kernel_rfl) (by kernel_rfl) (by kernel_rfl) (by assumption) ?_ ?_; rotate_left; focus (refine .inl ⟨by kernel_rfl, ?_⟩; intro w hSw; (try dsimp only at hSw); go_simp; (try with_reducible rfl)); skip)
        (try simp only [Act.put, List.setIfInBounds_toArray, List.set_cons_zero, List.set_cons_succ])
        (refine heldTake (i := 9) (oi := { dst := some 23, op := Op.binOp BinOp.neq 4 (Operand.tmp 18) (Operand.tmp 22) 4, type := 4, pos := "ref.go:214", after := #[{ on := 4, ground := Ground.data }, { on := 8, ground := Ground.data }], guard := none }) (v := ?_) rfl (by kernel_rfl) (by kernel_rfl) (by kernel_rfl) (by assumption) ?_ ?_; rotate_left; focus (refine .inl ⟨by kernel_rfl, ?_⟩; intro w hSw; (try dsimp only at hSw); go_simp; (try with_reducible rfl)); skip)
        (try simp only [Act.put, List.setIfInBounds_toArray, List.set_cons_zero, List.set_cons_succ])
        refine wpAnyH_ready (rs := [10]) (by kernel_rfl) (by simp) ?_
        refine (AllReadyH.cons (o := { dst := some 24, op := Op.buildSlice 35 1 #[(0, Operand.tmp 23)], type := 35, pos := "ref.go:214", after := #[{ on := 9, ground := Ground.data }], guard := none }) rfl (fun K hK => ?_) AllReadyH.nil)
        refine step_buildB rfl _ rfl false rfl ?_; intro g3 w3 hg3 hb3 hx3; have HB10 := Lib.hid hb3; have HX3 := Lib.hid hx3; have hk3 := And.intro (And.intro ((hb3.cell (p := ⟨bl, off + k, none⟩) (block_lt_of_cell hHeld.1.1)).trans hHeld.1.1) ((hb3.cell (p := ⟨bl2, off2 + k, none⟩) (block_lt_of_cell hHeld.1.2)).trans hHeld.1.2)) (hHeld.2.trans (hb3.mono hHeld.2.size)); clear hb3 hx3
        refine hK.out _ _ hk3 (fun hHeld10 => ?_)
        clear hK K hHeld
        (try simp only [Act.put, List.setIfInBounds_toArray, List.set_cons_zero, List.set_cons_succ])
        refine wpAnyH_ready (rs := [11]) (by kernel_rfl) (by simp) ?_
        refine (AllReadyH.cons (o := { dst := some 25, op := Op.call { callee := Callee.builtin Builtin.append, args := #[Operand.tmp 14, Operand.tmp 24], argTypes := #[35, 35] }, type := 35, pos := "ref.go:214", after := #[{ on := 0, ground := Ground.data }, { on := 10, ground := Ground.data }], guard := none }) rfl (fun K hK => ?_) AllReadyH.nil)
        refine step_rowB rfl _ _ rfl w.heap.size _ acc rfl (HR.out.later ((Below.refl _ _).drew.trans HB10.out)) g3 false rfl HX3.out hlen hHeld10.2.size ?_; intro v5 w5 hr5 hb5 hg5; have HR5 := Lib.hid hr5; have hs5 := And.intro (And.intro ((hb5.cell (p := ⟨bl, off + k, none⟩) hbl).trans hHeld10.1.1) ((hb5.cell (p := ⟨bl2, off2 + k, none⟩) hbl2).trans hHeld10.1.2)) (hHeld10.2.trans hb5); clear hr5 hb5 hg5
        refine hK.out _ _ hs5 (fun hHeld11 => ?_)
        clear hK K hHeld10
        (try simp only [Act.put, List.setIfInBounds_toArray, List.set_cons_zero, List.set_cons_succ])
        (refine heldTake (i := 12) (oi := { dst := some 7, op := Op.assign (Operand.tmp 25), type := 35, pos := "ref.go:214", after := #[{ on := 11, ground := Ground.data }, { on := 11, ground := Ground.chain }, { on := 0, ground := Ground.phase }, { on := 1, ground := Ground.phase }, { on := 2, ground := Ground.phase }, { on := 3, ground := Ground.phase }, { on := 4, ground := Ground.phase }, { on := 5, ground := Ground.phase }, { on := 6, ground := Ground.phase }, { on := 7, ground := Ground.phase }, { on := 8, ground := Ground.phase }, { on := 9, ground := Ground.phase }, { on := 10, ground := Ground.phase }, { on := 11, ground := Ground.phase }], guard := none }) (v := ?_) rfl (by kernel_rfl) (by kernel_rfl) (by kernel_rfl) (by assumption) ?_ ?_; rotate_left; focus (refine .inl ⟨by kernel_rfl, ?_⟩; intro w hSw; (try dsimp only at hSw); go_simp; (try with_reducible rfl)); skip)
        (try simp only [Act.put, List.setIfInBounds_toArray, List.set_cons_zero, List.set_cons_succ])
        refine wpAnyH_done (by kernel_rfl) ?_ _
        refine NoPanic.normal ?_
        have hLast := hHeld11
        clear hHeld11
        go_wp2
        go_roundw
        case rel => exact ⟨k + 1, by omega, by go_num, by rw [HD.out]; exact HR5.out, hLast.2⟩
        case measure => simp [intOf]; omega
      · have HD := Lib.hid (show (bopL 2 a b).take (k + 1) = acc ++ [true] from hd)
        clear hd
        have hS : (wr.drew.cell? ⟨bl, off + k, none⟩ = some (.bool false) ∧ wr.drew.cell? ⟨bl2, off2 + k, none⟩ = some (.bool true)) ∧ Below w.heap.size w wr.drew := ⟨⟨hc1, hc2⟩, hbw.drew⟩
        have HR := Lib.hid hr
        clear hr hbw hc1 hc2
        go_upto_region 6 with fail
        refine wp_region_noPanic ?_
        refine wp_region_held_drew (S := fun W => (W.cell? ⟨bl, off + k, none⟩ = some (.bool false) ∧ W.cell? ⟨bl2, off2 + k, none⟩ = some (.bool true)) ∧ Below w.heap.size w W) (by kernel_rfl) hS (fun hHeld => ?_)
        clear hS
        (refine heldTake (i := 0) (oi := { dst := some 14, op := Op.move (Operand.tmp 7), type := 35, pos := "ref.go:214", after := #[], guard := none }) (v := ?_) rfl (by kernel_rfl) (by kernel_rfl) (by kernel_rfl) (by assumption) ?_ ?_; rotate_left; focus (refine .inl ⟨by kernel_rfl, ?_⟩; intro w hSw; (try dsimp only at hSw); go_simp; (try with_reducible rfl)); skip)
        (try simp only [Act.put, List.setIfInBounds_toArray, List.set_cons_zero, List.set_cons_succ])
        (refine heldTake (i := 1) (oi := { dst := some 15, op := Op.move (Operand.tmp 1), type := 35, pos := "ref.go:214", after := #[], guard := none }) (v := ?_) rfl (by kernel_rfl) (by kernel_rfl) (by kernel_rfl) (by assumption) ?_ ?_; rotate_left; focus (refine .inl ⟨by kernel_rfl, ?_⟩; intro w hSw; (try dsimp only at hSw); go_simp; (try with_reducible rfl)); skip)
        (try simp only [Act.put, List.setIfInBounds_toArray, List.set_cons_zero, List.set_cons_succ])
        (refine heldTake (i := 2) (oi := { dst := some 16, op := Op.move (Operand.tmp 8), type := 3, pos := "ref.go:214", after := #[], guard := none }) (v := ?_) rfl (by kernel_rfl) (by kernel_rfl) (by kernel_rfl) (by assumption) ?_ ?_; rotate_left; focus (refine .inl ⟨by kernel_rfl, ?_⟩; intro w hSw; (try dsimp only at hSw); go_simp; (try with_reducible rfl)); skip)
        (try simp only [Act.put, List.setIfInBounds_toArray, List.set_cons_zero, List.set_cons_succ])
        (refine heldTake (i := 3) (oi := { dst := some 17, op := Op.indexAddr 35 (Operand.tmp 15) (Operand.tmp 16), type := 0, pos := "ref.go:214", after := #[{ on := 1, ground := Ground.data }, { on := 2, ground := Ground.data }], guard := none }) (v := ?_) rfl (by kernel_rfl) (by kernel_rfl) (by kernel_rfl) (by assumption) ?_ ?_; rotate_left; focus (refine .inl ⟨by kernel_rfl, ?_⟩; intro w hSw; (try dsimp only at hSw); go_simp; (try with_reducible rfl)); skip)
        (try simp only [Act.put, List.setIfInBounds_toArray, List.set_cons_zero, List.set_cons_succ])
        (refine heldTake (i := 4) (oi := { dst := some 18, op := Op.load 4 (Operand.tmp 17), type := 4, pos := "ref.go:214", after := #[{ on := 3, ground := Ground.data }], guard := none }) (v := ?_) rfl (by kernel_rfl) (by kernel_rfl) (by kernel_rfl) (by assumption) ?_ ?_; rotate_left; focus (refine .inl ⟨by kernel_rfl, ?_⟩; intro w hSw; (try dsimp only at hSw); go_simp; (try with_reducible rfl)); skip)
        (try simp only [Act.put, List.setIfInBounds_toArray, List.set_cons_zero, List.set_cons_succ])
        (refine heldTake (i := 5) (oi := { dst := some 19, op := Op.move (Operand.tmp 2), type := 35, pos := "ref.go:214", after := #[], guard := none }) (v := ?_) rfl (by kernel_rfl) (by kernel_rfl) (by kernel_rfl) (by assumption) ?_ ?_; rotate_left; focus (refine .inl ⟨by kernel_rfl, ?_⟩; intro w hSw; (try dsimp only at hSw); go_simp; (try with_reducible rfl)); skip)
        (try simp only [Act.put, List.setIfInBounds_toArray, List.set_cons_zero, List.set_cons_succ])
        (refine heldTake (i := 6) (oi := { dst := some 20, op := Op.move (Operand.tmp 8), type := 3, pos := "ref.go:214", after := #[], guard := none }) (v := ?_) rfl (by kernel_rfl) (by kernel_rfl) (by kernel_rfl) (by assumption) ?_ ?_; rotate_left; focus (refine .inl ⟨by kernel_rfl, ?_⟩; intro w hSw; (try dsimp only at hSw); go_simp; (try with_reducible rfl)); skip)
        (try simp only [Act.put, List.setIfInBounds_toArray, List.set_cons_zero, List.set_cons_succ])
        (refine heldTake (i := 7) (oi := { dst := some 21, op := Op.indexAddr 35 (Operand.tmp 19) (Operand.tmp 20), type := 0, pos := "ref.go:214", after := #[{ on := 5, ground := Ground.data }, { on := 6, ground := Ground.data }], guard := none }) (v := ?_) rfl (by kernel_rfl) (by kernel_rfl) (by kernel_rfl) (by assumption) ?_ ?_; rotate_left; focus (refine .inl ⟨by kernel_rfl, ?_⟩; intro w hSw; (try dsimp only at hSw); go_simp; (try with_reducible rfl)); skip)
        (try simp only [Act.put, List.setIfInBounds_toArray, List.set_cons_zero, List.set_cons_succ])
        (refine heldTake (i := 8) (oi := { dst := some 22, op := Op.load 4 (Operand.tmp 21), type := 4, pos := "ref.go:214", after := #[{ on := 7, ground := Ground.data }], guard := none }) (v := ?_) rfl (by kernel_rfl) (by kernel_rfl) (by kernel_rfl) (by assumption) ?_ ?_; rotate_left; focus (refine .inl ⟨by kernel_rfl, ?_⟩; intro w hSw; (try dsimp only at hSw); go_simp; (try with_reducible rfl)); skip)
        (try simp only [Act.put, List.setIfInBounds_toArray, List.set_cons_zero, List.set_cons_succ])
        (refine heldTake (i := 9) (oi := { dst := some 23, op := Op.binOp BinOp.neq 4 (Operand.tmp 18) (Operand.tmp 22) 4, type := 4, pos := "ref.go:214", after := #[{ on := 4, ground := Ground.data }, { on := 8, ground := Ground.data }], guard := none }) (v := ?_) rfl (by kernel_rfl) (by kernel_rfl) (by kernel_rfl) (by assumption) ?_ ?_; rotate_left; focus (refine .inl ⟨by kernel_rfl, ?_⟩; intro w hSw; (try dsimp only at hSw); go_simp; (try with_reducible rfl)); skip)
        (try simp only [Act.put, List.setIfInBounds_toArray, List.set_cons_zero, List.set_cons_succ])
        refine wpAnyH_ready (rs := [10]) (by kernel_rfl) (by simp) ?_
        refine (AllReadyH.cons (o := { dst := some 24, op := Op.buildSlice 35 1 #[(0, Operand.tmp 23)], type := 35, pos := "ref.go:214", after := #[{ on := 9, ground := Ground.data }], guard := none }) rfl (fun K hK => ?_) AllReadyH.nil)
        refine step_buildB rfl _ rfl true rfl ?_; intro g3 w3 hg3 hb3 hx3; have HB10 := Lib.hid hb3; have HX3 := Lib.hid hx3; have hk3 := And.intro (And.intro ((hb3.cell (p := ⟨bl, off + k, none⟩) (block_lt_of_cell hHeld.1.1)).trans hHeld.1.1) ((hb3.cell (p := ⟨bl2, off2 + k, none⟩) (block_lt_of_cell hHeld.1.2)).trans hHeld.1.2)) (hHeld.2.trans (hb3.mono hHeld.2.size)); clear hb3 hx3
        refine hK.out _ _ hk3 (fun hHeld10 => ?_)
        clear hK K hHeld
        (try simp only [Act.put, List.setIfInBounds_toArray, List.set_cons_zero, List.set_cons_succ])
        refine wpAnyH_ready (rs := [11]) (by kernel_rfl) (by simp) ?_
        refine (AllReadyH.cons (o := { dst := some 25, op := Op.call { callee := Callee.builtin Builtin.append, args := #[Operand.tmp 14, Operand.tmp 24], argTypes := #[35, 35] }, type := 35, pos := "ref.go:214", after := #[{ on := 0, ground := Ground.data }, { on := 10, ground := Ground.data }], guard := none }) rfl (fun K hK => ?_) AllReadyH.nil)
        refine step_rowB rfl _ _ rfl w.heap.size _ acc rfl (HR.out.later ((Below.refl _ _).drew.trans HB10.out)) g3 true rfl HX3.out hlen hHeld10.2.size ?_; intro v5 w5 hr5 hb5 hg5; have HR5 := Lib.hid hr5; have hs5 := And.intro (And.intro ((hb5.cell (p := ⟨bl, off + k, none⟩) hbl).trans hHeld10.1.1) ((hb5.cell (p := ⟨bl2, off2 + k, none⟩) hbl2).trans hHeld10.1.2)) (hHeld10.2.trans hb5); clear hr5 hb5 hg5
        refine hK.out _ _ hs5 (fun hHeld11 => ?_)
        clear hK K hHeld10
        (try simp only [Act.put, List.setIfInBounds_toArray, List.set_cons_zero, List.set_cons_succ])
        (refine heldTake (i := 12) (oi := { dst := some 7, op := Op.assign (Operand.tmp 25), type := 35, pos := "ref.go:214", after := #[{ on := 11, ground := Ground.data }, { on := 11, ground := Ground.chain }, { on := 0, ground := Ground.phase }, { on := 1, ground := Ground.phase }, { on := 2, ground := Ground.phase }, { on := 3, ground := Ground.phase }, { on := 4, ground := Ground.phase }, { on := 5, ground := Ground.phase }, { on := 6, ground := Ground.phase }, { on := 7, ground := Ground.phase }, { on := 8, ground := Ground.phase }, { on := 9, ground := Ground.phase }, { on := 10, ground := Ground.phase }, { on := 11, ground := Ground.phase }], guard := none }) (v := ?_) rfl (by kernel_rfl) (by kernel_rfl) (by kernel_rfl) (by assumption) ?_ ?_; rotate_left; focus (refine .inl ⟨by kernel_rfl, ?_⟩; intro w hSw; (try dsimp only at hSw); go_simp; (try with_reducible rfl)); skip)
        (try simp only [Act.put, List.setIfInBounds_toArray, List.set_cons_zero, List.set_cons_succ])
        refine wpAnyH_done (by kernel_rfl) ?_ _
        refine NoPanic.normal ?_
        have hLast := hHeld11
        clear hHeld11
        go_wp2
        go_roundw
        case rel => exact ⟨k + 1, by omega, by go_num, by rw [HD.out]; exact HR5.out, hLast.2⟩
        case measure => simp [intOf]; omega
      · have HD := Lib.hid (show (bopL 2 a b).take (k + 1) = acc ++ [true] from hd)
        clear hd
        have hS : (wr.drew.cell? ⟨bl, off + k, none⟩ = some (.bool true) ∧ wr.drew.cell? ⟨bl2, off2 + k, none⟩ = some (.bool false)) ∧ Below w.heap.size w wr.drew := ⟨⟨hc1, hc2⟩, hbw.drew⟩
        have HR := Lib.hid hr
        clear hr hbw hc1 hc2
        go_upto_region 6 with fail
        refine wp_region_noPanic ?_
        refine wp_region_held_drew (S := fun W => (W.cell? ⟨bl, off + k, none⟩ = some (.bool true) ∧ W.cell? ⟨bl2, off2 + k, none⟩ = some (.bool false)) ∧ Below w.heap.size w W) (by kernel_rfl) hS (fun hHeld => ?_)
        clear hS
        (refine heldTake (i := 0) (oi := { dst := some 14, op := Op.move (Operand.tmp 7), type := 35, pos := "ref.go:214", after := #[], guard := none }) (v := ?_) rfl (by kernel_rfl) (by kernel_rfl) (by kernel_rfl) (by assumption) ?_ ?_; rotate_left; focus (refine .inl ⟨by kernel_rfl, ?_⟩; intro w hSw; (try dsimp only at hSw); go_simp; (try with_reducible rfl)); skip)
        (try simp only [Act.put, List.setIfInBounds_toArray, List.set_cons_zero, List.set_cons_succ])
        (refine heldTake (i := 1) (oi := { dst := some 15, op := Op.move (Operand.tmp 1), type := 35, pos := "ref.go:214", after := #[], guard := none }) (v := ?_) rfl (by kernel_rfl) (by kernel_rfl) (by kernel_rfl) (by assumption) ?_ ?_; rotate_left; focus (refine .inl ⟨by kernel_rfl, ?_⟩; intro w hSw; (try dsimp only at hSw); go_simp; (try with_reducible rfl)); skip)
        (try simp only [Act.put, List.setIfInBounds_toArray, List.set_cons_zero, List.set_cons_succ])
        (refine heldTake (i := 2) (oi := { dst := some 16, op := Op.move (Operand.tmp 8), type := 3, pos := "ref.go:214", after := #[], guard := none }) (v := ?_) rfl (by kernel_rfl) (by kernel_rfl) (by kernel_rfl) (by assumption) ?_ ?_; rotate_left; focus (refine .inl ⟨by kernel_rfl, ?_⟩; intro w hSw; (try dsimp only at hSw); go_simp; (try with_reducible rfl)); skip)
        (try simp only [Act.put, List.setIfInBounds_toArray, List.set_cons_zero, List.set_cons_succ])
        (refine heldTake (i := 3) (oi := { dst := some 17, op := Op.indexAddr 35 (Operand.tmp 15) (Operand.tmp 16), type := 0, pos := "ref.go:214", after := #[{ on := 1, ground := Ground.data }, { on := 2, ground := Ground.data }], guard := none }) (v := ?_) rfl (by kernel_rfl) (by kernel_rfl) (by kernel_rfl) (by assumption) ?_ ?_; rotate_left; focus (refine .inl ⟨by kernel_rfl, ?_⟩; intro w hSw; (try dsimp only at hSw); go_simp; (try with_reducible rfl)); skip)
        (try simp only [Act.put, List.setIfInBounds_toArray, List.set_cons_zero, List.set_cons_succ])
        (refine heldTake (i := 4) (oi := { dst := some 18, op := Op.load 4 (Operand.tmp 17), type := 4, pos := "ref.go:214", after := #[{ on := 3, ground := Ground.data }], guard := none }) (v := ?_) rfl (by kernel_rfl) (by kernel_rfl) (by kernel_rfl) (by assumption) ?_ ?_; rotate_left; focus (refine .inl ⟨by kernel_rfl, ?_⟩; intro w hSw; (try dsimp only at hSw); go_simp; (try with_reducible rfl)); skip)
        (try simp only [Act.put, List.setIfInBounds_toArray, List.set_cons_zero, List.set_cons_succ])
        (refine heldTake (i := 5) (oi := { dst := some 19, op := Op.move (Operand.tmp 2), type := 35, pos := "ref.go:214", after := #[], guard := none }) (v := ?_) rfl (by kernel_rfl) (by kernel_rfl) (by kernel_rfl) (by assumption) ?_ ?_; rotate_left; focus (refine .inl ⟨by kernel_rfl, ?_⟩; intro w hSw; (try dsimp only at hSw); go_simp; (try with_reducible rfl)); skip)
        (try simp only [Act.put, List.setIfInBounds_toArray, List.set_cons_zero, List.set_cons_succ])
        (refine heldTake (i := 6) (oi := { dst := some 20, op := Op.move (Operand.tmp 8), type := 3, pos := "ref.go:214", after := #[], guard := none }) (v := ?_) rfl (by kernel_rfl) (by kernel_rfl) (by kernel_rfl) (by assumption) ?_ ?_; rotate_left; focus (refine .inl ⟨by kernel_rfl, ?_⟩; intro w hSw; (try dsimp only at hSw); go_simp; (try with_reducible rfl)); skip)
        (try simp only [Act.put, List.setIfInBounds_toArray, List.set_cons_zero, List.set_cons_succ])
        (refine heldTake (i := 7) (oi := { dst := some 21, op := Op.indexAddr 35 (Operand.tmp 19) (Operand.tmp 20), type := 0, pos := "ref.go:214", after := #[{ on := 5, ground := Ground.data }, { on := 6, ground := Ground.data }], guard := none }) (v := ?_) rfl (by kernel_rfl) (by kernel_rfl) (by kernel_rfl) (by assumption) ?_ ?_; rotate_left; focus (refine .inl ⟨by kernel_rfl, ?_⟩; intro w hSw; (try dsimp only at hSw); go_simp; (try with_reducible rfl)); skip)
        (try simp only [Act.put, List.setIfInBounds_toArray, List.set_cons_zero, List.set_cons_succ])
        (refine heldTake (i := 8) (oi := { dst := some 22, op := Op.load 4 (Operand.tmp 21), type := 4, pos := "ref.go:214", after := #[{ on := 7, ground := Ground.data }], guard := none }) (v := ?_) rfl (by kernel_rfl) (by kernel_rfl) (by kernel_rfl) (by assumption) ?_ ?_; rotate_left; focus (refine .inl ⟨by kernel_rfl, ?_⟩; intro w hSw; (try dsimp only at hSw); go_simp; (try with_reducible rfl)); skip)
        (try simp only [Act.put, List.setIfInBounds_toArray, List.set_cons_zero, List.set_cons_succ])
        (refine heldTake (i := 9) (oi := { dst := some 23, op := Op.binOp BinOp.neq 4 (Operand.tmp 18) (Operand.tmp 22) 4, type := 4, pos := "ref.go:214", after := #[{ on := 4, ground := Ground.data }, { on := 8, ground := Ground.data }], guard := none }) (v := ?_) rfl (by kernel_rfl) (by kernel_rfl) (by kernel_rfl) (by assumption) ?_ ?_; rotate_left; focus (refine .inl ⟨by kernel_rfl, ?_⟩; intro w hSw; (try dsimp only at hSw); go_simp; (try with_reducible rfl)); skip)
        (try simp only [Act.put, List.setIfInBounds_toArray, List.set_cons_zero, List.set_cons_succ])
        refine wpAnyH_ready (rs := [10]) (by kernel_rfl) (by simp) ?_
        refine (AllReadyH.cons (o := { dst := some 24, op := Op.buildSlice 35 1 #[(0, Operand.tmp 23)], type := 35, pos := "ref.go:214", after := #[{ on := 9, ground := Ground.data }], guard := none }) rfl (fun K hK => ?_) AllReadyH.nil)
        refine step_buildB rfl _ rfl true rfl ?_; intro g3 w3 hg3 hb3 hx3; have HB10 := Lib.hid hb3; have HX3 := Lib.hid hx3; have hk3 := And.intro (And.intro ((hb3.cell (p := ⟨bl, off + k, none⟩) (block_lt_of_cell hHeld.1.1)).trans hHeld.1.1) ((hb3.cell (p := ⟨bl2, off2 + k, none⟩) (block_lt_of_cell hHeld.1.2)).trans hHeld.1.2)) (hHeld.2.trans (hb3.mono hHeld.2.size)); clear hb3 hx3
        refine hK.out _ _ hk3 (fun hHeld10 => ?_)
        clear hK K hHeld
        (try simp only [Act.put, List.setIfInBounds_toArray, List.set_cons_zero, List.set_cons_succ])
        refine wpAnyH_ready (rs := [11]) (by kernel_rfl) (by simp) ?_
        refine (AllReadyH.cons (o := { dst := some 25, op := Op.call { callee := Callee.builtin Builtin.append, args := #[Operand.tmp 14, Operand.tmp 24], argTypes := #[35, 35] }, type := 35, pos := "ref.go:214", after := #[{ on := 0, ground := Ground.data }, { on := 10, ground := Ground.data }], guard := none }) rfl (fun K hK => ?_) AllReadyH.nil)
        refine step_rowB rfl _ _ rfl w.heap.size _ acc rfl (HR.out.later ((Below.refl _ _).drew.trans HB10.out)) g3 true rfl HX3.out hlen hHeld10.2.size ?_; intro v5 w5 hr5 hb5 hg5; have HR5 := Lib.hid hr5; have hs5 := And.intro (And.intro ((hb5.cell (p := ⟨bl, off + k, none⟩) hbl).trans hHeld10.1.1) ((hb5.cell (p := ⟨bl2, off2 + k, none⟩) hbl2).trans hHeld10.1.2)) (hHeld10.2.trans hb5); clear hr5 hb5 hg5
        refine hK.out _ _ hs5 (fun hHeld11 => ?_)
        clear hK K hHeld10
        (try simp only [Act.put, List.setIfInBounds_toArray, List.set_cons_zero, List.set_cons_succ])
        (refine heldTake (i := 12) (oi := { dst := some 7, op := Op.assign (Operand.tmp 25), type := 35, pos := "ref.go:214", after := #[{ on := 11, ground := Ground.data }, { on := 11, ground := Ground.chain }, { on := 0, ground := Ground.phase }, { on := 1, ground := Ground.phase }, { on := 2, ground := Ground.phase }, { on := 3, ground := Ground.phase }, { on := 4, ground := Ground.phase }, { on := 5, ground := Ground.phase }, { on := 6, ground := Ground.phase }, { on := 7, ground := Ground.phase }, { on := 8, ground := Ground.phase }, { on := 9, ground := Ground.phase }, { on := 10, ground := Ground.phase }, { on := 11, ground := Ground.phase }], guard := none }) (v := ?_) rfl (by kernel_rfl) (by kernel_rfl) (by kernel_rfl) (by assumption) ?_ ?_; rotate_left; focus (refine .inl ⟨by kernel_rfl, ?_⟩; intro w hSw; (try dsimp only at hSw); go_simp; (try with_reducible rfl)); skip)
        (try simp only [Act.put, List.setIfInBounds_toArray, List.set_cons_zero, List.set_cons_succ])
        refine wpAnyH_done (by kernel_rfl) ?_ _
        refine NoPanic.normal ?_
        have hLast := hHeld11
        clear hHeld11
        go_wp2
        go_roundw
        case rel => exact ⟨k + 1, by omega, by go_num, by rw [HD.out]; exact HR5.out, hLast.2⟩
        case measure => simp [intOf]; omega
      · have HD := Lib.hid (show (bopL 2 a b).take (k + 1) = acc ++ [false] from hd)
        clear hd
        have hS : (wr.drew.cell? ⟨bl, off + k, none⟩ = some (.bool true) ∧ wr.drew.cell? ⟨bl2, off2 + k, none⟩ = some (.bool true)) ∧ Below w.heap.size w wr.drew := ⟨⟨hc1, hc2⟩, hbw.drew⟩
        have HR := Lib.hid hr
        clear hr hbw hc1 hc2
        go_upto_region 6 with fail
        refine wp_region_noPanic ?_
        refine wp_region_held_drew (S := fun W => (W.cell? ⟨bl, off + k, none⟩ = some (.bool true) ∧ W.cell? ⟨bl2, off2 + k, none⟩ = some (.bool true)) ∧ Below w.heap.size w W) (by kernel_rfl) hS (fun hHeld => ?_)
        clear hS
        (refine heldTake (i := 0) (oi := { dst := some 14, op := Op.move (Operand.tmp 7), type := 35, pos := "ref.go:214", after := #[], guard := none }) (v := ?_) rfl (by kernel_rfl) (by kernel_rfl) (by kernel_rfl) (by assumption) ?_ ?_; rotate_left; focus (refine .inl ⟨by kernel_rfl, ?_⟩; intro w hSw; (try dsimp only at hSw); go_simp; (try with_reducible rfl)); skip)
        (try simp only [Act.put, List.setIfInBounds_toArray, List.set_cons_zero, List.set_cons_succ])
        (refine heldTake (i := 1) (oi := { dst := some 15, op := Op.move (Operand.tmp 1), type := 35, pos := "ref.go:214", after := #[], guard := none }) (v := ?_) rfl (by kernel_rfl) (by kernel_rfl) (by kernel_rfl) (by assumption) ?_ ?_; rotate_left; focus (refine .inl ⟨by kernel_rfl, ?_⟩; intro w hSw; (try dsimp only at hSw); go_simp; (try with_reducible rfl)); skip)
        (try simp only [Act.put, List.setIfInBounds_toArray, List.set_cons_zero, List.set_cons_succ])
        (refine heldTake (i := 2) (oi := { dst := some 16, op := Op.move (Operand.tmp 8), type := 3, pos := "ref.go:214", after := #[], guard := none }) (v := ?_) rfl (by kernel_rfl) (by kernel_rfl) (by kernel_rfl) (by assumption) ?_ ?_; rotate_left; focus (refine .inl ⟨by kernel_rfl, ?_⟩; intro w hSw; (try dsimp only at hSw); go_simp; (try with_reducible rfl)); skip)
        (try simp only [Act.put, List.setIfInBounds_toArray, List.set_cons_zero, List.set_cons_succ])
        (refine heldTake (i := 3) (oi := { dst := some 17, op := Op.indexAddr 35 (Operand.tmp 15) (Operand.tmp 16), type := 0, pos := "ref.go:214", after := #[{ on := 1, ground := Ground.data }, { on := 2, ground := Ground.data }], guard := none }) (v := ?_) rfl (by kernel_rfl) (by kernel_rfl) (by kernel_rfl) (by assumption) ?_ ?_; rotate_left; focus (refine .inl ⟨by kernel_rfl, ?_⟩; intro w hSw; (try dsimp only at hSw); go_simp; (try with_reducible rfl)); skip)
        (try simp only [Act.put, List.setIfInBounds_toArray, List.set_cons_zero, List.set_cons_succ])
        (refine heldTake (i := 4) (oi := { dst := some 18, op := Op.load 4 (Operand.tmp 17), type := 4, pos := "ref.go:214", after := #[{ on := 3, ground := Ground.data }], guard := none }) (v := ?_) rfl (by kernel_rfl) (by kernel_rfl) (by kernel_rfl) (by assumption) ?_ ?_; rotate_left; focus (refine .inl ⟨by kernel_rfl, ?_⟩; intro w hSw; (try dsimp only at hSw); go_simp; (try with_reducible rfl)); skip)
        (try simp only [Act.put, List.setIfInBounds_toArray, List.set_cons_zero, List.set_cons_succ])
        (refine heldTake (i := 5) (oi := { dst := some 19, op := Op.move (Operand.tmp 2), type := 35, pos := "ref.go:214", after := #[], guard := none }) (v := ?_) rfl (by kernel_rfl) (by kernel_rfl) (by kernel_rfl) (by assumption) ?_ ?_; rotate_left; focus (refine .inl ⟨by kernel_rfl, ?_⟩; intro w hSw; (try dsimp only at hSw); go_simp; (try with_reducible rfl)); skip)
        (try simp only [Act.put, List.setIfInBounds_toArray, List.set_cons_zero, List.set_cons_succ])
        (refine heldTake (i := 6) (oi := { dst := some 20, op := Op.move (Operand.tmp 8), type := 3, pos := "ref.go:214", after := #[], guard := none }) (v := ?_) rfl (by kernel_rfl) (by kernel_rfl) (by kernel_rfl) (by assumption) ?_ ?_; rotate_left; focus (refine .inl ⟨by kernel_rfl, ?_⟩; intro w hSw; (try dsimp only at hSw); go_simp; (try with_reducible rfl)); skip)
        (try simp only [Act.put, List.setIfInBounds_toArray, List.set_cons_zero, List.set_cons_succ])
        (refine heldTake (i := 7) (oi := { dst := some 21, op := Op.indexAddr 35 (Operand.tmp 19) (Operand.tmp 20), type := 0, pos := "ref.go:214", after := #[{ on := 5, ground := Ground.data }, { on := 6, ground := Ground.data }], guard := none }) (v := ?_) rfl (by kernel_rfl) (by kernel_rfl) (by kernel_rfl) (by assumption) ?_ ?_; rotate_left; focus (refine .inl ⟨by kernel_rfl, ?_⟩; intro w hSw; (try dsimp only at hSw); go_simp; (try with_reducible rfl)); skip)
        (try simp only [Act.put, List.setIfInBounds_toArray, List.set_cons_zero, List.set_cons_succ])
        (refine heldTake (i := 8) (oi := { dst := some 22, op := Op.load 4 (Operand.tmp 21), type := 4, pos := "ref.go:214", after := #[{ on := 7, ground := Ground.data }], guard := none }) (v := ?_) rfl (by kernel_rfl) (by kernel_rfl) (by kernel_rfl) (by assumption) ?_ ?_; rotate_left; focus (refine .inl ⟨by kernel_rfl, ?_⟩; intro w hSw; (try dsimp only at hSw); go_simp; (try with_reducible rfl)); skip)
        (try simp only [Act.put, List.setIfInBounds_toArray, List.set_cons_zero, List.set_cons_succ])
        (refine heldTake (i := 9) (oi := { dst := some 23, op := Op.binOp BinOp.neq 4 (Operand.tmp 18) (Operand.tmp 22) 4, type := 4, pos := "ref.go:214", after := #[{ on := 4, ground := Ground.data }, { on := 8, ground := Ground.data }], guard := none }) (v := ?_) rfl (by kernel_rfl) (by kernel_rfl) (by kernel_rfl) (by assumption) ?_ ?_; rotate_left; focus (refine .inl ⟨by kernel_rfl, ?_⟩; intro w hSw; (try dsimp only at hSw); go_simp; (try with_reducible rfl)); skip)
        (try simp only [Act.put, List.setIfInBounds_toArray, List.set_cons_zero, List.set_cons_succ])
        refine wpAnyH_ready (rs := [10]) (by kernel_rfl) (by simp) ?_
        refine (AllReadyH.cons (o := { dst := some 24, op := Op.buildSlice 35 1 #[(0, Operand.tmp 23)], type := 35, pos := "ref.go:214", after := #[{ on := 9, ground := Ground.data }], guard := none }) rfl (fun K hK => ?_) AllReadyH.nil)
        refine step_buildB rfl _ rfl false rfl ?_; intro g3 w3 hg3 hb3 hx3; have HB10 := Lib.hid hb3; have HX3 := Lib.hid hx3; have hk3 := And.intro (And.intro ((hb3.cell (p := ⟨bl, off + k, none⟩) (block_lt_of_cell hHeld.1.1)).trans hHeld.1.1) ((hb3.cell (p := ⟨bl2, off2 + k, none⟩) (block_lt_of_cell hHeld.1.2)).trans hHeld.1.2)) (hHeld.2.trans (hb3.mono hHeld.2.size)); clear hb3 hx3
        refine hK.out _ _ hk3 (fun hHeld10 => ?_)
        clear hK K hHeld
        (try simp only [Act.put, List.setIfInBounds_toArray, List.set_cons_zero, List.set_cons_succ])
        refine wpAnyH_ready (rs := [11]) (by kernel_rfl) (by simp) ?_
        refine (AllReadyH.cons (o := { dst := some 25, op := Op.call { callee := Callee.builtin Builtin.append, args := #[Operand.tmp 14, Operand.tmp 24], argTypes := #[35, 35] }, type := 35, pos := "ref.go:214", after := #[{ on := 0, ground := Ground.data }, { on := 10, ground := Ground.data }], guard := none }) rfl (fun K hK => ?_) AllReadyH.nil)
        refine step_rowB rfl _ _ rfl w.heap.size _ acc rfl (HR.out.later ((Below.refl _ _).drew.trans HB10.out)) g3 false rfl HX3.out hlen hHeld10.2.size ?_; intro v5 w5 hr5 hb5 hg5; have HR5 := Lib.hid hr5; have hs5 := And.intro (And.intro ((hb5.cell (p := ⟨bl, off + k, none⟩) hbl).trans hHeld10.1.1) ((hb5.cell (p := ⟨bl2, off2 + k, none⟩) hbl2).trans hHeld10.1.2)) (hHeld10.2.trans hb5); clear hr5 hb5 hg5
        refine hK.out _ _ hs5 (fun hHeld11 => ?_)
        clear hK K hHeld10
        (try simp only [Act.put, List.setIfInBounds_toArray, List.set_cons_zero, List.set_cons_succ])
        (refine heldTake (i := 12) (oi := { dst := some 7, op := Op.assign (Operand.tmp 25), type := 35, pos := "ref.go:214", after := #[{ on := 11, ground := Ground.data }, { on := 11, ground := Ground.chain }, { on := 0, ground := Ground.phase }, { on := 1, ground := Ground.phase }, { on := 2, ground := Ground.phase }, { on := 3, ground := Ground.phase }, { on := 4, ground := Ground.phase }, { on := 5, ground := Ground.phase }, { on := 6, ground := Ground.phase }, { on := 7, ground := Ground.phase }, { on := 8, ground := Ground.phase }, { on := 9, ground := Ground.phase }, { on := 10, ground := Ground.phase }, { on := 11, ground := Ground.phase }], guard := none }) (v := ?_) rfl (by kernel_rfl) (by kernel_rfl) (by kernel_rfl) (by assumption) ?_ ?_; rotate_left; focus (refine .inl ⟨by kernel_rfl, ?_⟩; intro w hSw; (try dsimp only at hSw); go_simp; (try with_reducible rfl)); skip)
        (try simp only [Act.put, List.setIfInBounds_toArray, List.set_cons_zero, List.set_cons_succ])
        refine wpAnyH_done (by kernel_rfl) ?_ _
        refine NoPanic.normal ?_
        have hLast := hHeld11
        clear hHeld11
        go_wp2
        go_roundw
        case rel => exact ⟨k + 1, by omega, by go_num, by rw [HD.out]; exact HR5.out, hLast.2⟩
        case measure => simp [intOf]; omega
    · obtain rfl : k = 32 := by omega
      rw [List.take_of_length_le (by rw [HAL.out]; omega)] at hr
      obtain ⟨A9, c9, rfl, ho⟩ := hr.ob (by rw [HAL.out]; omega)
      rw [HAL.out, na]
      have HO := Lib.hid (numbert (c := c9) ho.lb (by rw [HAL.out]; exact na))
      have HBW := Lib.hid hbw
      clear hr hbw ho
      go_wp2_with (go_at_call 14; go_must ((with_reducible refine HO.out.mono ?_); rintro e w9 ⟨rfl, rfl⟩))
      go_ret
      exact ⟨rfl, HBW.out⟩
end Go.Proofs.Ytfjlknanaempdaa
