/- wire.Sized, bodies.locals, bodies.Put. -/
import Derived.Test.YtebgmfjgapmpfabGreatDoorQf07
import Derived.Test.YtebgmfjgapmpfabGreatDoorQf08
import Derived.Deep.CutBlock
import Derived.Deep.DeepCutAuto
import Derived.Test.YtebgmfjgapmpfabGreatDoorQf06
import Derived.Test.YtebgmfjgapmpfabGreatDoorQf03
import Derived.Test.YtebgmfjgapmpfabGreatDoorQf05
import Derived.OwnWalk
namespace Go.Proofs.YtebgmfjgapmpfabGreatDoor
open Go.RowKit
set_option linter.unusedVariables false
set_option maxRecDepth 100000

/-- append of what lies somewhere: what is old stays, but for the row. -/
theorem row_liesG {w : World} {ops : Array Oper} {rest : List Oper} {o : Oper} {a : Act} {Q : Exit → Act → World → Prop} (hgd : o.guard = none) (s x : Operand)
    (ho : o.op = .call { callee := .builtin .append, args := #[s, x], argTypes := #[32, 32] })
    (B : Nat) (v : Value) (xs : List UInt8) (hs : a.eval s = v) (hr : Row w B v xs)
    (A : Option Addr) (m c B' : Nat) (news : List UInt8) (hx : a.eval x = .slice A m c) (hl : news.length = m) (hn : Lies w B' A (cells (nums news)))
    (hm : 0 < m) (hb : xs.length + news.length ≤ 1000000) (hB : B ≤ w.heap.size)
    (h : ∀ v' w', Row w' B v' (xs ++ news) → w.grownBy w' v.ownBlock → wpList Tryz.prog ops Q rest (a.put o.dst v') w') : wpList Tryz.prog ops Q (o :: rest) a w := by
  obtain ⟨i0, hi0, hz0, hz1, hz2⟩ := info_parts infoB
  have hcl : (cells (nums news)).length = m := by rw [cells_length, nums_length]; exact hl
  obtain ⟨b, off, rfl, _, _⟩ := hn.at_ (i := 0) (by omega)
  refine wpList_append_own _ hgd s x _ ho B 5 i0 _ 1 1 Tryz.underlying32 hi0 hz0 hz1 hz2 rfl (by omega) v _ _ hs hr ⟨b, off, none⟩ m c (cells (nums news)) hx (by omega) ?_ ?_ (by unfold maxLen; omega) (by omega) hB (fun v' w' h2 h3 _ => h v' w' ?_ h3)
  · intro j u hu
    obtain ⟨b', off', e, _, h2⟩ := hn j u hu
    injection e with e
    injection e with e1 e2
    subst e1; subst e2
    rw [Go.WideShapes.add_plain]; exact h2
  · intro u hu
    unfold cells at hu
    obtain ⟨c, _, rfl⟩ := List.mem_map.1 hu
    rfl
  · unfold Row
    rw [nums_append, List.length_append, hl]
    unfold cells at *
    rw [List.map_append]
    exact h2
theorem sized_w {w : World} {A : Option Addr} {c : Nat} {l : List UInt8} (hp : Pc A c l w) (hn : l.length ≤ 900000) :
    Calls Tryz.prog 53 #[.slice A l.length c] w (BytesL (lebL l.length ++ l) w) := by
  have HP := Lib.hid hp
  have HZ := Lib.hid (fun w => size_w l.length w (by omega))
  have hlen := lebL_len (l.length : Int) (by omega)
  clear hp
  generalize lebL (l.length : Int) = y at *
  go_enter Tryz.func53, Tryz.ntmps53
  go_wp2_with (first
    | (go_at_call 64; go_must ((with_reducible refine (HZ.out _).mono ?_); intro e w1 h; obtain ⟨v, rfl, hr, hb⟩ := h; have HR := Lib.hid hr; have HB := Lib.hid hb; have hz1 := hb.size; have HP1 := Lib.hid (HP.out.below hb); clear hr hb))
    | (at_builtin; (refine row_any rfl _ _ rfl w.heap.size _ y rfl HR.out A l.length c _ l rfl rfl HP1.out.lies HP1.out.nil (by omega) hz1 ?_; intro v2 w2 hr2 hb2; have HR2 := Lib.hid hr2; have HB2 := Lib.hid hb2; clear hr2 hb2)))
  go_ret
  exact ⟨_, rfl, HR2.out, HB.out.trans HB2.out⟩
/-- A row carried on. -/
structure RowB (B : Nat) (v : Value) (xs : List UInt8) (W : World) : Prop where
  r : Row W B v xs
theorem RowB.below {B : Nat} {v : Value} {xs : List UInt8} {W W' : World} (h : RowB B v xs W) (hb : Below W.heap.size W W') : RowB B v xs W' := ⟨h.r.later hb⟩
abbrev loC (x : Lo) : Array Value := #[.int .u32 x.n.toNat, .int .u8 x.t.toNat]
abbrev BxLo (w : World) (x : Lo) (W : World) : Prop := (Whole W w.heap.size 71 (loC x) ∧ Below w.heap.size w W) ∧ W.cell? ⟨w.heap.size, 0, none⟩ = some (.int .u32 x.n.toNat) ∧ W.cell? ⟨w.heap.size, 1, none⟩ = some (.int .u8 x.t.toNat)
theorem bxLo_on {w W W' : World} {x : Lo} (h : BxLo w x W) (hb : Below W.heap.size W W') : BxLo w x W' := ⟨⟨h.1.1.below hb, h.1.2.trans (hb.mono h.1.2.size)⟩, (h.1.1.below hb).cell 0, (h.1.1.below hb).cell 1⟩
theorem bxLo_start (w : World) (x : Lo) : BxLo w x (w.alloc (.cells (loC x) 71)) := ⟨⟨Whole.made _ _ _, below_box _ _⟩, (Whole.made w 71 (loC x)).cell 0, (Whole.made w 71 (loC x)).cell 1⟩
theorem bxLo_app {w W W' : World} {x : Lo} {B : Nat} (h : BxLo w x W) (hb : Below B W W') (hB : w.heap.size < B) : BxLo w x W' := by
  have hw : Whole W' w.heap.size 71 (loC x) := (hb.block _ hB).trans h.1.1
  exact ⟨⟨hw, h.1.2.trans (hb.mono (Nat.le_of_lt hB))⟩, hw.cell 0, hw.cell 1⟩
theorem index_o (x : UInt32) (w : World) : Calls Tryz.prog 93 #[.int .u32 x.toNat] w (BytesL (lebL x.toNat) w) := by
  have hx := x.toNat_lt
  have HU := Lib.hid (fun w => uintB (x.toNat : Int) w (by omega) (by omega))
  have wn : IntKind.u64.wrap (x.toNat : Int) = x.toNat := by simp [IntKind.wrap, IntKind.bits, IntKind.signed]; omega
  generalize lebL (x.toNat : Int) = y at *
  clear hx
  go_enter Tryz.func93, Tryz.ntmps93
  go_wp2_with (go_at_call 101; go_must ((with_reducible refine (HU.out _).mono ?_); intro e w1 h; obtain ⟨v, rfl, hr, hb⟩ := h; have HR := Lib.hid hr; have HB := Lib.hid hb; clear hr hb))
  go_ret
  exact ⟨_, rfl, HR.out, HB.out⟩
set_option maxHeartbeats 1600000 in
theorem putLocal_w (x : Lo) (w : World) : Calls Tryz.prog 55 #[.agg (loC x)] w (BytesL (lebL x.n.toNat ++ [x.t]) w) := by
  have hxn := x.n.toNat_lt
  have hB := bxLo_on (bxLo_start w x) (Below.refl _ _).drew
  have HI := Lib.hid (fun W => index_o x.n W)
  have hul := lebL_len (x.n.toNat : Int) (by omega)
  obtain ⟨u, hu⟩ : ∃ u, u = lebL (x.n.toNat : Int) := ⟨_, rfl⟩
  rw [← hu] at HI hul ⊢
  have HS := Lib.hid (show u.length + ([x.t] : List UInt8).length ≤ 1000000 by rw [List.length_singleton]; omega)
  clear hu hul hxn
  go_enter Tryz.func55, Tryz.ntmps55
  go_upto_region 1 with fail
  refine wp_region_noPanic ?_
  refine wp_region_held_drew (S := fun W => BxLo w x W) (by kernel_rfl) hB (fun hHeld => ?_)
  clear hB
  (refine heldTake (i := 0) (oi := { dst := some 3, op := Op.fieldAddr 71 (Operand.tmp 1) 0, type := 0, pos := "bodies.go:69", after := #[], guard := none }) (v := ?_) rfl (by kernel_rfl) (by kernel_rfl) (by kernel_rfl) (by assumption) ?_ ?_; rotate_left; focus (refine .inl ⟨by kernel_rfl, ?_⟩; intro w hSw; (try dsimp only at hSw); go_simp; (try with_reducible rfl)); (try simp only [Act.put, List.setIfInBounds_toArray, List.set_cons_zero, List.set_cons_succ]))
  (refine heldTake (i := 1) (oi := { dst := some 4, op := Op.load 69 (Operand.tmp 3), type := 69, pos := "bodies.go:69", after := #[{ on := 0, ground := Ground.data }], guard := none }) (v := ?_) rfl (by kernel_rfl) (by kernel_rfl) (by kernel_rfl) (by assumption) ?_ ?_; rotate_left; focus (refine .inl ⟨by kernel_rfl, ?_⟩; intro w hSw; (try dsimp only at hSw); go_simp; (try with_reducible rfl)); (try simp only [Act.put, List.setIfInBounds_toArray, List.set_cons_zero, List.set_cons_succ]))
  (refine heldTake (i := 3) (oi := { dst := some 6, op := Op.fieldAddr 71 (Operand.tmp 1) 1, type := 0, pos := "bodies.go:69", after := #[], guard := none }) (v := ?_) rfl (by kernel_rfl) (by kernel_rfl) (by kernel_rfl) (by assumption) ?_ ?_; rotate_left; focus (refine .inl ⟨by kernel_rfl, ?_⟩; intro w hSw; (try dsimp only at hSw); go_simp; (try with_reducible rfl)); (try simp only [Act.put, List.setIfInBounds_toArray, List.set_cons_zero, List.set_cons_succ]))
  (refine heldTake (i := 4) (oi := { dst := some 7, op := Op.load 5 (Operand.tmp 6), type := 5, pos := "bodies.go:69", after := #[{ on := 3, ground := Ground.data }], guard := none }) (v := ?_) rfl (by kernel_rfl) (by kernel_rfl) (by kernel_rfl) (by assumption) ?_ ?_; rotate_left; focus (refine .inl ⟨by kernel_rfl, ?_⟩; intro w hSw; (try dsimp only at hSw); go_simp; (try with_reducible rfl)); (try simp only [Act.put, List.setIfInBounds_toArray, List.set_cons_zero, List.set_cons_succ]))
  refine wpAnyH_ready (rs := [2, 5]) (by kernel_rfl) (by simp) ?_
  refine (AllReadyH.cons (o := { dst := some 5, op := Op.call { callee := Callee.value (Operand.func 93), args := #[Operand.tmp 4], argTypes := #[69] }, type := 32, pos := "bodies.go:69", after := #[{ on := 1, ground := Ground.data }], guard := none }) rfl (fun K hK => ?_) (AllReadyH.cons (o := { dst := some 8, op := Op.buildSlice 32 1 #[(0, Operand.tmp 7)], type := 32, pos := "bodies.go:69", after := #[{ on := 4, ground := Ground.data }], guard := none }) rfl (fun K hK => ?_) AllReadyH.nil))
  · go_simp
    (go_at_call 93; (with_reducible refine (HI.out _).mono ?_); rintro e w2 ⟨v2, rfl, hr2, hb2⟩; have hlt2 := hHeld.1.1.lt; have hsz2 := hb2.size; have HB2 := Lib.hid hb2; have HR2 := Lib.hid (RowB.mk hr2); clear hb2 hr2)
    refine hK.out _ _ (bxLo_on hHeld HB2.out) (fun hHeld2 => ?_)
    clear hK K hHeld
    (try simp only [Act.put, List.setIfInBounds_toArray, List.set_cons_zero, List.set_cons_succ])
    refine wpAnyH_ready (rs := [5]) (by kernel_rfl) (by simp) ?_
    refine (AllReadyH.cons (o := { dst := some 8, op := Op.buildSlice 32 1 #[(0, Operand.tmp 7)], type := 32, pos := "bodies.go:69", after := #[{ on := 4, ground := Ground.data }], guard := none }) rfl (fun K hK => ?_) AllReadyH.nil)
    refine step_build1 rfl _ rfl x.t rfl ?_; intro g5 wa5 hg5 hb5 hp5; have hsz5 := hb5.size; have HB5 := Lib.hid hb5; have HP5 := Lib.hid hp5; clear hb5 hp5
    refine hK.out _ _ (bxLo_on hHeld2 HB5.out) (fun hHeld5 => ?_)
    clear hK K hHeld2
    (try simp only [Act.put, List.setIfInBounds_toArray, List.set_cons_zero, List.set_cons_succ])
    refine wpAnyH_ready (rs := [6]) (by kernel_rfl) (by simp) ?_
    refine (AllReadyH.cons (o := { dst := some 9, op := Op.call { callee := Callee.builtin Builtin.append, args := #[Operand.tmp 5, Operand.tmp 8], argTypes := #[32, 32] }, type := 32, pos := "bodies.go:69", after := #[{ on := 2, ground := Ground.data }, { on := 5, ground := Ground.data }, { on := 2, ground := Ground.chain }], guard := none }) rfl (fun K hK => ?_) AllReadyH.nil)
    refine step_lies rfl _ _ rfl _ _ u rfl (((HR2.out).below HB5.out)).r (some ⟨g5, 0, none⟩) 1 1 _ [x.t] rfl rfl (HP5.out).lies (by decide) HS.out (by omega) ?_; intro v6 w6 hr6 hb6; have hk6 := bxLo_app hHeld5 hb6 hlt2; have HR6 := Lib.hid (hr6.mono (Nat.le_of_lt hlt2)); clear hr6 hb6
    refine hK.out _ _ hk6 (fun hHeld6 => ?_)
    clear hK K hHeld5
    (try simp only [Act.put, List.setIfInBounds_toArray, List.set_cons_zero, List.set_cons_succ])
    (refine heldTake (i := 7) (oi := { dst := some 2, op := Op.assign (Operand.tmp 9), type := 32, pos := "bodies.go:69", after := #[{ on := 6, ground := Ground.data }, { on := 6, ground := Ground.chain }, { on := 0, ground := Ground.phase }, { on := 1, ground := Ground.phase }, { on := 2, ground := Ground.phase }, { on := 3, ground := Ground.phase }, { on := 4, ground := Ground.phase }, { on := 5, ground := Ground.phase }, { on := 6, ground := Ground.phase }], guard := none }) (v := ?_) rfl (by kernel_rfl) (by kernel_rfl) (by kernel_rfl) (by assumption) ?_ ?_; rotate_left; focus (refine .inl ⟨by kernel_rfl, ?_⟩; intro w hSw; (try dsimp only at hSw); go_simp; (try with_reducible rfl)); (try simp only [Act.put, List.setIfInBounds_toArray, List.set_cons_zero, List.set_cons_succ]))
    refine wpAnyH_done (by kernel_rfl) ?_ _
    refine NoPanic.normal ?_
    have hLast := hHeld6
    clear hHeld6
    go_wp2
    go_ret
    exact ⟨_, rfl, HR6.out, hLast.1.2⟩
  · refine step_build1 rfl _ rfl x.t rfl ?_; intro g5 wa5 hg5 hb5 hp5; have hsz5 := hb5.size; have HB5 := Lib.hid hb5; have HP5 := Lib.hid hp5; clear hb5 hp5
    refine hK.out _ _ (bxLo_on hHeld HB5.out) (fun hHeld5 => ?_)
    clear hK K hHeld
    (try simp only [Act.put, List.setIfInBounds_toArray, List.set_cons_zero, List.set_cons_succ])
    refine wpAnyH_ready (rs := [2]) (by kernel_rfl) (by simp) ?_
    refine (AllReadyH.cons (o := { dst := some 5, op := Op.call { callee := Callee.value (Operand.func 93), args := #[Operand.tmp 4], argTypes := #[69] }, type := 32, pos := "bodies.go:69", after := #[{ on := 1, ground := Ground.data }], guard := none }) rfl (fun K hK => ?_) AllReadyH.nil)
    go_simp
    (go_at_call 93; (with_reducible refine (HI.out _).mono ?_); rintro e w2 ⟨v2, rfl, hr2, hb2⟩; have hlt2 := hHeld5.1.1.lt; have hsz2 := hb2.size; have HB2 := Lib.hid hb2; have HR2 := Lib.hid (RowB.mk hr2); clear hb2 hr2)
    refine hK.out _ _ (bxLo_on hHeld5 HB2.out) (fun hHeld2 => ?_)
    clear hK K hHeld5
    (try simp only [Act.put, List.setIfInBounds_toArray, List.set_cons_zero, List.set_cons_succ])
    refine wpAnyH_ready (rs := [6]) (by kernel_rfl) (by simp) ?_
    refine (AllReadyH.cons (o := { dst := some 9, op := Op.call { callee := Callee.builtin Builtin.append, args := #[Operand.tmp 5, Operand.tmp 8], argTypes := #[32, 32] }, type := 32, pos := "bodies.go:69", after := #[{ on := 2, ground := Ground.data }, { on := 5, ground := Ground.data }, { on := 2, ground := Ground.chain }], guard := none }) rfl (fun K hK => ?_) AllReadyH.nil)
    refine step_lies rfl _ _ rfl _ _ u rfl (HR2.out).r (some ⟨g5, 0, none⟩) 1 1 _ [x.t] rfl rfl (((HP5.out).below HB2.out)).lies (by decide) HS.out (by omega) ?_; intro v6 w6 hr6 hb6; have hk6 := bxLo_app hHeld2 hb6 hlt2; have HR6 := Lib.hid (hr6.mono (Nat.le_of_lt hlt2)); clear hr6 hb6
    refine hK.out _ _ hk6 (fun hHeld6 => ?_)
    clear hK K hHeld2
    (try simp only [Act.put, List.setIfInBounds_toArray, List.set_cons_zero, List.set_cons_succ])
    (refine heldTake (i := 7) (oi := { dst := some 2, op := Op.assign (Operand.tmp 9), type := 32, pos := "bodies.go:69", after := #[{ on := 6, ground := Ground.data }, { on := 6, ground := Ground.chain }, { on := 0, ground := Ground.phase }, { on := 1, ground := Ground.phase }, { on := 2, ground := Ground.phase }, { on := 3, ground := Ground.phase }, { on := 4, ground := Ground.phase }, { on := 5, ground := Ground.phase }, { on := 6, ground := Ground.phase }], guard := none }) (v := ?_) rfl (by kernel_rfl) (by kernel_rfl) (by kernel_rfl) (by assumption) ?_ ?_; rotate_left; focus (refine .inl ⟨by kernel_rfl, ?_⟩; intro w hSw; (try dsimp only at hSw); go_simp; (try with_reducible rfl)); (try simp only [Act.put, List.setIfInBounds_toArray, List.set_cons_zero, List.set_cons_succ]))
    refine wpAnyH_done (by kernel_rfl) ?_ _
    refine NoPanic.normal ?_
    have hLast := hHeld6
    clear hHeld6
    go_wp2
    go_ret
    exact ⟨_, rfl, HR6.out, hLast.1.2⟩
theorem cfPL (a : Array Value) (w : World) : (callFunc 55 a).run Tryz.prog w = .ok (.enter 55 a) w := by kernel_rfl
set_option maxHeartbeats 4000000 in
theorem locals_any {w : World} {A : Option Addr} {c : Nat} {l : List Lo} (hl : Los w A l) (h50 : l.length ≤ 50) :
    Calls Tryz.prog 54 #[.slice A l.length c, .func (.func 55) #[] #[]] w (BytesL (lebL l.length ++ losL l) w) := by
  have HL := Lib.hid hl
  have HZ := Lib.hid (fun w => size_w l.length w (by omega))
  have HLT := Lib.hid (fun k => losL_take l k h50)
  have hhd := lebL_len (l.length : Int) (by omega)
  obtain ⟨hd, hhe⟩ : ∃ hd, hd = lebL (l.length : Int) := ⟨_, rfl⟩
  obtain ⟨P, hP⟩ : ∃ P, P = lebL (l.length : Int) ++ losL l := ⟨_, rfl⟩
  rw [← hP]
  rw [← hhe] at hP HZ hhd
  have HP := Lib.hid hP
  obtain ⟨n, hnn⟩ : ∃ n, n = l.length := ⟨_, rfl⟩
  have HNN := Lib.hid hnn
  rw [← hnn] at h50 HZ ⊢
  have hcf := cfPL
  clear hl hnn hP hhe
  go_enter Tryz.func54, Tryz.ntmps54
  go_wp2_with (go_at_call 64; go_must ((with_reducible refine (HZ.out _).mono ?_); intro e w1 h; obtain ⟨v, rfl, hr, hb⟩ := h; have HR := Lib.hid hr; have HB := Lib.hid hb; clear hr hb))
  go_loopw [5, 13] (fun v i wr => ∃ (k : Nat), k ≤ n ∧ i = .int .i64 k ∧ Row wr w.heap.size v (hd ++ losL (l.take k)) ∧ Below w.heap.size w wr) (fun _ i _ => n - (intOf i).toNat)
  case atStart => exact ⟨0, Nat.zero_le _, rfl, by simpa [losL] using HR.out, HB.out⟩
  case round =>
    obtain ⟨k, hk, rfl, hr, hb⟩ := hrel
    have hz1 := hb.size
    by_cases hlt : k < n
    · obtain ⟨x, hx⟩ : ∃ x, l[k]? = some x := ⟨_, List.getElem?_eq_getElem (by rw [← HNN.out]; exact hlt)⟩
      obtain ⟨b, off, rfl, hbl, c0, c1⟩ := (HL.out.below hb) k x hx
      have HS := Lib.hid (losL_snoc hx)
      have hlt2 := HLT.out k
      have HBA := Lib.hid (hb.alloc hz1 (.cells #[.int .u32 x.n.toNat, .int .u8 x.t.toNat] 71))
      have HRA := Lib.hid (hr.alloc (.cells #[.int .u32 x.n.toNat, .int .u8 x.t.toNat] 71))
      have HPL := Lib.hid (fun W => show Calls Tryz.prog 55 #[.agg #[.int .u32 x.n.toNat, .int .u8 x.t.toNat]] W (BytesL (lebL x.n.toNat ++ [x.t]) W) from putLocal_w x W)
      have hxn := x.n.toNat_lt
      have hul := lebL_len (x.n.toNat : Int) (by omega)
      obtain ⟨t, ht⟩ : ∃ t, t = hd ++ losL (l.take k) := ⟨_, rfl⟩
      have htn : t.length ≤ 600 := by rw [ht, List.length_append]; omega
      have HT := Lib.hid ht
      rw [← ht] at HRA
      obtain ⟨u, hu⟩ : ∃ u, u = lebL (x.n.toNat : Int) ++ [x.t] := ⟨_, rfl⟩
      have hu1 : 0 < u.length ∧ u.length ≤ 30 := by rw [hu, List.length_append, List.length_singleton]; omega
      rw [← hu] at HPL HS
      have hs1 : t.length + u.length ≤ 1000000 := by omega
      have HU0 := Lib.hid hu1.1
      clear hx hr hb ht hu hlt2 htn hul hu1 hxn
      go_wp2_with (first
        | (go_at_call 55; go_must ((with_reducible refine (HPL.out _).mono ?_); intro e w3 h; obtain ⟨v3, rfl, hr3, hb3⟩ := h; obtain ⟨A3, c3, rfl, hp3⟩ := hr3.pc; have HP3 := Lib.hid hp3; have HR3 := Lib.hid (HRA.out.later hb3); have HB3 := Lib.hid (HBA.out.trans (hb3.mono HBA.out.size)); have hz3 := HB3.out.size; clear hr3 hb3 hp3))
        | (at_builtin; go_must (refine row_liesG rfl _ _ rfl w.heap.size _ t rfl HR3.out A3 u.length c3 w3.heap.size u rfl rfl HP3.out.lies HU0.out hs1 hz3 ?_; intro v4 w4 hr4 hg4; have HR4 := Lib.hid hr4; have HB4 := Lib.hid (HB3.out.trans (Row.below HR3.out hz3 hg4)); clear hr4 hg4)))
      go_roundw
      case rel => exact ⟨k + 1, by omega, by go_num, by rw [HS.out, ← List.append_assoc, ← HT.out]; exact HR4.out, HB4.out⟩
      case measure => simp [intOf]; omega
    · have hkn : k = l.length := by rw [← HNN.out]; omega
      rw [hkn, List.take_length, ← HP.out] at hr
      have HR2 := Lib.hid hr
      have HB2 := Lib.hid hb
      clear hr hb hkn
      go_wp2
      go_ret
      exact ⟨_, rfl, HR2.out, HB2.out⟩
/-- What Put hands back. -/
def PuttedBd (x : Bd) (w : World) (e : Ending) (w' : World) : Prop := ∃ v, e = .returned (.tuple #[v, .int .i64 (brZ x)]) ∧ Row w' w.heap.size v (if brZ x = 0 then codeL x else []) ∧ Below w.heap.size w w'
theorem brZ_code {x : Bd} (h : bshZ x = 0) : brZ x = codeZ x.b := by
  unfold brZ codeZ
  rw [if_neg (by omega)]
  unfold bshZ at h
  split at h
  · omega
  · split at h
    · omega
    · rw [if_pos h]
set_option maxHeartbeats 8000000 in
theorem put_bd {w : World} {x : Bd} {L : Option Addr} {l : Nat} {B : Option Addr} {c : Nat} (hT : Tabs w) (hl : Los w L x.ls) (hi : Ins w B x.b) (h50 : x.ls.length ≤ 50) (h60 : x.b.length ≤ 60) (hok : ∀ i ∈ x.b, i.Ok ∧ i.l.length ≤ 100) :
    Calls Tryz.prog 28 #[bdV x L l B c] w (PuttedBd x w) := by
  have H0 := Lib.hid (bxBd_start w x L l B c)
  have hb0 := below_box w (.cells (bdC x L l B c) 28)
  have HR := Lib.hid (bright_any (l := l) (c := c) (hT.below hb0) (hl.below hb0) (hi.below hb0) (by omega) (by omega))
  have HPB := Lib.hid (fun W (h : Below w.heap.size w W) => putBody_any (c := c) (hT.below h) (hi.below h) h60 hok)
  have HLC := Lib.hid (fun W (h : Below w.heap.size w W) => locals_any (c := l) (hl.below h) h50)
  have hbl := bputL_len h50 h60 hok
  have hsp : codeL x = lebL ((bputL x).length : Int) ++ bputL x := rfl
  have hsp2 : bputL x = (lebL (x.ls.length : Int) ++ losL x.ls) ++ bodyL x.b := rfl
  unfold PuttedBd
  clear hT hl hi hok hb0
  by_cases h0 : bshZ x = 0
  · rw [h0] at HR
    rw [brZ_code h0]
    by_cases h1 : codeZ x.b = 0
    · rw [if_pos h1, h1]
      have HPB2 := Lib.hid (fun W (h : Below w.heap.size w W) => show Calls Tryz.prog 52 #[.slice B x.b.length c] W fun e w' => ∃ v, e = .returned (.tuple #[v, .int .i64 0]) ∧ Row w' W.heap.size v (bodyL x.b) ∧ Below W.heap.size W w' from (HPB.out W h).mono fun e w' ⟨v, a1, a2, a3⟩ => ⟨v, by rw [h1] at a1; exact a1, by rw [if_pos h1] at a2; exact a2, a3⟩)
      rw [hsp]
      obtain ⟨z, hz⟩ : ∃ z, z = bputL x := ⟨_, rfl⟩
      rw [← hz] at hsp2 hbl ⊢
      obtain ⟨g, hg⟩ : ∃ g, g = lebL (x.ls.length : Int) ++ losL x.ls := ⟨_, rfl⟩
      obtain ⟨y, hy⟩ : ∃ y, y = bodyL x.b := ⟨_, rfl⟩
      rw [← hg] at HLC hsp2
      rw [← hy] at HPB2 hsp2
      have HZE := Lib.hid hsp2
      have hgy : g.length + y.length ≤ 1000000 := by have := congrArg List.length hsp2; rw [List.length_append] at this; omega
      have HZS := Lib.hid (fun W A c (h : Pc A c z W) => sized_w (c := c) h (by omega))
      clear hsp hsp2 h0 h1 hg hy hz HPB
      go_enter Tryz.func28, Tryz.ntmps28
      go_wp2_with (first
        | (go_at_call 51; go_must ((with_reducible refine HR.out.mono ?_); rintro e w1 ⟨rfl, hb⟩; have H1 := Lib.hid (bxBd_on H0.out hb); obtain ⟨c0, c1⟩ := H1.out.2; clear hb))
        | (go_at_call 52; go_must ((with_reducible refine (HPB2.out _ (bxBd_bel H1.out)).mono ?_); intro e w2 hq; obtain ⟨v2, rfl, hr, hb⟩ := hq; obtain ⟨A2, cp2, rfl, hpc⟩ := hr.pc; clear c0 c1; have HP2 := Lib.hid hpc; have H2 := Lib.hid (bxBd_on H1.out hb); obtain ⟨c0, c1⟩ := H2.out.2; clear hb hr hpc))
        | (go_at_call 54; go_must ((with_reducible refine (HLC.out _ (bxBd_bel H2.out)).mono ?_); intro e w3 hq; obtain ⟨v3, rfl, hr, hb⟩ := hq; have HR3 := Lib.hid hr; have H3 := Lib.hid (bxBd_on H2.out hb); have HP3 := Lib.hid (HP2.out.below hb); have hz3 := hb.size; clear hb hr c0 c1))
        | (go_at_call 53; go_must ((with_reducible refine (HZS.out _ _ _ HP4.out).mono ?_); intro e w5 hq; obtain ⟨v5, rfl, hr, hb⟩ := hq; have HR5 := Lib.hid hr; have HB5 := Lib.hid (HB4.out.trans (hb.mono HB4.out.size)); clear hb hr))
        | (at_builtin; (refine row_any rfl _ _ rfl w2.heap.size _ g rfl HR3.out A2 y.length cp2 _ y rfl rfl HP3.out.lies HP3.out.nil hgy hz3 ?_; intro v4 w4 hr4 hb4; rw [← HZE.out] at hr4; obtain ⟨A4, cp4, rfl, hpc4⟩ := hr4.pc; have HP4 := Lib.hid hpc4; have HB4 := Lib.hid ((bxBd_bel H3.out).trans (hb4.mono (bxBd_bel H2.out).size)); clear hr4 hb4 hpc4)))
      go_ret2
      exact ⟨_, rfl, HR5.out.mono HB4.out.size, HB5.out⟩
    · rw [if_neg h1]
      have d0 : (codeZ x.b != 0) = true := zb_of (by simpa using h1)
      have HPB2 := Lib.hid (fun W (h : Below w.heap.size w W) => show Calls Tryz.prog 52 #[.slice B x.b.length c] W fun e w' => ∃ v, e = .returned (.tuple #[v, .int .i64 (codeZ x.b)]) ∧ Below W.heap.size W w' from (HPB.out W h).mono fun e w' ⟨v, a1, a2, a3⟩ => ⟨v, a1, a3⟩)
      obtain ⟨z, hz⟩ : ∃ z, z = codeZ x.b := ⟨_, rfl⟩
      rw [← hz] at HPB2 d0 ⊢
      clear h0 h1 hz HPB hsp hsp2 HLC
      go_enter Tryz.func28, Tryz.ntmps28
      go_wp2_with (first
        | (go_at_call 51; go_must ((with_reducible refine HR.out.mono ?_); rintro e w1 ⟨rfl, hb⟩; have H1 := Lib.hid (bxBd_on H0.out hb); obtain ⟨c0, c1⟩ := H1.out.2; clear hb))
        | (go_at_call 52; go_must ((with_reducible refine (HPB2.out _ (bxBd_bel H1.out)).mono ?_); intro e w2 hq; obtain ⟨v2, rfl, hb⟩ := hq; clear c0 c1; have H2 := Lib.hid (bxBd_on H1.out hb); clear hb)))
      go_ret2
      exact ⟨_, rfl, Row.nil _ _, bxBd_bel H2.out⟩
  · have hbz : brZ x = bshZ x := by unfold brZ; rw [if_pos h0]
    rw [hbz, if_neg h0]
    have d0 : (bshZ x != 0) = true := zb_of (by simpa using h0)
    obtain ⟨z, hz⟩ : ∃ z, z = bshZ x := ⟨_, rfl⟩
    rw [← hz] at HR d0 ⊢
    clear h0 hz hbz HPB HLC hsp hsp2
    go_enter Tryz.func28, Tryz.ntmps28
    go_wp2_with (go_at_call 51; go_must ((with_reducible refine HR.out.mono ?_); rintro e w1 ⟨rfl, hb⟩; have H1 := Lib.hid (bxBd_on H0.out hb); clear hb))
    go_ret2
    exact ⟨_, rfl, Row.nil _ _, bxBd_bel H1.out⟩
end Go.Proofs.YtebgmfjgapmpfabGreatDoor

/- Bodies that lie somewhere; rows of bodies of the call's own, with their groups of locals and their instructions. -/
namespace Go.Proofs.YtebgmfjgapmpfabGreatDoor
open Go.RowKit
set_option linter.unusedVariables false
set_option maxRecDepth 100000

/-- Groups that were read: none, or the beginning of a block of their own. -/
def loL (x : Lo) : List Value := [.int .u32 x.n.toNat, .int .u8 x.t.toNat]
def LocT (W : World) (A : Option Addr) (ls : List Lo) : Prop := (A = none ∧ ls = []) ∨ ∃ g cur, A = some ⟨g, 0, none⟩ ∧ Whole W g 71 cur ∧ cur.toList.take (ls.length * 2) = ls.flatMap loL
theorem LocT.keep {W W' : World} {A : Option Addr} {ls : List Lo} {row : Option Nat} (h : LocT W A ls) (hg : W.grownBy W' row) (hq : ∀ a, A = some a → some a.block ≠ row) : LocT W' A ls := by
  rcases h with h | ⟨g, cur, rfl, h, ht⟩
  · exact .inl h
  · exact .inr ⟨g, cur, rfl, h.grown hg (hq _ rfl), ht⟩
theorem LocT.on {W W' : World} {A : Option Addr} {ls : List Lo} (h : LocT W A ls) (hb : Below W.heap.size W W') : LocT W' A ls := h.keep (gb_of_below none hb) (fun a _ => by simp)
theorem LocT.apart {W : World} {A : Option Addr} {ls : List Lo} (h : LocT W A ls) {q : Nat} {t : TypeId} {cs : Array Value} (hw : Whole W q t cs) (ht : t ≠ 71) : ∀ a, A = some a → some a.block ≠ some q := by
  rcases h with ⟨rfl, rfl⟩ | ⟨g, cur, rfl, h, _⟩
  · intro a e; cases e
  · intro a e
    injection e with e
    subst e
    simp only [ne_eq, Option.some.injEq]
    exact fun e => hw.apart h ht e.symm
theorem loc_own {W : World} {b : Nat} {e : TypeId} {s n : Nat} {v : Value} {xs : List Value} {A : Option Addr} {ls : List Lo} (hl : LocT W A ls) (h : W.ownsRow b e s v n xs) (ht : 71 ≠ e) : ∀ a, A = some a → some a.block ≠ v.ownBlock := by
  rcases hl with ⟨rfl, _⟩ | ⟨g, cur, rfl, hw, _⟩
  · intro a e; cases e
  · intro a e
    injection e with e
    subst e
    exact own_whole h hw ht
theorem flatLo_get : ∀ (l : List Lo) (j : Nat) (x : Lo) (u : Nat), l[j]? = some x → u < 2 → (l.flatMap loL)[j * 2 + u]? = (loL x)[u]?
  | [], j, x, u, h, _ => by cases h
  | y :: l, 0, x, u, h, hu => by
    injection h with h
    subst h
    rw [List.flatMap_cons, Nat.zero_mul, Nat.zero_add, List.getElem?_append_left (by show u < 2; exact hu)]
  | y :: l, j + 1, x, u, h, hu => by
    rw [List.flatMap_cons, List.getElem?_append_right (by show 2 ≤ _; omega)]
    have e : (j + 1) * 2 + u - (loL y).length = j * 2 + u := by show (j + 1) * 2 + u - 2 = _; omega
    rw [e]
    exact flatLo_get l j x u h hu
theorem LocT.los {W : World} {A : Option Addr} {ls : List Lo} (h : LocT W A ls) : Los W A ls := fun j x hx => by
  have hj := (List.getElem?_eq_some_iff.1 hx).1
  rcases h with ⟨_, rfl⟩ | ⟨g, cur, rfl, h, ht⟩
  · cases hx
  · have key : ∀ u, u < 2 → W.cell? ⟨g, 0 + j * 2 + u, none⟩ = (loL x)[u]? := fun u hu => by
      rw [h.cell, ← flatLo_get ls j x u hx hu, ← ht, List.getElem?_take, if_pos (by omega)]
      simp
    exact ⟨g, 0, rfl, h.lt, key 0 (by omega), key 1 (by omega)⟩
/-- A body, where its groups lie, where its instructions lie. -/
abbrev SlotBd := Bd × (Option Addr × Nat) × (Option Addr × Nat)
abbrev cC (x : SlotBd) : Array Value := bdC x.1 x.2.1.1 x.2.1.2 x.2.2.1 x.2.2.2
abbrev cV (x : SlotBd) : Value := .agg (cC x)
def cL (x : SlotBd) : List Value := (cC x).toList
theorem infoBd : (Tryz.prog.info? 28).map (fun i => (i.zero, i.size, i.bytes)) = some (some (.agg bdZ), 2, 48) := by kernel_rfl
/-- What a body that was read holds: its groups, its instructions with their labels, all behind a bound. -/
def HasBd (W : World) (base : Nat) (x : SlotBd) : Prop := (LocT W x.2.1.1 x.1.ls ∧ ∀ a, x.2.1.1 = some a → base ≤ a.block) ∧ ∃ rows, RowIL W base (.slice x.2.2.1 x.1.b.length x.2.2.2) rows ∧ rows.map (·.1) = x.1.b
theorem HasBd.past {W W' : World} {base b : Nat} {x : SlotBd} (h : HasBd W base x) (hg : W.grownBy W' (some b)) (hb : b < base) : HasBd W' base x := by
  obtain ⟨⟨h1, h2⟩, rows, h3, h4⟩ := h
  exact ⟨⟨h1.keep hg (fun a ha => by have := h2 a ha; simp only [ne_eq, Option.some.injEq]; omega), h2⟩, rows, h3.past hg hb, h4⟩
theorem HasBd.later {W W' : World} {base : Nat} {x : SlotBd} (h : HasBd W base x) (hb : Below W.heap.size W W') : HasBd W' base x := by
  obtain ⟨⟨h1, h2⟩, rows, h3, h4⟩ := h
  exact ⟨⟨h1.on hb, h2⟩, rows, h3.later hb, h4⟩
theorem HasBd.mono {W : World} {base base' : Nat} {x : SlotBd} (h : HasBd W base x) (hb : base' ≤ base) : HasBd W base' x := by
  obtain ⟨⟨h1, h2⟩, rows, h3, h4⟩ := h
  exact ⟨⟨h1, fun a ha => Nat.le_trans hb (h2 a ha)⟩, rows, h3.mono hb, h4⟩
theorem HasBd.beside {W W' : World} {base b n : Nat} {u : Value} {xs : List Value} {x : SlotBd} (h : HasBd W base x) (hr : W.ownsRow b 28 2 u n xs) (hg : W.grownBy W' u.ownBlock) : HasBd W' base x := by
  obtain ⟨⟨h1, h2⟩, rows, h3, h4⟩ := h
  exact ⟨⟨h1.keep hg (loc_own h1 hr (by decide)), h2⟩, rows, h3.beside hr hg (by decide) (by decide), h4⟩
/-- A row of bodies of the call's own; what each holds lies behind the row's bound. -/
structure RowBd (W : World) (base : Nat) (v : Value) (rows : List SlotBd) : Prop where
  own : W.ownsRow base 28 2 v rows.length (rows.flatMap cL)
  has : ∀ x ∈ rows, HasBd W base x
theorem RowBd.nil (W : World) (base : Nat) : RowBd W base (.slice none 0 0) [] := ⟨World.ownsRow_nil W base _ 2, fun x hx => by cases hx⟩
theorem RowBd.slice {W : World} {base : Nat} {v : Value} {rows : List SlotBd} (h : RowBd W base v rows) : ∃ A c, v = .slice A rows.length c := by
  rcases h.own.2 with ⟨rfl, h0⟩ | ⟨g, cap, cur, rfl, _⟩
  · exact ⟨none, 0, by rw [h0]⟩
  · exact ⟨_, cap, rfl⟩
theorem RowBd.lt {W : World} {base : Nat} {v : Value} {rows : List SlotBd} (h : RowBd W base v rows) : ∀ k, v.ownBlock = some k → base ≤ k ∧ k < W.heap.size := World.ownsRow.lt h.own
theorem RowBd.past {W W' : World} {base b : Nat} {v : Value} {rows : List SlotBd} (h : RowBd W base v rows) (hg : W.grownBy W' (some b)) (hb : b < base) : RowBd W' base v rows :=
  ⟨World.ownsRow.kept h.own hg (by
    cases hv : v.ownBlock with
    | none => exact .inl rfl
    | some k => exact .inr (by have := (World.ownsRow.lt h.own k hv).1; simp only [ne_eq, Option.some.injEq]; omega)),
   fun x hx => (h.has x hx).past hg hb⟩
theorem RowBd.later {W W' : World} {base : Nat} {v : Value} {rows : List SlotBd} (h : RowBd W base v rows) (hb : Below W.heap.size W W') : RowBd W' base v rows :=
  ⟨World.ownsRow.kept h.own (gb_of_below none hb) (by cases v.ownBlock with
    | none => exact .inl rfl
    | some k => exact .inr (by simp)), fun x hx => (h.has x hx).later hb⟩
theorem RowBd.alloc {W : World} {base : Nat} {v : Value} {rows : List SlotBd} (h : RowBd W base v rows) (o : Obj) : RowBd (W.alloc o) base v rows := h.later (below_box W o)
theorem RowBd.mono {W : World} {base base' : Nat} {v : Value} {rows : List SlotBd} (h : RowBd W base v rows) (hb : base' ≤ base) : RowBd W base' v rows := by
  obtain ⟨⟨h1, h2⟩, h3⟩ := h
  refine ⟨⟨h1, ?_⟩, fun x hx => (h3 x hx).mono hb⟩
  rcases h2 with h2 | ⟨g, cap, cur, e, hg, r⟩
  · exact .inl h2
  · exact .inr ⟨g, cap, cur, e, Nat.le_trans hb hg, r⟩
/-- append of a new block of one body. -/
theorem rowBd_new {w : World} {ops : Array Oper} {rest : List Oper} {o : Oper} {a : Act} {Q : Exit → Act → World → Prop} (hgd : o.guard = none) (s x : Operand)
    (ho : o.op = .call { callee := .builtin .append, args := #[s, x], argTypes := #[22, 22] })
    (B : Nat) (v : Value) (l : List SlotBd) (hs : a.eval s = v) (hr : RowBd w B v l) (g : Nat) (r : SlotBd) (hx : a.eval x = .slice (some ⟨g, 0, none⟩) 1 1)
    (hg : Whole w g 28 (cC r)) (hlr : HasBd w B r) (hb : l.length ≤ 10000) (hB : B ≤ w.heap.size)
    (h : ∀ v' w', RowBd w' B v' (l ++ [r]) → w.grownBy w' v.ownBlock → wpList Tryz.prog ops Q rest (a.put o.dst v') w') : wpList Tryz.prog ops Q (o :: rest) a w := by
  obtain ⟨i0, hi0, hz0, hz1, hz2⟩ := info_parts infoBd
  refine wpList_append_own _ hgd s x _ ho B 28 i0 _ 2 48 Tryz.underlying22 hi0 hz0 hz1 hz2 rfl (by omega) v _ _ hs hr.own ⟨g, 0, none⟩ 1 1 (cL r) hx rfl ?_ ?_ (by unfold maxLen; omega) (by omega) hB (fun v' w' h2 h3 _ => h v' w' ⟨?_, ?_⟩ h3)
  · intro j u hu
    rw [Go.WideShapes.add_plain, Nat.zero_add, hg.cell, ← Array.getElem?_toList]
    exact hu
  · intro u hu
    unfold cL at hu
    simp only [List.mem_cons, List.not_mem_nil, or_false] at hu
    rcases hu with rfl | rfl <;> rfl
  · rw [List.length_append, List.flatMap_append]
    simpa using h2
  · intro y hy
    rcases List.mem_append.1 hy with hy | hy
    · exact (hr.has y hy).beside hr.own h3
    · rw [List.mem_singleton] at hy
      subst hy
      exact hlr.beside hr.own h3

/-- The slice at A reads as these bodies, and what each holds lies. -/
def Bds (w : World) (A : Option Addr) (l : List SlotBd) : Prop :=
  ∀ j x, l[j]? = some x → (∃ b off, A = some ⟨b, off, none⟩ ∧ b < w.heap.size ∧ ∀ u, u < 2 → w.cell? ⟨b, off + j * 2 + u, none⟩ = (cL x)[u]?) ∧ Los w x.2.1.1 x.1.ls ∧ Ins w x.2.2.1 x.1.b
theorem Bds.below {w w' : World} {A : Option Addr} {l : List SlotBd} (h : Bds w A l) (hb : Below w.heap.size w w') : Bds w' A l := fun j x hx => by
  obtain ⟨⟨b, off, e, h1, h2⟩, h3, h4⟩ := h j x hx
  exact ⟨⟨b, off, e, Nat.lt_of_lt_of_le h1 hb.size, fun u hu => (hb.cell (p := ⟨b, _, none⟩) h1).trans (h2 u hu)⟩, h3.below hb, h4.below hb⟩
/-- The two cells of one of them, as a walk writes them. -/
abbrev TwoAtB (w : World) (b : Nat) (o : Nat) (x : SlotBd) : Prop := w.cell? ⟨b, o, none⟩ = some (.slice x.2.1.1 x.1.ls.length x.2.1.2) ∧ w.cell? ⟨b, o + 1, none⟩ = some (.slice x.2.2.1 x.1.b.length x.2.2.2)
theorem Bds.two {w : World} {A : Option Addr} {l : List SlotBd} (h : Bds w A l) {k : Nat} {x : SlotBd} (hx : l[k]? = some x) : ∃ b off, A = some ⟨b, off, none⟩ ∧ b < w.heap.size ∧ TwoAtB w b (off + k * 2) x := by
  obtain ⟨⟨b, off, e, h1, h2⟩, _⟩ := h k x hx
  exact ⟨b, off, e, h1, h2 0 (by omega), h2 1 (by omega)⟩
theorem flatBd_get : ∀ (l : List SlotBd) (j : Nat) (x : SlotBd) (u : Nat), l[j]? = some x → u < 2 → (l.flatMap cL)[j * 2 + u]? = (cL x)[u]?
  | [], j, x, u, h, _ => by cases h
  | y :: l, 0, x, u, h, hu => by
    injection h with h
    subst h
    rw [List.flatMap_cons, Nat.zero_mul, Nat.zero_add, List.getElem?_append_left (by show u < 2; exact hu)]
  | y :: l, j + 1, x, u, h, hu => by
    rw [List.flatMap_cons, List.getElem?_append_right (by show 2 ≤ _; omega)]
    have e : (j + 1) * 2 + u - (cL y).length = j * 2 + u := by show (j + 1) * 2 + u - 2 = _; omega
    rw [e]
    exact flatBd_get l j x u h hu
theorem HasBd.ins {W : World} {base : Nat} {x : SlotBd} (h : HasBd W base x) : Los W x.2.1.1 x.1.ls ∧ Ins W x.2.2.1 x.1.b := by
  obtain ⟨⟨h1, _⟩, rows, h3, h4⟩ := h
  refine ⟨h1.los, ?_⟩
  rw [← h4]
  exact h3.insF.ins
/-- What a row of bodies reads as. -/
theorem RowBd.bds {W : World} {base : Nat} {A : Option Addr} {n c : Nat} {rows : List SlotBd} (h : RowBd W base (.slice A n c) rows) : Bds W A rows := fun j x hx => by
  have hj := (List.getElem?_eq_some_iff.1 hx).1
  refine ⟨?_, (h.has x (List.mem_of_getElem? hx)).ins⟩
  rcases h.own.2 with ⟨_, h0⟩ | ⟨g, cap, cur, e, _, hg, _, _, _, ht⟩
  · omega
  · injection e with e1 e2 e3
    exact ⟨g, 0, e1, (Array.getElem?_eq_some_iff.1 hg).1, fun u hu => by
      rw [cell_of_row W g (0 + j * 2 + u) cur _ _ hg, ← flatBd_get rows j x u hx hu, ← ht, List.getElem?_take, if_pos (by omega)]
      simp⟩
end Go.Proofs.YtebgmfjgapmpfabGreatDoor
