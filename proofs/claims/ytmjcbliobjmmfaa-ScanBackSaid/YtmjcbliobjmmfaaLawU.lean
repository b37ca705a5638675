/- ScanBack: what is written, read back. -/
import Derived.Test.YtmjcbliobjmmfaaStepO
namespace Go.Proofs.Ytmjcbliobjmmfaa
open Go.RowKit
set_option linter.unusedVariables false

section
variable {w : World} {p r : List UInt8} {a b : Int} {c : Bool} {t : UInt8} {m : Bool} {W W' : World}
/-- A call that leaves what there was, where the three boxes are held. -/
theorem held_box {K : Nat} {args : Array Value} {R : Ending → Prop} (hN : ∀ w, Calls Try.prog K args w fun e w' => R e ∧ Below w.heap.size w w') (h : Box3 w p r a b c t m W ∧ Cells7 w p r a b c t m W) :
    Calls Try.prog K args W fun e w' => R e ∧ (Box3 w p r a b c t m w' ∧ Cells7 w p r a b c t m w') ∧ Below W.heap.size W w' :=
  (hN W).mono fun _ _ ⟨h1, h2⟩ => ⟨h1, ⟨h.1.on h2, (h.1.on h2).cells⟩, h2⟩
theorem box_on (h : Box3 w p r a b c t m W ∧ Cells7 w p r a b c t m W) (hb : Below W.heap.size W W') : Box3 w p r a b c t m W' ∧ Cells7 w p r a b c t m W' := ⟨h.1.on hb, (h.1.on hb).cells⟩
theorem box_put (h : Box3 w p r a b c t m W ∧ Cells7 w p r a b c t m W) (g : Nat) (hg : w.heap.size + 1 + 1 < g) (i : Nat) (v : Value) : Box3 w p r a b c t m (W.setCell ⟨g, i, none⟩ v) ∧ Cells7 w p r a b c t m (W.setCell ⟨g, i, none⟩ v) := ⟨h.1.put g hg i v, (h.1.put g hg i v).cells⟩
end
/-- The bytes lie behind a cell of the law's own. -/
def Cell (w : World) (p r : List UInt8) (a b : Int) (c : Bool) (t : UInt8) (m : Bool) (s : Value) (W : World) : Prop :=
  ∃ bb A cap, s = .pointer (some ⟨bb, 0, none⟩) ∧ Whole W bb 32 #[.slice A (allL p r a b c t m).length cap] ∧ Lies W W.heap.size A (cells (nums (allL p r a b c t m))) ∧ (allL p r a b c t m).length ≤ cap ∧ Box3 w p r a b c t m W

/-- What Out leaves behind. -/
structure Back (q bs bf bm bh : Nat) (L : List UInt8) (k : Nat) (p r : List UInt8) (a b : Int) (c : Bool) (t : UInt8) (m : Bool) (w w' : World) : Prop where
  below : Below q w w'
  sc : Sc w' q L k
  s : Whole w' bs 36 #[.pointer (some ⟨q, 0, none⟩)]
  f : Whole w' bf 23 #[.string (S p), .string (S r)]
  l : Whole w' bm 26 #[.int .u32 a, .int .u32 b, .bool c]
  g : Whole w' bh 28 #[.int .u8 t.toNat, .bool m]
theorem Back.on {q bs bf bm bh : Nat} {L : List UInt8} {k : Nat} {p r : List UInt8} {a b : Int} {c : Bool} {t : UInt8} {m : Bool} {w w1 w2 : World} (h : Back q bs bf bm bh L k p r a b c t m w w1) (hq : q ≤ w.heap.size) {n : Nat} (hg : w1.grownBy w2 (some n))
    (o0 : q < n) (o1 : bs < n) (o2 : bf < n) (o3 : bm < n) (o4 : bh < n) : Back q bs bf bm bh L k p r a b c t m w w2 :=
  ⟨below_row h.below hq hg (by omega), h.sc.grown hg (by simp only [ne_eq, Option.some.injEq]; omega) (fun g e => by injection e with e; omega), h.s.grown hg (by simp only [ne_eq, Option.some.injEq]; omega), h.f.grown hg (by simp only [ne_eq, Option.some.injEq]; omega),
    h.l.grown hg (by simp only [ne_eq, Option.some.injEq]; omega), h.g.grown hg (by simp only [ne_eq, Option.some.injEq]; omega)⟩
theorem out_body {w : World} {bs bb bf bm bh q : Nat} {E L : List UInt8} {p r : List UInt8} {a b : Int} {c : Bool} {t : UInt8} {m : Bool} {A : Option Addr} {cap : Nat} {y1 y2 y3 y4 y5 y6 y7 : Value} (hE : E = allL p r a b c t m) (hL : L = 9 :: (E ++ [7]))
    (hz : funcZ p r = 0) (a0 : 0 ≤ a) (a1 : a ≤ 4294967295) (b0 : 0 ≤ b) (b1 : b ≤ 4294967295) (hc : c = false → b = 0) (ht : valueZ t.toNat = 0)
    (hs : Sc w q L 0) (hbs : Whole w bs 36 #[.pointer (some ⟨q, 0, none⟩)]) (hbb : Whole w bb 32 #[.slice A E.length cap])
    (hbf : Whole w bf 23 #[y1, y2]) (hbm : Whole w bm 26 #[y3, y4, y5]) (hbh : Whole w bh 28 #[y6, y7])
    (o1 : q < bs) (o2 : bs < bf) (o3 : bf < bm) (o4 : bm < bh) (o6 : bb < q) :
    Calls Try.prog 11 #[.func (.func 12) #[] #[.pointer (some ⟨bs, 0, none⟩), .pointer (some ⟨bb, 0, none⟩), .pointer (some ⟨bf, 0, none⟩), .pointer (some ⟨bm, 0, none⟩), .pointer (some ⟨bh, 0, none⟩)]] w fun e w' =>
      e = .returned (.agg #[.int .i64 0, .int .i64 0]) ∧ Back q bs bf bm bh L (1 + E.length) p r a b c t m w w' := by
  subst hL
  subst hE
  have hlt := hbh.lt
  have hb := body_any (m := m) hz a0 a1 b0 b1 hc ht (hs.alloc (.cells #[.int .i64 0, .int .i64 0] 40)) (hbs.alloc _) (hbb.alloc _) (hbf.alloc _) (hbm.alloc _) (hbh.alloc _) (Whole.made w _ _) o1 o2 o3 o4 hlt o6
  refine (out_any _ _ 0 0 w (fun w1 => Back q bs bf bm bh (9 :: (allL p r a b c t m ++ [7])) (1 + (allL p r a b c t m).length) p r a b c t m w w1 ∧ Whole w1 w.heap.size 40 #[.int .i64 0, .int .i64 0]) (cfB _) (hb.mono ?_) (fun _ h => h.2)).mono ?_
  · rintro e w' ⟨rfl, h1, h2, h3, h4, h5, h6, h7⟩
    exact ⟨.inl ⟨rfl, rfl, rfl⟩, ⟨((below_box w _).mono (by omega)).trans h1, h2, h3, h4, h5, h6⟩, h7⟩
  · rintro e w' ⟨rfl, w1, ⟨h1, _⟩, hg⟩
    exact ⟨rfl, h1.on (by omega) hg (by omega) (by omega) (by omega) (by omega) (by omega)⟩
/-- The law's variables. -/
theorem four_made (w : World) (x : Value) :
    Whole ((((w.alloc (.cells #[x] 36)).alloc (.cells #[.string { data := #[] }, .string { data := #[] }] 23)).alloc (.cells #[.int .u32 0, .int .u32 0, .bool false] 26)).alloc (.cells #[.int .u8 0, .bool false] 28)) w.heap.size 36 #[x] ∧
    Whole ((((w.alloc (.cells #[x] 36)).alloc (.cells #[.string { data := #[] }, .string { data := #[] }] 23)).alloc (.cells #[.int .u32 0, .int .u32 0, .bool false] 26)).alloc (.cells #[.int .u8 0, .bool false] 28)) (w.heap.size + 1) 23 #[.string { data := #[] }, .string { data := #[] }] ∧
    Whole ((((w.alloc (.cells #[x] 36)).alloc (.cells #[.string { data := #[] }, .string { data := #[] }] 23)).alloc (.cells #[.int .u32 0, .int .u32 0, .bool false] 26)).alloc (.cells #[.int .u8 0, .bool false] 28)) (w.heap.size + 1 + 1) 26 #[.int .u32 0, .int .u32 0, .bool false] ∧
    Whole ((((w.alloc (.cells #[x] 36)).alloc (.cells #[.string { data := #[] }, .string { data := #[] }] 23)).alloc (.cells #[.int .u32 0, .int .u32 0, .bool false] 26)).alloc (.cells #[.int .u8 0, .bool false] 28)) (w.heap.size + 1 + 1 + 1) 28 #[.int .u8 0, .bool false] ∧
    Below w.heap.size w ((((w.alloc (.cells #[x] 36)).alloc (.cells #[.string { data := #[] }, .string { data := #[] }] 23)).alloc (.cells #[.int .u32 0, .int .u32 0, .bool false] 26)).alloc (.cells #[.int .u8 0, .bool false] 28)) := by
  have b1 := Whole.made w 36 #[x]
  have b2 := Whole.made (w.alloc (.cells #[x] 36)) 23 #[.string { data := #[] }, .string { data := #[] }]
  have b3 := Whole.made ((w.alloc (.cells #[x] 36)).alloc (.cells #[.string { data := #[] }, .string { data := #[] }] 23)) 26 #[.int .u32 0, .int .u32 0, .bool false]
  have b4 := Whole.made (((w.alloc (.cells #[x] 36)).alloc (.cells #[.string { data := #[] }, .string { data := #[] }] 23)).alloc (.cells #[.int .u32 0, .int .u32 0, .bool false] 26)) 28 #[.int .u8 0, .bool false]
  simp only [World.size_alloc] at b2 b3 b4
  exact ⟨((b1.alloc _).alloc _).alloc _, (b2.alloc _).alloc _, b3.alloc _, b4, ((((Below.refl _ _).alloc (Nat.le_refl _) _).alloc (by simp) _).alloc (by simp; omega) _).alloc (by simp; omega) _⟩
theorem allL_len {p r : List UInt8} {a b : Int} {c : Bool} {t : UInt8} {m : Bool} (h : p.length ≤ 1000) (hr : r.length ≤ 1) (a1 : a ≤ 4294967295) (b1 : b ≤ 4294967295) :
    (encL p r).length + (encLim a b c).length + (encG t.toNat m).length ≤ 900000 := by
  have h1 := (lebL_len p.length (by omega)).2
  have h2 := (lebL_len r.length (by omega)).2
  have h3 := (lebL_len a (by omega)).2
  have h4 := (lebL_len b (by omega)).2
  unfold encL encLim encG
  cases c
  · simp; omega
  · simp; omega
set_option maxRecDepth 100000 in
set_option maxHeartbeats 4000000 in
theorem back_main (p r : List UInt8) (a b : Int) (c : Bool) (t : UInt8) (m : Bool) (w : World) (h : p.length ≤ 500) (hz : funcZ p r = 0) (ht : valueZ t.toNat = 0) (hc : c = false → b = 0)
    (a0 : 0 ≤ a) (a1 : a ≤ 4294967295) (b0 : 0 ≤ b) (b1 : b ≤ 4294967295) :
    Calls Try.prog 3 #[argF p r, argL a b c, argG t m] w (Yes w) := by
  have hp : ¬ 500 < (S p).size := by rw [S_size]; omega
  have hp2 : decide ((500 : Int) < ((S p).size : Int)) = false := by simp; omega
  have F := Lib.hid (fun W => refFunc_all p r W h)
  have V := Lib.hid (fun W => refValue_any (t.toNat : Int) W)
  rw [hz] at F
  rw [ht] at V
  have hr := (funcZ_zero hz).2.1
  have E1 := Lib.hid (fun W => show Calls Try.prog 7 #[argF p r] W (fun e w' => e = .returned (.string (S (encL p r))) ∧ Below W.heap.size W w') from refEnc_any p r W (by omega) (by omega))
  have E2 := Lib.hid (fun W => refElim_any a b c W a0 a1 b0 b1)
  have E3 := Lib.hid (fun W => show Calls Try.prog 9 #[argG t m] W (fun e w' => e = .returned (.string (S (encG t.toNat m))) ∧ Below W.heap.size W w') from refEncG_any (t.toNat : Int) m W (by omega) (by have := t.toNat_lt; omega))
  have hw : wrap64 (t.toNat : Int) = t.toNat := wrap_byte t
  have HB := Lib.hid (Box3.start w p r a b c t m)
  have HBody := Lib.hid (And.intro hz (And.intro ht hc))
  have hcs : c = true ∨ (c = false ∧ b = 0) := by
    cases c
    · exact .inr ⟨rfl, hc rfl⟩
    · exact .inl rfl
  have HLen := Lib.hid (allL_len (m := m) (c := c) (by omega) hr a1 b1 : (encL p r).length + (encLim a b c).length + (encG t.toNat m).length ≤ 900000)
  clear h hz ht hc
  rcases hcs with rfl | ⟨rfl, rfl⟩
  · go_enter Try.func3, Try.ntmps3
    go_upto_region 5 with (first
      | (go_at_call 4; go_must ((with_reducible refine (awake_any _).mono ?_); rintro e w1 ⟨rfl, hb⟩; have HB1 := Lib.hid (HB.out.on hb); obtain ⟨⟨x0, x1⟩, ⟨y0, y1, y2⟩, ⟨z0, z1⟩⟩ := HB1.out.cells; clear hb))
      | (go_at_call 5; go_must ((with_reducible refine (F.out _).mono ?_); rintro e w2 ⟨rfl, hb⟩; have HB2 := Lib.hid (HB1.out.on hb); clear hb x0 x1 y0 y1 y2 z0 z1; obtain ⟨⟨x0, x1⟩, ⟨y0, y1, y2⟩, ⟨z0, z1⟩⟩ := HB2.out.cells))
      | (go_at_call 6; go_must ((with_reducible refine (V.out _).mono ?_); rintro e w' ⟨rfl, rfl⟩)))
    have K0 := Lib.hid (box_on ⟨HB2.out, HB2.out.cells⟩ (Below.refl w2.heap.size w2).drew)
    have hz2 : w.heap.size + 3 ≤ w2.heap.size := by have := HB2.out.1.2.2.lt; omega
    clear x0 x1 y0 y1 y2 z0 z1
    have sx := S_size (encL p r)
    have sy := S_size (encLim a b true)
    have sz := S_size (encG t.toNat m)
    have he : S (encL p r) ++ S (encLim a b true) ++ S (encG t.toNat m) = S (allL p r a b true t m) := by unfold allL; rw [S_append, S_append]
    have hle := HLen.out
    have q1 : ¬ 9223372036854775807 < (S (encL p r)).size + (S (encLim a b true)).size := by omega
    have q2 : ¬ 9223372036854775807 < (S (encL p r)).size + (S (encLim a b true)).size + (S (encG t.toNat m)).size := by omega
    have HE := Lib.hid he
    clear sx sy sz he hle
    go_cut [7] (fun s7 W => Cell w p r a b true t m s7 W)
    case first =>
      refine wp_region_noPanic ?_
      refine wp_region_held_drew (S := fun W => Box3 w p r a b true t m W ∧ Cells7 w p r a b true t m W) (by kernel_rfl) K0.out (fun hHeld => ?_)
      (refine heldTake (i := 0) (oi := { dst := some 41, op := Op.load 23 (Operand.tmp 3), type := 23, pos := "law.go:135", after := #[], guard := none }) (v := ?_) rfl (by kernel_rfl) (by kernel_rfl) (by kernel_rfl) (by assumption) ?_ ?_; rotate_left; focus (refine .inl ⟨by kernel_rfl, ?_⟩; intro w hSw; (try dsimp only at hSw); go_simp; (try with_reducible rfl)); (try simp only [Act.put, List.setIfInBounds_toArray, List.set_cons_zero, List.set_cons_succ]))
      (refine heldTake (i := 2) (oi := { dst := some 43, op := Op.load 26 (Operand.tmp 4), type := 26, pos := "law.go:135", after := #[], guard := none }) (v := ?_) rfl (by kernel_rfl) (by kernel_rfl) (by kernel_rfl) (by assumption) ?_ ?_; rotate_left; focus (refine .inl ⟨by kernel_rfl, ?_⟩; intro w hSw; (try dsimp only at hSw); go_simp; (try with_reducible rfl)); (try simp only [Act.put, List.setIfInBounds_toArray, List.set_cons_zero, List.set_cons_succ]))
      (refine heldTake (i := 5) (oi := { dst := some 46, op := Op.load 28 (Operand.tmp 5), type := 28, pos := "law.go:135", after := #[], guard := none }) (v := ?_) rfl (by kernel_rfl) (by kernel_rfl) (by kernel_rfl) (by assumption) ?_ ?_; rotate_left; focus (refine .inl ⟨by kernel_rfl, ?_⟩; intro w hSw; (try dsimp only at hSw); go_simp; (try with_reducible rfl)); (try simp only [Act.put, List.setIfInBounds_toArray, List.set_cons_zero, List.set_cons_succ]))
      refine wpAnyH_ready (rs := [1, 9]) (by kernel_rfl) (by simp) ?_
      refine (AllReadyH.cons (o := { dst := some 42, op := Op.call { callee := Callee.value (Operand.func 7), args := #[Operand.tmp 41], argTypes := #[23] }, type := 9, pos := "law.go:135", after := #[{ on := 0, ground := Ground.data }], guard := none }) rfl (fun K hK => ?_) (AllReadyH.cons (o := { dst := some 7, op := Op.alloc 32, type := 0, pos := "law.go:135", after := #[], guard := none }) rfl (fun K hK => ?_) AllReadyH.nil))
      · go_simp
        (go_at_call 7; ((with_reducible refine (held_box E1.out hHeld).mono ?_); rintro e w4 ⟨rfl, hk4, hb4⟩; have HB1 := Lib.hid hb4; have hz4 := hb4.size; clear hb4))
        refine hK.out _ _ hk4 (fun hHeld1 => ?_)
        clear hK K hHeld
        (try simp only [Act.put, List.setIfInBounds_toArray, List.set_cons_zero, List.set_cons_succ])
        refine wpAnyH_ready (rs := [3, 9]) (by kernel_rfl) (by simp) ?_
        refine (AllReadyH.cons (o := { dst := some 44, op := Op.call { callee := Callee.value (Operand.func 8), args := #[Operand.tmp 43], argTypes := #[26] }, type := 9, pos := "law.go:135", after := #[{ on := 2, ground := Ground.data }, { on := 1, ground := Ground.chain }], guard := none }) rfl (fun K hK => ?_) (AllReadyH.cons (o := { dst := some 7, op := Op.alloc 32, type := 0, pos := "law.go:135", after := #[], guard := none }) rfl (fun K hK => ?_) AllReadyH.nil))
        · go_simp
          (go_at_call 8; ((with_reducible refine (held_box E2.out hHeld1).mono ?_); rintro e w5 ⟨rfl, hk5, hb5⟩; have HB3 := Lib.hid hb5; have hz5 := hb5.size; clear hb5))
          refine hK.out _ _ hk5 (fun hHeld3 => ?_)
          clear hK K hHeld1
          (try simp only [Act.put, List.setIfInBounds_toArray, List.set_cons_zero, List.set_cons_succ])
          (refine heldTake (i := 4) (oi := { dst := some 45, op := Op.binOp BinOp.add 9 (Operand.tmp 42) (Operand.tmp 44) 9, type := 9, pos := "law.go:135", after := #[{ on := 1, ground := Ground.data }, { on := 3, ground := Ground.data }], guard := none }) (v := ?_) rfl (by kernel_rfl) (by kernel_rfl) (by kernel_rfl) (by assumption) ?_ ?_; rotate_left; focus (refine .inl ⟨by kernel_rfl, ?_⟩; intro w hSw; (try dsimp only at hSw); go_simp; (try with_reducible rfl)); (try simp only [Act.put, List.setIfInBounds_toArray, List.set_cons_zero, List.set_cons_succ]))
          refine wpAnyH_ready (rs := [6, 9]) (by kernel_rfl) (by simp) ?_
          refine (AllReadyH.cons (o := { dst := some 47, op := Op.call { callee := Callee.value (Operand.func 9), args := #[Operand.tmp 46], argTypes := #[28] }, type := 9, pos := "law.go:135", after := #[{ on := 5, ground := Ground.data }, { on := 3, ground := Ground.chain }], guard := none }) rfl (fun K hK => ?_) (AllReadyH.cons (o := { dst := some 7, op := Op.alloc 32, type := 0, pos := "law.go:135", after := #[], guard := none }) rfl (fun K hK => ?_) AllReadyH.nil))
          · go_simp
            (go_at_call 9; ((with_reducible refine (held_box E3.out hHeld3).mono ?_); rintro e w6 ⟨rfl, hk6, hb6⟩; have HB6 := Lib.hid hb6; have hz6 := hb6.size; clear hb6))
            refine hK.out _ _ hk6 (fun hHeld6 => ?_)
            clear hK K hHeld3
            (try simp only [Act.put, List.setIfInBounds_toArray, List.set_cons_zero, List.set_cons_succ])
            (refine heldTake (i := 7) (oi := { dst := some 48, op := Op.binOp BinOp.add 9 (Operand.tmp 45) (Operand.tmp 47) 9, type := 9, pos := "law.go:135", after := #[{ on := 4, ground := Ground.data }, { on := 6, ground := Ground.data }], guard := none }) (v := ?_) rfl (by kernel_rfl) (by kernel_rfl) (by kernel_rfl) (by assumption) ?_ ?_; rotate_left; focus (refine .inl ⟨by kernel_rfl, ?_⟩; intro w hSw; (try dsimp only at hSw); go_simp; (try with_reducible rfl)); (try simp only [Act.put, List.setIfInBounds_toArray, List.set_cons_zero, List.set_cons_succ]))
            refine wpAnyH_ready (rs := [8, 9]) (by kernel_rfl) (by simp) ?_
            refine (AllReadyH.cons (o := { dst := some 49, op := Op.convert 9 32 (Operand.tmp 48), type := 32, pos := "law.go:135", after := #[{ on := 7, ground := Ground.data }], guard := none }) rfl (fun K hK => ?_) (AllReadyH.cons (o := { dst := some 7, op := Op.alloc 32, type := 0, pos := "law.go:135", after := #[], guard := none }) rfl (fun K hK => ?_) AllReadyH.nil))
            · refine step_conv rfl _ rfl (allL p r a b true t m) (congrArg Value.string HE.out) ?_; intro g cap wc hg1 hg2 hcap hbc hlc; have hzc := hbc.size; have HB8 := Lib.hid hbc; have HL8 := Lib.hid hlc; have HC8 := Lib.hid hcap; clear hbc hlc hcap
              refine hK.out _ _ (box_on hHeld6 HB8.out) (fun hHeld8 => ?_)
              clear hK K hHeld6
              (try simp only [Act.put, List.setIfInBounds_toArray, List.set_cons_zero, List.set_cons_succ])
              refine wpAnyH_ready (rs := [9]) (by kernel_rfl) (by simp) ?_
              refine (AllReadyH.cons (o := { dst := some 7, op := Op.alloc 32, type := 0, pos := "law.go:135", after := #[], guard := none }) rfl (fun K hK => ?_) AllReadyH.nil)
              refine step_alloc rfl rfl ?_; intro bb wa hbb hbb2 hba hwa; have hbx := Nat.lt_of_lt_of_le (Whole.lt hHeld8.1.1.2.2) hbb; have HB9 := Lib.hid hba; have HW9 := Lib.hid hwa; have hza := hba.size; clear hba hwa
              refine hK.out _ _ (box_on hHeld8 HB9.out) (fun hHeld9 => ?_)
              clear hK K hHeld8
              (try simp only [Act.put, List.setIfInBounds_toArray, List.set_cons_zero, List.set_cons_succ])
              refine wpAnyH_ready (rs := [10]) (by kernel_rfl) (by simp) ?_
              refine (AllReadyH.cons (o := { dst := none, op := Op.store 32 (Operand.tmp 7) (Operand.tmp 49), type := 0, pos := "law.go:135", after := #[{ on := 9, ground := Ground.data }, { on := 8, ground := Ground.data }, { on := 6, ground := Ground.chain }, { on := 0, ground := Ground.phase }, { on := 1, ground := Ground.phase }, { on := 2, ground := Ground.phase }, { on := 3, ground := Ground.phase }, { on := 4, ground := Ground.phase }, { on := 5, ground := Ground.phase }, { on := 6, ground := Ground.phase }, { on := 7, ground := Ground.phase }, { on := 8, ground := Ground.phase }, { on := 9, ground := Ground.phase }], guard := none }) rfl (fun K hK => ?_) AllReadyH.nil)
              refine step_store rfl _ _ rfl _ _ _ _ rfl rfl (HW9.out) ?_; have HW10 := Lib.hid (Whole.put (HW9.out) 0 (.slice (some ⟨g, 0, none⟩) (allL p r a b true t m).length cap)); have HL10 := Lib.hid (((HL8.out).below HB9.out (Nat.le_refl _)))
              refine hK.out _ _ (box_put hHeld9 _ hbx _ _) (fun hHeld10 => ?_)
              clear hK K hHeld9
              (try simp only [Act.put, List.setIfInBounds_toArray, List.set_cons_zero, List.set_cons_succ])
              refine wpAnyH_done (by kernel_rfl) ?_ _
              refine NoPanic.normal ?_
              have hLast := hHeld10
              clear hHeld10
              go_wp2
              go_meet
              exact ⟨bb, _, cap, rfl, by simpa using HW10.out, (HL10.out.put (bb := bb) (by omega) 0 _).more (by first | (simp; done) | (simp; omega)), HC8.out, hLast.1⟩
            · refine step_alloc rfl rfl ?_; intro bb wa hbb hbb2 hba hwa; have hbx := Nat.lt_of_lt_of_le (Whole.lt hHeld6.1.1.2.2) hbb; have HB9 := Lib.hid hba; have HW9 := Lib.hid hwa; have hza := hba.size; clear hba hwa
              refine hK.out _ _ (box_on hHeld6 HB9.out) (fun hHeld9 => ?_)
              clear hK K hHeld6
              (try simp only [Act.put, List.setIfInBounds_toArray, List.set_cons_zero, List.set_cons_succ])
              refine wpAnyH_ready (rs := [8]) (by kernel_rfl) (by simp) ?_
              refine (AllReadyH.cons (o := { dst := some 49, op := Op.convert 9 32 (Operand.tmp 48), type := 32, pos := "law.go:135", after := #[{ on := 7, ground := Ground.data }], guard := none }) rfl (fun K hK => ?_) AllReadyH.nil)
              refine step_conv rfl _ rfl (allL p r a b true t m) (congrArg Value.string HE.out) ?_; intro g cap wc hg1 hg2 hcap hbc hlc; have hzc := hbc.size; have HB8 := Lib.hid hbc; have HL8 := Lib.hid hlc; have HC8 := Lib.hid hcap; clear hbc hlc hcap
              refine hK.out _ _ (box_on hHeld9 HB8.out) (fun hHeld8 => ?_)
              clear hK K hHeld9
              (try simp only [Act.put, List.setIfInBounds_toArray, List.set_cons_zero, List.set_cons_succ])
              refine wpAnyH_ready (rs := [10]) (by kernel_rfl) (by simp) ?_
              refine (AllReadyH.cons (o := { dst := none, op := Op.store 32 (Operand.tmp 7) (Operand.tmp 49), type := 0, pos := "law.go:135", after := #[{ on := 9, ground := Ground.data }, { on := 8, ground := Ground.data }, { on := 6, ground := Ground.chain }, { on := 0, ground := Ground.phase }, { on := 1, ground := Ground.phase }, { on := 2, ground := Ground.phase }, { on := 3, ground := Ground.phase }, { on := 4, ground := Ground.phase }, { on := 5, ground := Ground.phase }, { on := 6, ground := Ground.phase }, { on := 7, ground := Ground.phase }, { on := 8, ground := Ground.phase }, { on := 9, ground := Ground.phase }], guard := none }) rfl (fun K hK => ?_) AllReadyH.nil)
              refine step_store rfl _ _ rfl _ _ _ _ rfl rfl (((HW9.out).below HB8.out)) ?_; have HW10 := Lib.hid (Whole.put (((HW9.out).below HB8.out)) 0 (.slice (some ⟨g, 0, none⟩) (allL p r a b true t m).length cap)); have HL10 := Lib.hid (HL8.out)
              refine hK.out _ _ (box_put hHeld8 _ hbx _ _) (fun hHeld10 => ?_)
              clear hK K hHeld8
              (try simp only [Act.put, List.setIfInBounds_toArray, List.set_cons_zero, List.set_cons_succ])
              refine wpAnyH_done (by kernel_rfl) ?_ _
              refine NoPanic.normal ?_
              have hLast := hHeld10
              clear hHeld10
              go_wp2
              go_meet
              exact ⟨bb, _, cap, rfl, by simpa using HW10.out, (HL10.out.put (bb := bb) (by omega) 0 _).more (by first | (simp; done) | (simp; omega)), HC8.out, hLast.1⟩
          · refine step_alloc rfl rfl ?_; intro bb wa hbb hbb2 hba hwa; have hbx := Nat.lt_of_lt_of_le (Whole.lt hHeld3.1.1.2.2) hbb; have HB9 := Lib.hid hba; have HW9 := Lib.hid hwa; have hza := hba.size; clear hba hwa
            refine hK.out _ _ (box_on hHeld3 HB9.out) (fun hHeld9 => ?_)
            clear hK K hHeld3
            (try simp only [Act.put, List.setIfInBounds_toArray, List.set_cons_zero, List.set_cons_succ])
            refine wpAnyH_ready (rs := [6]) (by kernel_rfl) (by simp) ?_
            refine (AllReadyH.cons (o := { dst := some 47, op := Op.call { callee := Callee.value (Operand.func 9), args := #[Operand.tmp 46], argTypes := #[28] }, type := 9, pos := "law.go:135", after := #[{ on := 5, ground := Ground.data }, { on := 3, ground := Ground.chain }], guard := none }) rfl (fun K hK => ?_) AllReadyH.nil)
            go_simp
            (go_at_call 9; ((with_reducible refine (held_box E3.out hHeld9).mono ?_); rintro e w6 ⟨rfl, hk6, hb6⟩; have HB6 := Lib.hid hb6; have hz6 := hb6.size; clear hb6))
            refine hK.out _ _ hk6 (fun hHeld6 => ?_)
            clear hK K hHeld9
            (try simp only [Act.put, List.setIfInBounds_toArray, List.set_cons_zero, List.set_cons_succ])
            (refine heldTake (i := 7) (oi := { dst := some 48, op := Op.binOp BinOp.add 9 (Operand.tmp 45) (Operand.tmp 47) 9, type := 9, pos := "law.go:135", after := #[{ on := 4, ground := Ground.data }, { on := 6, ground := Ground.data }], guard := none }) (v := ?_) rfl (by kernel_rfl) (by kernel_rfl) (by kernel_rfl) (by assumption) ?_ ?_; rotate_left; focus (refine .inl ⟨by kernel_rfl, ?_⟩; intro w hSw; (try dsimp only at hSw); go_simp; (try with_reducible rfl)); (try simp only [Act.put, List.setIfInBounds_toArray, List.set_cons_zero, List.set_cons_succ]))
            refine wpAnyH_ready (rs := [8]) (by kernel_rfl) (by simp) ?_
            refine (AllReadyH.cons (o := { dst := some 49, op := Op.convert 9 32 (Operand.tmp 48), type := 32, pos := "law.go:135", after := #[{ on := 7, ground := Ground.data }], guard := none }) rfl (fun K hK => ?_) AllReadyH.nil)
            refine step_conv rfl _ rfl (allL p r a b true t m) (congrArg Value.string HE.out) ?_; intro g cap wc hg1 hg2 hcap hbc hlc; have hzc := hbc.size; have HB8 := Lib.hid hbc; have HL8 := Lib.hid hlc; have HC8 := Lib.hid hcap; clear hbc hlc hcap
            refine hK.out _ _ (box_on hHeld6 HB8.out) (fun hHeld8 => ?_)
            clear hK K hHeld6
            (try simp only [Act.put, List.setIfInBounds_toArray, List.set_cons_zero, List.set_cons_succ])
            refine wpAnyH_ready (rs := [10]) (by kernel_rfl) (by simp) ?_
            refine (AllReadyH.cons (o := { dst := none, op := Op.store 32 (Operand.tmp 7) (Operand.tmp 49), type := 0, pos := "law.go:135", after := #[{ on := 9, ground := Ground.data }, { on := 8, ground := Ground.data }, { on := 6, ground := Ground.chain }, { on := 0, ground := Ground.phase }, { on := 1, ground := Ground.phase }, { on := 2, ground := Ground.phase }, { on := 3, ground := Ground.phase }, { on := 4, ground := Ground.phase }, { on := 5, ground := Ground.phase }, { on := 6, ground := Ground.phase }, { on := 7, ground := Ground.phase }, { on := 8, ground := Ground.phase }, { on := 9, ground := Ground.phase }], guard := none }) rfl (fun K hK => ?_) AllReadyH.nil)
            refine step_store rfl _ _ rfl _ _ _ _ rfl rfl (((((HW9.out).below HB6.out)).below HB8.out)) ?_; have HW10 := Lib.hid (Whole.put (((((HW9.out).below HB6.out)).below HB8.out)) 0 (.slice (some ⟨g, 0, none⟩) (allL p r a b true t m).length cap)); have HL10 := Lib.hid (HL8.out)
            refine hK.out _ _ (box_put hHeld8 _ hbx _ _) (fun hHeld10 => ?_)
            clear hK K hHeld8
            (try simp only [Act.put, List.setIfInBounds_toArray, List.set_cons_zero, List.set_cons_succ])
            refine wpAnyH_done (by kernel_rfl) ?_ _
            refine NoPanic.normal ?_
            have hLast := hHeld10
            clear hHeld10
            go_wp2
            go_meet
            exact ⟨bb, _, cap, rfl, by simpa using HW10.out, (HL10.out.put (bb := bb) (by omega) 0 _).more (by first | (simp; done) | (simp; omega)), HC8.out, hLast.1⟩
        · refine step_alloc rfl rfl ?_; intro bb wa hbb hbb2 hba hwa; have hbx := Nat.lt_of_lt_of_le (Whole.lt hHeld1.1.1.2.2) hbb; have HB9 := Lib.hid hba; have HW9 := Lib.hid hwa; have hza := hba.size; clear hba hwa
          refine hK.out _ _ (box_on hHeld1 HB9.out) (fun hHeld9 => ?_)
          clear hK K hHeld1
          (try simp only [Act.put, List.setIfInBounds_toArray, List.set_cons_zero, List.set_cons_succ])
          refine wpAnyH_ready (rs := [3]) (by kernel_rfl) (by simp) ?_
          refine (AllReadyH.cons (o := { dst := some 44, op := Op.call { callee := Callee.value (Operand.func 8), args := #[Operand.tmp 43], argTypes := #[26] }, type := 9, pos := "law.go:135", after := #[{ on := 2, ground := Ground.data }, { on := 1, ground := Ground.chain }], guard := none }) rfl (fun K hK => ?_) AllReadyH.nil)
          go_simp
          (go_at_call 8; ((with_reducible refine (held_box E2.out hHeld9).mono ?_); rintro e w5 ⟨rfl, hk5, hb5⟩; have HB3 := Lib.hid hb5; have hz5 := hb5.size; clear hb5))
          refine hK.out _ _ hk5 (fun hHeld3 => ?_)
          clear hK K hHeld9
          (try simp only [Act.put, List.setIfInBounds_toArray, List.set_cons_zero, List.set_cons_succ])
          (refine heldTake (i := 4) (oi := { dst := some 45, op := Op.binOp BinOp.add 9 (Operand.tmp 42) (Operand.tmp 44) 9, type := 9, pos := "law.go:135", after := #[{ on := 1, ground := Ground.data }, { on := 3, ground := Ground.data }], guard := none }) (v := ?_) rfl (by kernel_rfl) (by kernel_rfl) (by kernel_rfl) (by assumption) ?_ ?_; rotate_left; focus (refine .inl ⟨by kernel_rfl, ?_⟩; intro w hSw; (try dsimp only at hSw); go_simp; (try with_reducible rfl)); (try simp only [Act.put, List.setIfInBounds_toArray, List.set_cons_zero, List.set_cons_succ]))
          refine wpAnyH_ready (rs := [6]) (by kernel_rfl) (by simp) ?_
          refine (AllReadyH.cons (o := { dst := some 47, op := Op.call { callee := Callee.value (Operand.func 9), args := #[Operand.tmp 46], argTypes := #[28] }, type := 9, pos := "law.go:135", after := #[{ on := 5, ground := Ground.data }, { on := 3, ground := Ground.chain }], guard := none }) rfl (fun K hK => ?_) AllReadyH.nil)
          go_simp
          (go_at_call 9; ((with_reducible refine (held_box E3.out hHeld3).mono ?_); rintro e w6 ⟨rfl, hk6, hb6⟩; have HB6 := Lib.hid hb6; have hz6 := hb6.size; clear hb6))
          refine hK.out _ _ hk6 (fun hHeld6 => ?_)
          clear hK K hHeld3
          (try simp only [Act.put, List.setIfInBounds_toArray, List.set_cons_zero, List.set_cons_succ])
          (refine heldTake (i := 7) (oi := { dst := some 48, op := Op.binOp BinOp.add 9 (Operand.tmp 45) (Operand.tmp 47) 9, type := 9, pos := "law.go:135", after := #[{ on := 4, ground := Ground.data }, { on := 6, ground := Ground.data }], guard := none }) (v := ?_) rfl (by kernel_rfl) (by kernel_rfl) (by kernel_rfl) (by assumption) ?_ ?_; rotate_left; focus (refine .inl ⟨by kernel_rfl, ?_⟩; intro w hSw; (try dsimp only at hSw); go_simp; (try with_reducible rfl)); (try simp only [Act.put, List.setIfInBounds_toArray, List.set_cons_zero, List.set_cons_succ]))
          refine wpAnyH_ready (rs := [8]) (by kernel_rfl) (by simp) ?_
          refine (AllReadyH.cons (o := { dst := some 49, op := Op.convert 9 32 (Operand.tmp 48), type := 32, pos := "law.go:135", after := #[{ on := 7, ground := Ground.data }], guard := none }) rfl (fun K hK => ?_) AllReadyH.nil)
          refine step_conv rfl _ rfl (allL p r a b true t m) (congrArg Value.string HE.out) ?_; intro g cap wc hg1 hg2 hcap hbc hlc; have hzc := hbc.size; have HB8 := Lib.hid hbc; have HL8 := Lib.hid hlc; have HC8 := Lib.hid hcap; clear hbc hlc hcap
          refine hK.out _ _ (box_on hHeld6 HB8.out) (fun hHeld8 => ?_)
          clear hK K hHeld6
          (try simp only [Act.put, List.setIfInBounds_toArray, List.set_cons_zero, List.set_cons_succ])
          refine wpAnyH_ready (rs := [10]) (by kernel_rfl) (by simp) ?_
          refine (AllReadyH.cons (o := { dst := none, op := Op.store 32 (Operand.tmp 7) (Operand.tmp 49), type := 0, pos := "law.go:135", after := #[{ on := 9, ground := Ground.data }, { on := 8, ground := Ground.data }, { on := 6, ground := Ground.chain }, { on := 0, ground := Ground.phase }, { on := 1, ground := Ground.phase }, { on := 2, ground := Ground.phase }, { on := 3, ground := Ground.phase }, { on := 4, ground := Ground.phase }, { on := 5, ground := Ground.phase }, { on := 6, ground := Ground.phase }, { on := 7, ground := Ground.phase }, { on := 8, ground := Ground.phase }, { on := 9, ground := Ground.phase }], guard := none }) rfl (fun K hK => ?_) AllReadyH.nil)
          refine step_store rfl _ _ rfl _ _ _ _ rfl rfl (((((((HW9.out).below HB3.out)).below HB6.out)).below HB8.out)) ?_; have HW10 := Lib.hid (Whole.put (((((((HW9.out).below HB3.out)).below HB6.out)).below HB8.out)) 0 (.slice (some ⟨g, 0, none⟩) (allL p r a b true t m).length cap)); have HL10 := Lib.hid (HL8.out)
          refine hK.out _ _ (box_put hHeld8 _ hbx _ _) (fun hHeld10 => ?_)
          clear hK K hHeld8
          (try simp only [Act.put, List.setIfInBounds_toArray, List.set_cons_zero, List.set_cons_succ])
          refine wpAnyH_done (by kernel_rfl) ?_ _
          refine NoPanic.normal ?_
          have hLast := hHeld10
          clear hHeld10
          go_wp2
          go_meet
          exact ⟨bb, _, cap, rfl, by simpa using HW10.out, (HL10.out.put (bb := bb) (by omega) 0 _).more (by first | (simp; done) | (simp; omega)), HC8.out, hLast.1⟩
      · refine step_alloc rfl rfl ?_; intro bb wa hbb hbb2 hba hwa; have hbx := Nat.lt_of_lt_of_le (Whole.lt hHeld.1.1.2.2) hbb; have HB9 := Lib.hid hba; have HW9 := Lib.hid hwa; have hza := hba.size; clear hba hwa
        refine hK.out _ _ (box_on hHeld HB9.out) (fun hHeld9 => ?_)
        clear hK K hHeld
        (try simp only [Act.put, List.setIfInBounds_toArray, List.set_cons_zero, List.set_cons_succ])
        refine wpAnyH_ready (rs := [1]) (by kernel_rfl) (by simp) ?_
        refine (AllReadyH.cons (o := { dst := some 42, op := Op.call { callee := Callee.value (Operand.func 7), args := #[Operand.tmp 41], argTypes := #[23] }, type := 9, pos := "law.go:135", after := #[{ on := 0, ground := Ground.data }], guard := none }) rfl (fun K hK => ?_) AllReadyH.nil)
        go_simp
        (go_at_call 7; ((with_reducible refine (held_box E1.out hHeld9).mono ?_); rintro e w4 ⟨rfl, hk4, hb4⟩; have HB1 := Lib.hid hb4; have hz4 := hb4.size; clear hb4))
        refine hK.out _ _ hk4 (fun hHeld1 => ?_)
        clear hK K hHeld9
        (try simp only [Act.put, List.setIfInBounds_toArray, List.set_cons_zero, List.set_cons_succ])
        refine wpAnyH_ready (rs := [3]) (by kernel_rfl) (by simp) ?_
        refine (AllReadyH.cons (o := { dst := some 44, op := Op.call { callee := Callee.value (Operand.func 8), args := #[Operand.tmp 43], argTypes := #[26] }, type := 9, pos := "law.go:135", after := #[{ on := 2, ground := Ground.data }, { on := 1, ground := Ground.chain }], guard := none }) rfl (fun K hK => ?_) AllReadyH.nil)
        go_simp
        (go_at_call 8; ((with_reducible refine (held_box E2.out hHeld1).mono ?_); rintro e w5 ⟨rfl, hk5, hb5⟩; have HB3 := Lib.hid hb5; have hz5 := hb5.size; clear hb5))
        refine hK.out _ _ hk5 (fun hHeld3 => ?_)
        clear hK K hHeld1
        (try simp only [Act.put, List.setIfInBounds_toArray, List.set_cons_zero, List.set_cons_succ])
        (refine heldTake (i := 4) (oi := { dst := some 45, op := Op.binOp BinOp.add 9 (Operand.tmp 42) (Operand.tmp 44) 9, type := 9, pos := "law.go:135", after := #[{ on := 1, ground := Ground.data }, { on := 3, ground := Ground.data }], guard := none }) (v := ?_) rfl (by kernel_rfl) (by kernel_rfl) (by kernel_rfl) (by assumption) ?_ ?_; rotate_left; focus (refine .inl ⟨by kernel_rfl, ?_⟩; intro w hSw; (try dsimp only at hSw); go_simp; (try with_reducible rfl)); (try simp only [Act.put, List.setIfInBounds_toArray, List.set_cons_zero, List.set_cons_succ]))
        refine wpAnyH_ready (rs := [6]) (by kernel_rfl) (by simp) ?_
        refine (AllReadyH.cons (o := { dst := some 47, op := Op.call { callee := Callee.value (Operand.func 9), args := #[Operand.tmp 46], argTypes := #[28] }, type := 9, pos := "law.go:135", after := #[{ on := 5, ground := Ground.data }, { on := 3, ground := Ground.chain }], guard := none }) rfl (fun K hK => ?_) AllReadyH.nil)
        go_simp
        (go_at_call 9; ((with_reducible refine (held_box E3.out hHeld3).mono ?_); rintro e w6 ⟨rfl, hk6, hb6⟩; have HB6 := Lib.hid hb6; have hz6 := hb6.size; clear hb6))
        refine hK.out _ _ hk6 (fun hHeld6 => ?_)
        clear hK K hHeld3
        (try simp only [Act.put, List.setIfInBounds_toArray, List.set_cons_zero, List.set_cons_succ])
        (refine heldTake (i := 7) (oi := { dst := some 48, op := Op.binOp BinOp.add 9 (Operand.tmp 45) (Operand.tmp 47) 9, type := 9, pos := "law.go:135", after := #[{ on := 4, ground := Ground.data }, { on := 6, ground := Ground.data }], guard := none }) (v := ?_) rfl (by kernel_rfl) (by kernel_rfl) (by kernel_rfl) (by assumption) ?_ ?_; rotate_left; focus (refine .inl ⟨by kernel_rfl, ?_⟩; intro w hSw; (try dsimp only at hSw); go_simp; (try with_reducible rfl)); (try simp only [Act.put, List.setIfInBounds_toArray, List.set_cons_zero, List.set_cons_succ]))
        refine wpAnyH_ready (rs := [8]) (by kernel_rfl) (by simp) ?_
        refine (AllReadyH.cons (o := { dst := some 49, op := Op.convert 9 32 (Operand.tmp 48), type := 32, pos := "law.go:135", after := #[{ on := 7, ground := Ground.data }], guard := none }) rfl (fun K hK => ?_) AllReadyH.nil)
        refine step_conv rfl _ rfl (allL p r a b true t m) (congrArg Value.string HE.out) ?_; intro g cap wc hg1 hg2 hcap hbc hlc; have hzc := hbc.size; have HB8 := Lib.hid hbc; have HL8 := Lib.hid hlc; have HC8 := Lib.hid hcap; clear hbc hlc hcap
        refine hK.out _ _ (box_on hHeld6 HB8.out) (fun hHeld8 => ?_)
        clear hK K hHeld6
        (try simp only [Act.put, List.setIfInBounds_toArray, List.set_cons_zero, List.set_cons_succ])
        refine wpAnyH_ready (rs := [10]) (by kernel_rfl) (by simp) ?_
        refine (AllReadyH.cons (o := { dst := none, op := Op.store 32 (Operand.tmp 7) (Operand.tmp 49), type := 0, pos := "law.go:135", after := #[{ on := 9, ground := Ground.data }, { on := 8, ground := Ground.data }, { on := 6, ground := Ground.chain }, { on := 0, ground := Ground.phase }, { on := 1, ground := Ground.phase }, { on := 2, ground := Ground.phase }, { on := 3, ground := Ground.phase }, { on := 4, ground := Ground.phase }, { on := 5, ground := Ground.phase }, { on := 6, ground := Ground.phase }, { on := 7, ground := Ground.phase }, { on := 8, ground := Ground.phase }, { on := 9, ground := Ground.phase }], guard := none }) rfl (fun K hK => ?_) AllReadyH.nil)
        refine step_store rfl _ _ rfl _ _ _ _ rfl rfl (((((((((HW9.out).below HB1.out)).below HB3.out)).below HB6.out)).below HB8.out)) ?_; have HW10 := Lib.hid (Whole.put (((((((((HW9.out).below HB1.out)).below HB3.out)).below HB6.out)).below HB8.out)) 0 (.slice (some ⟨g, 0, none⟩) (allL p r a b true t m).length cap)); have HL10 := Lib.hid (HL8.out)
        refine hK.out _ _ (box_put hHeld8 _ hbx _ _) (fun hHeld10 => ?_)
        clear hK K hHeld8
        (try simp only [Act.put, List.setIfInBounds_toArray, List.set_cons_zero, List.set_cons_succ])
        refine wpAnyH_done (by kernel_rfl) ?_ _
        refine NoPanic.normal ?_
        have hLast := hHeld10
        clear hHeld10
        go_wp2
        go_meet
        exact ⟨bb, _, cap, rfl, by simpa using HW10.out, (HL10.out.put (bb := bb) (by omega) 0 _).more (by first | (simp; done) | (simp; omega)), HC8.out, hLast.1⟩
    case rest =>
      obtain ⟨bb, A, cap, rfl, hwb, hlb, hcap, hbox⟩ := hcut
      obtain ⟨hz, ht, hc⟩ := HBody.out
      obtain ⟨E, hE⟩ : ∃ E, E = allL p r a b true t m := ⟨_, rfl⟩
      rw [← hE] at hwb hlb hcap
      have hpos : 0 < E.length := by rw [hE]; exact allL_pos p r a b true t m
      have hEl : E.length ≤ 900000 := by rw [hE]; unfold allL; simp only [List.length_append]; exact HLen.out
      obtain ⟨L, hL⟩ : ∃ L, L = 9 :: (E ++ [7]) := ⟨_, rfl⟩
      have hLl : L.length = E.length + 2 := by rw [hL]; simp
      have c0 := hwb.cell 0
      simp only [List.getElem?_toArray, List.getElem?_cons_zero] at c0
      have hbl := hwb.lt
      have R0 := Lib.hid (Row.made wc [9] wc.heap.size wc.heap.size rfl (Nat.le_refl _) (by simp))
      have HL1 := Lib.hid (hlb.below (below_box wc (.cells #[.int .u8 9] 5)) (Nat.le_refl _))
      have HWB := Lib.hid hwb
      have HBX := Lib.hid hbox
      have HOB := Lib.hid (And.intro hE hL)
      have HLf : Hid (∀ (W : World) (q : Nat), Sc W q L (1 + E.length) → Calls Try.prog 19 #[.pointer (some ⟨q, 0, none⟩)] W fun e w' => e = .returned (.int .i64 1) ∧ ∃ m, w' = W.drewN m) := fun W q h => by
        have := left_any h
        rwa [show (L.length : Int) - ((1 + E.length : Nat) : Int) = 1 by omega] at this
      have HLL := Lib.hid hLl
      have hpos2 : 0 < L.length := by omega
      have hLm : L.length ≤ 1000000 := by omega
      have heq : ∀ w : World, (binOp BinOp.eql 40 (.agg #[.int .i64 0, .int .i64 0]) (.agg #[.int .i64 0, .int .i64 0])).run Try.prog w = .ok (.bool true) w := fun _ => by kernel_rfl
      clear hE hL hwb hlb hbox hLl K0 HE q1 q2 E1 E2 E3 F V hc
      go_wp2_with (first
        | (at_builtin; (have tok := HR5; refine row_new rfl _ _ rfl wc.heap.size v5 ([9] ++ E) rfl (HR5.out.alloc _) w5.heap.size 1 [7] rfl rfl (heap_alloc_new w5 _) (by omega) (by simp; omega) (by simp; omega) ?_; intro v6 w6 hr6 hb6; have hr6' : Row w6 wc.heap.size v6 L := (HOB.out.2 ▸ hr6); obtain ⟨A6, c6, rfl, h61, h62, hl6, _⟩ := lies_own hr6'; have hz6 := hb6.size; simp only [World.size_alloc] at hz6; have HL6 := Lib.hid hl6; have HB6 := Lib.hid hb6; clear hr6 hr6' hl6 hb6 h61 h62 tok))
        | (at_builtin; (refine row_lies rfl _ _ rfl wc.heap.size _ _ rfl R0.out _ _ _ _ E rfl rfl HL1.out hpos (by simp; omega) (by simp) ?_; intro v5 w5 hr5 hb5; have hz5 := hb5.size; simp only [World.size_alloc] at hz5; have HR5 := Lib.hid hr5; have HB5 := Lib.hid hb5; clear hr5 hb5))
        | (go_at_call 10; go_must ((with_reducible refine (over_ok HL6.out hpos2 hLm).mono ?_); intro e w7 h; obtain ⟨q, rfl, hq, hs, hb⟩ := h; have hz7 := hb.size; have HS7 := Lib.hid hs; have HB7 := Lib.hid hb; have hq' := hq; clear hs hb))
        | (go_at_call 11; go_must (
            obtain ⟨d1, d2, d3, d4, d5⟩ := four_made w7 (.pointer (some ⟨q, 0, none⟩))
            have hqlt := HS7.out.lt
            have hbd : Below wc.heap.size wc w7 := ((below_box wc _).trans HB5.out).trans ((((below_box w5 _).mono (by omega)).trans HB6.out).trans (HB7.out.mono (by omega)))
            have ho := out_body (m := m) HOB.out.1 HOB.out.2 hz a0 a1 b0 b1 (by first | exact hc | simp) ht (HS7.out.below d5) d1 ((HWB.out.below hbd).below d5) d2 d3 d4 (by omega) (by omega) (by omega) (by omega) (by omega)
            refine ho.mono ?_
            rintro e w9 ⟨rfl, hk⟩
            have hb9 : Below wc.heap.size wc w9 := hbd.trans ((d5.mono (by omega)).trans (hk.below.mono (by omega)))
            have HX9 := Lib.hid (HBX.out.on hb9)
            have X := fun o => (HX9.out.on (below_box w9 o)).cells
            have x0 := fun o => (X o).1.1
            have x1 := fun o => (X o).1.2
            have y0 := fun o => (X o).2.1.1
            have y1 := fun o => (X o).2.1.2.1
            have y2 := fun o => (X o).2.1.2.2
            have z0 := fun o => (X o).2.2.1
            have z1 := fun o => (X o).2.2.2
            have k0 := fun o => (hk.s.alloc o).cell 0
            have k1 := fun o => (hk.f.alloc o).cell 0
            have k2 := fun o => (hk.f.alloc o).cell 1
            have k3 := fun o => (hk.l.alloc o).cell 0
            have k4 := fun o => (hk.l.alloc o).cell 1
            have k5 := fun o => (hk.l.alloc o).cell 2
            have k6 := fun o => (hk.g.alloc o).cell 0
            have k7 := fun o => (hk.g.alloc o).cell 1
            simp only [List.getElem?_toArray, List.getElem?_cons_zero, List.getElem?_cons_succ] at k0 k1 k2 k3 k4 k5 k6 k7
            have HK := Lib.hid hk
            clear ho d1 d2 d3 d4 d5 hk hbd hb9 c0 X))
        | (go_at_call 19; go_must ((with_reducible refine (HLf.out _ _ (HK.out.sc.alloc _)).mono ?_); rintro e w10 ⟨rfl, mm, rfl⟩)))
      go_ret
      exact ⟨rfl, below_drewN (HX9.out.on (below_box w9 _)).2 _⟩
  · go_enter Try.func3, Try.ntmps3
    go_upto_region 5 with (first
      | (go_at_call 4; go_must ((with_reducible refine (awake_any _).mono ?_); rintro e w1 ⟨rfl, hb⟩; have HB1 := Lib.hid (HB.out.on hb); obtain ⟨⟨x0, x1⟩, ⟨y0, y1, y2⟩, ⟨z0, z1⟩⟩ := HB1.out.cells; clear hb))
      | (go_at_call 5; go_must ((with_reducible refine (F.out _).mono ?_); rintro e w2 ⟨rfl, hb⟩; have HB2 := Lib.hid (HB1.out.on hb); clear hb x0 x1 y0 y1 y2 z0 z1; obtain ⟨⟨x0, x1⟩, ⟨y0, y1, y2⟩, ⟨z0, z1⟩⟩ := HB2.out.cells))
      | (go_at_call 6; go_must ((with_reducible refine (V.out _).mono ?_); rintro e w' ⟨rfl, rfl⟩)))
    have K0 := Lib.hid (box_on ⟨HB2.out, HB2.out.cells⟩ (Below.refl w2.heap.size w2).drew)
    have hz2 : w.heap.size + 3 ≤ w2.heap.size := by have := HB2.out.1.2.2.lt; omega
    clear x0 x1 y0 y1 y2 z0 z1
    have sx := S_size (encL p r)
    have sy := S_size (encLim a 0 false)
    have sz := S_size (encG t.toNat m)
    have he : S (encL p r) ++ S (encLim a 0 false) ++ S (encG t.toNat m) = S (allL p r a 0 false t m) := by unfold allL; rw [S_append, S_append]
    have hle := HLen.out
    have q1 : ¬ 9223372036854775807 < (S (encL p r)).size + (S (encLim a 0 false)).size := by omega
    have q2 : ¬ 9223372036854775807 < (S (encL p r)).size + (S (encLim a 0 false)).size + (S (encG t.toNat m)).size := by omega
    have HE := Lib.hid he
    clear sx sy sz he hle
    go_cut [7] (fun s7 W => Cell w p r a 0 false t m s7 W)
    case first =>
      refine wp_region_noPanic ?_
      refine wp_region_held_drew (S := fun W => Box3 w p r a 0 false t m W ∧ Cells7 w p r a 0 false t m W) (by kernel_rfl) K0.out (fun hHeld => ?_)
      (refine heldTake (i := 0) (oi := { dst := some 41, op := Op.load 23 (Operand.tmp 3), type := 23, pos := "law.go:135", after := #[], guard := none }) (v := ?_) rfl (by kernel_rfl) (by kernel_rfl) (by kernel_rfl) (by assumption) ?_ ?_; rotate_left; focus (refine .inl ⟨by kernel_rfl, ?_⟩; intro w hSw; (try dsimp only at hSw); go_simp; (try with_reducible rfl)); (try simp only [Act.put, List.setIfInBounds_toArray, List.set_cons_zero, List.set_cons_succ]))
      (refine heldTake (i := 2) (oi := { dst := some 43, op := Op.load 26 (Operand.tmp 4), type := 26, pos := "law.go:135", after := #[], guard := none }) (v := ?_) rfl (by kernel_rfl) (by kernel_rfl) (by kernel_rfl) (by assumption) ?_ ?_; rotate_left; focus (refine .inl ⟨by kernel_rfl, ?_⟩; intro w hSw; (try dsimp only at hSw); go_simp; (try with_reducible rfl)); (try simp only [Act.put, List.setIfInBounds_toArray, List.set_cons_zero, List.set_cons_succ]))
      (refine heldTake (i := 5) (oi := { dst := some 46, op := Op.load 28 (Operand.tmp 5), type := 28, pos := "law.go:135", after := #[], guard := none }) (v := ?_) rfl (by kernel_rfl) (by kernel_rfl) (by kernel_rfl) (by assumption) ?_ ?_; rotate_left; focus (refine .inl ⟨by kernel_rfl, ?_⟩; intro w hSw; (try dsimp only at hSw); go_simp; (try with_reducible rfl)); (try simp only [Act.put, List.setIfInBounds_toArray, List.set_cons_zero, List.set_cons_succ]))
      refine wpAnyH_ready (rs := [1, 9]) (by kernel_rfl) (by simp) ?_
      refine (AllReadyH.cons (o := { dst := some 42, op := Op.call { callee := Callee.value (Operand.func 7), args := #[Operand.tmp 41], argTypes := #[23] }, type := 9, pos := "law.go:135", after := #[{ on := 0, ground := Ground.data }], guard := none }) rfl (fun K hK => ?_) (AllReadyH.cons (o := { dst := some 7, op := Op.alloc 32, type := 0, pos := "law.go:135", after := #[], guard := none }) rfl (fun K hK => ?_) AllReadyH.nil))
      · go_simp
        (go_at_call 7; ((with_reducible refine (held_box E1.out hHeld).mono ?_); rintro e w4 ⟨rfl, hk4, hb4⟩; have HB1 := Lib.hid hb4; have hz4 := hb4.size; clear hb4))
        refine hK.out _ _ hk4 (fun hHeld1 => ?_)
        clear hK K hHeld
        (try simp only [Act.put, List.setIfInBounds_toArray, List.set_cons_zero, List.set_cons_succ])
        refine wpAnyH_ready (rs := [3, 9]) (by kernel_rfl) (by simp) ?_
        refine (AllReadyH.cons (o := { dst := some 44, op := Op.call { callee := Callee.value (Operand.func 8), args := #[Operand.tmp 43], argTypes := #[26] }, type := 9, pos := "law.go:135", after := #[{ on := 2, ground := Ground.data }, { on := 1, ground := Ground.chain }], guard := none }) rfl (fun K hK => ?_) (AllReadyH.cons (o := { dst := some 7, op := Op.alloc 32, type := 0, pos := "law.go:135", after := #[], guard := none }) rfl (fun K hK => ?_) AllReadyH.nil))
        · go_simp
          (go_at_call 8; ((with_reducible refine (held_box E2.out hHeld1).mono ?_); rintro e w5 ⟨rfl, hk5, hb5⟩; have HB3 := Lib.hid hb5; have hz5 := hb5.size; clear hb5))
          refine hK.out _ _ hk5 (fun hHeld3 => ?_)
          clear hK K hHeld1
          (try simp only [Act.put, List.setIfInBounds_toArray, List.set_cons_zero, List.set_cons_succ])
          (refine heldTake (i := 4) (oi := { dst := some 45, op := Op.binOp BinOp.add 9 (Operand.tmp 42) (Operand.tmp 44) 9, type := 9, pos := "law.go:135", after := #[{ on := 1, ground := Ground.data }, { on := 3, ground := Ground.data }], guard := none }) (v := ?_) rfl (by kernel_rfl) (by kernel_rfl) (by kernel_rfl) (by assumption) ?_ ?_; rotate_left; focus (refine .inl ⟨by kernel_rfl, ?_⟩; intro w hSw; (try dsimp only at hSw); go_simp; (try with_reducible rfl)); (try simp only [Act.put, List.setIfInBounds_toArray, List.set_cons_zero, List.set_cons_succ]))
          refine wpAnyH_ready (rs := [6, 9]) (by kernel_rfl) (by simp) ?_
          refine (AllReadyH.cons (o := { dst := some 47, op := Op.call { callee := Callee.value (Operand.func 9), args := #[Operand.tmp 46], argTypes := #[28] }, type := 9, pos := "law.go:135", after := #[{ on := 5, ground := Ground.data }, { on := 3, ground := Ground.chain }], guard := none }) rfl (fun K hK => ?_) (AllReadyH.cons (o := { dst := some 7, op := Op.alloc 32, type := 0, pos := "law.go:135", after := #[], guard := none }) rfl (fun K hK => ?_) AllReadyH.nil))
          · go_simp
            (go_at_call 9; ((with_reducible refine (held_box E3.out hHeld3).mono ?_); rintro e w6 ⟨rfl, hk6, hb6⟩; have HB6 := Lib.hid hb6; have hz6 := hb6.size; clear hb6))
            refine hK.out _ _ hk6 (fun hHeld6 => ?_)
            clear hK K hHeld3
            (try simp only [Act.put, List.setIfInBounds_toArray, List.set_cons_zero, List.set_cons_succ])
            (refine heldTake (i := 7) (oi := { dst := some 48, op := Op.binOp BinOp.add 9 (Operand.tmp 45) (Operand.tmp 47) 9, type := 9, pos := "law.go:135", after := #[{ on := 4, ground := Ground.data }, { on := 6, ground := Ground.data }], guard := none }) (v := ?_) rfl (by kernel_rfl) (by kernel_rfl) (by kernel_rfl) (by assumption) ?_ ?_; rotate_left; focus (refine .inl ⟨by kernel_rfl, ?_⟩; intro w hSw; (try dsimp only at hSw); go_simp; (try with_reducible rfl)); (try simp only [Act.put, List.setIfInBounds_toArray, List.set_cons_zero, List.set_cons_succ]))
            refine wpAnyH_ready (rs := [8, 9]) (by kernel_rfl) (by simp) ?_
            refine (AllReadyH.cons (o := { dst := some 49, op := Op.convert 9 32 (Operand.tmp 48), type := 32, pos := "law.go:135", after := #[{ on := 7, ground := Ground.data }], guard := none }) rfl (fun K hK => ?_) (AllReadyH.cons (o := { dst := some 7, op := Op.alloc 32, type := 0, pos := "law.go:135", after := #[], guard := none }) rfl (fun K hK => ?_) AllReadyH.nil))
            · refine step_conv rfl _ rfl (allL p r a 0 false t m) (congrArg Value.string HE.out) ?_; intro g cap wc hg1 hg2 hcap hbc hlc; have hzc := hbc.size; have HB8 := Lib.hid hbc; have HL8 := Lib.hid hlc; have HC8 := Lib.hid hcap; clear hbc hlc hcap
              refine hK.out _ _ (box_on hHeld6 HB8.out) (fun hHeld8 => ?_)
              clear hK K hHeld6
              (try simp only [Act.put, List.setIfInBounds_toArray, List.set_cons_zero, List.set_cons_succ])
              refine wpAnyH_ready (rs := [9]) (by kernel_rfl) (by simp) ?_
              refine (AllReadyH.cons (o := { dst := some 7, op := Op.alloc 32, type := 0, pos := "law.go:135", after := #[], guard := none }) rfl (fun K hK => ?_) AllReadyH.nil)
              refine step_alloc rfl rfl ?_; intro bb wa hbb hbb2 hba hwa; have hbx := Nat.lt_of_lt_of_le (Whole.lt hHeld8.1.1.2.2) hbb; have HB9 := Lib.hid hba; have HW9 := Lib.hid hwa; have hza := hba.size; clear hba hwa
              refine hK.out _ _ (box_on hHeld8 HB9.out) (fun hHeld9 => ?_)
              clear hK K hHeld8
              (try simp only [Act.put, List.setIfInBounds_toArray, List.set_cons_zero, List.set_cons_succ])
              refine wpAnyH_ready (rs := [10]) (by kernel_rfl) (by simp) ?_
              refine (AllReadyH.cons (o := { dst := none, op := Op.store 32 (Operand.tmp 7) (Operand.tmp 49), type := 0, pos := "law.go:135", after := #[{ on := 9, ground := Ground.data }, { on := 8, ground := Ground.data }, { on := 6, ground := Ground.chain }, { on := 0, ground := Ground.phase }, { on := 1, ground := Ground.phase }, { on := 2, ground := Ground.phase }, { on := 3, ground := Ground.phase }, { on := 4, ground := Ground.phase }, { on := 5, ground := Ground.phase }, { on := 6, ground := Ground.phase }, { on := 7, ground := Ground.phase }, { on := 8, ground := Ground.phase }, { on := 9, ground := Ground.phase }], guard := none }) rfl (fun K hK => ?_) AllReadyH.nil)
              refine step_store rfl _ _ rfl _ _ _ _ rfl rfl (HW9.out) ?_; have HW10 := Lib.hid (Whole.put (HW9.out) 0 (.slice (some ⟨g, 0, none⟩) (allL p r a 0 false t m).length cap)); have HL10 := Lib.hid (((HL8.out).below HB9.out (Nat.le_refl _)))
              refine hK.out _ _ (box_put hHeld9 _ hbx _ _) (fun hHeld10 => ?_)
              clear hK K hHeld9
              (try simp only [Act.put, List.setIfInBounds_toArray, List.set_cons_zero, List.set_cons_succ])
              refine wpAnyH_done (by kernel_rfl) ?_ _
              refine NoPanic.normal ?_
              have hLast := hHeld10
              clear hHeld10
              go_wp2
              go_meet
              exact ⟨bb, _, cap, rfl, by simpa using HW10.out, (HL10.out.put (bb := bb) (by omega) 0 _).more (by first | (simp; done) | (simp; omega)), HC8.out, hLast.1⟩
            · refine step_alloc rfl rfl ?_; intro bb wa hbb hbb2 hba hwa; have hbx := Nat.lt_of_lt_of_le (Whole.lt hHeld6.1.1.2.2) hbb; have HB9 := Lib.hid hba; have HW9 := Lib.hid hwa; have hza := hba.size; clear hba hwa
              refine hK.out _ _ (box_on hHeld6 HB9.out) (fun hHeld9 => ?_)
              clear hK K hHeld6
              (try simp only [Act.put, List.setIfInBounds_toArray, List.set_cons_zero, List.set_cons_succ])
              refine wpAnyH_ready (rs := [8]) (by kernel_rfl) (by simp) ?_
              refine (AllReadyH.cons (o := { dst := some 49, op := Op.convert 9 32 (Operand.tmp 48), type := 32, pos := "law.go:135", after := #[{ on := 7, ground := Ground.data }], guard := none }) rfl (fun K hK => ?_) AllReadyH.nil)
              refine step_conv rfl _ rfl (allL p r a 0 false t m) (congrArg Value.string HE.out) ?_; intro g cap wc hg1 hg2 hcap hbc hlc; have hzc := hbc.size; have HB8 := Lib.hid hbc; have HL8 := Lib.hid hlc; have HC8 := Lib.hid hcap; clear hbc hlc hcap
              refine hK.out _ _ (box_on hHeld9 HB8.out) (fun hHeld8 => ?_)
              clear hK K hHeld9
              (try simp only [Act.put, List.setIfInBounds_toArray, List.set_cons_zero, List.set_cons_succ])
              refine wpAnyH_ready (rs := [10]) (by kernel_rfl) (by simp) ?_
              refine (AllReadyH.cons (o := { dst := none, op := Op.store 32 (Operand.tmp 7) (Operand.tmp 49), type := 0, pos := "law.go:135", after := #[{ on := 9, ground := Ground.data }, { on := 8, ground := Ground.data }, { on := 6, ground := Ground.chain }, { on := 0, ground := Ground.phase }, { on := 1, ground := Ground.phase }, { on := 2, ground := Ground.phase }, { on := 3, ground := Ground.phase }, { on := 4, ground := Ground.phase }, { on := 5, ground := Ground.phase }, { on := 6, ground := Ground.phase }, { on := 7, ground := Ground.phase }, { on := 8, ground := Ground.phase }, { on := 9, ground := Ground.phase }], guard := none }) rfl (fun K hK => ?_) AllReadyH.nil)
              refine step_store rfl _ _ rfl _ _ _ _ rfl rfl (((HW9.out).below HB8.out)) ?_; have HW10 := Lib.hid (Whole.put (((HW9.out).below HB8.out)) 0 (.slice (some ⟨g, 0, none⟩) (allL p r a 0 false t m).length cap)); have HL10 := Lib.hid (HL8.out)
              refine hK.out _ _ (box_put hHeld8 _ hbx _ _) (fun hHeld10 => ?_)
              clear hK K hHeld8
              (try simp only [Act.put, List.setIfInBounds_toArray, List.set_cons_zero, List.set_cons_succ])
              refine wpAnyH_done (by kernel_rfl) ?_ _
              refine NoPanic.normal ?_
              have hLast := hHeld10
              clear hHeld10
              go_wp2
              go_meet
              exact ⟨bb, _, cap, rfl, by simpa using HW10.out, (HL10.out.put (bb := bb) (by omega) 0 _).more (by first | (simp; done) | (simp; omega)), HC8.out, hLast.1⟩
          · refine step_alloc rfl rfl ?_; intro bb wa hbb hbb2 hba hwa; have hbx := Nat.lt_of_lt_of_le (Whole.lt hHeld3.1.1.2.2) hbb; have HB9 := Lib.hid hba; have HW9 := Lib.hid hwa; have hza := hba.size; clear hba hwa
            refine hK.out _ _ (box_on hHeld3 HB9.out) (fun hHeld9 => ?_)
            clear hK K hHeld3
            (try simp only [Act.put, List.setIfInBounds_toArray, List.set_cons_zero, List.set_cons_succ])
            refine wpAnyH_ready (rs := [6]) (by kernel_rfl) (by simp) ?_
            refine (AllReadyH.cons (o := { dst := some 47, op := Op.call { callee := Callee.value (Operand.func 9), args := #[Operand.tmp 46], argTypes := #[28] }, type := 9, pos := "law.go:135", after := #[{ on := 5, ground := Ground.data }, { on := 3, ground := Ground.chain }], guard := none }) rfl (fun K hK => ?_) AllReadyH.nil)
            go_simp
            (go_at_call 9; ((with_reducible refine (held_box E3.out hHeld9).mono ?_); rintro e w6 ⟨rfl, hk6, hb6⟩; have HB6 := Lib.hid hb6; have hz6 := hb6.size; clear hb6))
            refine hK.out _ _ hk6 (fun hHeld6 => ?_)
            clear hK K hHeld9
            (try simp only [Act.put, List.setIfInBounds_toArray, List.set_cons_zero, List.set_cons_succ])
            (refine heldTake (i := 7) (oi := { dst := some 48, op := Op.binOp BinOp.add 9 (Operand.tmp 45) (Operand.tmp 47) 9, type := 9, pos := "law.go:135", after := #[{ on := 4, ground := Ground.data }, { on := 6, ground := Ground.data }], guard := none }) (v := ?_) rfl (by kernel_rfl) (by kernel_rfl) (by kernel_rfl) (by assumption) ?_ ?_; rotate_left; focus (refine .inl ⟨by kernel_rfl, ?_⟩; intro w hSw; (try dsimp only at hSw); go_simp; (try with_reducible rfl)); (try simp only [Act.put, List.setIfInBounds_toArray, List.set_cons_zero, List.set_cons_succ]))
            refine wpAnyH_ready (rs := [8]) (by kernel_rfl) (by simp) ?_
            refine (AllReadyH.cons (o := { dst := some 49, op := Op.convert 9 32 (Operand.tmp 48), type := 32, pos := "law.go:135", after := #[{ on := 7, ground := Ground.data }], guard := none }) rfl (fun K hK => ?_) AllReadyH.nil)
            refine step_conv rfl _ rfl (allL p r a 0 false t m) (congrArg Value.string HE.out) ?_; intro g cap wc hg1 hg2 hcap hbc hlc; have hzc := hbc.size; have HB8 := Lib.hid hbc; have HL8 := Lib.hid hlc; have HC8 := Lib.hid hcap; clear hbc hlc hcap
            refine hK.out _ _ (box_on hHeld6 HB8.out) (fun hHeld8 => ?_)
            clear hK K hHeld6
            (try simp only [Act.put, List.setIfInBounds_toArray, List.set_cons_zero, List.set_cons_succ])
            refine wpAnyH_ready (rs := [10]) (by kernel_rfl) (by simp) ?_
            refine (AllReadyH.cons (o := { dst := none, op := Op.store 32 (Operand.tmp 7) (Operand.tmp 49), type := 0, pos := "law.go:135", after := #[{ on := 9, ground := Ground.data }, { on := 8, ground := Ground.data }, { on := 6, ground := Ground.chain }, { on := 0, ground := Ground.phase }, { on := 1, ground := Ground.phase }, { on := 2, ground := Ground.phase }, { on := 3, ground := Ground.phase }, { on := 4, ground := Ground.phase }, { on := 5, ground := Ground.phase }, { on := 6, ground := Ground.phase }, { on := 7, ground := Ground.phase }, { on := 8, ground := Ground.phase }, { on := 9, ground := Ground.phase }], guard := none }) rfl (fun K hK => ?_) AllReadyH.nil)
            refine step_store rfl _ _ rfl _ _ _ _ rfl rfl (((((HW9.out).below HB6.out)).below HB8.out)) ?_; have HW10 := Lib.hid (Whole.put (((((HW9.out).below HB6.out)).below HB8.out)) 0 (.slice (some ⟨g, 0, none⟩) (allL p r a 0 false t m).length cap)); have HL10 := Lib.hid (HL8.out)
            refine hK.out _ _ (box_put hHeld8 _ hbx _ _) (fun hHeld10 => ?_)
            clear hK K hHeld8
            (try simp only [Act.put, List.setIfInBounds_toArray, List.set_cons_zero, List.set_cons_succ])
            refine wpAnyH_done (by kernel_rfl) ?_ _
            refine NoPanic.normal ?_
            have hLast := hHeld10
            clear hHeld10
            go_wp2
            go_meet
            exact ⟨bb, _, cap, rfl, by simpa using HW10.out, (HL10.out.put (bb := bb) (by omega) 0 _).more (by first | (simp; done) | (simp; omega)), HC8.out, hLast.1⟩
        · refine step_alloc rfl rfl ?_; intro bb wa hbb hbb2 hba hwa; have hbx := Nat.lt_of_lt_of_le (Whole.lt hHeld1.1.1.2.2) hbb; have HB9 := Lib.hid hba; have HW9 := Lib.hid hwa; have hza := hba.size; clear hba hwa
          refine hK.out _ _ (box_on hHeld1 HB9.out) (fun hHeld9 => ?_)
          clear hK K hHeld1
          (try simp only [Act.put, List.setIfInBounds_toArray, List.set_cons_zero, List.set_cons_succ])
          refine wpAnyH_ready (rs := [3]) (by kernel_rfl) (by simp) ?_
          refine (AllReadyH.cons (o := { dst := some 44, op := Op.call { callee := Callee.value (Operand.func 8), args := #[Operand.tmp 43], argTypes := #[26] }, type := 9, pos := "law.go:135", after := #[{ on := 2, ground := Ground.data }, { on := 1, ground := Ground.chain }], guard := none }) rfl (fun K hK => ?_) AllReadyH.nil)
          go_simp
          (go_at_call 8; ((with_reducible refine (held_box E2.out hHeld9).mono ?_); rintro e w5 ⟨rfl, hk5, hb5⟩; have HB3 := Lib.hid hb5; have hz5 := hb5.size; clear hb5))
          refine hK.out _ _ hk5 (fun hHeld3 => ?_)
          clear hK K hHeld9
          (try simp only [Act.put, List.setIfInBounds_toArray, List.set_cons_zero, List.set_cons_succ])
          (refine heldTake (i := 4) (oi := { dst := some 45, op := Op.binOp BinOp.add 9 (Operand.tmp 42) (Operand.tmp 44) 9, type := 9, pos := "law.go:135", after := #[{ on := 1, ground := Ground.data }, { on := 3, ground := Ground.data }], guard := none }) (v := ?_) rfl (by kernel_rfl) (by kernel_rfl) (by kernel_rfl) (by assumption) ?_ ?_; rotate_left; focus (refine .inl ⟨by kernel_rfl, ?_⟩; intro w hSw; (try dsimp only at hSw); go_simp; (try with_reducible rfl)); (try simp only [Act.put, List.setIfInBounds_toArray, List.set_cons_zero, List.set_cons_succ]))
          refine wpAnyH_ready (rs := [6]) (by kernel_rfl) (by simp) ?_
          refine (AllReadyH.cons (o := { dst := some 47, op := Op.call { callee := Callee.value (Operand.func 9), args := #[Operand.tmp 46], argTypes := #[28] }, type := 9, pos := "law.go:135", after := #[{ on := 5, ground := Ground.data }, { on := 3, ground := Ground.chain }], guard := none }) rfl (fun K hK => ?_) AllReadyH.nil)
          go_simp
          (go_at_call 9; ((with_reducible refine (held_box E3.out hHeld3).mono ?_); rintro e w6 ⟨rfl, hk6, hb6⟩; have HB6 := Lib.hid hb6; have hz6 := hb6.size; clear hb6))
          refine hK.out _ _ hk6 (fun hHeld6 => ?_)
          clear hK K hHeld3
          (try simp only [Act.put, List.setIfInBounds_toArray, List.set_cons_zero, List.set_cons_succ])
          (refine heldTake (i := 7) (oi := { dst := some 48, op := Op.binOp BinOp.add 9 (Operand.tmp 45) (Operand.tmp 47) 9, type := 9, pos := "law.go:135", after := #[{ on := 4, ground := Ground.data }, { on := 6, ground := Ground.data }], guard := none }) (v := ?_) rfl (by kernel_rfl) (by kernel_rfl) (by kernel_rfl) (by assumption) ?_ ?_; rotate_left; focus (refine .inl ⟨by kernel_rfl, ?_⟩; intro w hSw; (try dsimp only at hSw); go_simp; (try with_reducible rfl)); (try simp only [Act.put, List.setIfInBounds_toArray, List.set_cons_zero, List.set_cons_succ]))
          refine wpAnyH_ready (rs := [8]) (by kernel_rfl) (by simp) ?_
          refine (AllReadyH.cons (o := { dst := some 49, op := Op.convert 9 32 (Operand.tmp 48), type := 32, pos := "law.go:135", after := #[{ on := 7, ground := Ground.data }], guard := none }) rfl (fun K hK => ?_) AllReadyH.nil)
          refine step_conv rfl _ rfl (allL p r a 0 false t m) (congrArg Value.string HE.out) ?_; intro g cap wc hg1 hg2 hcap hbc hlc; have hzc := hbc.size; have HB8 := Lib.hid hbc; have HL8 := Lib.hid hlc; have HC8 := Lib.hid hcap; clear hbc hlc hcap
          refine hK.out _ _ (box_on hHeld6 HB8.out) (fun hHeld8 => ?_)
          clear hK K hHeld6
          (try simp only [Act.put, List.setIfInBounds_toArray, List.set_cons_zero, List.set_cons_succ])
          refine wpAnyH_ready (rs := [10]) (by kernel_rfl) (by simp) ?_
          refine (AllReadyH.cons (o := { dst := none, op := Op.store 32 (Operand.tmp 7) (Operand.tmp 49), type := 0, pos := "law.go:135", after := #[{ on := 9, ground := Ground.data }, { on := 8, ground := Ground.data }, { on := 6, ground := Ground.chain }, { on := 0, ground := Ground.phase }, { on := 1, ground := Ground.phase }, { on := 2, ground := Ground.phase }, { on := 3, ground := Ground.phase }, { on := 4, ground := Ground.phase }, { on := 5, ground := Ground.phase }, { on := 6, ground := Ground.phase }, { on := 7, ground := Ground.phase }, { on := 8, ground := Ground.phase }, { on := 9, ground := Ground.phase }], guard := none }) rfl (fun K hK => ?_) AllReadyH.nil)
          refine step_store rfl _ _ rfl _ _ _ _ rfl rfl (((((((HW9.out).below HB3.out)).below HB6.out)).below HB8.out)) ?_; have HW10 := Lib.hid (Whole.put (((((((HW9.out).below HB3.out)).below HB6.out)).below HB8.out)) 0 (.slice (some ⟨g, 0, none⟩) (allL p r a 0 false t m).length cap)); have HL10 := Lib.hid (HL8.out)
          refine hK.out _ _ (box_put hHeld8 _ hbx _ _) (fun hHeld10 => ?_)
          clear hK K hHeld8
          (try simp only [Act.put, List.setIfInBounds_toArray, List.set_cons_zero, List.set_cons_succ])
          refine wpAnyH_done (by kernel_rfl) ?_ _
          refine NoPanic.normal ?_
          have hLast := hHeld10
          clear hHeld10
          go_wp2
          go_meet
          exact ⟨bb, _, cap, rfl, by simpa using HW10.out, (HL10.out.put (bb := bb) (by omega) 0 _).more (by first | (simp; done) | (simp; omega)), HC8.out, hLast.1⟩
      · refine step_alloc rfl rfl ?_; intro bb wa hbb hbb2 hba hwa; have hbx := Nat.lt_of_lt_of_le (Whole.lt hHeld.1.1.2.2) hbb; have HB9 := Lib.hid hba; have HW9 := Lib.hid hwa; have hza := hba.size; clear hba hwa
        refine hK.out _ _ (box_on hHeld HB9.out) (fun hHeld9 => ?_)
        clear hK K hHeld
        (try simp only [Act.put, List.setIfInBounds_toArray, List.set_cons_zero, List.set_cons_succ])
        refine wpAnyH_ready (rs := [1]) (by kernel_rfl) (by simp) ?_
        refine (AllReadyH.cons (o := { dst := some 42, op := Op.call { callee := Callee.value (Operand.func 7), args := #[Operand.tmp 41], argTypes := #[23] }, type := 9, pos := "law.go:135", after := #[{ on := 0, ground := Ground.data }], guard := none }) rfl (fun K hK => ?_) AllReadyH.nil)
        go_simp
        (go_at_call 7; ((with_reducible refine (held_box E1.out hHeld9).mono ?_); rintro e w4 ⟨rfl, hk4, hb4⟩; have HB1 := Lib.hid hb4; have hz4 := hb4.size; clear hb4))
        refine hK.out _ _ hk4 (fun hHeld1 => ?_)
        clear hK K hHeld9
        (try simp only [Act.put, List.setIfInBounds_toArray, List.set_cons_zero, List.set_cons_succ])
        refine wpAnyH_ready (rs := [3]) (by kernel_rfl) (by simp) ?_
        refine (AllReadyH.cons (o := { dst := some 44, op := Op.call { callee := Callee.value (Operand.func 8), args := #[Operand.tmp 43], argTypes := #[26] }, type := 9, pos := "law.go:135", after := #[{ on := 2, ground := Ground.data }, { on := 1, ground := Ground.chain }], guard := none }) rfl (fun K hK => ?_) AllReadyH.nil)
        go_simp
        (go_at_call 8; ((with_reducible refine (held_box E2.out hHeld1).mono ?_); rintro e w5 ⟨rfl, hk5, hb5⟩; have HB3 := Lib.hid hb5; have hz5 := hb5.size; clear hb5))
        refine hK.out _ _ hk5 (fun hHeld3 => ?_)
        clear hK K hHeld1
        (try simp only [Act.put, List.setIfInBounds_toArray, List.set_cons_zero, List.set_cons_succ])
        (refine heldTake (i := 4) (oi := { dst := some 45, op := Op.binOp BinOp.add 9 (Operand.tmp 42) (Operand.tmp 44) 9, type := 9, pos := "law.go:135", after := #[{ on := 1, ground := Ground.data }, { on := 3, ground := Ground.data }], guard := none }) (v := ?_) rfl (by kernel_rfl) (by kernel_rfl) (by kernel_rfl) (by assumption) ?_ ?_; rotate_left; focus (refine .inl ⟨by kernel_rfl, ?_⟩; intro w hSw; (try dsimp only at hSw); go_simp; (try with_reducible rfl)); (try simp only [Act.put, List.setIfInBounds_toArray, List.set_cons_zero, List.set_cons_succ]))
        refine wpAnyH_ready (rs := [6]) (by kernel_rfl) (by simp) ?_
        refine (AllReadyH.cons (o := { dst := some 47, op := Op.call { callee := Callee.value (Operand.func 9), args := #[Operand.tmp 46], argTypes := #[28] }, type := 9, pos := "law.go:135", after := #[{ on := 5, ground := Ground.data }, { on := 3, ground := Ground.chain }], guard := none }) rfl (fun K hK => ?_) AllReadyH.nil)
        go_simp
        (go_at_call 9; ((with_reducible refine (held_box E3.out hHeld3).mono ?_); rintro e w6 ⟨rfl, hk6, hb6⟩; have HB6 := Lib.hid hb6; have hz6 := hb6.size; clear hb6))
        refine hK.out _ _ hk6 (fun hHeld6 => ?_)
        clear hK K hHeld3
        (try simp only [Act.put, List.setIfInBounds_toArray, List.set_cons_zero, List.set_cons_succ])
        (refine heldTake (i := 7) (oi := { dst := some 48, op := Op.binOp BinOp.add 9 (Operand.tmp 45) (Operand.tmp 47) 9, type := 9, pos := "law.go:135", after := #[{ on := 4, ground := Ground.data }, { on := 6, ground := Ground.data }], guard := none }) (v := ?_) rfl (by kernel_rfl) (by kernel_rfl) (by kernel_rfl) (by assumption) ?_ ?_; rotate_left; focus (refine .inl ⟨by kernel_rfl, ?_⟩; intro w hSw; (try dsimp only at hSw); go_simp; (try with_reducible rfl)); (try simp only [Act.put, List.setIfInBounds_toArray, List.set_cons_zero, List.set_cons_succ]))
        refine wpAnyH_ready (rs := [8]) (by kernel_rfl) (by simp) ?_
        refine (AllReadyH.cons (o := { dst := some 49, op := Op.convert 9 32 (Operand.tmp 48), type := 32, pos := "law.go:135", after := #[{ on := 7, ground := Ground.data }], guard := none }) rfl (fun K hK => ?_) AllReadyH.nil)
        refine step_conv rfl _ rfl (allL p r a 0 false t m) (congrArg Value.string HE.out) ?_; intro g cap wc hg1 hg2 hcap hbc hlc; have hzc := hbc.size; have HB8 := Lib.hid hbc; have HL8 := Lib.hid hlc; have HC8 := Lib.hid hcap; clear hbc hlc hcap
        refine hK.out _ _ (box_on hHeld6 HB8.out) (fun hHeld8 => ?_)
        clear hK K hHeld6
        (try simp only [Act.put, List.setIfInBounds_toArray, List.set_cons_zero, List.set_cons_succ])
        refine wpAnyH_ready (rs := [10]) (by kernel_rfl) (by simp) ?_
        refine (AllReadyH.cons (o := { dst := none, op := Op.store 32 (Operand.tmp 7) (Operand.tmp 49), type := 0, pos := "law.go:135", after := #[{ on := 9, ground := Ground.data }, { on := 8, ground := Ground.data }, { on := 6, ground := Ground.chain }, { on := 0, ground := Ground.phase }, { on := 1, ground := Ground.phase }, { on := 2, ground := Ground.phase }, { on := 3, ground := Ground.phase }, { on := 4, ground := Ground.phase }, { on := 5, ground := Ground.phase }, { on := 6, ground := Ground.phase }, { on := 7, ground := Ground.phase }, { on := 8, ground := Ground.phase }, { on := 9, ground := Ground.phase }], guard := none }) rfl (fun K hK => ?_) AllReadyH.nil)
        refine step_store rfl _ _ rfl _ _ _ _ rfl rfl (((((((((HW9.out).below HB1.out)).below HB3.out)).below HB6.out)).below HB8.out)) ?_; have HW10 := Lib.hid (Whole.put (((((((((HW9.out).below HB1.out)).below HB3.out)).below HB6.out)).below HB8.out)) 0 (.slice (some ⟨g, 0, none⟩) (allL p r a 0 false t m).length cap)); have HL10 := Lib.hid (HL8.out)
        refine hK.out _ _ (box_put hHeld8 _ hbx _ _) (fun hHeld10 => ?_)
        clear hK K hHeld8
        (try simp only [Act.put, List.setIfInBounds_toArray, List.set_cons_zero, List.set_cons_succ])
        refine wpAnyH_done (by kernel_rfl) ?_ _
        refine NoPanic.normal ?_
        have hLast := hHeld10
        clear hHeld10
        go_wp2
        go_meet
        exact ⟨bb, _, cap, rfl, by simpa using HW10.out, (HL10.out.put (bb := bb) (by omega) 0 _).more (by first | (simp; done) | (simp; omega)), HC8.out, hLast.1⟩
    case rest =>
      obtain ⟨bb, A, cap, rfl, hwb, hlb, hcap, hbox⟩ := hcut
      obtain ⟨hz, ht, hc⟩ := HBody.out
      obtain ⟨E, hE⟩ : ∃ E, E = allL p r a 0 false t m := ⟨_, rfl⟩
      rw [← hE] at hwb hlb hcap
      have hpos : 0 < E.length := by rw [hE]; exact allL_pos p r a 0 false t m
      have hEl : E.length ≤ 900000 := by rw [hE]; unfold allL; simp only [List.length_append]; exact HLen.out
      obtain ⟨L, hL⟩ : ∃ L, L = 9 :: (E ++ [7]) := ⟨_, rfl⟩
      have hLl : L.length = E.length + 2 := by rw [hL]; simp
      have c0 := hwb.cell 0
      simp only [List.getElem?_toArray, List.getElem?_cons_zero] at c0
      have hbl := hwb.lt
      have R0 := Lib.hid (Row.made wc [9] wc.heap.size wc.heap.size rfl (Nat.le_refl _) (by simp))
      have HL1 := Lib.hid (hlb.below (below_box wc (.cells #[.int .u8 9] 5)) (Nat.le_refl _))
      have HWB := Lib.hid hwb
      have HBX := Lib.hid hbox
      have HOB := Lib.hid (And.intro hE hL)
      have HLf : Hid (∀ (W : World) (q : Nat), Sc W q L (1 + E.length) → Calls Try.prog 19 #[.pointer (some ⟨q, 0, none⟩)] W fun e w' => e = .returned (.int .i64 1) ∧ ∃ m, w' = W.drewN m) := fun W q h => by
        have := left_any h
        rwa [show (L.length : Int) - ((1 + E.length : Nat) : Int) = 1 by omega] at this
      have HLL := Lib.hid hLl
      have hpos2 : 0 < L.length := by omega
      have hLm : L.length ≤ 1000000 := by omega
      have heq : ∀ w : World, (binOp BinOp.eql 40 (.agg #[.int .i64 0, .int .i64 0]) (.agg #[.int .i64 0, .int .i64 0])).run Try.prog w = .ok (.bool true) w := fun _ => by kernel_rfl
      clear hE hL hwb hlb hbox hLl K0 HE q1 q2 E1 E2 E3 F V hc
      go_wp2_with (first
        | (at_builtin; (have tok := HR5; refine row_new rfl _ _ rfl wc.heap.size v5 ([9] ++ E) rfl (HR5.out.alloc _) w5.heap.size 1 [7] rfl rfl (heap_alloc_new w5 _) (by omega) (by simp; omega) (by simp; omega) ?_; intro v6 w6 hr6 hb6; have hr6' : Row w6 wc.heap.size v6 L := (HOB.out.2 ▸ hr6); obtain ⟨A6, c6, rfl, h61, h62, hl6, _⟩ := lies_own hr6'; have hz6 := hb6.size; simp only [World.size_alloc] at hz6; have HL6 := Lib.hid hl6; have HB6 := Lib.hid hb6; clear hr6 hr6' hl6 hb6 h61 h62 tok))
        | (at_builtin; (refine row_lies rfl _ _ rfl wc.heap.size _ _ rfl R0.out _ _ _ _ E rfl rfl HL1.out hpos (by simp; omega) (by simp) ?_; intro v5 w5 hr5 hb5; have hz5 := hb5.size; simp only [World.size_alloc] at hz5; have HR5 := Lib.hid hr5; have HB5 := Lib.hid hb5; clear hr5 hb5))
        | (go_at_call 10; go_must ((with_reducible refine (over_ok HL6.out hpos2 hLm).mono ?_); intro e w7 h; obtain ⟨q, rfl, hq, hs, hb⟩ := h; have hz7 := hb.size; have HS7 := Lib.hid hs; have HB7 := Lib.hid hb; have hq' := hq; clear hs hb))
        | (go_at_call 11; go_must (
            obtain ⟨d1, d2, d3, d4, d5⟩ := four_made w7 (.pointer (some ⟨q, 0, none⟩))
            have hqlt := HS7.out.lt
            have hbd : Below wc.heap.size wc w7 := ((below_box wc _).trans HB5.out).trans ((((below_box w5 _).mono (by omega)).trans HB6.out).trans (HB7.out.mono (by omega)))
            have ho := out_body (m := m) HOB.out.1 HOB.out.2 hz a0 a1 (Int.le_refl 0) (by decide) (by first | exact hc | simp) ht (HS7.out.below d5) d1 ((HWB.out.below hbd).below d5) d2 d3 d4 (by omega) (by omega) (by omega) (by omega) (by omega)
            refine ho.mono ?_
            rintro e w9 ⟨rfl, hk⟩
            have hb9 : Below wc.heap.size wc w9 := hbd.trans ((d5.mono (by omega)).trans (hk.below.mono (by omega)))
            have HX9 := Lib.hid (HBX.out.on hb9)
            have X := fun o => (HX9.out.on (below_box w9 o)).cells
            have x0 := fun o => (X o).1.1
            have x1 := fun o => (X o).1.2
            have y0 := fun o => (X o).2.1.1
            have y1 := fun o => (X o).2.1.2.1
            have y2 := fun o => (X o).2.1.2.2
            have z0 := fun o => (X o).2.2.1
            have z1 := fun o => (X o).2.2.2
            have k0 := fun o => (hk.s.alloc o).cell 0
            have k1 := fun o => (hk.f.alloc o).cell 0
            have k2 := fun o => (hk.f.alloc o).cell 1
            have k3 := fun o => (hk.l.alloc o).cell 0
            have k4 := fun o => (hk.l.alloc o).cell 1
            have k5 := fun o => (hk.l.alloc o).cell 2
            have k6 := fun o => (hk.g.alloc o).cell 0
            have k7 := fun o => (hk.g.alloc o).cell 1
            simp only [List.getElem?_toArray, List.getElem?_cons_zero, List.getElem?_cons_succ] at k0 k1 k2 k3 k4 k5 k6 k7
            have HK := Lib.hid hk
            clear ho d1 d2 d3 d4 d5 hk hbd hb9 c0 X))
        | (go_at_call 19; go_must ((with_reducible refine (HLf.out _ _ (HK.out.sc.alloc _)).mono ?_); rintro e w10 ⟨rfl, mm, rfl⟩)))
      go_ret
      exact ⟨rfl, below_drewN (HX9.out.on (below_box w9 _)).2 _⟩

theorem back_any (p r : List UInt8) (a b : Int) (c : Bool) (t : UInt8) (m : Bool) (w : World) (a0 : 0 ≤ a) (a1 : a ≤ 4294967295) (b0 : 0 ≤ b) (b1 : b ≤ 4294967295) :
    Calls Try.prog 3 #[argF p r, argL a b c, argG t m] w (Yes w) := by
  by_cases h1 : 500 < p.length
  · exact back_long p r a b c t m w h1
  by_cases h2 : funcZ p r = 0
  · by_cases h3 : valueZ t.toNat = 0
    · by_cases h4 : c = false ∧ ¬ b = 0
      · obtain ⟨rfl, h4⟩ := h4
        exact back_lim p r a b t m w (by omega) h2 h3 h4
      · exact back_main p r a b c t m w (by omega) h2 h3 (fun hc => Classical.byContradiction fun hb => h4 ⟨hc, hb⟩) a0 a1 b0 b1
    · exact back_val p r a b c t m w (by omega) h2 h3
  · exact back_func p r a b c t m w (by omega) h2
end Go.Proofs.Ytmjcbliobjmmfaa

