/- sect.Put. -/
import Derived.Test.YtohliaellefhaaaDoorQs11
import Derived.Test.YtohliaellefhaaaDoorQs03
import Derived.Test.YtohliaellefhaaaDoorQs09
import Derived.Lib.AppendZeros
import Derived.Laws.OwnMore
import Derived.Deep.CutBlock
import Derived.Deep.DeepCutAuto
namespace Go.Proofs.YtohliaellefhaaaDoor
open Go.RowKit
set_option linter.unusedVariables false
set_option maxRecDepth 100000

/-- A section's contents as they are written, and all its bytes. -/
noncomputable def innerL (x : Sct) : List UInt8 := if x.id.toNat = 0 then lebL x.name.length ++ x.name ++ x.body else x.body
noncomputable def sputL (x : Sct) : List UInt8 := [x.id] ++ lebL (innerL x).length ++ innerL x
def secV (x : Sct) (A : Option Addr) (c : Nat) : Value := .agg #[.int .u8 x.id.toNat, .string (S x.name), .slice A x.body.length c, .int .i64 x.off]
def secK (x : Sct) (A : Option Addr) (c : Nat) : Array Value := #[.int .u8 x.id.toNat, .string (S x.name), .slice A x.body.length c, .int .i64 x.off]
theorem innerL_len {x : Sct} {n : Nat} (h1 : x.name.length ≤ n) (h2 : x.body.length ≤ n) (hn : n ≤ 100000) : (innerL x).length ≤ 2 * n + 10 := by
  have h := lebL_len (x.name.length : Int) (by omega)
  unfold innerL
  split
  · simp only [List.length_append]; omega
  · omega
theorem sputL_len {x : Sct} {n : Nat} (h1 : x.name.length ≤ n) (h2 : x.body.length ≤ n) (hn : n ≤ 100000) : 2 ≤ (sputL x).length ∧ (sputL x).length ≤ 2 * n + 21 := by
  have h := innerL_len h1 h2 hn
  have h3 := lebL_len ((innerL x).length : Int) (by omega)
  unfold sputL
  simp only [List.length_append, List.length_singleton]
  omega
section
variable {w : World} {ops : Array Oper} {o : Oper} {a : Act} {K : Act → World → Prop} {Q : Exit → Act → World → Prop} {E : Prop}
theorem step_build1 (hgd : o.guard = none) (x : Operand) (ho : o.op = .buildSlice 36 1 #[(0, x)]) (c : UInt8) (hx : a.eval x = .int .u8 c.toNat)
    (h : ∀ g wa, w.heap.size ≤ g → Below w.heap.size w wa → Pc (some ⟨g, 0, none⟩) 1 [c] wa → K (a.put o.dst (.slice (some ⟨g, 0, none⟩) 1 1)) wa) :
    if Region.wanted o (yielded ops a.tmps) = true then Oper.wp Tryd.prog o a w K Q else E := by
  have hl := lies_made w [c] (0, 0)
  refine step_value (v := .slice (some ⟨w.heap.size, 0, none⟩) 1 1) (w' := w.alloc (.cells (cells (nums [c])).toArray 5)) hgd ?_ (h _ _ (Nat.le_refl _) (below_box w _) ⟨by rw [size_box]; exact hl, fun e => by cases e⟩)
  cases o
  subst ho
  clear h
  generalize a.eval = ev at hx ⊢
  simp [go_sem, hx, cells, nums]
theorem step_build2 (hgd : o.guard = none) (x0 x1 : Operand) (ho : o.op = .buildSlice 86 2 #[(0, x0), (1, x1)]) {A0 A1 : Option Addr} {n0 n1 c0 c1 : Nat} (h0 : a.eval x0 = .slice A0 n0 c0) (h1 : a.eval x1 = .slice A1 n1 c1)
    (h : ∀ g wa, w.heap.size ≤ g → Below w.heap.size w wa → Whole wa g 36 #[.slice A0 n0 c0, .slice A1 n1 c1] → K (a.put o.dst (.slice (some ⟨g, 0, none⟩) 2 2)) wa) :
    if Region.wanted o (yielded ops a.tmps) = true then Oper.wp Tryd.prog o a w K Q else E := by
  refine step_value (v := .slice (some ⟨w.heap.size, 0, none⟩) 2 2) (w' := w.alloc (.cells #[.slice A0 n0 c0, .slice A1 n1 c1] 36)) hgd ?_ (h _ _ (Nat.le_refl _) (below_box w _) (Whole.made _ _ _))
  cases o
  subst ho
  clear h
  generalize a.eval = ev at h0 h1 ⊢
  simp [go_sem, h0, h1]
/-- append of whatever lies, nothing at all too. -/
theorem step_anyS (hgd : o.guard = none) (s x : Operand)
    (ho : o.op = .call { callee := .builtin .append, args := #[s, x], argTypes := #[36, 36] })
    (B : Nat) (v : Value) (xs : List UInt8) (hs : a.eval s = v) (hr : Row w B v xs)
    (A : Option Addr) (m c : Nat) (news : List UInt8) (hx : a.eval x = .slice A m c) (hl : news.length = m) (hn : Pc A c news w)
    (hb : xs.length + news.length ≤ 1000000) (hB : B ≤ w.heap.size)
    (h : ∀ v' w', Row w' B v' (xs ++ news) → Below B w w' → K (a.put o.dst v') w') :
    if Region.wanted o (yielded ops a.tmps) = true then Oper.wp Tryd.prog o a w K Q else E := by
  by_cases hm : 0 < m
  · exact step_lies hgd s x ho B v xs hs hr A m c _ news hx hl hn.lies hm hb hB h
  · obtain rfl : m = 0 := by omega
    have he : news = [] := List.eq_nil_of_length_eq_zero hl
    subst he
    have hw : Region.wanted o (yielded ops a.tmps) = true := by simp [Region.wanted, hgd]
    rw [if_pos hw]
    obtain ⟨i0, hi0, hz0, hz1, hz2⟩ := info_parts infoB
    rcases A with _ | ad
    · obtain rfl := hn.nil rfl
      exact Lib.wp_append_run w s x 36 36 ho v _ hs hx v w (run_append_owned_none (P := Tryd.prog) (w := w) B 36 o.type 5 i0 1 Tryd.underlying36 hi0 v xs.length (cells (nums xs)) hr) (h v w (by simpa using hr) (Below.refl _ _))
    · refine wp_append_own _ s x _ ho B 5 i0 _ 1 1 Tryd.underlying36 hi0 hz0 hz1 hz2 rfl (by omega) v xs.length (cells (nums xs)) hs hr ad 0 c [] hx rfl (by intro j u hu; cases hu) (by intro u hu; cases hu) (by unfold maxLen; omega) (by omega) hB (fun v' w' h2 h3 _ => h v' w' ?_ (Row.below hr hB h3))
      show w'.ownsRow B 5 1 v' (xs ++ []).length (cells (nums (xs ++ [])))
      rw [List.append_nil]
      simpa using h2
/-- []byte(s), as bytes that lie somewhere. -/
theorem step_convP (hgd : o.guard = none) (x : Operand) (ho : o.op = .convert 9 36 x) (l : List UInt8) (hx : a.eval x = .string (S l))
    (h : ∀ A cap wc, Below w.heap.size w wc → Pc A cap l wc → K (a.put o.dst (.slice A l.length cap)) wc) :
    if Region.wanted o (yielded ops a.tmps) = true then Oper.wp Tryd.prog o a w K Q else E :=
  step_conv hgd x ho l hx fun g cap wc _ _ _ hb hl => h _ _ _ hb ⟨hl, fun e => by cases e⟩
end
/-- []byte(s), behind the walk's own simplifying. -/
theorem upon_conv {o : Oper} {a : Act} {K : Act → World → Prop} {Q : Exit → Act → World → Prop} {W : World} {l : List UInt8} (h : ∀ A cap wc, Below W.heap.size W wc → Pc A cap l wc → K (a.put o.dst (.slice A l.length cap)) wc) :
    Oper.upon Tryd.prog o a K Q (((convert 9 36 (.string (S l))).run Tryd.prog W).andThen fun v w' => Result.ok (Next.value v) w') := by
  rw [conv_run (S l) W]
  have := h (some ⟨W.heap.size, 0, none⟩) (grownCap W (S l).size 0 5) (W.drew.alloc (convRow W (S l))) ((Below.refl _ _).drew.alloc (Nat.le_refl _) _) ⟨(conv_lies W l).more (by simp), fun e => by cases e⟩
  rw [← S_size] at this
  exact this
theorem hold2 {W W' : World} {X : Nat} {a b : Value} {W0 : World} (h : W.cell? ⟨X, 1, none⟩ = some a ∧ W.cell? ⟨X, 2, none⟩ = some b ∧ Below W0.heap.size W0 W) (hb : Below W.heap.size W W') : W'.cell? ⟨X, 1, none⟩ = some a ∧ W'.cell? ⟨X, 2, none⟩ = some b ∧ Below W0.heap.size W0 W' :=
  ⟨(hb.cell (p := ⟨X, 1, none⟩) (block_lt_of_cell h.1)).trans h.1, (hb.cell (p := ⟨X, 2, none⟩) (block_lt_of_cell h.2.1)).trans h.2.1, h.2.2.trans (hb.mono h.2.2.size)⟩
theorem hold1 {W W' : World} {X : Nat} {a : Value} {W0 : World} (h : W.cell? ⟨X, 0, none⟩ = some a ∧ Below W0.heap.size W0 W) (hb : Below W.heap.size W W') : W'.cell? ⟨X, 0, none⟩ = some a ∧ Below W0.heap.size W0 W' :=
  ⟨(hb.cell (p := ⟨X, 0, none⟩) (block_lt_of_cell h.1)).trans h.1, h.2.trans (hb.mono h.2.size)⟩
/-- wire.Size, Name, Sized. -/
theorem wsize_s (n : Nat) (w : World) (hn : n ≤ 1000000) : Calls Tryd.prog 38 #[.int .i64 n] w (BytesL (lebL n) w) := by
  have HU := Lib.hid (fun w => uintB (n : Int) w (by omega) (by omega))
  have wn : IntKind.u64.wrap (n : Int) = n := by simp [IntKind.wrap, IntKind.bits, IntKind.signed]; omega
  generalize lebL (n : Int) = y at *
  go_enter Tryd.func38, Tryd.ntmps38
  go_wp2_with (go_at_call 52; go_must ((with_reducible refine (HU.out _).mono ?_); intro e w1 h; obtain ⟨v, rfl, hr, hb⟩ := h; have HR := Lib.hid hr; have HB := Lib.hid hb; clear hr hb))
  go_ret
  exact ⟨_, rfl, HR.out, HB.out⟩
theorem wname_s (s : List UInt8) (w : World) (hs : s.length ≤ 100000) : Calls Tryd.prog 20 #[.string (S s)] w (BytesL (lebL s.length ++ s) w) := by
  have HZ := Lib.hid (fun w => wsize_s s.length w (by omega))
  have hlen := lebL_len (s.length : Int) (by omega)
  have hsz := S_size s
  generalize lebL (s.length : Int) = y at *
  go_enter Tryd.func20, Tryd.ntmps20
  go_wp2_with (first
    | (go_at_call 38; go_must ((with_reducible refine (HZ.out _).mono ?_); intro e w1 h; obtain ⟨v, rfl, hr, hb⟩ := h; have HR := Lib.hid hr; have HB := Lib.hid hb; have hz1 := hb.size; clear hr hb))
    | (at_builtin; (refine row_str rfl _ _ rfl w.heap.size _ y rfl HR.out s rfl (by omega) hz1 ?_; intro v2 w2 hr2 hb2; have HR2 := Lib.hid hr2; have HB2 := Lib.hid hb2; clear hr2 hb2)))
  go_ret
  exact ⟨_, rfl, HR2.out, HB.out.trans HB2.out⟩
theorem wsized_s {w : World} {A : Option Addr} {c : Nat} {l : List UInt8} (hp : Pc A c l w) (hn : l.length ≤ 900000) :
    Calls Tryd.prog 22 #[.slice A l.length c] w (BytesL (lebL l.length ++ l) w) := by
  have HP := Lib.hid hp
  have HZ := Lib.hid (fun w => wsize_s l.length w (by omega))
  have hlen := lebL_len (l.length : Int) (by omega)
  clear hp
  generalize lebL (l.length : Int) = y at *
  go_enter Tryd.func22, Tryd.ntmps22
  go_wp2_with (first
    | (go_at_call 38; go_must ((with_reducible refine (HZ.out _).mono ?_); intro e w1 h; obtain ⟨v, rfl, hr, hb⟩ := h; have HR := Lib.hid hr; have HB := Lib.hid hb; have hz1 := hb.size; have HP1 := Lib.hid (HP.out.below hb); clear hr hb))
    | (at_builtin; (refine row_any rfl _ _ rfl w.heap.size _ y rfl HR.out A l.length c _ l rfl rfl HP1.out.lies HP1.out.nil (by omega) hz1 ?_; intro v2 w2 hr2 hb2; have HR2 := Lib.hid hr2; have HB2 := Lib.hid hb2; clear hr2 hb2)))
  go_ret
  exact ⟨_, rfl, HR2.out, HB.out.trans HB2.out⟩
set_option maxHeartbeats 1600000 in
/-- Concat of two pieces, of which one at least is not empty. -/
theorem concat2 {w : World} {g : Nat} {A1 A2 : Option Addr} {c1 c2 : Nat} {l1 l2 : List UInt8} (hg : Whole w g 36 #[.slice A1 l1.length c1, .slice A2 l2.length c2])
    (h1 : Pc A1 c1 l1 w) (h2 : Pc A2 c2 l2 w) (n1 : 0 < l1.length + l2.length) (n2 : l1.length + l2.length ≤ 1000000) :
    Calls Tryd.prog 21 #[.slice (some ⟨g, 0, none⟩) 2 2] w (BytesL (l1 ++ l2) w) := by
  have g0 : w.cell? ⟨g, 0, none⟩ = some (.slice A1 l1.length c1) := hg.cell 0
  have g1 : w.cell? ⟨g, 1, none⟩ = some (.slice A2 l2.length c2) := hg.cell 1
  obtain ⟨m1, hm1⟩ : ∃ m, m = l1.length := ⟨_, rfl⟩
  obtain ⟨m2, hm2⟩ : ∃ m, m = l2.length := ⟨_, rfl⟩
  rw [← hm1, ← hm2] at n1 n2
  rw [← hm1] at g0
  rw [← hm2] at g1
  have HG := Lib.hid hg
  have H1 := Lib.hid h1
  have H2 := Lib.hid h2
  have HM1 := Lib.hid hm1
  have HM2 := Lib.hid hm2
  clear hg h1 h2 hm1 hm2
  have HGr := Lib.hid (grow_any (m1 + m2) w (by omega) n2)
  go_enter Tryd.func21, Tryd.ntmps21
  go_wp2
  go_loop [3, 11] (fun s i => (s = .int .i64 0 ∧ i = .int .i64 0) ∨ (s = .int .i64 m1 ∧ i = .int .i64 1) ∨ (s = .int .i64 ((m1 + m2 : Nat) : Int) ∧ i = .int .i64 2)) (fun _ i => 2 - (intOf i).toNat)
  case atStart => exact .inl ⟨rfl, rfl⟩
  case round =>
    rcases hrel with ⟨rfl, rfl⟩ | ⟨rfl, rfl⟩ | ⟨rfl, rfl⟩
    · go_wp2
      go_round
      case rel => exact .inr (.inl ⟨by go_num, rfl⟩)
      case measure => simp [intOf]
    · go_wp2
      go_round
      case rel => exact .inr (.inr ⟨by go_num, rfl⟩)
      case measure => simp [intOf]
    · go_wp2_with (go_at_call 39; go_must (refine HGr.out.mono ?_; intro e w1 h; obtain ⟨v1, rfl, hr1, hb1⟩ := h; have HR1 := Lib.hid hr1; have HB1 := Lib.hid hb1; clear hr1 hb1))
      go_loopw [6, 27] (fun v i wr => Below w.heap.size w wr ∧ ((Row wr w.heap.size v [] ∧ i = .int .i64 0) ∨ (Row wr w.heap.size v l1 ∧ i = .int .i64 1) ∨ (Row wr w.heap.size v (l1 ++ l2) ∧ i = .int .i64 2))) (fun _ i _ => 2 - (intOf i).toNat)
      case atStart => exact ⟨HB1.out, .inl ⟨HR1.out, rfl⟩⟩
      case round =>
        obtain ⟨hb, ⟨hr, rfl⟩ | ⟨hr, rfl⟩ | ⟨hr, rfl⟩⟩ := hrel
        · have c0 : wr.cell? ⟨g, 0, none⟩ = some (.slice A1 m1 c1) := by have := (HG.out.below hb).cell 0; rw [HM1.out]; exact this
          have HR := Lib.hid hr
          have HB := Lib.hid hb
          have hz := hb.size
          clear hr hb
          go_wp2_with (at_builtin; (refine row_any rfl _ _ rfl w.heap.size _ [] rfl HR.out A1 m1 c1 wr.heap.size l1 rfl HM1.out.symm (H1.out.below HB.out).lies H1.out.nil (by have := HM1.out; have := HM2.out; (try simp only [List.length_nil]); omega) hz ?_; intro v2 w2 hr2 hb2; have HR2 := Lib.hid hr2; have HB2 := Lib.hid hb2; clear hr2 hb2))
          go_roundw
          case rel => exact ⟨HB.out.trans HB2.out, .inr (.inl ⟨by simpa using HR2.out, rfl⟩)⟩
          case measure => simp [intOf]
        · have c0 : wr.cell? ⟨g, 1, none⟩ = some (.slice A2 m2 c2) := by have := (HG.out.below hb).cell 1; rw [HM2.out]; exact this
          have HR := Lib.hid hr
          have HB := Lib.hid hb
          have hz := hb.size
          clear hr hb
          go_wp2_with (at_builtin; (refine row_any rfl _ _ rfl w.heap.size _ l1 rfl HR.out A2 m2 c2 wr.heap.size l2 rfl HM2.out.symm (H2.out.below HB.out).lies H2.out.nil (by have := HM1.out; have := HM2.out; (try simp only [List.length_append, List.length_nil]); omega) hz ?_; intro v2 w2 hr2 hb2; have HR2 := Lib.hid hr2; have HB2 := Lib.hid hb2; clear hr2 hb2))
          go_roundw
          case rel => exact ⟨HB.out.trans HB2.out, .inr (.inr ⟨HR2.out, rfl⟩)⟩
          case measure => simp [intOf]
        · have HR := Lib.hid hr
          have HB := Lib.hid hb
          clear hr hb
          go_wp2
          go_ret
          exact ⟨_, rfl, HR.out, HB.out⟩
set_option maxHeartbeats 1600000 in
theorem put_other (x : Sct) (A : Option Addr) (c : Nat) (w : World) (hp : Pc A c x.body w) (hn : x.name.length ≤ 100000) (hb : x.body.length ≤ 100000) (h0 : ¬ x.id.toNat = 0) :
    Calls Tryd.prog 11 #[secV x A c] w (BytesL (sputL x) w) := by
  have hW := Whole.made w 38 (secK x A c)
  have hb0 := below_box w (.cells (secK x A c) 38)
  have k0 := hW.cell 0
  have k1 := hW.cell 1
  have k2 := hW.cell 2
  simp only [secK, List.getElem?_toArray, List.getElem?_cons_zero, List.getElem?_cons_succ] at k0 k1 k2
  have HP0 := Lib.hid (hp.below hb0)
  have e0 : ((x.id.toNat : Int) == 0) = false := by simp; omega
  have hin : innerL x = x.body := by unfold innerL; rw [if_neg h0]
  obtain ⟨Y, hY⟩ : ∃ Y, Y = lebL (x.body.length : Int) ++ x.body := ⟨_, rfl⟩
  have hsp : sputL x = [x.id] ++ Y := by unfold sputL; rw [hin, hY, List.append_assoc]
  have hYl : Y.length ≤ 100010 := by have := lebL_len (x.body.length : Int) (by omega); rw [hY, List.length_append]; omega
  have HZS := Lib.hid (fun W A c (h : Pc A c x.body W) => show Calls Tryd.prog 22 #[.slice A x.body.length c] W (BytesL Y W) from by rw [hY]; exact wsized_s h (by omega))
  have HSP := Lib.hid hsp
  have HYL := Lib.hid hYl
  clear h0 hin hsp hW hp hY hYl
  unfold secV
  unfold secK at HP0 hb0
  go_enter Tryd.func11, Tryd.ntmps11
  go_upto_region 4 with fail
  generalize w.alloc (.cells #[.int .u8 x.id.toNat, .string (S x.name), .slice A x.body.length c, .int .i64 x.off] 38) = W0 at *
  have HBE := Lib.hid hb0
  clear hb0 k1 k2
  refine wp_region_noPanic ?_
  refine wp_region_held_drew (S := fun W => W.cell? ⟨w.heap.size, 0, none⟩ = some (.int .u8 x.id.toNat) ∧ Below W0.heap.size W0 W) (by kernel_rfl) ⟨k0, (Below.refl _ _).drew⟩ (fun hHeld => ?_)
  (refine heldTake (i := 0) (oi := { dst := some 15, op := Op.fieldAddr 38 (Operand.tmp 1) 0, type := 0, pos := "sect.go:97", after := #[], guard := none }) (v := ?_) rfl (by kernel_rfl) (by kernel_rfl) (by kernel_rfl) (by assumption) ?_ ?_; rotate_left; focus (refine .inl ⟨by kernel_rfl, ?_⟩; intro w hSw; (try dsimp only at hSw); go_simp; (try with_reducible rfl)); (try simp only [Act.put, List.setIfInBounds_toArray, List.set_cons_zero, List.set_cons_succ]))
  (refine heldTake (i := 1) (oi := { dst := some 16, op := Op.load 5 (Operand.tmp 15), type := 5, pos := "sect.go:97", after := #[{ on := 0, ground := Ground.data }], guard := none }) (v := ?_) rfl (by kernel_rfl) (by kernel_rfl) (by kernel_rfl) (by assumption) ?_ ?_; rotate_left; focus (refine .inl ⟨by kernel_rfl, ?_⟩; intro w hSw; (try dsimp only at hSw); go_simp; (try with_reducible rfl)); (try simp only [Act.put, List.setIfInBounds_toArray, List.set_cons_zero, List.set_cons_succ]))
  (refine heldTake (i := 3) (oi := { dst := some 18, op := Op.move (Operand.tmp 3), type := 36, pos := "sect.go:97", after := #[], guard := none }) (v := ?_) rfl (by kernel_rfl) (by kernel_rfl) (by kernel_rfl) (by assumption) ?_ ?_; rotate_left; focus (refine .inl ⟨by kernel_rfl, ?_⟩; intro w hSw; (try dsimp only at hSw); go_simp; (try with_reducible rfl)); (try simp only [Act.put, List.setIfInBounds_toArray, List.set_cons_zero, List.set_cons_succ]))
  refine wpAnyH_ready (rs := [2, 4]) (by kernel_rfl) (by simp) ?_
  refine (AllReadyH.cons (o := { dst := some 17, op := Op.buildSlice 36 1 #[(0, Operand.tmp 16)], type := 36, pos := "sect.go:97", after := #[{ on := 1, ground := Ground.data }], guard := none }) rfl (fun K hK => ?_) (AllReadyH.cons (o := { dst := some 19, op := Op.call { callee := Callee.value (Operand.func 22), args := #[Operand.tmp 18], argTypes := #[36] }, type := 36, pos := "sect.go:97", after := #[{ on := 3, ground := Ground.data }], guard := none }) rfl (fun K hK => ?_) AllReadyH.nil))
  · refine step_build1 rfl _ rfl x.id rfl ?_; intro g2 wa2 hg2 hb2 hp2; have HB2 := Lib.hid hb2; have HP2 := Lib.hid hp2; clear hb2 hp2
    refine hK.out _ _ (hold1 hHeld HB2.out) (fun hHeld2 => ?_)
    clear hK K hHeld
    (try simp only [Act.put, List.setIfInBounds_toArray, List.set_cons_zero, List.set_cons_succ])
    refine wpAnyH_ready (rs := [4]) (by kernel_rfl) (by simp) ?_
    refine (AllReadyH.cons (o := { dst := some 19, op := Op.call { callee := Callee.value (Operand.func 22), args := #[Operand.tmp 18], argTypes := #[36] }, type := 36, pos := "sect.go:97", after := #[{ on := 3, ground := Ground.data }], guard := none }) rfl (fun K hK => ?_) AllReadyH.nil)
    go_simp
    (go_at_call 22; (with_reducible refine (HZS.out _ _ _ (HP0.out.below hHeld2.2)).mono ?_); rintro e w5 ⟨v5, rfl, hr5, hb5⟩; obtain ⟨A5, c5, rfl, hp5⟩ := hr5.pc; have HB4 := Lib.hid hb5; have HP4 := Lib.hid hp5; clear hb5 hp5 hr5)
    refine hK.out _ _ (hold1 hHeld2 HB4.out) (fun hHeld4 => ?_)
    clear hK K hHeld2
    (try simp only [Act.put, List.setIfInBounds_toArray, List.set_cons_zero, List.set_cons_succ])
    refine wpAnyH_ready (rs := [5]) (by kernel_rfl) (by simp) ?_
    refine (AllReadyH.cons (o := { dst := some 20, op := Op.buildSlice 86 2 #[(0, Operand.tmp 17), (1, Operand.tmp 19)], type := 86, pos := "sect.go:97", after := #[{ on := 2, ground := Ground.data }, { on := 4, ground := Ground.data }], guard := none }) rfl (fun K hK => ?_) AllReadyH.nil)
    refine step_build2 rfl _ _ rfl rfl rfl ?_; intro g7 wa7 hg7 hb7 hw7; have HB5 := Lib.hid hb7; have HW5 := Lib.hid hw7; clear hb7 hw7
    refine hK.out _ _ (hold1 hHeld4 HB5.out) (fun hHeld5 => ?_)
    clear hK K hHeld4
    (try simp only [Act.put, List.setIfInBounds_toArray, List.set_cons_zero, List.set_cons_succ])
    refine wpAnyH_ready (rs := [6]) (by kernel_rfl) (by simp) ?_
    refine (AllReadyH.cons (o := { dst := some 21, op := Op.call { callee := Callee.value (Operand.func 21), args := #[Operand.tmp 20], argTypes := #[86] }, type := 36, pos := "sect.go:97", after := #[{ on := 5, ground := Ground.data }, { on := 4, ground := Ground.chain }], guard := none }) rfl (fun K hK => ?_) AllReadyH.nil)
    go_simp
    (go_at_call 21; (with_reducible refine (concat2 (l1 := [x.id]) HW5.out (((((HP2.out).below HB4.out)).below HB5.out)) (((HP4.out).below HB5.out)) (by have : ([x.id] : List UInt8).length = 1 := rfl; omega) (by have : ([x.id] : List UInt8).length = 1 := rfl; have := HYL.out; omega)).mono ?_); rintro e w8 ⟨v8, rfl, hr8, hb8⟩; have hz8 := Nat.le_trans HBE.out.size hHeld5.2.size; have HB6 := Lib.hid hb8; have HR8 := Lib.hid hr8; clear hb8 hr8)
    refine hK.out _ _ (hold1 hHeld5 HB6.out) (fun hHeld6 => ?_)
    clear hK K hHeld5
    (try simp only [Act.put, List.setIfInBounds_toArray, List.set_cons_zero, List.set_cons_succ])
    (refine heldTake (i := 7) (oi := { dst := some 2, op := Op.assign (Operand.tmp 21), type := 36, pos := "sect.go:97", after := #[{ on := 6, ground := Ground.data }, { on := 6, ground := Ground.chain }, { on := 0, ground := Ground.phase }, { on := 1, ground := Ground.phase }, { on := 2, ground := Ground.phase }, { on := 3, ground := Ground.phase }, { on := 4, ground := Ground.phase }, { on := 5, ground := Ground.phase }, { on := 6, ground := Ground.phase }], guard := none }) (v := ?_) rfl (by kernel_rfl) (by kernel_rfl) (by kernel_rfl) (by assumption) ?_ ?_; rotate_left; focus (refine .inl ⟨by kernel_rfl, ?_⟩; intro w hSw; (try dsimp only at hSw); go_simp; (try with_reducible rfl)); (try simp only [Act.put, List.setIfInBounds_toArray, List.set_cons_zero, List.set_cons_succ]))
    refine wpAnyH_done (by kernel_rfl) ?_ _
    refine NoPanic.normal ?_
    have hLast := hHeld6
    clear hHeld6
    go_wp2
    go_ret
    exact ⟨_, rfl, by rw [HSP.out]; exact HR8.out.mono hz8, HBE.out.trans (hLast.2.mono HBE.out.size)⟩
  · go_simp
    (go_at_call 22; (with_reducible refine (HZS.out _ _ _ (HP0.out.below hHeld.2)).mono ?_); rintro e w5 ⟨v5, rfl, hr5, hb5⟩; obtain ⟨A5, c5, rfl, hp5⟩ := hr5.pc; have HB4 := Lib.hid hb5; have HP4 := Lib.hid hp5; clear hb5 hp5 hr5)
    refine hK.out _ _ (hold1 hHeld HB4.out) (fun hHeld4 => ?_)
    clear hK K hHeld
    (try simp only [Act.put, List.setIfInBounds_toArray, List.set_cons_zero, List.set_cons_succ])
    refine wpAnyH_ready (rs := [2]) (by kernel_rfl) (by simp) ?_
    refine (AllReadyH.cons (o := { dst := some 17, op := Op.buildSlice 36 1 #[(0, Operand.tmp 16)], type := 36, pos := "sect.go:97", after := #[{ on := 1, ground := Ground.data }], guard := none }) rfl (fun K hK => ?_) AllReadyH.nil)
    refine step_build1 rfl _ rfl x.id rfl ?_; intro g2 wa2 hg2 hb2 hp2; have HB2 := Lib.hid hb2; have HP2 := Lib.hid hp2; clear hb2 hp2
    refine hK.out _ _ (hold1 hHeld4 HB2.out) (fun hHeld2 => ?_)
    clear hK K hHeld4
    (try simp only [Act.put, List.setIfInBounds_toArray, List.set_cons_zero, List.set_cons_succ])
    refine wpAnyH_ready (rs := [5]) (by kernel_rfl) (by simp) ?_
    refine (AllReadyH.cons (o := { dst := some 20, op := Op.buildSlice 86 2 #[(0, Operand.tmp 17), (1, Operand.tmp 19)], type := 86, pos := "sect.go:97", after := #[{ on := 2, ground := Ground.data }, { on := 4, ground := Ground.data }], guard := none }) rfl (fun K hK => ?_) AllReadyH.nil)
    refine step_build2 rfl _ _ rfl rfl rfl ?_; intro g7 wa7 hg7 hb7 hw7; have HB5 := Lib.hid hb7; have HW5 := Lib.hid hw7; clear hb7 hw7
    refine hK.out _ _ (hold1 hHeld2 HB5.out) (fun hHeld5 => ?_)
    clear hK K hHeld2
    (try simp only [Act.put, List.setIfInBounds_toArray, List.set_cons_zero, List.set_cons_succ])
    refine wpAnyH_ready (rs := [6]) (by kernel_rfl) (by simp) ?_
    refine (AllReadyH.cons (o := { dst := some 21, op := Op.call { callee := Callee.value (Operand.func 21), args := #[Operand.tmp 20], argTypes := #[86] }, type := 36, pos := "sect.go:97", after := #[{ on := 5, ground := Ground.data }, { on := 4, ground := Ground.chain }], guard := none }) rfl (fun K hK => ?_) AllReadyH.nil)
    go_simp
    (go_at_call 21; (with_reducible refine (concat2 (l1 := [x.id]) HW5.out (((HP2.out).below HB5.out)) (((((HP4.out).below HB2.out)).below HB5.out)) (by have : ([x.id] : List UInt8).length = 1 := rfl; omega) (by have : ([x.id] : List UInt8).length = 1 := rfl; have := HYL.out; omega)).mono ?_); rintro e w8 ⟨v8, rfl, hr8, hb8⟩; have hz8 := Nat.le_trans HBE.out.size hHeld5.2.size; have HB6 := Lib.hid hb8; have HR8 := Lib.hid hr8; clear hb8 hr8)
    refine hK.out _ _ (hold1 hHeld5 HB6.out) (fun hHeld6 => ?_)
    clear hK K hHeld5
    (try simp only [Act.put, List.setIfInBounds_toArray, List.set_cons_zero, List.set_cons_succ])
    (refine heldTake (i := 7) (oi := { dst := some 2, op := Op.assign (Operand.tmp 21), type := 36, pos := "sect.go:97", after := #[{ on := 6, ground := Ground.data }, { on := 6, ground := Ground.chain }, { on := 0, ground := Ground.phase }, { on := 1, ground := Ground.phase }, { on := 2, ground := Ground.phase }, { on := 3, ground := Ground.phase }, { on := 4, ground := Ground.phase }, { on := 5, ground := Ground.phase }, { on := 6, ground := Ground.phase }], guard := none }) (v := ?_) rfl (by kernel_rfl) (by kernel_rfl) (by kernel_rfl) (by assumption) ?_ ?_; rotate_left; focus (refine .inl ⟨by kernel_rfl, ?_⟩; intro w hSw; (try dsimp only at hSw); go_simp; (try with_reducible rfl)); (try simp only [Act.put, List.setIfInBounds_toArray, List.set_cons_zero, List.set_cons_succ]))
    refine wpAnyH_done (by kernel_rfl) ?_ _
    refine NoPanic.normal ?_
    have hLast := hHeld6
    clear hHeld6
    go_wp2
    go_ret
    exact ⟨_, rfl, by rw [HSP.out]; exact HR8.out.mono hz8, HBE.out.trans (hLast.2.mono HBE.out.size)⟩
set_option maxHeartbeats 1600000 in
theorem put_custom (x : Sct) (A : Option Addr) (c : Nat) (w : World) (hp : Pc A c x.body w) (hn : x.name.length ≤ 100000) (hb : x.body.length ≤ 100000) (h0 : x.id.toNat = 0) :
    Calls Tryd.prog 11 #[secV x A c] w (BytesL (sputL x) w) := by
  have hW := Whole.made w 38 (secK x A c)
  have hb0 := below_box w (.cells (secK x A c) 38)
  have k0 := hW.cell 0
  have k1 := hW.cell 1
  have k2 := hW.cell 2
  simp only [secK, List.getElem?_toArray, List.getElem?_cons_zero, List.getElem?_cons_succ] at k0 k1 k2
  have HP0 := Lib.hid (hp.below hb0)
  have e0 : ((x.id.toNat : Int) == 0) = true := by simp; omega
  have hin : innerL x = lebL x.name.length ++ x.name ++ x.body := by unfold innerL; rw [if_pos h0]
  have hl0 := innerL_len hn hb (by omega)
  obtain ⟨T, hT⟩ : ∃ T, T = lebL (x.name.length : Int) ++ x.name := ⟨_, rfl⟩
  obtain ⟨L, hL⟩ : ∃ L, L = innerL x := ⟨_, rfl⟩
  rw [← hL] at hl0
  obtain ⟨Y, hY⟩ : ∃ Y, Y = lebL (L.length : Int) ++ L := ⟨_, rfl⟩
  have hsp : sputL x = [x.id] ++ Y := by unfold sputL; rw [hY, hL, List.append_assoc]
  have hYl : Y.length ≤ 300000 := by have := lebL_len (L.length : Int) (by omega); rw [hY, List.length_append]; omega
  have hLT : T ++ x.body = L := by rw [hL, hin, hT]
  have HLT := Lib.hid hLT
  have hTl : T.length + x.body.length ≤ 1000000 := by have := congrArg List.length hLT; rw [List.length_append] at this; omega
  have HZS := Lib.hid (fun W A c (h : Pc A c L W) => show Calls Tryd.prog 22 #[.slice A L.length c] W (BytesL Y W) from by rw [hY]; exact wsized_s h (by omega))
  have HNM := Lib.hid (fun W => show Calls Tryd.prog 20 #[.string (S x.name)] W (BytesL T W) from by rw [hT]; exact wname_s x.name W hn)
  have HSP := Lib.hid hsp
  have HYL := Lib.hid hYl
  have HTL := Lib.hid hTl
  clear h0 hin hsp hW hp hL hl0 hT hY hYl hLT hTl
  unfold secV
  unfold secK at HP0 hb0
  go_enter Tryd.func11, Tryd.ntmps11
  go_upto_region 3 with fail
  generalize w.alloc (.cells #[.int .u8 x.id.toNat, .string (S x.name), .slice A x.body.length c, .int .i64 x.off] 38) = W0 at *
  have HBE := Lib.hid hb0
  clear hb0
  have hlt0 : w.heap.size < W0.heap.size := block_lt_of_cell k1
  go_cut [3] (fun s W => ∃ A c, s = .slice A L.length c ∧ Pc A c L W ∧ Below W0.heap.size W0 W)
  case first =>
    refine wp_region_noPanic ?_
    refine wp_region_held_drew (S := fun W => W.cell? ⟨w.heap.size, 1, none⟩ = some (.string (S x.name)) ∧ W.cell? ⟨w.heap.size, 2, none⟩ = some (.slice A x.body.length c) ∧ Below W0.heap.size W0 W) (by kernel_rfl) ⟨k1, k2, (Below.refl _ _).drew⟩ (fun hHeld => ?_)
    (refine heldTake (i := 0) (oi := { dst := some 9, op := Op.fieldAddr 38 (Operand.tmp 1) 1, type := 0, pos := "sect.go:95", after := #[], guard := none }) (v := ?_) rfl (by kernel_rfl) (by kernel_rfl) (by kernel_rfl) (by assumption) ?_ ?_; rotate_left; focus (refine .inl ⟨by kernel_rfl, ?_⟩; intro w hSw; (try dsimp only at hSw); go_simp; (try with_reducible rfl)); (try simp only [Act.put, List.setIfInBounds_toArray, List.set_cons_zero, List.set_cons_succ]))
    (refine heldTake (i := 1) (oi := { dst := some 10, op := Op.load 9 (Operand.tmp 9), type := 9, pos := "sect.go:95", after := #[{ on := 0, ground := Ground.data }], guard := none }) (v := ?_) rfl (by kernel_rfl) (by kernel_rfl) (by kernel_rfl) (by assumption) ?_ ?_; rotate_left; focus (refine .inl ⟨by kernel_rfl, ?_⟩; intro w hSw; (try dsimp only at hSw); go_simp; (try with_reducible rfl)); (try simp only [Act.put, List.setIfInBounds_toArray, List.set_cons_zero, List.set_cons_succ]))
    (refine heldTake (i := 3) (oi := { dst := some 12, op := Op.fieldAddr 38 (Operand.tmp 1) 2, type := 0, pos := "sect.go:95", after := #[], guard := none }) (v := ?_) rfl (by kernel_rfl) (by kernel_rfl) (by kernel_rfl) (by assumption) ?_ ?_; rotate_left; focus (refine .inl ⟨by kernel_rfl, ?_⟩; intro w hSw; (try dsimp only at hSw); go_simp; (try with_reducible rfl)); (try simp only [Act.put, List.setIfInBounds_toArray, List.set_cons_zero, List.set_cons_succ]))
    (refine heldTake (i := 4) (oi := { dst := some 13, op := Op.load 36 (Operand.tmp 12), type := 36, pos := "sect.go:95", after := #[{ on := 3, ground := Ground.data }], guard := none }) (v := ?_) rfl (by kernel_rfl) (by kernel_rfl) (by kernel_rfl) (by assumption) ?_ ?_; rotate_left; focus (refine .inl ⟨by kernel_rfl, ?_⟩; intro w hSw; (try dsimp only at hSw); go_simp; (try with_reducible rfl)); (try simp only [Act.put, List.setIfInBounds_toArray, List.set_cons_zero, List.set_cons_succ]))
    refine wpAnyH_ready (rs := [2]) (by kernel_rfl) (by simp) ?_
    refine (AllReadyH.cons (o := { dst := some 11, op := Op.call { callee := Callee.value (Operand.func 20), args := #[Operand.tmp 10], argTypes := #[9] }, type := 36, pos := "sect.go:95", after := #[{ on := 1, ground := Ground.data }], guard := none }) rfl (fun K hK => ?_) AllReadyH.nil)
    go_simp
    (go_at_call 20; (with_reducible refine (HNM.out _).mono ?_); rintro e w3 ⟨v3, rfl, hr3, hb3⟩; have HB2 := Lib.hid hb3; have HR3 := Lib.hid hr3; clear hb3 hr3)
    refine hK.out _ _ (hold2 hHeld HB2.out) (fun hHeld2 => ?_)
    clear hK K hHeld
    (try simp only [Act.put, List.setIfInBounds_toArray, List.set_cons_zero, List.set_cons_succ])
    refine wpAnyH_ready (rs := [5]) (by kernel_rfl) (by simp) ?_
    refine (AllReadyH.cons (o := { dst := some 14, op := Op.call { callee := Callee.builtin Builtin.append, args := #[Operand.tmp 11, Operand.tmp 13], argTypes := #[36, 36] }, type := 36, pos := "sect.go:95", after := #[{ on := 2, ground := Ground.data }, { on := 4, ground := Ground.data }, { on := 2, ground := Ground.chain }], guard := none }) rfl (fun K hK => ?_) AllReadyH.nil)
    refine step_anyS rfl _ _ rfl _ _ T rfl HR3.out A x.body.length c x.body rfl rfl (HP0.out.below hHeld2.2.2) HTL.out HB2.out.size ?_; intro v5 w5 hr5 hb5; rw [HLT.out] at hr5; obtain ⟨A5, c5, rfl, hp5⟩ := hr5.pc; have HP5 := Lib.hid hp5; have hk5 := And.intro ((hb5.cell (p := ⟨w.heap.size, 1, none⟩) hlt0).trans hHeld2.1) (And.intro ((hb5.cell (p := ⟨w.heap.size, 2, none⟩) hlt0).trans hHeld2.2.1) (hHeld2.2.2.trans (hb5.mono (Nat.le_refl _)))); clear hr5 hp5 hb5
    refine hK.out _ _ hk5 (fun hHeld5 => ?_)
    clear hK K hHeld2
    (try simp only [Act.put, List.setIfInBounds_toArray, List.set_cons_zero, List.set_cons_succ])
    (refine heldTake (i := 6) (oi := { dst := some 3, op := Op.assign (Operand.tmp 14), type := 36, pos := "sect.go:95", after := #[{ on := 5, ground := Ground.data }, { on := 5, ground := Ground.chain }, { on := 0, ground := Ground.phase }, { on := 1, ground := Ground.phase }, { on := 2, ground := Ground.phase }, { on := 3, ground := Ground.phase }, { on := 4, ground := Ground.phase }, { on := 5, ground := Ground.phase }], guard := none }) (v := ?_) rfl (by kernel_rfl) (by kernel_rfl) (by kernel_rfl) (by assumption) ?_ ?_; rotate_left; focus (refine .inl ⟨by kernel_rfl, ?_⟩; intro w hSw; (try dsimp only at hSw); go_simp; (try with_reducible rfl)); (try simp only [Act.put, List.setIfInBounds_toArray, List.set_cons_zero, List.set_cons_succ]))
    refine wpAnyH_done (by kernel_rfl) ?_ _
    refine NoPanic.normal ?_
    have hLast := hHeld5
    clear hHeld5
    go_wp2
    go_meet
    exact ⟨A5, c5, rfl, HP5.out, hLast.2.2⟩
  case rest =>
    obtain ⟨A9, c9, rfl, hp9, hb9⟩ := hcut
    have k9 := (hb9.cell (p := ⟨w.heap.size, 0, none⟩) (block_lt_of_cell k0)).trans k0
    have HBE9 := Lib.hid (HBE.out.trans (hb9.mono HBE.out.size))
    have HP9 := Lib.hid hp9
    clear hp9 hb9 k0 k1 k2 HP0 HBE
    go_upto_region 4 with fail
    refine wp_region_noPanic ?_
    refine wp_region_held_drew (S := fun W => W.cell? ⟨w.heap.size, 0, none⟩ = some (.int .u8 x.id.toNat) ∧ Below wc.heap.size wc W) (by kernel_rfl) ⟨k9, (Below.refl _ _).drew⟩ (fun hHeld => ?_)
    (refine heldTake (i := 0) (oi := { dst := some 15, op := Op.fieldAddr 38 (Operand.tmp 1) 0, type := 0, pos := "sect.go:97", after := #[], guard := none }) (v := ?_) rfl (by kernel_rfl) (by kernel_rfl) (by kernel_rfl) (by assumption) ?_ ?_; rotate_left; focus (refine .inl ⟨by kernel_rfl, ?_⟩; intro w hSw; (try dsimp only at hSw); go_simp; (try with_reducible rfl)); (try simp only [Act.put, List.setIfInBounds_toArray, List.set_cons_zero, List.set_cons_succ]))
    (refine heldTake (i := 1) (oi := { dst := some 16, op := Op.load 5 (Operand.tmp 15), type := 5, pos := "sect.go:97", after := #[{ on := 0, ground := Ground.data }], guard := none }) (v := ?_) rfl (by kernel_rfl) (by kernel_rfl) (by kernel_rfl) (by assumption) ?_ ?_; rotate_left; focus (refine .inl ⟨by kernel_rfl, ?_⟩; intro w hSw; (try dsimp only at hSw); go_simp; (try with_reducible rfl)); (try simp only [Act.put, List.setIfInBounds_toArray, List.set_cons_zero, List.set_cons_succ]))
    (refine heldTake (i := 3) (oi := { dst := some 18, op := Op.move (Operand.tmp 3), type := 36, pos := "sect.go:97", after := #[], guard := none }) (v := ?_) rfl (by kernel_rfl) (by kernel_rfl) (by kernel_rfl) (by assumption) ?_ ?_; rotate_left; focus (refine .inl ⟨by kernel_rfl, ?_⟩; intro w hSw; (try dsimp only at hSw); go_simp; (try with_reducible rfl)); (try simp only [Act.put, List.setIfInBounds_toArray, List.set_cons_zero, List.set_cons_succ]))
    refine wpAnyH_ready (rs := [2, 4]) (by kernel_rfl) (by simp) ?_
    refine (AllReadyH.cons (o := { dst := some 17, op := Op.buildSlice 36 1 #[(0, Operand.tmp 16)], type := 36, pos := "sect.go:97", after := #[{ on := 1, ground := Ground.data }], guard := none }) rfl (fun K hK => ?_) (AllReadyH.cons (o := { dst := some 19, op := Op.call { callee := Callee.value (Operand.func 22), args := #[Operand.tmp 18], argTypes := #[36] }, type := 36, pos := "sect.go:97", after := #[{ on := 3, ground := Ground.data }], guard := none }) rfl (fun K hK => ?_) AllReadyH.nil))
    · refine step_build1 rfl _ rfl x.id rfl ?_; intro g2 wa2 hg2 hb2 hp2; have HB2 := Lib.hid hb2; have HP2 := Lib.hid hp2; clear hb2 hp2
      refine hK.out _ _ (hold1 hHeld HB2.out) (fun hHeld2 => ?_)
      clear hK K hHeld
      (try simp only [Act.put, List.setIfInBounds_toArray, List.set_cons_zero, List.set_cons_succ])
      refine wpAnyH_ready (rs := [4]) (by kernel_rfl) (by simp) ?_
      refine (AllReadyH.cons (o := { dst := some 19, op := Op.call { callee := Callee.value (Operand.func 22), args := #[Operand.tmp 18], argTypes := #[36] }, type := 36, pos := "sect.go:97", after := #[{ on := 3, ground := Ground.data }], guard := none }) rfl (fun K hK => ?_) AllReadyH.nil)
      go_simp
      (go_at_call 22; (with_reducible refine (HZS.out _ _ _ (HP9.out.below hHeld2.2)).mono ?_); rintro e w5 ⟨v5, rfl, hr5, hb5⟩; obtain ⟨A5, c5, rfl, hp5⟩ := hr5.pc; have HB4 := Lib.hid hb5; have HP4 := Lib.hid hp5; clear hb5 hp5 hr5)
      refine hK.out _ _ (hold1 hHeld2 HB4.out) (fun hHeld4 => ?_)
      clear hK K hHeld2
      (try simp only [Act.put, List.setIfInBounds_toArray, List.set_cons_zero, List.set_cons_succ])
      refine wpAnyH_ready (rs := [5]) (by kernel_rfl) (by simp) ?_
      refine (AllReadyH.cons (o := { dst := some 20, op := Op.buildSlice 86 2 #[(0, Operand.tmp 17), (1, Operand.tmp 19)], type := 86, pos := "sect.go:97", after := #[{ on := 2, ground := Ground.data }, { on := 4, ground := Ground.data }], guard := none }) rfl (fun K hK => ?_) AllReadyH.nil)
      refine step_build2 rfl _ _ rfl rfl rfl ?_; intro g7 wa7 hg7 hb7 hw7; have HB5 := Lib.hid hb7; have HW5 := Lib.hid hw7; clear hb7 hw7
      refine hK.out _ _ (hold1 hHeld4 HB5.out) (fun hHeld5 => ?_)
      clear hK K hHeld4
      (try simp only [Act.put, List.setIfInBounds_toArray, List.set_cons_zero, List.set_cons_succ])
      refine wpAnyH_ready (rs := [6]) (by kernel_rfl) (by simp) ?_
      refine (AllReadyH.cons (o := { dst := some 21, op := Op.call { callee := Callee.value (Operand.func 21), args := #[Operand.tmp 20], argTypes := #[86] }, type := 36, pos := "sect.go:97", after := #[{ on := 5, ground := Ground.data }, { on := 4, ground := Ground.chain }], guard := none }) rfl (fun K hK => ?_) AllReadyH.nil)
      go_simp
      (go_at_call 21; (with_reducible refine (concat2 (l1 := [x.id]) HW5.out (((((HP2.out).below HB4.out)).below HB5.out)) (((HP4.out).below HB5.out)) (by have : ([x.id] : List UInt8).length = 1 := rfl; omega) (by have : ([x.id] : List UInt8).length = 1 := rfl; have := HYL.out; omega)).mono ?_); rintro e w8 ⟨v8, rfl, hr8, hb8⟩; have hz8 := Nat.le_trans HBE9.out.size hHeld5.2.size; have HB6 := Lib.hid hb8; have HR8 := Lib.hid hr8; clear hb8 hr8)
      refine hK.out _ _ (hold1 hHeld5 HB6.out) (fun hHeld6 => ?_)
      clear hK K hHeld5
      (try simp only [Act.put, List.setIfInBounds_toArray, List.set_cons_zero, List.set_cons_succ])
      (refine heldTake (i := 7) (oi := { dst := some 2, op := Op.assign (Operand.tmp 21), type := 36, pos := "sect.go:97", after := #[{ on := 6, ground := Ground.data }, { on := 6, ground := Ground.chain }, { on := 0, ground := Ground.phase }, { on := 1, ground := Ground.phase }, { on := 2, ground := Ground.phase }, { on := 3, ground := Ground.phase }, { on := 4, ground := Ground.phase }, { on := 5, ground := Ground.phase }, { on := 6, ground := Ground.phase }], guard := none }) (v := ?_) rfl (by kernel_rfl) (by kernel_rfl) (by kernel_rfl) (by assumption) ?_ ?_; rotate_left; focus (refine .inl ⟨by kernel_rfl, ?_⟩; intro w hSw; (try dsimp only at hSw); go_simp; (try with_reducible rfl)); (try simp only [Act.put, List.setIfInBounds_toArray, List.set_cons_zero, List.set_cons_succ]))
      refine wpAnyH_done (by kernel_rfl) ?_ _
      refine NoPanic.normal ?_
      have hLast := hHeld6
      clear hHeld6
      go_wp2
      go_ret
      exact ⟨_, rfl, by rw [HSP.out]; exact HR8.out.mono hz8, HBE9.out.trans (hLast.2.mono HBE9.out.size)⟩
    · go_simp
      (go_at_call 22; (with_reducible refine (HZS.out _ _ _ (HP9.out.below hHeld.2)).mono ?_); rintro e w5 ⟨v5, rfl, hr5, hb5⟩; obtain ⟨A5, c5, rfl, hp5⟩ := hr5.pc; have HB4 := Lib.hid hb5; have HP4 := Lib.hid hp5; clear hb5 hp5 hr5)
      refine hK.out _ _ (hold1 hHeld HB4.out) (fun hHeld4 => ?_)
      clear hK K hHeld
      (try simp only [Act.put, List.setIfInBounds_toArray, List.set_cons_zero, List.set_cons_succ])
      refine wpAnyH_ready (rs := [2]) (by kernel_rfl) (by simp) ?_
      refine (AllReadyH.cons (o := { dst := some 17, op := Op.buildSlice 36 1 #[(0, Operand.tmp 16)], type := 36, pos := "sect.go:97", after := #[{ on := 1, ground := Ground.data }], guard := none }) rfl (fun K hK => ?_) AllReadyH.nil)
      refine step_build1 rfl _ rfl x.id rfl ?_; intro g2 wa2 hg2 hb2 hp2; have HB2 := Lib.hid hb2; have HP2 := Lib.hid hp2; clear hb2 hp2
      refine hK.out _ _ (hold1 hHeld4 HB2.out) (fun hHeld2 => ?_)
      clear hK K hHeld4
      (try simp only [Act.put, List.setIfInBounds_toArray, List.set_cons_zero, List.set_cons_succ])
      refine wpAnyH_ready (rs := [5]) (by kernel_rfl) (by simp) ?_
      refine (AllReadyH.cons (o := { dst := some 20, op := Op.buildSlice 86 2 #[(0, Operand.tmp 17), (1, Operand.tmp 19)], type := 86, pos := "sect.go:97", after := #[{ on := 2, ground := Ground.data }, { on := 4, ground := Ground.data }], guard := none }) rfl (fun K hK => ?_) AllReadyH.nil)
      refine step_build2 rfl _ _ rfl rfl rfl ?_; intro g7 wa7 hg7 hb7 hw7; have HB5 := Lib.hid hb7; have HW5 := Lib.hid hw7; clear hb7 hw7
      refine hK.out _ _ (hold1 hHeld2 HB5.out) (fun hHeld5 => ?_)
      clear hK K hHeld2
      (try simp only [Act.put, List.setIfInBounds_toArray, List.set_cons_zero, List.set_cons_succ])
      refine wpAnyH_ready (rs := [6]) (by kernel_rfl) (by simp) ?_
      refine (AllReadyH.cons (o := { dst := some 21, op := Op.call { callee := Callee.value (Operand.func 21), args := #[Operand.tmp 20], argTypes := #[86] }, type := 36, pos := "sect.go:97", after := #[{ on := 5, ground := Ground.data }, { on := 4, ground := Ground.chain }], guard := none }) rfl (fun K hK => ?_) AllReadyH.nil)
      go_simp
      (go_at_call 21; (with_reducible refine (concat2 (l1 := [x.id]) HW5.out (((HP2.out).below HB5.out)) (((((HP4.out).below HB2.out)).below HB5.out)) (by have : ([x.id] : List UInt8).length = 1 := rfl; omega) (by have : ([x.id] : List UInt8).length = 1 := rfl; have := HYL.out; omega)).mono ?_); rintro e w8 ⟨v8, rfl, hr8, hb8⟩; have hz8 := Nat.le_trans HBE9.out.size hHeld5.2.size; have HB6 := Lib.hid hb8; have HR8 := Lib.hid hr8; clear hb8 hr8)
      refine hK.out _ _ (hold1 hHeld5 HB6.out) (fun hHeld6 => ?_)
      clear hK K hHeld5
      (try simp only [Act.put, List.setIfInBounds_toArray, List.set_cons_zero, List.set_cons_succ])
      (refine heldTake (i := 7) (oi := { dst := some 2, op := Op.assign (Operand.tmp 21), type := 36, pos := "sect.go:97", after := #[{ on := 6, ground := Ground.data }, { on := 6, ground := Ground.chain }, { on := 0, ground := Ground.phase }, { on := 1, ground := Ground.phase }, { on := 2, ground := Ground.phase }, { on := 3, ground := Ground.phase }, { on := 4, ground := Ground.phase }, { on := 5, ground := Ground.phase }, { on := 6, ground := Ground.phase }], guard := none }) (v := ?_) rfl (by kernel_rfl) (by kernel_rfl) (by kernel_rfl) (by assumption) ?_ ?_; rotate_left; focus (refine .inl ⟨by kernel_rfl, ?_⟩; intro w hSw; (try dsimp only at hSw); go_simp; (try with_reducible rfl)); (try simp only [Act.put, List.setIfInBounds_toArray, List.set_cons_zero, List.set_cons_succ]))
      refine wpAnyH_done (by kernel_rfl) ?_ _
      refine NoPanic.normal ?_
      have hLast := hHeld6
      clear hHeld6
      go_wp2
      go_ret
      exact ⟨_, rfl, by rw [HSP.out]; exact HR8.out.mono hz8, HBE9.out.trans (hLast.2.mono HBE9.out.size)⟩
theorem put_sect (x : Sct) (A : Option Addr) (c : Nat) (w : World) (hp : Pc A c x.body w) (hn : x.name.length ≤ 100000) (hb : x.body.length ≤ 100000) :
    Calls Tryd.prog 11 #[secV x A c] w (BytesL (sputL x) w) := by
  by_cases h0 : x.id.toNat = 0
  · exact put_custom x A c w hp hn hb h0
  · exact put_other x A c w hp hn hb h0
end Go.Proofs.YtohliaellefhaaaDoor
