/- sect.Put. -/
import Derived.Test.YtihpnplfklbgjaaDoorQd07
import Derived.Test.YtihpnplfklbgjaaDoorQd03
import Derived.Test.YtihpnplfklbgjaaDoorQd06
import Derived.Lib.AppendZeros
import Derived.Laws.OwnMore
import Derived.Deep.CutBlock
import Derived.Deep.DeepCutAuto
import Derived.Test.YtihpnplfklbgjaaDoorQd02
import Derived.Deep.QuietTactic
import Derived.BigQuiet
import Derived.StillTailTactics
import Derived.Deep.DeepMust
namespace Go.Proofs.YtihpnplfklbgjaaDoor
open Go.RowKit
set_option linter.unusedVariables false
set_option maxRecDepth 100000

/-- A section's contents as they are written, and all its bytes. -/
noncomputable def innerL (x : Sct) : List UInt8 := if x.id.toNat = 0 then lebL x.name.length ++ x.name ++ x.body else x.body
noncomputable def secputL (x : Sct) : List UInt8 := [x.id] ++ lebL (innerL x).length ++ innerL x
def secV (x : Sct) (A : Option Addr) (c : Nat) : Value := .agg #[.int .u8 x.id.toNat, .string (S x.name), .slice A x.body.length c, .int .i64 x.off]
def secK (x : Sct) (A : Option Addr) (c : Nat) : Array Value := #[.int .u8 x.id.toNat, .string (S x.name), .slice A x.body.length c, .int .i64 x.off]
theorem innerL_len {x : Sct} {n : Nat} (h1 : x.name.length ≤ n) (h2 : x.body.length ≤ n) (hn : n ≤ 100000) : (innerL x).length ≤ 2 * n + 10 := by
  have h := lebL_len (x.name.length : Int) (by omega)
  unfold innerL
  split
  · simp only [List.length_append]; omega
  · omega
theorem secputL_len {x : Sct} {n : Nat} (h1 : x.name.length ≤ n) (h2 : x.body.length ≤ n) (hn : n ≤ 100000) : 2 ≤ (secputL x).length ∧ (secputL x).length ≤ 2 * n + 21 := by
  have h := innerL_len h1 h2 hn
  have h3 := lebL_len ((innerL x).length : Int) (by omega)
  unfold secputL
  simp only [List.length_append, List.length_singleton]
  omega
section
variable {w : World} {ops : Array Oper} {o : Oper} {a : Act} {K : Act → World → Prop} {Q : Exit → Act → World → Prop} {E : Prop}
theorem step_build1 (hgd : o.guard = none) (x : Operand) (ho : o.op = .buildSlice 29 1 #[(0, x)]) (c : UInt8) (hx : a.eval x = .int .u8 c.toNat)
    (h : ∀ g wa, w.heap.size ≤ g → Below w.heap.size w wa → Pc (some ⟨g, 0, none⟩) 1 [c] wa → K (a.put o.dst (.slice (some ⟨g, 0, none⟩) 1 1)) wa) :
    if Region.wanted o (yielded ops a.tmps) = true then Oper.wp Tryd.prog o a w K Q else E := by
  have hl := lies_made w [c] (0, 0)
  refine step_value (v := .slice (some ⟨w.heap.size, 0, none⟩) 1 1) (w' := w.alloc (.cells (cells (nums [c])).toArray 5)) hgd ?_ (h _ _ (Nat.le_refl _) (below_box w _) ⟨by rw [size_box]; exact hl, fun e => by cases e⟩)
  cases o
  subst ho
  clear h
  generalize a.eval = ev at hx ⊢
  simp [go_sem, hx, cells, nums]
theorem step_build2 (hgd : o.guard = none) (x0 x1 : Operand) (ho : o.op = .buildSlice 106 2 #[(0, x0), (1, x1)]) {A0 A1 : Option Addr} {n0 n1 c0 c1 : Nat} (h0 : a.eval x0 = .slice A0 n0 c0) (h1 : a.eval x1 = .slice A1 n1 c1)
    (h : ∀ g wa, w.heap.size ≤ g → Below w.heap.size w wa → Whole wa g 29 #[.slice A0 n0 c0, .slice A1 n1 c1] → K (a.put o.dst (.slice (some ⟨g, 0, none⟩) 2 2)) wa) :
    if Region.wanted o (yielded ops a.tmps) = true then Oper.wp Tryd.prog o a w K Q else E := by
  refine step_value (v := .slice (some ⟨w.heap.size, 0, none⟩) 2 2) (w' := w.alloc (.cells #[.slice A0 n0 c0, .slice A1 n1 c1] 29)) hgd ?_ (h _ _ (Nat.le_refl _) (below_box w _) (Whole.made _ _ _))
  cases o
  subst ho
  clear h
  generalize a.eval = ev at h0 h1 ⊢
  simp [go_sem, h0, h1]
theorem step_build3 (hgd : o.guard = none) (x0 x1 x2 : Operand) (ho : o.op = .buildSlice 106 3 #[(0, x0), (1, x1), (2, x2)]) {A0 A1 A2 : Option Addr} {n0 n1 n2 c0 c1 c2 : Nat} (h0 : a.eval x0 = .slice A0 n0 c0) (h1 : a.eval x1 = .slice A1 n1 c1) (h2 : a.eval x2 = .slice A2 n2 c2)
    (h : ∀ g wa, w.heap.size ≤ g → Below w.heap.size w wa → Whole wa g 29 #[.slice A0 n0 c0, .slice A1 n1 c1, .slice A2 n2 c2] → K (a.put o.dst (.slice (some ⟨g, 0, none⟩) 3 3)) wa) :
    if Region.wanted o (yielded ops a.tmps) = true then Oper.wp Tryd.prog o a w K Q else E := by
  refine step_value (v := .slice (some ⟨w.heap.size, 0, none⟩) 3 3) (w' := w.alloc (.cells #[.slice A0 n0 c0, .slice A1 n1 c1, .slice A2 n2 c2] 29)) hgd ?_ (h _ _ (Nat.le_refl _) (below_box w _) (Whole.made _ _ _))
  cases o
  subst ho
  clear h
  generalize a.eval = ev at h0 h1 h2 ⊢
  simp [go_sem, h0, h1, h2]
/-- append of whatever lies, nothing at all too. -/
theorem step_anyS (hgd : o.guard = none) (s x : Operand)
    (ho : o.op = .call { callee := .builtin .append, args := #[s, x], argTypes := #[29, 29] })
    (B : Nat) (v : Value) (xs : List UInt8) (hs : a.eval s = v) (hr : Row w B v xs)
    (A : Option Addr) (m c : Nat) (news : List UInt8) (hx : a.eval x = .slice A m c) (hl : news.length = m) (hn : Pc A c news w)
    (hb : xs.length + news.length ≤ 1000000) (hB : B ≤ w.heap.size)
    (h : ∀ v' w', Row w' B v' (xs ++ news) → Below B w w' → K (a.put o.dst v') w') :
    if Region.wanted o (yielded ops a.tmps) = true then Oper.wp Tryd.prog o a w K Q else E := by
  by_cases hm : 0 < m
  · exact step_lies hgd s x ho B v xs hs hr A m c _ news hx hl hn.lies hm hb hB h
  · obtain rfl : m = 0 := by omega
    have he : news = [] := List.eq_nil_of_length_eq_zero hl
    subst he
    have hw : Region.wanted o (yielded ops a.tmps) = true := by simp [Region.wanted, hgd]
    rw [if_pos hw]
    obtain ⟨i0, hi0, hz0, hz1, hz2⟩ := info_parts infoB
    rcases A with _ | ad
    · obtain rfl := hn.nil rfl
      exact Lib.wp_append_run w s x 29 29 ho v _ hs hx v w (run_append_owned_none (P := Tryd.prog) (w := w) B 29 o.type 5 i0 1 Tryd.underlying29 hi0 v xs.length (cells (nums xs)) hr) (h v w (by simpa using hr) (Below.refl _ _))
    · refine wp_append_own _ s x _ ho B 5 i0 _ 1 1 Tryd.underlying29 hi0 hz0 hz1 hz2 rfl (by omega) v xs.length (cells (nums xs)) hs hr ad 0 c [] hx rfl (by intro j u hu; cases hu) (by intro u hu; cases hu) (by unfold maxLen; omega) (by omega) hB (fun v' w' h2 h3 _ => h v' w' ?_ (Row.below hr hB h3))
      show w'.ownsRow B 5 1 v' (xs ++ []).length (cells (nums (xs ++ [])))
      rw [List.append_nil]
      simpa using h2
/-- []byte(s), as bytes that lie somewhere. -/
theorem step_convP (hgd : o.guard = none) (x : Operand) (ho : o.op = .convert 9 29 x) (l : List UInt8) (hx : a.eval x = .string (S l))
    (h : ∀ A cap wc, Below w.heap.size w wc → Pc A cap l wc → K (a.put o.dst (.slice A l.length cap)) wc) :
    if Region.wanted o (yielded ops a.tmps) = true then Oper.wp Tryd.prog o a w K Q else E :=
  step_conv hgd x ho l hx fun g cap wc _ _ _ hb hl => h _ _ _ hb ⟨hl, fun e => by cases e⟩
end
/-- []byte(s), behind the walk's own simplifying. -/
theorem upon_conv {o : Oper} {a : Act} {K : Act → World → Prop} {Q : Exit → Act → World → Prop} {W : World} {l : List UInt8} (h : ∀ A cap wc, Below W.heap.size W wc → Pc A cap l wc → K (a.put o.dst (.slice A l.length cap)) wc) :
    Oper.upon Tryd.prog o a K Q (((convert 9 29 (.string (S l))).run Tryd.prog W).andThen fun v w' => Result.ok (Next.value v) w') := by
  rw [conv_run (S l) W]
  have := h (some ⟨W.heap.size, 0, none⟩) (grownCap W (S l).size 0 5) (W.drew.alloc (convRow W (S l))) ((Below.refl _ _).drew.alloc (Nat.le_refl _) _) ⟨(conv_lies W l).more (by simp), fun e => by cases e⟩
  rw [← S_size] at this
  exact this
theorem hold2 {W W' : World} {X : Nat} {a b : Value} {W0 : World} (h : W.cell? ⟨X, 1, none⟩ = some a ∧ W.cell? ⟨X, 2, none⟩ = some b ∧ Below W0.heap.size W0 W) (hb : Below W.heap.size W W') : W'.cell? ⟨X, 1, none⟩ = some a ∧ W'.cell? ⟨X, 2, none⟩ = some b ∧ Below W0.heap.size W0 W' :=
  ⟨(hb.cell (p := ⟨X, 1, none⟩) (block_lt_of_cell h.1)).trans h.1, (hb.cell (p := ⟨X, 2, none⟩) (block_lt_of_cell h.2.1)).trans h.2.1, h.2.2.trans (hb.mono h.2.2.size)⟩
theorem hold1 {W W' : World} {X : Nat} {a : Value} {W0 : World} (h : W.cell? ⟨X, 0, none⟩ = some a ∧ Below W0.heap.size W0 W) (hb : Below W.heap.size W W') : W'.cell? ⟨X, 0, none⟩ = some a ∧ Below W0.heap.size W0 W' :=
  ⟨(hb.cell (p := ⟨X, 0, none⟩) (block_lt_of_cell h.1)).trans h.1, h.2.trans (hb.mono h.2.size)⟩
/-- wire.Size, Name, Sized. -/
theorem wsize_s (n : Nat) (w : World) (hn : n ≤ 1000000) : Calls Tryd.prog 76 #[.int .i64 n] w (BytesL (lebL n) w) := by
  have HU := Lib.hid (fun w => uintB (n : Int) w (by omega) (by omega))
  have wn : IntKind.u64.wrap (n : Int) = n := by simp [IntKind.wrap, IntKind.bits, IntKind.signed]; omega
  generalize lebL (n : Int) = y at *
  go_enter Tryd.func76, Tryd.ntmps76
  go_wp2_with (go_at_call 75; go_must ((with_reducible refine (HU.out _).mono ?_); intro e w1 h; obtain ⟨v, rfl, hr, hb⟩ := h; have HR := Lib.hid hr; have HB := Lib.hid hb; clear hr hb))
  go_ret
  exact ⟨_, rfl, HR.out, HB.out⟩
theorem wsizedN_s (s : List UInt8) (w : World) (hs : s.length ≤ 100000) : Calls Tryd.prog 77 #[.string (S s)] w (BytesL (lebL s.length ++ s) w) := by
  have HZ := Lib.hid (fun w => wsize_s s.length w (by omega))
  have hlen := lebL_len (s.length : Int) (by omega)
  have hsz := S_size s
  generalize lebL (s.length : Int) = y at *
  go_enter Tryd.func77, Tryd.ntmps77
  go_wp2_with (first
    | (go_at_call 76; go_must ((with_reducible refine (HZ.out _).mono ?_); intro e w1 h; obtain ⟨v, rfl, hr, hb⟩ := h; have HR := Lib.hid hr; have HB := Lib.hid hb; have hz1 := hb.size; clear hr hb))
    | (at_builtin; (refine row_str rfl _ _ rfl w.heap.size _ y rfl HR.out s rfl (by omega) hz1 ?_; intro v2 w2 hr2 hb2; have HR2 := Lib.hid hr2; have HB2 := Lib.hid hb2; clear hr2 hb2)))
  go_ret
  exact ⟨_, rfl, HR2.out, HB.out.trans HB2.out⟩
theorem wname_s (s : List UInt8) (w : World) (hs : s.length ≤ 100000) : Calls Tryd.prog 41 #[.string (S s)] w (BytesL (lebL s.length ++ s) w) := by
  have HZ := Lib.hid (wsizedN_s s w hs)
  clear hs
  go_enter Tryd.func41, Tryd.ntmps41
  go_wp2_with (go_at_call 77; go_must ((with_reducible refine HZ.out.mono ?_); intro e w1 h; obtain ⟨v, rfl, hr, hb⟩ := h; have HR := Lib.hid hr; have HB := Lib.hid hb; clear hr hb))
  go_ret
  exact ⟨_, rfl, HR.out, HB.out⟩
theorem wsized_s {w : World} {A : Option Addr} {c : Nat} {l : List UInt8} (hp : Pc A c l w) (hn : l.length ≤ 900000) :
    Calls Tryd.prog 73 #[.slice A l.length c] w (BytesL (lebL l.length ++ l) w) := by
  have HP := Lib.hid hp
  have HZ := Lib.hid (fun w => wsize_s l.length w (by omega))
  have hlen := lebL_len (l.length : Int) (by omega)
  clear hp
  generalize lebL (l.length : Int) = y at *
  go_enter Tryd.func73, Tryd.ntmps73
  go_wp2_with (first
    | (go_at_call 76; go_must ((with_reducible refine (HZ.out _).mono ?_); intro e w1 h; obtain ⟨v, rfl, hr, hb⟩ := h; have HR := Lib.hid hr; have HB := Lib.hid hb; have hz1 := hb.size; have HP1 := Lib.hid (HP.out.below hb); clear hr hb))
    | (at_builtin; (refine row_any rfl _ _ rfl w.heap.size _ y rfl HR.out A l.length c _ l rfl rfl HP1.out.lies HP1.out.nil (by omega) hz1 ?_; intro v2 w2 hr2 hb2; have HR2 := Lib.hid hr2; have HB2 := Lib.hid hb2; clear hr2 hb2)))
  go_ret
  exact ⟨_, rfl, HR2.out, HB.out.trans HB2.out⟩
set_option maxHeartbeats 1600000 in
/-- Concat of two pieces, of which one at least is not empty. -/
theorem concat2 {w : World} {g : Nat} {A1 A2 : Option Addr} {c1 c2 : Nat} {l1 l2 : List UInt8} (hg : Whole w g 29 #[.slice A1 l1.length c1, .slice A2 l2.length c2])
    (h1 : Pc A1 c1 l1 w) (h2 : Pc A2 c2 l2 w) (n1 : 0 < l1.length + l2.length) (n2 : l1.length + l2.length ≤ 1000000) :
    Calls Tryd.prog 38 #[.slice (some ⟨g, 0, none⟩) 2 2] w (BytesL (l1 ++ l2) w) := by
  have g0 : w.cell? ⟨g, 0, none⟩ = some (.slice A1 l1.length c1) := hg.cell 0
  have g1 : w.cell? ⟨g, 1, none⟩ = some (.slice A2 l2.length c2) := hg.cell 1
  obtain ⟨m1, hm1⟩ : ∃ m, m = l1.length := ⟨_, rfl⟩
  obtain ⟨m2, hm2⟩ : ∃ m, m = l2.length := ⟨_, rfl⟩
  rw [← hm1, ← hm2] at n1 n2
  rw [← hm1] at g0
  rw [← hm2] at g1
  have HG := Lib.hid hg
  have H1 := Lib.hid h1
  have H2 := Lib.hid h2
  have HM1 := Lib.hid hm1
  have HM2 := Lib.hid hm2
  clear hg h1 h2 hm1 hm2
  have HGr := Lib.hid (grow_any (m1 + m2) w (by omega) n2)
  go_enter Tryd.func38, Tryd.ntmps38
  go_wp2
  go_loop [3, 11] (fun s i => (s = .int .i64 0 ∧ i = .int .i64 0) ∨ (s = .int .i64 m1 ∧ i = .int .i64 1) ∨ (s = .int .i64 ((m1 + m2 : Nat) : Int) ∧ i = .int .i64 2)) (fun _ i => 2 - (intOf i).toNat)
  case atStart => exact .inl ⟨rfl, rfl⟩
  case round =>
    rcases hrel with ⟨rfl, rfl⟩ | ⟨rfl, rfl⟩ | ⟨rfl, rfl⟩
    · go_wp2
      go_round
      case rel => exact .inr (.inl ⟨by go_num, rfl⟩)
      case measure => simp [intOf]
    · go_wp2
      go_round
      case rel => exact .inr (.inr ⟨by go_num, rfl⟩)
      case measure => simp [intOf]
    · go_wp2_with (go_at_call 74; go_must (refine HGr.out.mono ?_; intro e w1 h; obtain ⟨v1, rfl, hr1, hb1⟩ := h; have HR1 := Lib.hid hr1; have HB1 := Lib.hid hb1; clear hr1 hb1))
      go_loopw [6, 27] (fun v i wr => Below w.heap.size w wr ∧ ((Row wr w.heap.size v [] ∧ i = .int .i64 0) ∨ (Row wr w.heap.size v l1 ∧ i = .int .i64 1) ∨ (Row wr w.heap.size v (l1 ++ l2) ∧ i = .int .i64 2))) (fun _ i _ => 2 - (intOf i).toNat)
      case atStart => exact ⟨HB1.out, .inl ⟨HR1.out, rfl⟩⟩
      case round =>
        obtain ⟨hb, ⟨hr, rfl⟩ | ⟨hr, rfl⟩ | ⟨hr, rfl⟩⟩ := hrel
        · have c0 : wr.cell? ⟨g, 0, none⟩ = some (.slice A1 m1 c1) := by have := (HG.out.below hb).cell 0; rw [HM1.out]; exact this
          have HR := Lib.hid hr
          have HB := Lib.hid hb
          have hz := hb.size
          clear hr hb
          go_wp2_with (at_builtin; (refine row_any rfl _ _ rfl w.heap.size _ [] rfl HR.out A1 m1 c1 wr.heap.size l1 rfl HM1.out.symm (H1.out.below HB.out).lies H1.out.nil (by have := HM1.out; have := HM2.out; (try simp only [List.length_nil]); omega) hz ?_; intro v2 w2 hr2 hb2; have HR2 := Lib.hid hr2; have HB2 := Lib.hid hb2; clear hr2 hb2))
          go_roundw
          case rel => exact ⟨HB.out.trans HB2.out, .inr (.inl ⟨by simpa using HR2.out, rfl⟩)⟩
          case measure => simp [intOf]
        · have c0 : wr.cell? ⟨g, 1, none⟩ = some (.slice A2 m2 c2) := by have := (HG.out.below hb).cell 1; rw [HM2.out]; exact this
          have HR := Lib.hid hr
          have HB := Lib.hid hb
          have hz := hb.size
          clear hr hb
          go_wp2_with (at_builtin; (refine row_any rfl _ _ rfl w.heap.size _ l1 rfl HR.out A2 m2 c2 wr.heap.size l2 rfl HM2.out.symm (H2.out.below HB.out).lies H2.out.nil (by have := HM1.out; have := HM2.out; (try simp only [List.length_append, List.length_nil]); omega) hz ?_; intro v2 w2 hr2 hb2; have HR2 := Lib.hid hr2; have HB2 := Lib.hid hb2; clear hr2 hb2))
          go_roundw
          case rel => exact ⟨HB.out.trans HB2.out, .inr (.inr ⟨HR2.out, rfl⟩)⟩
          case measure => simp [intOf]
        · have HR := Lib.hid hr
          have HB := Lib.hid hb
          clear hr hb
          go_wp2
          go_ret
          exact ⟨_, rfl, HR.out, HB.out⟩
end Go.Proofs.YtihpnplfklbgjaaDoor

/- Imports as plain data; creelref10.Same; imports.ofKind. -/
namespace Go.Proofs.YtihpnplfklbgjaaDoor
open Go.RowKit
set_option linter.unusedVariables false
set_option maxRecDepth 100000

/-- An import. -/
structure Im where
  mod : List UInt8
  nam : List UInt8
  kind : UInt8
  typ : UInt32
  mn : UInt32
  mx : UInt32
  bd : Bool
  gt : UInt8
  gm : Bool
  deriving DecidableEq
/-- Its cells. -/
abbrev imC (x : Im) : Array Value := #[.string (S x.mod), .string (S x.nam), .int .u8 x.kind.toNat, .int .u32 x.typ.toNat, .int .u32 x.mn.toNat, .int .u32 x.mx.toNat, .bool x.bd, .int .u8 x.gt.toNat, .bool x.gm]
abbrev imV (x : Im) : Value := .agg (imC x)
abbrev imZ : Im := ⟨[], [], 0, 0, 0, 0, false, 0, false⟩
theorem put9 {w : World} {b : Nat} {t : TypeId} {x0 x1 x2 x3 x4 x5 x6 x7 x8 u0 u1 u2 u3 u4 u5 u6 u7 u8 : Value} (hb : Whole w b t #[x0, x1, x2, x3, x4, x5, x6, x7, x8]) :
    Whole (((((((((w.setCell ⟨b, 0, none⟩ u0).setCell ⟨b, 1, none⟩ u1).setCell ⟨b, 2, none⟩ u2).setCell ⟨b, 3, none⟩ u3).setCell ⟨b, 4, none⟩ u4).setCell ⟨b, 5, none⟩ u5).setCell ⟨b, 6, none⟩ u6).setCell ⟨b, 7, none⟩ u7).setCell ⟨b, 8, none⟩ u8) b t #[u0, u1, u2, u3, u4, u5, u6, u7, u8] ∧ w.grownBy (((((((((w.setCell ⟨b, 0, none⟩ u0).setCell ⟨b, 1, none⟩ u1).setCell ⟨b, 2, none⟩ u2).setCell ⟨b, 3, none⟩ u3).setCell ⟨b, 4, none⟩ u4).setCell ⟨b, 5, none⟩ u5).setCell ⟨b, 6, none⟩ u6).setCell ⟨b, 7, none⟩ u7).setCell ⟨b, 8, none⟩ u8) (some b) := by
  have h1 : Whole (w.setCell ⟨b, 0, none⟩ u0) b t #[u0, x1, x2, x3, x4, x5, x6, x7, x8] := hb.put 0 u0
  have g1 : w.grownBy (w.setCell ⟨b, 0, none⟩ u0) (some b) := gb_put (p := ⟨b, 0, none⟩) (gb_refl w _) (.inl rfl) u0
  have h2 : Whole ((w.setCell ⟨b, 0, none⟩ u0).setCell ⟨b, 1, none⟩ u1) b t #[u0, u1, x2, x3, x4, x5, x6, x7, x8] := h1.put 1 u1
  have g2 : w.grownBy ((w.setCell ⟨b, 0, none⟩ u0).setCell ⟨b, 1, none⟩ u1) (some b) := gb_put (p := ⟨b, 1, none⟩) g1 (.inl rfl) u1
  have h3 : Whole (((w.setCell ⟨b, 0, none⟩ u0).setCell ⟨b, 1, none⟩ u1).setCell ⟨b, 2, none⟩ u2) b t #[u0, u1, u2, x3, x4, x5, x6, x7, x8] := h2.put 2 u2
  have g3 : w.grownBy (((w.setCell ⟨b, 0, none⟩ u0).setCell ⟨b, 1, none⟩ u1).setCell ⟨b, 2, none⟩ u2) (some b) := gb_put (p := ⟨b, 2, none⟩) g2 (.inl rfl) u2
  have h4 : Whole ((((w.setCell ⟨b, 0, none⟩ u0).setCell ⟨b, 1, none⟩ u1).setCell ⟨b, 2, none⟩ u2).setCell ⟨b, 3, none⟩ u3) b t #[u0, u1, u2, u3, x4, x5, x6, x7, x8] := h3.put 3 u3
  have g4 : w.grownBy ((((w.setCell ⟨b, 0, none⟩ u0).setCell ⟨b, 1, none⟩ u1).setCell ⟨b, 2, none⟩ u2).setCell ⟨b, 3, none⟩ u3) (some b) := gb_put (p := ⟨b, 3, none⟩) g3 (.inl rfl) u3
  have h5 : Whole (((((w.setCell ⟨b, 0, none⟩ u0).setCell ⟨b, 1, none⟩ u1).setCell ⟨b, 2, none⟩ u2).setCell ⟨b, 3, none⟩ u3).setCell ⟨b, 4, none⟩ u4) b t #[u0, u1, u2, u3, u4, x5, x6, x7, x8] := h4.put 4 u4
  have g5 : w.grownBy (((((w.setCell ⟨b, 0, none⟩ u0).setCell ⟨b, 1, none⟩ u1).setCell ⟨b, 2, none⟩ u2).setCell ⟨b, 3, none⟩ u3).setCell ⟨b, 4, none⟩ u4) (some b) := gb_put (p := ⟨b, 4, none⟩) g4 (.inl rfl) u4
  have h6 : Whole ((((((w.setCell ⟨b, 0, none⟩ u0).setCell ⟨b, 1, none⟩ u1).setCell ⟨b, 2, none⟩ u2).setCell ⟨b, 3, none⟩ u3).setCell ⟨b, 4, none⟩ u4).setCell ⟨b, 5, none⟩ u5) b t #[u0, u1, u2, u3, u4, u5, x6, x7, x8] := h5.put 5 u5
  have g6 : w.grownBy ((((((w.setCell ⟨b, 0, none⟩ u0).setCell ⟨b, 1, none⟩ u1).setCell ⟨b, 2, none⟩ u2).setCell ⟨b, 3, none⟩ u3).setCell ⟨b, 4, none⟩ u4).setCell ⟨b, 5, none⟩ u5) (some b) := gb_put (p := ⟨b, 5, none⟩) g5 (.inl rfl) u5
  have h7 : Whole (((((((w.setCell ⟨b, 0, none⟩ u0).setCell ⟨b, 1, none⟩ u1).setCell ⟨b, 2, none⟩ u2).setCell ⟨b, 3, none⟩ u3).setCell ⟨b, 4, none⟩ u4).setCell ⟨b, 5, none⟩ u5).setCell ⟨b, 6, none⟩ u6) b t #[u0, u1, u2, u3, u4, u5, u6, x7, x8] := h6.put 6 u6
  have g7 : w.grownBy (((((((w.setCell ⟨b, 0, none⟩ u0).setCell ⟨b, 1, none⟩ u1).setCell ⟨b, 2, none⟩ u2).setCell ⟨b, 3, none⟩ u3).setCell ⟨b, 4, none⟩ u4).setCell ⟨b, 5, none⟩ u5).setCell ⟨b, 6, none⟩ u6) (some b) := gb_put (p := ⟨b, 6, none⟩) g6 (.inl rfl) u6
  have h8 : Whole ((((((((w.setCell ⟨b, 0, none⟩ u0).setCell ⟨b, 1, none⟩ u1).setCell ⟨b, 2, none⟩ u2).setCell ⟨b, 3, none⟩ u3).setCell ⟨b, 4, none⟩ u4).setCell ⟨b, 5, none⟩ u5).setCell ⟨b, 6, none⟩ u6).setCell ⟨b, 7, none⟩ u7) b t #[u0, u1, u2, u3, u4, u5, u6, u7, x8] := h7.put 7 u7
  have g8 : w.grownBy ((((((((w.setCell ⟨b, 0, none⟩ u0).setCell ⟨b, 1, none⟩ u1).setCell ⟨b, 2, none⟩ u2).setCell ⟨b, 3, none⟩ u3).setCell ⟨b, 4, none⟩ u4).setCell ⟨b, 5, none⟩ u5).setCell ⟨b, 6, none⟩ u6).setCell ⟨b, 7, none⟩ u7) (some b) := gb_put (p := ⟨b, 7, none⟩) g7 (.inl rfl) u7
  have h9 : Whole (((((((((w.setCell ⟨b, 0, none⟩ u0).setCell ⟨b, 1, none⟩ u1).setCell ⟨b, 2, none⟩ u2).setCell ⟨b, 3, none⟩ u3).setCell ⟨b, 4, none⟩ u4).setCell ⟨b, 5, none⟩ u5).setCell ⟨b, 6, none⟩ u6).setCell ⟨b, 7, none⟩ u7).setCell ⟨b, 8, none⟩ u8) b t #[u0, u1, u2, u3, u4, u5, u6, u7, u8] := h8.put 8 u8
  have g9 : w.grownBy (((((((((w.setCell ⟨b, 0, none⟩ u0).setCell ⟨b, 1, none⟩ u1).setCell ⟨b, 2, none⟩ u2).setCell ⟨b, 3, none⟩ u3).setCell ⟨b, 4, none⟩ u4).setCell ⟨b, 5, none⟩ u5).setCell ⟨b, 6, none⟩ u6).setCell ⟨b, 7, none⟩ u7).setCell ⟨b, 8, none⟩ u8) (some b) := gb_put (p := ⟨b, 8, none⟩) g8 (.inl rfl) u8
  exact ⟨h9, g9⟩
/-- What lies in a block that holds an import. -/
theorem Whole.im {w : World} {b : Nat} {t : TypeId} {x : Im} (h : Whole w b t (imC x)) :
    w.cell? ⟨b, 0, none⟩ = some (.string (S x.mod)) ∧ w.cell? ⟨b, 1, none⟩ = some (.string (S x.nam)) ∧ w.cell? ⟨b, 2, none⟩ = some (.int .u8 x.kind.toNat) ∧ w.cell? ⟨b, 3, none⟩ = some (.int .u32 x.typ.toNat) ∧
    w.cell? ⟨b, 4, none⟩ = some (.int .u32 x.mn.toNat) ∧ w.cell? ⟨b, 5, none⟩ = some (.int .u32 x.mx.toNat) ∧ w.cell? ⟨b, 6, none⟩ = some (.bool x.bd) ∧ w.cell? ⟨b, 7, none⟩ = some (.int .u8 x.gt.toNat) ∧ w.cell? ⟨b, 8, none⟩ = some (.bool x.gm) :=
  ⟨h.cell 0, h.cell 1, h.cell 2, h.cell 3, h.cell 4, h.cell 5, h.cell 6, h.cell 7, h.cell 8⟩
/-- With nothing in it that does not belong to its kind. -/
def ofK (x : Im) : Im :=
  if x.kind.toNat = 0 then ⟨x.mod, x.nam, x.kind, x.typ, 0, 0, false, 0, false⟩ else
  if x.kind.toNat = 1 ∨ x.kind.toNat = 2 then ⟨x.mod, x.nam, x.kind, 0, x.mn, x.mx, x.bd, 0, false⟩ else
  if x.kind.toNat = 3 then ⟨x.mod, x.nam, x.kind, 0, 0, 0, false, x.gt, x.gm⟩ else ⟨x.mod, x.nam, x.kind, 0, 0, 0, false, 0, false⟩
set_option maxHeartbeats 2000000 in
theorem ofKind_any (x : Im) (w : World) : Calls Tryd.prog 116 #[imV x] w fun e w' => e = .returned (imV (ofK x)) ∧ Below w.heap.size w w' := by
  have hb : ∀ o1 o2 o3 : Obj, Below w.heap.size w (((w.alloc o1).alloc o2).alloc o3) := fun o1 o2 o3 => three_boxes w o1 o2 o3
  by_cases h0 : x.kind.toNat = 0
  · have hx : ofK x = ⟨x.mod, x.nam, x.kind, x.typ, 0, 0, false, 0, false⟩ := by unfold ofK; rw [if_pos h0]
    rw [hx]
    have d0 : ((x.kind.toNat : Int) == 0) = true := be_of (by simp; omega)
    clear hx h0
    go_enter Tryd.func116, Tryd.ntmps116
    go_wp2
    refine bodyPost_ret (v := .agg #[.string (S x.mod), .string (S x.nam), .int .u8 x.kind.toNat, .int .u32 x.typ.toNat, .int .u32 0, .int .u32 0, .bool false, .int .u8 0, .bool false]) (by simp [results, Tryd.results116, go_sem]) rfl ⟨rfl, hb _ _ _⟩
  have d0 : ((x.kind.toNat : Int) == 0) = false := be_of (by simp; omega)
  by_cases h1 : x.kind.toNat = 1
  · have hx : ofK x = ⟨x.mod, x.nam, x.kind, 0, x.mn, x.mx, x.bd, 0, false⟩ := by unfold ofK; rw [if_neg h0, if_pos (.inl h1)]
    rw [hx]
    have d1 : ((x.kind.toNat : Int) == 1) = true := be_of (by simp; omega)
    clear hx h0 h1
    go_enter Tryd.func116, Tryd.ntmps116
    go_wp2
    refine bodyPost_ret (v := .agg #[.string (S x.mod), .string (S x.nam), .int .u8 x.kind.toNat, .int .u32 0, .int .u32 x.mn.toNat, .int .u32 x.mx.toNat, .bool x.bd, .int .u8 0, .bool false]) (by simp [results, Tryd.results116, go_sem]) rfl ⟨rfl, hb _ _ _⟩
  have d1 : ((x.kind.toNat : Int) == 1) = false := be_of (by simp; omega)
  by_cases h2 : x.kind.toNat = 2
  · have hx : ofK x = ⟨x.mod, x.nam, x.kind, 0, x.mn, x.mx, x.bd, 0, false⟩ := by unfold ofK; rw [if_neg h0, if_pos (.inr h2)]
    rw [hx]
    have d2 : ((x.kind.toNat : Int) == 2) = true := be_of (by simp; omega)
    clear hx h0 h1 h2
    go_enter Tryd.func116, Tryd.ntmps116
    go_wp2
    refine bodyPost_ret (v := .agg #[.string (S x.mod), .string (S x.nam), .int .u8 x.kind.toNat, .int .u32 0, .int .u32 x.mn.toNat, .int .u32 x.mx.toNat, .bool x.bd, .int .u8 0, .bool false]) (by simp [results, Tryd.results116, go_sem]) rfl ⟨rfl, hb _ _ _⟩
  have d2 : ((x.kind.toNat : Int) == 2) = false := be_of (by simp; omega)
  by_cases h3 : x.kind.toNat = 3
  · have hx : ofK x = ⟨x.mod, x.nam, x.kind, 0, 0, 0, false, x.gt, x.gm⟩ := by unfold ofK; rw [if_neg h0, if_neg (by omega), if_pos h3]
    rw [hx]
    have d3 : ((x.kind.toNat : Int) == 3) = true := be_of (by simp; omega)
    clear hx h0 h1 h2 h3
    go_enter Tryd.func116, Tryd.ntmps116
    go_wp2
    refine bodyPost_ret (v := .agg #[.string (S x.mod), .string (S x.nam), .int .u8 x.kind.toNat, .int .u32 0, .int .u32 0, .int .u32 0, .bool false, .int .u8 x.gt.toNat, .bool x.gm]) (by simp [results, Tryd.results116, go_sem]) rfl ⟨rfl, hb _ _ _⟩
  have d3 : ((x.kind.toNat : Int) == 3) = false := be_of (by simp; omega)
  have hx : ofK x = ⟨x.mod, x.nam, x.kind, 0, 0, 0, false, 0, false⟩ := by unfold ofK; rw [if_neg h0, if_neg (by omega), if_neg h3]
  rw [hx]
  clear hx h0 h1 h2 h3
  go_enter Tryd.func116, Tryd.ntmps116
  go_wp2
  refine bodyPost_ret (v := .agg #[.string (S x.mod), .string (S x.nam), .int .u8 x.kind.toNat, .int .u32 0, .int .u32 0, .int .u32 0, .bool false, .int .u8 0, .bool false]) (by simp [results, Tryd.results116, go_sem]) rfl ⟨rfl, hb _ _ _⟩
theorem im_ext {x y : Im} (h0 : (S x.mod).toList = (S y.mod).toList) (h1 : (S x.nam).toList = (S y.nam).toList) (h2 : (x.kind.toNat : Int) = y.kind.toNat) (h3 : (x.typ.toNat : Int) = y.typ.toNat) (h4 : (x.mn.toNat : Int) = y.mn.toNat)
    (h5 : (x.mx.toNat : Int) = y.mx.toNat) (h6 : x.bd = y.bd) (h7 : (x.gt.toNat : Int) = y.gt.toNat) (h8 : x.gm = y.gm) : x = y := by
  rw [S_toList, S_toList] at h0 h1
  obtain ⟨a0, a1, a2, a3, a4, a5, a6, a7, a8⟩ := x
  obtain ⟨b0, b1, b2, b3, b4, b5, b6, b7, b8⟩ := y
  simp only at h0 h1 h2 h3 h4 h5 h6 h7 h8
  obtain rfl := i8_of h2
  obtain rfl := i32_of h3
  obtain rfl := i32_of h4
  obtain rfl := i32_of h5
  obtain rfl := i8_of h7
  subst h0; subst h1; subst h6; subst h8
  rfl
theorem eq_im (x y : Im) (w : World) : (binOp BinOp.eql 52 (imV x) (imV y)).run Tryd.prog w = .ok (.bool (decide (x = y))) w := by
  go_simp
  repeat' split
  · rw [decide_eq_true (im_ext (by assumption) (by assumption) (by assumption) (by assumption) (by assumption) (by assumption) (by assumption) (by assumption) (by assumption))]
  all_goals (rw [decide_eq_false (fun h => by subst h; first | (exact absurd rfl (by assumption)) | (rename_i q; exact q rfl))])
theorem neq_im (x y : Im) (w : World) : (binOp BinOp.neq 52 (imV x) (imV y)).run Tryd.prog w = .ok (.bool (!decide (x = y))) w := by
  go_simp
  repeat' split
  · rw [decide_eq_true (im_ext (by assumption) (by assumption) (by assumption) (by assumption) (by assumption) (by assumption) (by assumption) (by assumption) (by assumption))]
    rfl
  all_goals (rw [decide_eq_false (fun h => by subst h; first | (exact absurd rfl (by assumption)) | (rename_i q; exact q rfl))]; rfl)
set_option maxHeartbeats 2000000 in
theorem refSame_im (x y : Im) (w : World) : Calls Tryd.prog 26 #[imV x, imV y] w fun e w' => e = .returned (.bool (decide (x = y))) ∧ Below w.heap.size w w' := by
  have hb : ∀ o1 o2 : Obj, Below w.heap.size w ((w.alloc o1).alloc o2) := fun o1 o2 => (below_box w o1).alloc (by simp) _
  have he := fun W => eq_im x y W
  go_enter Tryd.func26, Tryd.ntmps26
  go_wp2

  go_ret
  exact ⟨rfl, hb _ _⟩
end Go.Proofs.YtihpnplfklbgjaaDoor

/- imports.Right. -/
namespace Go.Proofs.YtihpnplfklbgjaaDoor
open Go.RowKit
set_option linter.unusedVariables false
set_option maxRecDepth 100000

/-- A block that holds an import, in a world grown from B: what is held of it. -/
abbrev Bx (B : World) (b : Nat) (x : Im) (W : World) : Prop := (Whole W b 52 (imC x) ∧ Below B.heap.size B W) ∧
  W.cell? ⟨b, 0, none⟩ = some (.string (S x.mod)) ∧ W.cell? ⟨b, 1, none⟩ = some (.string (S x.nam)) ∧ W.cell? ⟨b, 2, none⟩ = some (.int .u8 x.kind.toNat) ∧ W.cell? ⟨b, 3, none⟩ = some (.int .u32 x.typ.toNat) ∧
    W.cell? ⟨b, 4, none⟩ = some (.int .u32 x.mn.toNat) ∧ W.cell? ⟨b, 5, none⟩ = some (.int .u32 x.mx.toNat) ∧ W.cell? ⟨b, 6, none⟩ = some (.bool x.bd) ∧ W.cell? ⟨b, 7, none⟩ = some (.int .u8 x.gt.toNat) ∧ W.cell? ⟨b, 8, none⟩ = some (.bool x.gm)
section
variable {B W W' : World} {b : Nat} {x : Im}
theorem bx_on (h : Bx B b x W) (hb : Below W.heap.size W W') : Bx B b x W' := ⟨⟨h.1.1.below hb, h.1.2.trans (hb.mono h.1.2.size)⟩, (h.1.1.below hb).im⟩
theorem bx_start (w : World) (x : Im) : Bx w w.heap.size x (w.alloc (.cells (imC x) 52)) := ⟨⟨Whole.made _ _ _, below_box _ _⟩, (Whole.made w 52 (imC x)).im⟩
theorem bx_bel (h : Bx B b x W) : Below B.heap.size B W := h.1.2
theorem bx_held {K : Nat} {args : Array Value} {R : Ending → Prop} (hN : ∀ w, Calls Tryd.prog K args w fun e w' => R e ∧ Below w.heap.size w w') (h : Bx B b x W) : Calls Tryd.prog K args W fun e w' => R e ∧ Bx B b x w' :=
  (hN W).mono fun _ _ ⟨h1, h2⟩ => ⟨h1, bx_on h h2⟩
end
/-- May it be? -/
def rZ (x : Im) : Int := if checkZ x.mod ≠ 0 then checkZ x.mod else if checkZ x.nam ≠ 0 then checkZ x.nam else if 3 < x.kind.toNat then 43 else
  if x ≠ ofK x ∨ (x.bd = false ∧ x.mx.toNat ≠ 0) then 1 else if x.kind.toNat = 3 then valueZ x.gt.toNat else 0
set_option maxHeartbeats 2000000 in
theorem iright_any (x : Im) (w : World) (h1 : x.mod.length ≤ 1000000) (h2 : x.nam.length ≤ 1000000) (hT : TabsU w) :
    Calls Tryd.prog 91 #[imV x] w fun e w' => e = .returned (.int .i64 (rZ x)) ∧ Below w.heap.size w w' := by
  have hT0 : TabsU (w.alloc (.cells (imC x) 52)) := hT.below (below_box _ _)
  have HC1 := Lib.hid (checkU_any x.mod _ h1 hT0)
  have HC2 := Lib.hid (fun W (hT : TabsU W) => checkU_any x.nam W h2 hT)
  have H0 := Lib.hid (bx_start w x)
  have HT := Lib.hid hT0
  clear hT hT0 h1 h2
  by_cases z1 : checkZ x.mod = 0
  · rw [z1] at HC1
    by_cases z2 : checkZ x.nam = 0
    · rw [z2] at HC2
      by_cases k3 : 3 < x.kind.toNat
      · have hr : rZ x = 43 := by unfold rZ; rw [if_neg (by simpa using z1), if_neg (by simpa using z2), if_pos k3]
        rw [hr]
        have d3 : decide ((3 : Int) < (x.kind.toNat : Int)) = true := decide_eq_true (by omega)
        clear hr k3 z1 z2
        go_enter Tryd.func91, Tryd.ntmps91
        go_wp2_with (go_at_call 78; go_must (first
          | ((with_reducible refine HC1.out.mono ?_); rintro e w1 ⟨rfl, hb⟩; have H1 := Lib.hid (bx_on H0.out hb); have HT1 := Lib.hid (HT.out.below hb); have c1 := H1.out.1.1.cell 1; simp only [List.getElem?_toArray, List.getElem?_cons_zero, List.getElem?_cons_succ] at c1; clear hb)
          | ((with_reducible refine (HC2.out _ HT1.out).mono ?_); rintro e w2 ⟨rfl, hb⟩; have H2 := Lib.hid (bx_on H1.out hb); have c2 := H2.out.1.1.cell 2; simp only [List.getElem?_toArray, List.getElem?_cons_zero, List.getElem?_cons_succ] at c2; clear hb c1)))
        go_ret
        exact ⟨rfl, bx_bel H2.out⟩
      · have d3 : decide ((3 : Int) < (x.kind.toNat : Int)) = false := decide_eq_false (by omega)
        have HO := Lib.hid (fun W => ofKind_any x W)
        by_cases ho : x = ofK x
        · have he : ∀ W, (binOp BinOp.neq 52 (imV x) (imV (ofK x))).run Tryd.prog W = .ok (.bool false) W := fun W => by rw [neq_im, decide_eq_true ho]; rfl
          have hrz : rZ x = if x.bd = false ∧ x.mx.toNat ≠ 0 then 1 else if x.kind.toNat = 3 then valueZ x.gt.toNat else 0 := by
            unfold rZ; rw [if_neg (by simpa using z1), if_neg (by simpa using z2), if_neg k3]; simp [← ho]
          rw [hrz]
          clear hrz
          generalize ofK x = y at *
          clear ho z1 z2
          by_cases hbd : x.bd = false
          · have HBD := Lib.hid hbd
            by_cases hmx : x.mx.toNat = 0
            · rw [if_neg (fun h => h.2 hmx)]
              clear hbd
              have d5 : ((x.mx.toNat : Int) != 0) = false := nb_of (by simp; omega)
              by_cases hk : x.kind.toNat = 3
              · rw [if_pos hk]
                have d6 : ((x.kind.toNat : Int) == 3) = true := be_of (by simp; omega)
                have HV := Lib.hid (fun W => value_any (x.gt.toNat : Int) W)
                clear hk hmx k3
                go_enter Tryd.func91, Tryd.ntmps91
                go_wp2_with (go_at_call 78; go_must (first
                  | ((with_reducible refine HC1.out.mono ?_); rintro e w1 ⟨rfl, hb⟩; have H1 := Lib.hid (bx_on H0.out hb); have HT1 := Lib.hid (HT.out.below hb); have c1 := H1.out.1.1.cell 1; simp only [List.getElem?_toArray, List.getElem?_cons_zero, List.getElem?_cons_succ] at c1; clear hb)
                  | ((with_reducible refine (HC2.out _ HT1.out).mono ?_); rintro e w2 ⟨rfl, hb⟩; have H2 := Lib.hid (bx_on H1.out hb); have c2 := H2.out.1.1.cell 2; simp only [List.getElem?_toArray, List.getElem?_cons_zero, List.getElem?_cons_succ] at c2; clear hb c1)))
                go_region_held3 (fun W => Bx w w.heap.size x W) (first | assumption | (exact bx_on H2.out (Below.refl _ _).drew))
                  (first | (go_at_call 116; ((with_reducible refine (bx_held HO.out ‹_›).mono ?_); rintro e w3 ⟨rfl, hk3⟩)))
                all_goals
                  obtain ⟨hk4, k0, k1, k2, k3', k4, k5, k6, k7, k8⟩ := hk3
                  have hbd := HBD.out
                  go_wp2_with (go_at_call 117; go_must ((with_reducible refine (HV.out _).mono ?_); rintro e w4 ⟨rfl, rfl⟩))
                  go_ret
                  exact ⟨rfl, hk4.2⟩
              · rw [if_neg hk]
                have d6 : ((x.kind.toNat : Int) == 3) = false := be_of (by simp; omega)
                clear hk hmx k3
                go_enter Tryd.func91, Tryd.ntmps91
                go_wp2_with (go_at_call 78; go_must (first
                  | ((with_reducible refine HC1.out.mono ?_); rintro e w1 ⟨rfl, hb⟩; have H1 := Lib.hid (bx_on H0.out hb); have HT1 := Lib.hid (HT.out.below hb); have c1 := H1.out.1.1.cell 1; simp only [List.getElem?_toArray, List.getElem?_cons_zero, List.getElem?_cons_succ] at c1; clear hb)
                  | ((with_reducible refine (HC2.out _ HT1.out).mono ?_); rintro e w2 ⟨rfl, hb⟩; have H2 := Lib.hid (bx_on H1.out hb); have c2 := H2.out.1.1.cell 2; simp only [List.getElem?_toArray, List.getElem?_cons_zero, List.getElem?_cons_succ] at c2; clear hb c1)))
                go_region_held3 (fun W => Bx w w.heap.size x W) (first | assumption | (exact bx_on H2.out (Below.refl _ _).drew))
                  (first | (go_at_call 116; ((with_reducible refine (bx_held HO.out ‹_›).mono ?_); rintro e w3 ⟨rfl, hk3⟩)))
                all_goals
                  obtain ⟨hk4, k0, k1, k2, k3', k4, k5, k6, k7, k8⟩ := hk3
                  have hbd := HBD.out
                  go_wp2
                  go_ret
                  exact ⟨rfl, hk4.2⟩
            · rw [if_pos ⟨hbd, hmx⟩]
              clear hbd
              have d5 : ((x.mx.toNat : Int) != 0) = true := nb_of (by simp; omega)
              clear hmx k3
              go_enter Tryd.func91, Tryd.ntmps91
              go_wp2_with (go_at_call 78; go_must (first
                | ((with_reducible refine HC1.out.mono ?_); rintro e w1 ⟨rfl, hb⟩; have H1 := Lib.hid (bx_on H0.out hb); have HT1 := Lib.hid (HT.out.below hb); have c1 := H1.out.1.1.cell 1; simp only [List.getElem?_toArray, List.getElem?_cons_zero, List.getElem?_cons_succ] at c1; clear hb)
                | ((with_reducible refine (HC2.out _ HT1.out).mono ?_); rintro e w2 ⟨rfl, hb⟩; have H2 := Lib.hid (bx_on H1.out hb); have c2 := H2.out.1.1.cell 2; simp only [List.getElem?_toArray, List.getElem?_cons_zero, List.getElem?_cons_succ] at c2; clear hb c1)))
              go_region_held3 (fun W => Bx w w.heap.size x W) (first | assumption | (exact bx_on H2.out (Below.refl _ _).drew))
                (first | (go_at_call 116; ((with_reducible refine (bx_held HO.out ‹_›).mono ?_); rintro e w3 ⟨rfl, hk3⟩)))
              all_goals
                obtain ⟨hk4, k0, k1, k2, k3', k4, k5, k6, k7, k8⟩ := hk3
                have hbd := HBD.out
                go_wp2
                go_ret
                exact ⟨rfl, hk4.2⟩
          · have hbt : x.bd = true := by simpa using hbd
            rw [if_neg (fun h => hbd h.1)]
            have HBD := Lib.hid hbt
            clear hbd hbt
            by_cases hk : x.kind.toNat = 3
            · rw [if_pos hk]
              have d6 : ((x.kind.toNat : Int) == 3) = true := be_of (by simp; omega)
              have HV := Lib.hid (fun W => value_any (x.gt.toNat : Int) W)
              clear hk k3
              go_enter Tryd.func91, Tryd.ntmps91
              go_wp2_with (go_at_call 78; go_must (first
                | ((with_reducible refine HC1.out.mono ?_); rintro e w1 ⟨rfl, hb⟩; have H1 := Lib.hid (bx_on H0.out hb); have HT1 := Lib.hid (HT.out.below hb); have c1 := H1.out.1.1.cell 1; simp only [List.getElem?_toArray, List.getElem?_cons_zero, List.getElem?_cons_succ] at c1; clear hb)
                | ((with_reducible refine (HC2.out _ HT1.out).mono ?_); rintro e w2 ⟨rfl, hb⟩; have H2 := Lib.hid (bx_on H1.out hb); have c2 := H2.out.1.1.cell 2; simp only [List.getElem?_toArray, List.getElem?_cons_zero, List.getElem?_cons_succ] at c2; clear hb c1)))
              go_region_held3 (fun W => Bx w w.heap.size x W) (first | assumption | (exact bx_on H2.out (Below.refl _ _).drew))
                (first | (go_at_call 116; ((with_reducible refine (bx_held HO.out ‹_›).mono ?_); rintro e w3 ⟨rfl, hk3⟩)))
              all_goals
                obtain ⟨hk4, k0, k1, k2, k3', k4, k5, k6, k7, k8⟩ := hk3
                have hbd := HBD.out
                go_wp2_with (go_at_call 117; go_must ((with_reducible refine (HV.out _).mono ?_); rintro e w4 ⟨rfl, rfl⟩))
                go_ret
                exact ⟨rfl, hk4.2⟩
            · rw [if_neg hk]
              have d6 : ((x.kind.toNat : Int) == 3) = false := be_of (by simp; omega)
              clear hk k3
              go_enter Tryd.func91, Tryd.ntmps91
              go_wp2_with (go_at_call 78; go_must (first
                | ((with_reducible refine HC1.out.mono ?_); rintro e w1 ⟨rfl, hb⟩; have H1 := Lib.hid (bx_on H0.out hb); have HT1 := Lib.hid (HT.out.below hb); have c1 := H1.out.1.1.cell 1; simp only [List.getElem?_toArray, List.getElem?_cons_zero, List.getElem?_cons_succ] at c1; clear hb)
                | ((with_reducible refine (HC2.out _ HT1.out).mono ?_); rintro e w2 ⟨rfl, hb⟩; have H2 := Lib.hid (bx_on H1.out hb); have c2 := H2.out.1.1.cell 2; simp only [List.getElem?_toArray, List.getElem?_cons_zero, List.getElem?_cons_succ] at c2; clear hb c1)))
              go_region_held3 (fun W => Bx w w.heap.size x W) (first | assumption | (exact bx_on H2.out (Below.refl _ _).drew))
                (first | (go_at_call 116; ((with_reducible refine (bx_held HO.out ‹_›).mono ?_); rintro e w3 ⟨rfl, hk3⟩)))
              all_goals
                obtain ⟨hk4, k0, k1, k2, k3', k4, k5, k6, k7, k8⟩ := hk3
                have hbd := HBD.out
                go_wp2
                go_ret
                exact ⟨rfl, hk4.2⟩
        · have he : ∀ W, (binOp BinOp.neq 52 (imV x) (imV (ofK x))).run Tryd.prog W = .ok (.bool true) W := fun W => by rw [neq_im, decide_eq_false ho]; rfl
          have hr : rZ x = 1 := by unfold rZ; rw [if_neg (by simpa using z1), if_neg (by simpa using z2), if_neg k3, if_pos (.inl ho)]
          rw [hr]
          clear hr
          generalize ofK x = y at *
          clear ho z1 z2 k3
          go_enter Tryd.func91, Tryd.ntmps91
          go_wp2_with (go_at_call 78; go_must (first
            | ((with_reducible refine HC1.out.mono ?_); rintro e w1 ⟨rfl, hb⟩; have H1 := Lib.hid (bx_on H0.out hb); have HT1 := Lib.hid (HT.out.below hb); have c1 := H1.out.1.1.cell 1; simp only [List.getElem?_toArray, List.getElem?_cons_zero, List.getElem?_cons_succ] at c1; clear hb)
            | ((with_reducible refine (HC2.out _ HT1.out).mono ?_); rintro e w2 ⟨rfl, hb⟩; have H2 := Lib.hid (bx_on H1.out hb); have c2 := H2.out.1.1.cell 2; simp only [List.getElem?_toArray, List.getElem?_cons_zero, List.getElem?_cons_succ] at c2; clear hb c1)))
          go_region_held3 (fun W => Bx w w.heap.size x W) (first | assumption | (exact bx_on H2.out (Below.refl _ _).drew))
            (first | (go_at_call 116; ((with_reducible refine (bx_held HO.out ‹_›).mono ?_); rintro e w3 ⟨rfl, hk3⟩)))
          all_goals
            go_wp2
            go_ret
            exact ⟨rfl, bx_bel (by assumption)⟩
    · have hr : rZ x = checkZ x.nam := by unfold rZ; rw [if_neg (by simpa using z1), if_pos z2]
      rw [hr]
      have d3 : (checkZ x.nam != 0) = true := zb_of (by simpa using z2)
      clear hr z1 z2
      generalize checkZ x.nam = z at *
      go_enter Tryd.func91, Tryd.ntmps91
      go_wp2_with (go_at_call 78; go_must (first
          | ((with_reducible refine HC1.out.mono ?_); rintro e w1 ⟨rfl, hb⟩; have H1 := Lib.hid (bx_on H0.out hb); have HT1 := Lib.hid (HT.out.below hb); have c1 := H1.out.1.1.cell 1; simp only [List.getElem?_toArray, List.getElem?_cons_zero, List.getElem?_cons_succ] at c1; clear hb)
          | ((with_reducible refine (HC2.out _ HT1.out).mono ?_); rintro e w2 ⟨rfl, hb⟩; have H2 := Lib.hid (bx_on H1.out hb); clear hb c1)))
      go_ret
      exact ⟨rfl, bx_bel H2.out⟩
  · have hr : rZ x = checkZ x.mod := by unfold rZ; rw [if_pos z1]
    rw [hr]
    have d3 : (checkZ x.mod != 0) = true := zb_of (by simpa using z1)
    clear hr z1 HC2
    generalize checkZ x.mod = z at *
    go_enter Tryd.func91, Tryd.ntmps91
    go_wp2_with (go_at_call 78; go_must (first
          | ((with_reducible refine HC1.out.mono ?_); rintro e w1 ⟨rfl, hb⟩; have H1 := Lib.hid (bx_on H0.out hb); clear hb)))
    go_ret
    exact ⟨rfl, bx_bel H1.out⟩
end Go.Proofs.YtihpnplfklbgjaaDoor

/- imports.described; slices.Concat of four pieces. (By gen/genPut.py.) -/
namespace Go.Proofs.YtihpnplfklbgjaaDoor
open Go.RowKit
set_option linter.unusedVariables false
set_option maxRecDepth 100000

/-- What is behind the kind. -/
noncomputable def desL (x : Im) : List UInt8 :=
  if x.kind.toNat = 0 then lebL x.typ.toNat else if x.kind.toNat = 1 then [112] ++ encLim x.mn.toNat x.mx.toNat x.bd else
  if x.kind.toNat = 2 then encLim x.mn.toNat x.mx.toNat x.bd else encG x.gt.toNat x.gm
/-- Its bytes. -/
noncomputable def iputL (x : Im) : List UInt8 := nmL x.mod ++ nmL x.nam ++ [x.kind] ++ desL x
theorem encLim_len (a b : Int) (c : Bool) (h1 : a ≤ 4294967295) (h2 : b ≤ 4294967295) : 1 ≤ (encLim a b c).length ∧ (encLim a b c).length ≤ 21 := by
  have m1 := lebL_len a (by omega)
  have m2 := lebL_len b (by omega)
  unfold encLim
  cases c <;> simp <;> omega
theorem desL_len (x : Im) : 1 ≤ (desL x).length ∧ (desL x).length ≤ 22 := by
  have m1 := lebL_len (x.typ.toNat : Int) (by have := u32_le x.typ; omega)
  have m2 := encLim_len x.mn.toNat x.mx.toNat x.bd (u32_le _) (u32_le _)
  have m3 : (encG x.gt.toNat x.gm).length = 2 := rfl
  unfold desL
  split
  · omega
  · split
    · rw [List.length_append, List.length_singleton]; omega
    · split <;> omega
theorem iputL_len {x : Im} {n : Nat} (h1 : x.mod.length ≤ n) (h2 : x.nam.length ≤ n) (hn : n ≤ 100000) : 4 ≤ (iputL x).length ∧ (iputL x).length ≤ 2 * n + 43 := by
  have m1 := nmL_len h1 hn
  have m2 := nmL_len h2 hn
  have m3 := desL_len x
  unfold iputL
  simp only [List.length_append, List.length_singleton]
  omega
set_option maxHeartbeats 1600000 in
theorem des_im (x : Im) (w : World) : Calls Tryd.prog 92 #[imV x] w (BytesL (desL x) w) := by
  have hb0 := below_box w (.cells (imC x) 52)
  have HB0 := Lib.hid hb0
  have hz0 := hb0.size
  clear hb0
  by_cases h0 : x.kind.toNat = 0
  · have hx : desL x = lebL x.typ.toNat := by unfold desL; rw [if_pos h0]
    rw [hx]
    have HU := Lib.hid (fun w => uintB (x.typ.toNat : Int) w (by omega) (by have := u32_le x.typ; omega))
    have wn : IntKind.u64.wrap (x.typ.toNat : Int) = x.typ.toNat := by have := u32_le x.typ; simp [IntKind.wrap, IntKind.bits, IntKind.signed]; omega
    generalize lebL (x.typ.toNat : Int) = y at *
    have d0 : ((x.kind.toNat : Int) == 0) = true := be_of (by simp; omega)
    clear hx h0
    go_enter Tryd.func92, Tryd.ntmps92
    go_wp2_with (go_at_call 75; go_must ((with_reducible refine (HU.out _).mono ?_); intro e w1 h; obtain ⟨v, rfl, hr, hb⟩ := h; have HR := Lib.hid (hr.mono hz0); have HB := Lib.hid (HB0.out.trans (hb.mono hz0)); clear hr hb))
    go_ret
    exact ⟨_, rfl, HR.out, HB.out⟩
  have d0 : ((x.kind.toNat : Int) == 0) = false := be_of (by simp; omega)
  by_cases h1 : x.kind.toNat = 1
  · have hx : desL x = [112] ++ encLim x.mn.toNat x.mx.toNat x.bd := by unfold desL; rw [if_neg h0, if_pos h1]
    rw [hx]
    have HE := Lib.hid (fun w => elim_any x.mn.toNat x.mx.toNat x.bd w (by omega) (u32_le _) (by omega) (u32_le _))
    have hlen := encLim_len x.mn.toNat x.mx.toNat x.bd (u32_le _) (u32_le _)
    generalize encLim x.mn.toNat x.mx.toNat x.bd = y at *
    have d1 : ((x.kind.toNat : Int) == 1) = true := be_of (by simp; omega)
    have R0 : Hid (Row ((w.alloc (.cells (imC x) 52)).alloc (.cells #[.int .u8 112] 5)) w.heap.size (.slice (some ⟨w.heap.size + 1, 0, none⟩) 1 1) [112]) := Row.made _ [112] w.heap.size (w.heap.size + 1) (by simp) (by omega) (by simp)
    have HB1 := Lib.hid (HB0.out.trans ((below_box (w.alloc (.cells (imC x) 52)) (.cells #[.int .u8 112] 5)).mono hz0))
    clear hx h0 h1
    go_enter Tryd.func92, Tryd.ntmps92
    go_wp2_with (first
      | (go_at_call 118; go_must ((with_reducible refine (HE.out _).mono ?_); intro e w1 h; obtain ⟨v, rfl, hr, hb⟩ := h; obtain ⟨A1, c1, rfl, hp1⟩ := hr.pc; have HP := Lib.hid hp1; have HR0 := Lib.hid (R0.out.later hb); have HB := Lib.hid (HB1.out.trans (hb.mono HB1.out.size)); have hz1 := HB.out.size; clear hr hb hp1))
      | (at_builtin; (refine row_any rfl _ _ rfl w.heap.size _ [112] rfl HR0.out A1 y.length c1 w1.heap.size y rfl rfl HP.out.lies HP.out.nil (by simp; omega) hz1 ?_; intro v2 w2 hr2 hb2; have HR2 := Lib.hid hr2; have HB2 := Lib.hid hb2; clear hr2 hb2)))
    go_ret
    exact ⟨_, rfl, HR2.out, HB.out.trans HB2.out⟩
  have d1 : ((x.kind.toNat : Int) == 1) = false := be_of (by simp; omega)
  by_cases h2 : x.kind.toNat = 2
  · have hx : desL x = encLim x.mn.toNat x.mx.toNat x.bd := by unfold desL; rw [if_neg h0, if_neg h1, if_pos h2]
    rw [hx]
    have HE := Lib.hid (fun w => elim_any x.mn.toNat x.mx.toNat x.bd w (by omega) (u32_le _) (by omega) (u32_le _))
    generalize encLim x.mn.toNat x.mx.toNat x.bd = y at *
    have d2 : ((x.kind.toNat : Int) == 2) = true := be_of (by simp; omega)
    clear hx h0 h1 h2
    go_enter Tryd.func92, Tryd.ntmps92
    go_wp2_with (go_at_call 118; go_must ((with_reducible refine (HE.out _).mono ?_); intro e w1 h; obtain ⟨v, rfl, hr, hb⟩ := h; have HR := Lib.hid (hr.mono hz0); have HB := Lib.hid (HB0.out.trans (hb.mono hz0)); clear hr hb))
    go_ret
    exact ⟨_, rfl, HR.out, HB.out⟩
  have d2 : ((x.kind.toNat : Int) == 2) = false := be_of (by simp; omega)
  have hx : desL x = encG x.gt.toNat x.gm := by unfold desL; rw [if_neg h0, if_neg h1, if_neg h2]
  rw [hx]
  have HE := Lib.hid (fun w => encG_any x.gt.toNat x.gm w (by omega) (u8_le _))
  generalize encG x.gt.toNat x.gm = y at *
  clear hx h0 h1 h2
  go_enter Tryd.func92, Tryd.ntmps92
  go_wp2_with (go_at_call 119; go_must ((with_reducible refine (HE.out _).mono ?_); intro e w1 h; obtain ⟨v, rfl, hr, hb⟩ := h; have HR := Lib.hid (hr.mono hz0); have HB := Lib.hid (HB0.out.trans (hb.mono hz0)); clear hr hb))
  go_ret
  exact ⟨_, rfl, HR.out, HB.out⟩
set_option maxHeartbeats 1600000 in
/-- Concat of 4 pieces, of which one at least is not empty. -/
theorem concat4 {w : World} {g : Nat} {A1 A2 A3 A4 : Option Addr} {c1 c2 c3 c4 : Nat} {l1 l2 l3 l4 : List UInt8} (hg : Whole w g 29 #[.slice A1 l1.length c1, .slice A2 l2.length c2, .slice A3 l3.length c3, .slice A4 l4.length c4])
    (h1 : Pc A1 c1 l1 w) (h2 : Pc A2 c2 l2 w) (h3 : Pc A3 c3 l3 w) (h4 : Pc A4 c4 l4 w) (n1 : 0 < l1.length + l2.length + l3.length + l4.length) (n2 : l1.length + l2.length + l3.length + l4.length ≤ 1000000) :
    Calls Tryd.prog 38 #[.slice (some ⟨g, 0, none⟩) 4 4] w (BytesL (l1 ++ l2 ++ l3 ++ l4) w) := by
  have g0 : w.cell? ⟨g, 0, none⟩ = some (.slice A1 l1.length c1) := hg.cell 0
  have g1 : w.cell? ⟨g, 1, none⟩ = some (.slice A2 l2.length c2) := hg.cell 1
  have g2 : w.cell? ⟨g, 2, none⟩ = some (.slice A3 l3.length c3) := hg.cell 2
  have g3 : w.cell? ⟨g, 3, none⟩ = some (.slice A4 l4.length c4) := hg.cell 3
  obtain ⟨m1, hm1⟩ : ∃ m, m = l1.length := ⟨_, rfl⟩
  obtain ⟨m2, hm2⟩ : ∃ m, m = l2.length := ⟨_, rfl⟩
  obtain ⟨m3, hm3⟩ : ∃ m, m = l3.length := ⟨_, rfl⟩
  obtain ⟨m4, hm4⟩ : ∃ m, m = l4.length := ⟨_, rfl⟩
  rw [← hm1, ← hm2, ← hm3, ← hm4] at n1 n2
  rw [← hm1] at g0
  rw [← hm2] at g1
  rw [← hm3] at g2
  rw [← hm4] at g3
  have HG := Lib.hid hg
  have H1 := Lib.hid h1
  have H2 := Lib.hid h2
  have H3 := Lib.hid h3
  have H4 := Lib.hid h4
  have HM1 := Lib.hid hm1
  have HM2 := Lib.hid hm2
  have HM3 := Lib.hid hm3
  have HM4 := Lib.hid hm4
  clear hg h1 h2 h3 h4 hm1 hm2 hm3 hm4
  have HGr := Lib.hid (grow_any (m1 + m2 + m3 + m4) w (by omega) n2)
  go_enter Tryd.func38, Tryd.ntmps38
  go_wp2
  go_loop [3, 11] (fun s i => (s = .int .i64 0 ∧ i = .int .i64 0) ∨ (s = .int .i64 m1 ∧ i = .int .i64 1) ∨ (s = .int .i64 ((m1 + m2 : Nat) : Int) ∧ i = .int .i64 2) ∨ (s = .int .i64 ((m1 + m2 + m3 : Nat) : Int) ∧ i = .int .i64 3) ∨ (s = .int .i64 ((m1 + m2 + m3 + m4 : Nat) : Int) ∧ i = .int .i64 4)) (fun _ i => 4 - (intOf i).toNat)
  case atStart => exact .inl ⟨rfl, rfl⟩
  case round =>
    rcases hrel with ⟨rfl, rfl⟩ | ⟨rfl, rfl⟩ | ⟨rfl, rfl⟩ | ⟨rfl, rfl⟩ | ⟨rfl, rfl⟩
    · go_wp2
      go_round
      case rel => exact .inr (.inl ⟨by go_num, rfl⟩)
      case measure => simp [intOf]
    · go_wp2
      go_round
      case rel => exact .inr (.inr (.inl ⟨by go_num, rfl⟩))
      case measure => simp [intOf]
    · go_wp2
      go_round
      case rel => exact .inr (.inr (.inr (.inl ⟨by go_num, rfl⟩)))
      case measure => simp [intOf]
    · go_wp2
      go_round
      case rel => exact .inr (.inr (.inr (.inr ⟨by go_num, rfl⟩)))
      case measure => simp [intOf]
    · go_wp2_with (go_at_call 74; go_must (refine HGr.out.mono ?_; intro e w1 h; obtain ⟨v1, rfl, hr1, hb1⟩ := h; have HR1 := Lib.hid hr1; have HB1 := Lib.hid hb1; clear hr1 hb1))
      go_loopw [6, 27] (fun v i wr => Below w.heap.size w wr ∧ ((Row wr w.heap.size v [] ∧ i = .int .i64 0) ∨ (Row wr w.heap.size v l1 ∧ i = .int .i64 1) ∨ (Row wr w.heap.size v (l1 ++ l2) ∧ i = .int .i64 2) ∨ (Row wr w.heap.size v (l1 ++ l2 ++ l3) ∧ i = .int .i64 3) ∨ (Row wr w.heap.size v (l1 ++ l2 ++ l3 ++ l4) ∧ i = .int .i64 4))) (fun _ i _ => 4 - (intOf i).toNat)
      case atStart => exact ⟨HB1.out, .inl ⟨HR1.out, rfl⟩⟩
      case round =>
        obtain ⟨hb, ⟨hr, rfl⟩ | ⟨hr, rfl⟩ | ⟨hr, rfl⟩ | ⟨hr, rfl⟩ | ⟨hr, rfl⟩⟩ := hrel
        · have c0 : wr.cell? ⟨g, 0, none⟩ = some (.slice A1 m1 c1) := by have := (HG.out.below hb).cell 0; rw [HM1.out]; exact this
          have HR := Lib.hid hr
          have HB := Lib.hid hb
          have hz := hb.size
          clear hr hb
          go_wp2_with (at_builtin; (refine row_any rfl _ _ rfl w.heap.size _ [] rfl HR.out A1 m1 c1 wr.heap.size l1 rfl HM1.out.symm (H1.out.below HB.out).lies H1.out.nil (by have := HM1.out; have := HM2.out; have := HM3.out; have := HM4.out; (try simp only [List.length_nil]); omega) hz ?_; intro v2 w2 hr2 hb2; have HR2 := Lib.hid hr2; have HB2 := Lib.hid hb2; clear hr2 hb2))
          go_roundw
          case rel => exact ⟨HB.out.trans HB2.out, .inr (.inl ⟨by simpa using HR2.out, rfl⟩)⟩
          case measure => simp [intOf]
        · have c0 : wr.cell? ⟨g, 1, none⟩ = some (.slice A2 m2 c2) := by have := (HG.out.below hb).cell 1; rw [HM2.out]; exact this
          have HR := Lib.hid hr
          have HB := Lib.hid hb
          have hz := hb.size
          clear hr hb
          go_wp2_with (at_builtin; (refine row_any rfl _ _ rfl w.heap.size _ l1 rfl HR.out A2 m2 c2 wr.heap.size l2 rfl HM2.out.symm (H2.out.below HB.out).lies H2.out.nil (by have := HM1.out; have := HM2.out; have := HM3.out; have := HM4.out; (try simp only [List.length_append, List.length_nil]); omega) hz ?_; intro v2 w2 hr2 hb2; have HR2 := Lib.hid hr2; have HB2 := Lib.hid hb2; clear hr2 hb2))
          go_roundw
          case rel => exact ⟨HB.out.trans HB2.out, .inr (.inr (.inl ⟨by simpa using HR2.out, rfl⟩))⟩
          case measure => simp [intOf]
        · have c0 : wr.cell? ⟨g, 2, none⟩ = some (.slice A3 m3 c3) := by have := (HG.out.below hb).cell 2; rw [HM3.out]; exact this
          have HR := Lib.hid hr
          have HB := Lib.hid hb
          have hz := hb.size
          clear hr hb
          go_wp2_with (at_builtin; (refine row_any rfl _ _ rfl w.heap.size _ (l1 ++ l2) rfl HR.out A3 m3 c3 wr.heap.size l3 rfl HM3.out.symm (H3.out.below HB.out).lies H3.out.nil (by have := HM1.out; have := HM2.out; have := HM3.out; have := HM4.out; (try simp only [List.length_append]); omega) hz ?_; intro v2 w2 hr2 hb2; have HR2 := Lib.hid hr2; have HB2 := Lib.hid hb2; clear hr2 hb2))
          go_roundw
          case rel => exact ⟨HB.out.trans HB2.out, .inr (.inr (.inr (.inl ⟨by simpa using HR2.out, rfl⟩)))⟩
          case measure => simp [intOf]
        · have c0 : wr.cell? ⟨g, 3, none⟩ = some (.slice A4 m4 c4) := by have := (HG.out.below hb).cell 3; rw [HM4.out]; exact this
          have HR := Lib.hid hr
          have HB := Lib.hid hb
          have hz := hb.size
          clear hr hb
          go_wp2_with (at_builtin; (refine row_any rfl _ _ rfl w.heap.size _ (l1 ++ l2 ++ l3) rfl HR.out A4 m4 c4 wr.heap.size l4 rfl HM4.out.symm (H4.out.below HB.out).lies H4.out.nil (by have := HM1.out; have := HM2.out; have := HM3.out; have := HM4.out; (try simp only [List.length_append]); omega) hz ?_; intro v2 w2 hr2 hb2; have HR2 := Lib.hid hr2; have HB2 := Lib.hid hb2; clear hr2 hb2))
          go_roundw
          case rel => exact ⟨HB.out.trans HB2.out, .inr (.inr (.inr (.inr ⟨by simpa using HR2.out, rfl⟩)))⟩
          case measure => simp [intOf]
        · have HR := Lib.hid hr
          have HB := Lib.hid hb
          clear hr hb
          go_wp2
          go_ret
          exact ⟨_, rfl, HR.out, HB.out⟩
end Go.Proofs.YtihpnplfklbgjaaDoor
