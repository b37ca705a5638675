/- Encode of the module that has nothing; awake. (By gen/genMdA.py.) -/
import Derived.Test.YtkleadjkebofpaaGreatDoorZs07
import Derived.Test.YtkleadjkebofpaaGreatDoorZs06
import Derived.Test.YtkleadjkebofpaaGreatDoorZs03
import Derived.OwnWalk
import Derived.Deep.DeepMust
import Derived.Test.YtkleadjkebofpaaGreatDoorZs04
import Derived.Deep.QuietTactic
import Derived.BigQuiet
import Derived.StillTailTactics
import Derived.Test.YtkleadjkebofpaaGreatDoorZs02
import Derived.Test.YtkleadjkebofpaaGreatDoorTie
import Derived.Lib.LaidIn
import Derived.Lib.LaidU8
import Derived.LaidMore
import Derived.MakeChecks
import Derived.Stop.Joined
import Derived.OpenShut
namespace Go.Proofs.YtkleadjkebofpaaGreatDoor
open Go.RowKit
set_option linter.unusedVariables false
set_option maxRecDepth 100000

theorem cfEn (cap : Array Value) (w : World) : (callFunc 13 cap).run Tryz.prog w = .ok (.enter 13 cap) w := by kernel_rfl
theorem enc0c {w W : World} {b : Nat} (hb : Bx0 w b W) (hT : TabsU W) : Calls Tryz.prog 13 #[.pointer (some ⟨b, 0, none⟩)] W fun e w' => ∃ v, e = .returned v ∧ JRow w' W.heap.size v headL ∧ Below W.heap.size W w' := by
  obtain ⟨c0, c1, c2, c3, c4, c5, c6, c7, c8, c9, c10, c11, c12, c13, c14, c15, c16⟩ := hb.2
  have HP := Lib.hid (put0 hT)
  clear hT
  go_enter Tryz.func13, Tryz.ntmps13
  go_wp2_with (go_at_call 14; go_must ((with_reducible refine HP.out.mono ?_); rintro e w1 ⟨v1, rfl, hr1, hb1⟩; have HR1 := Lib.hid hr1; have HB1 := Lib.hid hb1; clear hr1 hb1))
  go_ret
  exact ⟨_, rfl, HR1.out, HB1.out⟩
/-- What Encode hands back of the module that has nothing. -/
def Enc0 (w : World) (e : Ending) (w' : World) : Prop := ∃ A c, e = .returned (.tuple #[.slice A 8 c, .int .i64 0]) ∧ Pc A c headL w' ∧ Below w.heap.size w w'
set_option maxHeartbeats 1000000 in
theorem encode0 {w : World} (hT : TabsU w) : Calls Tryz.prog 8 #[.agg md0C] w (Enc0 w) := by
  have H0 := Lib.hid (bx0_start w)
  have HV := Lib.hid (valueBy_ok (g := 13) (cap := #[.pointer (some ⟨w.heap.size, 0, none⟩)]) (q := w.heap.size) (w := w.alloc (.cells md0C 36)) (T := fun x W => x.2.1 = 8 ∧ JRow W ((w.alloc (.cells md0C 36)).heap.size + 4) (.slice x.1 x.2.1 x.2.2) headL) (cfEn _) (by rw [size_box]; omega)
    (fun x W W' b hb1 hb2 hx hg => ⟨hx.1, hx.2.past hg (by omega)⟩)
    (fun W hb hz => (enc0c (bx0_on H0.out hb) ((hT.below (below_box _ _)).below hb)).mono fun e w' ⟨v, h1, h2, h3⟩ => by
      obtain ⟨A, c, rfl, _⟩ := h2.pc
      exact ⟨(A, 8, c), h1, ⟨rfl, h2.mono hz⟩, gb_of_below _ h3⟩))
  have HBB := Lib.hid (below_box w (.cells md0C 36))
  have hsz : (w.alloc (.cells md0C 36)).heap.size = w.heap.size + 1 := size_box _ _
  clear hT H0
  unfold Enc0
  go_enter Tryz.func8, Tryz.ntmps8
  go_upto_region 2 with (go_at_call 12; go_must ((with_reducible refine HV.out.mono ?_); rintro e w1 ⟨⟨A1, n1, k1⟩, rfl, ⟨hx1, hx2⟩, hg⟩; have e8 : n1 = 8 := hx1; clear hx1; subst e8; have HJ := Lib.hid hx2; have HB := Lib.hid (Below.grown HBB.out hg HBB.out.size (fun k e => by injection e with e; omega)); clear hx2 hg))
  have HW := Lib.hid (Whole.made w1 60 #[.int .i64 0, .int .i64 0])
  have s0 := HW.out.cell 0
  have s1 := HW.out.cell 1
  simp only [List.getElem?_toArray, List.getElem?_cons_zero, List.getElem?_cons_succ] at s0 s1
  go_quiet (fail)
  go_wp2
  go_ret2
  obtain ⟨A2, c2, e2, hp2⟩ := HJ.out.pc
  injection e2 with e3 e4 e5
  subst e3; subst e5
  exact ⟨_, _, rfl, hp2.below (below_drewN (below_box w1 _) _), below_drewN (HB.out.alloc HB.out.size _) _⟩
theorem awake_md {w : World} (hT : TabsU w) : Calls Tryz.prog 4 #[] w fun e w' => e = .returned (.bool true) ∧ Below w.heap.size w w' := by
  have HP := Lib.hid (encode0 hT)
  unfold Enc0 at HP
  have hcmp : ((S headL).toList == [0, 97, 115, 109, 1, 0, 0, 0]) = true := by rw [S_toList]; rfl
  clear hT
  go_enter Tryz.func4, Tryz.ntmps4
  go_wp2_with (go_at_call 8; go_must ((with_reducible refine HP.out.mono ?_); rintro e w1 ⟨A, c, rfl, hp, hb⟩; have hcv2 : (convert 45 9 (.slice A 8 c)).run Tryz.prog w1 = .ok (.string (S headL)) w1 := str_any hp.lies c 9 Tryz.underlying9; have HB := Lib.hid hb; clear hb hp))
  go_ret
  exact ⟨rfl, HB.out⟩
end Go.Proofs.YtkleadjkebofpaaGreatDoor

/- creelref17.most, worse, Funcs. -/
namespace Go.Proofs.YtkleadjkebofpaaGreatDoor
open Go.RowKit
set_option linter.unusedVariables false
set_option maxRecDepth 100000

/-- The types' numbers of the imported functions. -/
def fnOf (l : List Im) : List Int := (l.filter fun x => decide (x.kind.toNat = 0)).map fun x => (x.typ.toNat : Int)
theorem fnOf_take {l : List Im} {k : Nat} {x : Im} (h : l[k]? = some x) : fnOf (l.take (k + 1)) = if x.kind.toNat = 0 then fnOf (l.take k) ++ [(x.typ.toNat : Int)] else fnOf (l.take k) := by
  unfold fnOf
  rw [List.take_add_one, h, List.filter_append]
  by_cases e : x.kind.toNat = 0 <;> simp [e]
theorem fnOf_len (l : List Im) (k : Nat) : (fnOf (l.take k)).length ≤ k := by
  unfold fnOf
  rw [List.length_map]
  have h1 : ((l.take k).filter fun x => decide (x.kind.toNat = 0)).length ≤ (l.take k).length := List.length_filter_le _ _
  rw [List.length_take] at h1
  omega
theorem Row32.later {W W' : World} {base : Nat} {v : Value} {acc : List Int} (h : Row32 W base v acc) (hb : Below W.heap.size W W') : Row32 W' base v acc :=
  World.ownsRow.kept h (gb_of_below none hb) (by cases v.ownBlock with
    | none => exact .inl rfl
    | some k => exact .inr (by simp))
theorem Row32.below {w W W' : World} {base : Nat} {v : Value} {acc : List Int} (h : Row32 W base v acc) (hB : base ≤ W.heap.size) (hg : W.grownBy W' v.ownBlock) : Below base W W' :=
  Below.grown (Below.refl _ _) hg hB (fun k hk => (World.ownsRow.lt h k hk).1)
theorem Row32.slice {W : World} {base : Nat} {v : Value} {acc : List Int} (h : Row32 W base v acc) : ∃ A c, v = .slice A acc.length c := by
  obtain ⟨A, c, e, _⟩ := h.labT
  exact ⟨A, c, e⟩
/-- append of whatever lies, nothing too. -/
theorem row32_lies {w : World} {ops : Array Oper} {rest : List Oper} {o : Oper} {a : Act} {Q : Exit → Act → World → Prop} (hgd : o.guard = none) (s x : Operand)
    (ho : o.op = .call { callee := .builtin .append, args := #[s, x], argTypes := #[24, 24] })
    (B : Nat) (v : Value) (acc : List Int) (hs : a.eval s = v) (hr : Row32 w B v acc) (A : Option Addr) (m c : Nat) (news : List Int) (hx : a.eval x = .slice A m c) (hl : news.length = m) (hn : LiesL w A news) (h0 : A = none → c = 0)
    (hb : acc.length + m ≤ 10000) (hB : B ≤ w.heap.size)
    (h : ∀ v' w', Row32 w' B v' (acc ++ news) → Below B w w' → wpList Tryz.prog ops Q rest (a.put o.dst v') w') : wpList Tryz.prog ops Q (o :: rest) a w := by
  obtain ⟨i0, hi0, hz0, hz1, hz2⟩ := info_parts info32
  have hcl : (cells32 news).length = m := by unfold cells32; rw [List.length_map]; exact hl
  by_cases hm : 0 < m
  · obtain ⟨d, hd⟩ : ∃ d, news[0]? = some d := ⟨_, List.getElem?_eq_getElem (by omega)⟩
    obtain ⟨b, off, rfl, _, _⟩ := hn.at hd
    refine wpList_append_own _ hgd s x _ ho B 31 i0 _ 1 4 Tryz.underlying24 hi0 hz0 hz1 hz2 rfl (by omega) v _ _ hs hr ⟨b, off, none⟩ m c (cells32 news) hx (by omega) ?_ ?_ (by unfold maxLen; omega) (by omega) hB (fun v' w' h2 h3 _ => h v' w' ?_ (Row32.below (w := w) hr hB h3))
    · intro j u hu
      obtain ⟨b', off', e, _, h2⟩ := hn j u hu
      injection e with e
      injection e with e1 e2
      subst e1; subst e2
      rw [Go.WideShapes.add_plain]; exact h2
    · intro u hu
      unfold cells32 at hu
      obtain ⟨c, _, rfl⟩ := List.mem_map.1 hu
      rfl
    · unfold Row32
      rw [List.length_append, hl]
      unfold cells32 at *
      rw [List.map_append]
      exact h2
  · obtain rfl : m = 0 := by omega
    have he : news = [] := List.eq_nil_of_length_eq_zero hl
    subst he
    rcases A with _ | ad
    · obtain rfl := h0 rfl
      exact Lib.wpList_append_run w hgd s x 24 24 ho v _ hs hx v w (run_append_owned_none (P := Tryz.prog) (w := w) B 24 o.type 31 i0 1 Tryz.underlying24 hi0 v acc.length (cells32 acc) hr) (h v w (by simpa using hr) (Below.refl _ _))
    · refine wpList_append_own _ hgd s x _ ho B 31 i0 _ 1 4 Tryz.underlying24 hi0 hz0 hz1 hz2 rfl (by omega) v acc.length (cells32 acc) hs hr ad 0 c [] hx rfl (by intro j u hu; cases hu) (by intro u hu; cases hu) (by unfold maxLen; omega) (by omega) hB (fun v' w' h2 h3 _ => h v' w' ?_ (Row32.below (w := w) hr hB h3))
      unfold Row32
      rw [List.append_nil]
      simpa using h2
set_option maxHeartbeats 4000000 in
theorem rfuncs_md {w : World} {m : Md} {a : MdA} (hi : MdIn w m a) (h0 : a.fn.1 = none → a.fn.2 = 0) (hn1 : m.im.length ≤ 1000) (hn2 : m.fn.length ≤ 1000) :
    Calls Tryz.prog 6 #[mdV m a] w fun e w' => ∃ v, e = .returned v ∧ Row32 w' w.heap.size v (fnOf m.im ++ m.fn) ∧ Below w.heap.size w w' := by
  have H0 := Lib.hid (bxM_start w m a)
  have HI := Lib.hid hi
  have HN0 := Lib.hid h0
  obtain ⟨c0, c1, c2, c3, c4, c5, c6, c7, c8, c9, c10, c11, c12, c13, c14, c15, c16⟩ := H0.out.2
  clear hi h0
  go_enter Tryz.func6, Tryz.ntmps6
  go_wp2
  go_loopw [3, 4] (fun v i wr => ∃ k : Nat, k ≤ m.im.length ∧ i = .int .i64 k ∧ Row32 wr w.heap.size v (fnOf (m.im.take k)) ∧ BxM w w.heap.size m a wr) (fun _ i _ => m.im.length - (intOf i).toNat)
  case atStart => exact ⟨0, Nat.zero_le _, rfl, Row32.nil _ _, H0.out⟩
  case round =>
    obtain ⟨k, hk, rfl, hr, hb⟩ := hrel
    clear c0 c1 c2 c3 c4 c5 c6 c7 c8 c9 c10 c11 c12 c13 c14 c15 c16
    obtain ⟨c0, c1, c2, c3, c4, c5, c6, c7, c8, c9, c10, c11, c12, c13, c14, c15, c16⟩ := hb.2
    have hbel := bxM_bel hb
    have HB := Lib.hid hb
    have HR := Lib.hid hr
    by_cases hlt : k < m.im.length
    · obtain ⟨x, hx⟩ : ∃ x, m.im[k]? = some x := ⟨_, List.getElem?_eq_getElem hlt⟩
      obtain ⟨b, off, hA, hbl, m0, m1, m2, m3, _⟩ := (HI.out.im.below hbel).nine hx
      have hTk := fnOf_take hx
      have hlen := fnOf_len m.im k
      rw [hA] at c1
      by_cases e : x.kind.toNat = 0
      · rw [if_pos e] at hTk
        have HTk := Lib.hid hTk
        have d1 : ((x.kind.toNat : Int) == 0) = true := by simpa using e
        have HX := Lib.hid (Whole.made wr 31 #[.int .u32 x.typ.toNat])
        have HRA := Lib.hid (HR.out.later (below_box wr (.cells #[.int .u32 x.typ.toNat] 31)))
        have HBA := Lib.hid (bxM_on HB.out (below_box wr (.cells #[.int .u32 x.typ.toNat] 31)))
        have hz1 := hbel.size
        have hsz : (wr.alloc (.cells #[.int .u32 x.typ.toNat] 31)).heap.size = wr.heap.size + 1 := by simp
        have hzb := HB.out.1.1.lt
        clear e hTk hr hb hbel hx
        go_wp2_with (at_builtin; (refine row32_new rfl _ _ rfl w.heap.size _ (fnOf (m.im.take k)) rfl HRA.out wr.heap.size x.typ.toNat rfl HX.out (by omega) (by rw [hsz]; omega) ?_; intro v2 w2 hr2 hg2; have HR2 := Lib.hid hr2; have HG2 := Lib.hid hg2; clear hr2 hg2))
        have hbx : BxM w w.heap.size m a w2 := by
          have hw := HBA.out.1.1.grown HG2.out (own_whole HRA.out HBA.out.1.1 (by decide))
          exact ⟨⟨hw, HBA.out.1.2.trans (Row32.below (w := w) HRA.out (by rw [hsz]; omega) HG2.out)⟩, hw.md⟩
        have HBX := Lib.hid hbx
        clear hbx
        go_roundw
        case rel => exact ⟨k + 1, by omega, by go_num, by rw [HTk.out]; exact HR2.out, HBX.out⟩
        case measure => simp [intOf]; omega
      · rw [if_neg e] at hTk
        have HTk := Lib.hid hTk
        have d1 : ((x.kind.toNat : Int) == 0) = false := by simpa using e
        clear e hTk hr hb hbel hx
        go_wp2
        go_roundw
        case rel => exact ⟨k + 1, by omega, by go_num, by rw [HTk.out]; exact HR.out, HB.out⟩
        case measure => simp [intOf]; omega
    · have hkn : k = m.im.length := by omega
      have hr2 := hr
      rw [hkn, List.take_length] at hr2
      have HR2 := Lib.hid hr2
      have hlen := fnOf_len m.im m.im.length
      rw [List.take_length] at hlen
      have HLF := Lib.hid (HI.out.fn.below hbel)
      have hz1 := hbel.size
      clear hr hr2 hb hkn
      go_wp2_with (at_builtin; (refine row32_lies rfl _ _ rfl w.heap.size _ (fnOf m.im) rfl HR2.out a.fn.1 m.fn.length a.fn.2 m.fn rfl rfl HLF.out HN0.out (by omega) hz1 ?_; intro v2 w2 hr2 hb2; have HR3 := Lib.hid hr2; have HB3 := Lib.hid (hbel.trans hb2); clear hr2 hb2))
      go_ret
      exact ⟨_, rfl, HR3.out, HB3.out⟩
end Go.Proofs.YtkleadjkebofpaaGreatDoor

/- imports.Of, Count, Place. -/
namespace Go.Proofs.YtkleadjkebofpaaGreatDoor
open Go.RowKit
set_option linter.unusedVariables false
set_option maxRecDepth 100000

/-- Those of a kind. -/
def ofL (kd : Int) (l : List Im) : List Im := l.filter fun x => decide ((x.kind.toNat : Int) = kd)
theorem ofL_take {kd : Int} {l : List Im} {k : Nat} {x : Im} (h : l[k]? = some x) : ofL kd (l.take (k + 1)) = if (x.kind.toNat : Int) = kd then ofL kd (l.take k) ++ [x] else ofL kd (l.take k) := by
  unfold ofL
  rw [List.take_add_one, h, List.filter_append]
  by_cases e : (x.kind.toNat : Int) = kd <;> simp [e]
theorem ofL_len (kd : Int) (l : List Im) (k : Nat) : (ofL kd (l.take k)).length ≤ k := by
  have h1 : (ofL kd (l.take k)).length ≤ (l.take k).length := List.length_filter_le _ _
  rw [List.length_take] at h1
  omega
set_option maxHeartbeats 2000000 in
theorem of_im {w : World} {A : Option Addr} {c : Nat} {l : List Im} (kd : Int) (hl : Ims w A l) (hn1 : l.length ≤ 10000) :
    Calls Tryz.prog 9 #[.slice A l.length c, .int .u8 kd] w fun e w' => ∃ v, e = .returned v ∧ RowM w' w.heap.size v (ofL kd l) ∧ Below w.heap.size w w' := by
  have HL := Lib.hid hl
  obtain ⟨n, hn⟩ : ∃ n, n = l.length := ⟨_, rfl⟩
  have HN := Lib.hid hn
  rw [← hn] at hn1 ⊢
  have HE := Lib.hid (show ofL kd (l.take n) = ofL kd l by rw [hn, List.take_length])
  clear hl hn
  go_enter Tryz.func9, Tryz.ntmps9
  go_wp2
  go_loopw [5, 10] (fun v i wr => ∃ k : Nat, k ≤ n ∧ i = .int .i64 k ∧ RowM wr w.heap.size v (ofL kd (l.take k)) ∧ Below w.heap.size w wr) (fun _ i _ => n - (intOf i).toNat)
  case atStart => exact ⟨0, Nat.zero_le _, rfl, RowM.nil _ _, Below.refl _ _⟩
  case round =>
    obtain ⟨k, hk, rfl, hr, hb⟩ := hrel
    have hz1 := hb.size
    by_cases hlt : k < n
    · obtain ⟨x, hx⟩ : ∃ x, l[k]? = some x := ⟨_, List.getElem?_eq_getElem (by rw [← HN.out]; exact hlt)⟩
      obtain ⟨b, off, rfl, hbl, m0, m1, m2, m3, m4, m5, m6, m7, m8⟩ := (HL.out.below hb).nine hx
      have hTk := ofL_take (kd := kd) hx
      have hlen := ofL_len kd l k
      have HB := Lib.hid hb
      have HR := Lib.hid hr
      by_cases e : (x.kind.toNat : Int) = kd
      · rw [if_pos e] at hTk
        have HTk := Lib.hid hTk
        have d1 : ((x.kind.toNat : Int) == kd) = true := by simpa using e
        have HX := Lib.hid (Whole.made (wr.alloc (.cells (imC x) 55)) 55 (imC x))
        have HRA := Lib.hid ((hr.alloc (.cells (imC x) 55)).alloc (.cells (imC x) 55))
        have HBA := Lib.hid ((hb.alloc hz1 (.cells (imC x) 55)).alloc (by simp; omega) (.cells (imC x) 55))
        have hsz : ((wr.alloc (.cells (imC x) 55)).alloc (.cells (imC x) 55)).heap.size = wr.heap.size + 2 := by simp
        simp only [World.size_alloc] at HX
        clear e hTk hr hb
        go_wp2_with (at_builtin; (refine rowM_new rfl _ _ rfl w.heap.size _ (ofL kd (l.take k)) rfl HRA.out (wr.heap.size + 1) x rfl HX.out (by omega) (by rw [hsz]; omega) ?_; intro v2 w2 hr2 hg2; have HR2 := Lib.hid hr2; have HB2 := Lib.hid (HBA.out.trans (HRA.out.below (w := w) (by rw [hsz]; omega) hg2)); clear hr2 hg2))
        go_roundw
        case rel => exact ⟨k + 1, by omega, by go_num, by rw [HTk.out]; exact HR2.out, HB2.out⟩
        case measure => simp [intOf]; omega
      · rw [if_neg e] at hTk
        have HTk := Lib.hid hTk
        have d1 : ((x.kind.toNat : Int) == kd) = false := by simpa using e
        clear e hTk hr hb
        go_wp2
        go_roundw
        case rel => exact ⟨k + 1, by omega, by go_num, by rw [HTk.out]; exact HR.out.alloc _, HB.out.alloc hz1 _⟩
        case measure => simp [intOf]; omega
    · obtain rfl : k = n := by omega
      have HR := Lib.hid hr
      have HB := Lib.hid hb
      clear hr hb
      go_wp2
      go_ret
      exact ⟨_, rfl, by rw [← HE.out]; exact HR.out, HB.out⟩
end Go.Proofs.YtkleadjkebofpaaGreatDoor

/- module.Funcs, at, TypeOf. -/
namespace Go.Proofs.YtkleadjkebofpaaGreatDoor
open Go.RowKit
set_option linter.unusedVariables false
set_option maxRecDepth 100000

theorem fnOf_of (l : List Im) : fnOf l = (ofL 0 l).map fun x => (x.typ.toNat : Int) := by
  unfold fnOf ofL
  congr 1
  apply List.filter_congr
  intro x _
  apply decide_eq_decide.2
  omega
theorem Row32.mono {W : World} {base base' : Nat} {v : Value} {acc : List Int} (h : Row32 W base v acc) (hb : base' ≤ base) : Row32 W base' v acc := by
  obtain ⟨h1, h2⟩ := h
  refine ⟨h1, ?_⟩
  rcases h2 with h2 | ⟨g, cap, cur, e, hg, r⟩
  · exact .inl h2
  · exact .inr ⟨g, cap, cur, e, Nat.le_trans hb hg, r⟩
theorem Row32.lies {W : World} {base : Nat} {A : Option Addr} {n c : Nat} {acc : List Int} (h : Row32 W base (.slice A n c) acc) : LiesL W A acc ∧ n = acc.length := by
  obtain ⟨A2, c2, e, hl, _⟩ := h.labT
  injection e with e1 e2 e3
  subst e1
  exact ⟨hl.lies, e2⟩
set_option maxHeartbeats 4000000 in
theorem funcs_md {w : World} {m : Md} {a : MdA} (hi : MdIn w m a) (h0 : a.fn.1 = none → a.fn.2 = 0) (hn1 : m.im.length ≤ 1000) (hn2 : m.fn.length ≤ 1000) :
    Calls Tryz.prog 5 #[mdV m a] w fun e w' => ∃ v, e = .returned v ∧ Row32 w' w.heap.size v (fnOf m.im ++ m.fn) ∧ Below w.heap.size w w' := by
  have H0 := Lib.hid (bxM_start w m a)
  have HI := Lib.hid hi
  have HN0 := Lib.hid h0
  have HO := Lib.hid (of_im (c := a.im.2) 0 (hi.im.below (below_box w (.cells (mdC m a) 36))) (by omega))
  have hfo := fnOf_of m.im
  have hll : (ofL 0 m.im).length ≤ 1000 := by have := ofL_len 0 m.im m.im.length; rw [List.take_length] at this; omega
  obtain ⟨L, hL⟩ : ∃ L, L = ofL 0 m.im := ⟨_, rfl⟩
  rw [← hL] at HO hfo hll
  have HFO := Lib.hid hfo
  obtain ⟨c0, c1, c2, c3, c4, c5, c6, c7, c8, c9, c10, c11, c12, c13, c14, c15, c16⟩ := H0.out.2
  clear hi h0 hL hfo
  go_enter Tryz.func5, Tryz.ntmps5
  go_wp2_with (go_at_call 9; go_must ((with_reducible refine HO.out.mono ?_); rintro e w1 ⟨v1, rfl, hr1, hb1⟩; obtain ⟨A1, k1, rfl⟩ := hr1.slice; have HM := Lib.hid hr1.ims; have HB1 := Lib.hid (bxM_on H0.out hb1); clear hr1 hb1))
  have hw1 := (bxM_bel HB1.out).size
  go_loopw [3, 10] (fun v i wr => ∃ k : Nat, k ≤ L.length ∧ i = .int .i64 k ∧ Row32 wr w1.heap.size v ((L.take k).map fun x => (x.typ.toNat : Int)) ∧ Below w1.heap.size w1 wr) (fun _ i _ => L.length - (intOf i).toNat)
  case atStart => exact ⟨0, Nat.zero_le _, rfl, Row32.nil _ _, Below.refl _ _⟩
  case round =>
    obtain ⟨k, hk, rfl, hr, hb⟩ := hrel
    clear c0 c1 c2 c3 c4 c5 c6 c7 c8 c9 c10 c11 c12 c13 c14 c15 c16
    have HBK := Lib.hid (bxM_on HB1.out hb)
    obtain ⟨c0, c1, c2, c3, c4, c5, c6, c7, c8, c9, c10, c11, c12, c13, c14, c15, c16⟩ := HBK.out.2
    have hz1 := hb.size
    have HB := Lib.hid hb
    by_cases hlt : k < L.length
    · obtain ⟨x, hx⟩ : ∃ x, L[k]? = some x := ⟨_, List.getElem?_eq_getElem hlt⟩
      obtain ⟨b, off, hA, hbl, m0, m1, m2, m3, m4, m5, m6, m7, m8⟩ := (HM.out.below hb).nine hx
      subst hA
      have hTk : (L.take (k + 1)).map (fun x => (x.typ.toNat : Int)) = (L.take k).map (fun x => (x.typ.toNat : Int)) ++ [(x.typ.toNat : Int)] := by rw [List.take_add_one, hx]; simp
      have hlen : ((L.take k).map fun x => (x.typ.toNat : Int)).length ≤ 1000 := by rw [List.length_map, List.length_take]; omega
      have HTk := Lib.hid hTk
      obtain ⟨acc, hacc⟩ : ∃ acc, acc = (L.take k).map fun x => (x.typ.toNat : Int) := ⟨_, rfl⟩
      rw [← hacc] at hr hlen HTk
      have HX := Lib.hid (Whole.made (wr.alloc (.cells (imC x) 55)) 31 #[.int .u32 x.typ.toNat])
      have HRA := Lib.hid ((hr.later (below_box wr (.cells (imC x) 55))).later (below_box (wr.alloc (.cells (imC x) 55)) (.cells #[.int .u32 x.typ.toNat] 31)))
      have HBA := Lib.hid ((hb.alloc hz1 (.cells (imC x) 55)).alloc (by simp; omega) (.cells #[.int .u32 x.typ.toNat] 31))
      have hsz : ((wr.alloc (.cells (imC x) 55)).alloc (.cells #[.int .u32 x.typ.toNat] 31)).heap.size = wr.heap.size + 2 := by simp
      simp only [World.size_alloc] at HX
      clear hTk hr hb hx hacc
      go_wp2_with (at_builtin; (refine row32_new rfl _ _ rfl w1.heap.size _ acc rfl HRA.out (wr.heap.size + 1) x.typ.toNat rfl HX.out (by omega) (by rw [hsz]; omega) ?_; intro v2 w2 hr2 hg2; have HR2 := Lib.hid hr2; have HB2 := Lib.hid (HBA.out.trans (HRA.out.below (w := w) (by rw [hsz]; omega) hg2)); clear hr2 hg2))
      go_roundw
      case rel => exact ⟨k + 1, by omega, by go_num, by rw [HTk.out]; exact HR2.out, HB2.out⟩
      case measure => simp [intOf]; omega
    · obtain rfl : k = L.length := by omega
      rw [List.take_length, ← HFO.out] at hr
      have HR := Lib.hid hr
      have hlen := fnOf_len m.im m.im.length
      rw [List.take_length] at hlen
      have HLF := Lib.hid (HI.out.fn.below (bxM_bel HBK.out))
      clear hr hb
      go_wp2_with (at_builtin; (refine row32_lies rfl _ _ rfl w1.heap.size _ (fnOf m.im) rfl HR.out a.fn.1 m.fn.length a.fn.2 m.fn rfl rfl HLF.out HN0.out (by omega) hz1 ?_; intro v2 w2 hr2 hb2; have HR3 := Lib.hid (hr2.mono hw1); have HB3 := Lib.hid ((bxM_bel HB1.out).trans ((HB.out.trans hb2).mono hw1)); clear hr2 hb2))
      go_ret
      exact ⟨_, rfl, HR3.out, HB3.out⟩
def atV (l : List Int) (n : Int) : Value := match l[n.toNat]? with
  | some x => .tuple #[.int .u32 x, .bool true]
  | none => .tuple #[.int .u32 0, .bool false]
set_option maxHeartbeats 1000000 in
theorem at_u32 {w : World} {A : Option Addr} {c : Nat} {l : List Int} (n : Int) (hl : LiesL w A l) (h0 : 0 ≤ n) (h1 : n ≤ 4294967295) (hn : (l.length : Int) ≤ 9223372036854775807) :
    Calls Tryz.prog 10 #[.slice A l.length c, .int .u32 n] w fun e w' => e = .returned (atV l n) ∧ w = w' := by
  have e1 : IntKind.u64.wrap n = n := by simp [IntKind.wrap, IntKind.bits, IntKind.signed]; omega
  have e2 : IntKind.u64.wrap (l.length : Int) = l.length := by simp [IntKind.wrap, IntKind.bits, IntKind.signed]; omega
  obtain ⟨k, rfl⟩ : ∃ k : Nat, n = k := ⟨n.toNat, by omega⟩
  by_cases hlt : k < l.length
  · obtain ⟨x, hx⟩ : ∃ x, l[k]? = some x := ⟨_, List.getElem?_eq_getElem hlt⟩
    obtain ⟨b, off, rfl, _, hc⟩ := hl.at hx
    have d : decide ((l.length : Int) ≤ (k : Int)) = false := decide_eq_false (by omega)
    have HV := Lib.hid (show atV l (k : Int) = .tuple #[.int .u32 x, .bool true] by unfold atV; rw [Int.toNat_natCast, hx])
    clear hl hx
    go_enter Tryz.func10, Tryz.ntmps10
    go_wp2
    go_ret2
    exact ⟨by rw [HV.out]; rfl, rfl⟩
  · have d : decide ((l.length : Int) ≤ (k : Int)) = true := decide_eq_true (by omega)
    have HV := Lib.hid (show atV l (k : Int) = .tuple #[.int .u32 0, .bool false] by unfold atV; rw [Int.toNat_natCast, List.getElem?_eq_none (by omega)])
    clear hl
    go_enter Tryz.func10, Tryz.ntmps10
    go_wp2
    go_ret2
    exact ⟨by rw [HV.out]; rfl, rfl⟩
abbrev ftyV (x : Ft) : Value := .agg #[.string (S x.p), .string (S x.r)]
abbrev ftyZ : Value := .agg #[.string { data := #[] }, .string { data := #[] }]
def atF (l : List Ft) (n : Int) : Value := match l[n.toNat]? with
  | some x => .tuple #[ftyV x, .bool true]
  | none => .tuple #[ftyZ, .bool false]
set_option maxHeartbeats 1000000 in
theorem at_ft {w : World} {A : Option Addr} {c : Nat} {l : List Ft} (n : Int) (hl : Fts w A l) (h0 : 0 ≤ n) (h1 : n ≤ 4294967295) (hn : (l.length : Int) ≤ 9223372036854775807) :
    Calls Tryz.prog 11 #[.slice A l.length c, .int .u32 n] w fun e w' => e = .returned (atF l n) ∧ Below w.heap.size w w' := by
  have e1 : IntKind.u64.wrap n = n := by simp [IntKind.wrap, IntKind.bits, IntKind.signed]; omega
  have e2 : IntKind.u64.wrap (l.length : Int) = l.length := by simp [IntKind.wrap, IntKind.bits, IntKind.signed]; omega
  obtain ⟨k, rfl⟩ : ∃ k : Nat, n = k := ⟨n.toNat, by omega⟩
  have HB0 := Lib.hid (Whole.made w 40 #[.string { data := #[] }, .string { data := #[] }])
  have hbb := below_box w (.cells #[.string { data := #[] }, .string { data := #[] }] 40)
  have z0 := HB0.out.cell 0
  have z1 := HB0.out.cell 1
  have f0 := HB0.out.frozen 0
  have f1 := HB0.out.frozen 1
  simp only [List.getElem?_toArray, List.getElem?_cons_zero, List.getElem?_cons_succ] at z0 z1
  by_cases hlt : k < l.length
  · obtain ⟨x, hx⟩ : ∃ x, l[k]? = some x := ⟨_, List.getElem?_eq_getElem hlt⟩
    obtain ⟨b, off, rfl, hbl, m0, m1⟩ := hl.below hbb k x hx
    have d : decide ((l.length : Int) ≤ (k : Int)) = false := decide_eq_false (by omega)
    have HV := Lib.hid (show atF l (k : Int) = .tuple #[ftyV x, .bool true] by unfold atF; rw [Int.toNat_natCast, hx])
    have HBB := Lib.hid hbb
    clear hl hx hbb
    go_enter Tryz.func11, Tryz.ntmps11
    go_wp2
    have p2 := Whole.made w 40 #[.string (S x.p), .string (S x.r)]
    have q0 := p2.cell 0
    have q1 := p2.cell 1
    simp only [List.getElem?_toArray, List.getElem?_cons_zero, List.getElem?_cons_succ] at q0 q1
    exact bodyPost_ret (v := .tuple #[ftyV x, .bool true]) (by simp [results, Tryz.results11, go_sem, q0, q1]) rfl ⟨by rw [HV.out], below_box _ _⟩
  · have d : decide ((l.length : Int) ≤ (k : Int)) = true := decide_eq_true (by omega)
    have HV := Lib.hid (show atF l (k : Int) = .tuple #[ftyZ, .bool false] by unfold atF; rw [Int.toNat_natCast, List.getElem?_eq_none (by omega)])
    have HBB := Lib.hid hbb
    clear hl hbb
    go_enter Tryz.func11, Tryz.ntmps11
    go_wp2
    have p2 := Whole.made w 40 #[.string { data := #[] }, .string { data := #[] }]
    have q0 := p2.cell 0
    have q1 := p2.cell 1
    simp only [List.getElem?_toArray, List.getElem?_cons_zero, List.getElem?_cons_succ] at q0 q1
    exact bodyPost_ret (v := .tuple #[ftyZ, .bool false]) (by simp [results, Tryz.results11, go_sem, q0, q1]) rfl ⟨by rw [HV.out], below_box _ _⟩
/-- The type of function n among fs. -/
def tyOf (fs : List Int) (ty : List Ft) (n : Int) : Option Ft := match fs[n.toNat]? with
  | some k => ty[k.toNat]?
  | none => none
def tyV (r : Option Ft) : Value := match r with
  | some x => .tuple #[ftyV x, .bool true]
  | none => .tuple #[ftyZ, .bool false]
set_option maxHeartbeats 4000000 in
theorem typeOf_md {w : World} {m : Md} {a : MdA} (n : Int) (hi : MdIn w m a) (h0 : a.fn.1 = none → a.fn.2 = 0) (hn1 : m.im.length ≤ 1000) (hn2 : m.fn.length ≤ 1000) (g0 : 0 ≤ n) (g1 : n ≤ 4294967295) (hty : (m.ty.length : Int) ≤ 9223372036854775807) :
    Calls Tryz.prog 7 #[mdV m a, .int .u32 n] w fun e w' => e = .returned (tyV (tyOf (fnOf m.im ++ m.fn) m.ty n)) ∧ Below w.heap.size w w' := by
  have hb2 : Below w.heap.size w ((w.alloc (.cells (mdC m a) 36)).alloc (.cells #[.string { data := #[] }, .string { data := #[] }] 40)) := ((below_box w _).alloc (by simp) _)
  have H0 := Lib.hid (bxM_on (bxM_start w m a) (below_box (w.alloc (.cells (mdC m a) 36)) (.cells #[.string { data := #[] }, .string { data := #[] }] 40)))
  have hR := made_2 w (.cells (mdC m a) 36) 40 #[.string { data := #[] }, .string { data := #[] }]
  have HI := Lib.hid (hi.below hb2)
  have HF := Lib.hid (funcs_md (hi.below hb2) h0 hn1 hn2)
  have HR := Lib.hid hR
  have HRng := Lib.hid (show ∀ c ∈ fnOf m.im ++ m.fn, 0 ≤ c ∧ c ≤ 4294967295 from fun c hc => by
    rcases List.mem_append.1 hc with h | h
    · unfold fnOf at h
      obtain ⟨x, _, rfl⟩ := List.mem_map.1 h
      have := x.typ.toNat_lt
      omega
    · exact hi.fb c h)
  have hlen := fnOf_len m.im m.im.length
  rw [List.take_length] at hlen
  have hle : ((fnOf m.im ++ m.fn).length : Int) ≤ 9223372036854775807 := by rw [List.length_append]; omega
  obtain ⟨fs, hfs⟩ : ∃ fs, fs = fnOf m.im ++ m.fn := ⟨_, rfl⟩
  rw [← hfs] at HF HRng hle ⊢
  obtain ⟨c0, c1, c2, c3, c4, c5, c6, c7, c8, c9, c10, c11, c12, c13, c14, c15, c16⟩ := H0.out.2
  clear hi h0 hlen hfs hR hb2
  cases hk : fs[n.toNat]? with
  | none =>
    have HA := Lib.hid (fun W A c (hl : LiesL W A fs) => show Calls Tryz.prog 10 #[.slice A fs.length c, .int .u32 n] W (fun e w' => e = .returned (.tuple #[.int .u32 0, .bool false]) ∧ W = w') from (at_u32 (c := c) n hl g0 g1 hle).mono fun e w' h => by unfold atV at h; rw [hk] at h; exact h)
    have HE := Lib.hid (show tyV (tyOf fs m.ty n) = .tuple #[ftyZ, .bool false] by unfold tyOf; rw [hk]; rfl)
    clear hk
    go_enter Tryz.func7, Tryz.ntmps7
    go_wp2_with (first
      | (go_at_call 5; go_must ((with_reducible refine HF.out.mono ?_); rintro e w1 ⟨v1, rfl, hr1, hb1⟩; obtain ⟨A1, k1, rfl⟩ := hr1.slice; have HL1 := Lib.hid hr1.lies.1; have HB1 := Lib.hid (bxM_on H0.out hb1); have HR1 := Lib.hid (HR.out.below hb1); have r0 := HR1.out.frozen 0; have r1 := HR1.out.frozen 1; have r2 := HR1.out.cell 0; have r3 := HR1.out.cell 1; simp only [List.getElem?_toArray, List.getElem?_cons_zero, List.getElem?_cons_succ] at r2 r3; clear hr1 hb1))
      | (go_at_call 10; go_must ((with_reducible refine (HA.out _ _ _ HL1.out).mono ?_); rintro e w2 ⟨rfl, rfl⟩)))
    obtain ⟨p2, g2⟩ := put2 (u0 := .string { data := #[] }) (u1 := .string { data := #[] }) HR1.out
    have q0 := p2.cell 0
    have q1 := p2.cell 1
    simp only [List.getElem?_toArray, List.getElem?_cons_zero, List.getElem?_cons_succ] at q0 q1
    have hbb := bxM_bel HB1.out
    exact bodyPost_ret (v := .tuple #[ftyZ, .bool false]) (by simp [results, Tryz.results7, go_sem, q0, q1]) rfl ⟨by rw [HE.out], Below.grown hbb g2 hbb.size (fun k e => by injection e with e; omega)⟩
  | some k =>
    have hkb := HRng.out k (List.mem_of_getElem? hk)
    have HA := Lib.hid (fun W A c (hl : LiesL W A fs) => show Calls Tryz.prog 10 #[.slice A fs.length c, .int .u32 n] W (fun e w' => e = .returned (.tuple #[.int .u32 k, .bool true]) ∧ W = w') from (at_u32 (c := c) n hl g0 g1 hle).mono fun e w' h => by unfold atV at h; rw [hk] at h; exact h)
    obtain ⟨p, r, ok, hat, hty2⟩ : ∃ (p r : List UInt8) (ok : Bool), atF m.ty k = .tuple #[.agg #[.string (S p), .string (S r)], .bool ok] ∧ tyV (tyOf fs m.ty n) = .tuple #[.agg #[.string (S p), .string (S r)], .bool ok] := by
      unfold tyOf atF
      rw [hk]
      cases hq : m.ty[k.toNat]? with
      | none => exact ⟨[], [], false, rfl, by simp only [hq]; rfl⟩
      | some x => exact ⟨x.p, x.r, true, rfl, by simp only [hq]; rfl⟩
    have HA2 := Lib.hid (fun W (hl : Fts W a.ty.1 m.ty) => show Calls Tryz.prog 11 #[.slice a.ty.1 m.ty.length a.ty.2, .int .u32 k] W (fun e w' => e = .returned (.tuple #[.agg #[.string (S p), .string (S r)], .bool ok]) ∧ Below W.heap.size W w') from (at_ft k hl hkb.1 hkb.2 hty).mono fun e w' h => by rw [hat] at h; exact h)
    have HE := Lib.hid hty2
    clear hk hat hty2
    go_enter Tryz.func7, Tryz.ntmps7
    go_wp2_with (first
      | (go_at_call 5; go_must ((with_reducible refine HF.out.mono ?_); rintro e w1 ⟨v1, rfl, hr1, hb1⟩; obtain ⟨A1, k1, rfl⟩ := hr1.slice; have HL1 := Lib.hid hr1.lies.1; have HB1 := Lib.hid (bxM_on H0.out hb1); have HR1 := Lib.hid (HR.out.below hb1); clear c0 c1 c2 c3 c4 c5 c6 c7 c8 c9 c10 c11 c12 c13 c14 c15 c16; obtain ⟨c0, c1, c2, c3, c4, c5, c6, c7, c8, c9, c10, c11, c12, c13, c14, c15, c16⟩ := HB1.out.2; have HI1 := Lib.hid (HI.out.ty.below hb1); clear hr1 hb1))
      | (go_at_call 10; go_must ((with_reducible refine (HA.out _ _ _ HL1.out).mono ?_); rintro e w2 ⟨rfl, rfl⟩))
      | (go_at_call 11; go_must ((with_reducible refine (HA2.out _ HI1.out).mono ?_); rintro e w3 ⟨rfl, hb3⟩; have HB3 := Lib.hid (bxM_on HB1.out hb3); have HR3 := Lib.hid (HR1.out.below hb3); have r0 := HR3.out.frozen 0; have r1 := HR3.out.frozen 1; have r2 := HR3.out.cell 0; have r3 := HR3.out.cell 1; simp only [List.getElem?_toArray, List.getElem?_cons_zero, List.getElem?_cons_succ] at r2 r3; clear hb3)))
    obtain ⟨p2, g2⟩ := put2 (u0 := .string (S p)) (u1 := .string (S r)) HR3.out
    have q0 := p2.cell 0
    have q1 := p2.cell 1
    simp only [List.getElem?_toArray, List.getElem?_cons_zero, List.getElem?_cons_succ] at q0 q1
    have hbb := bxM_bel HB3.out
    exact bodyPost_ret (v := .tuple #[.agg #[.string (S p), .string (S r)], .bool ok]) (by simp [results, Tryz.results7, go_sem, q0, q1]) rfl ⟨by rw [HE.out], Below.grown hbb g2 hbb.size (fun k e => by injection e with e; omega)⟩
end Go.Proofs.YtkleadjkebofpaaGreatDoor

/- What the rows list of the tables of package ops, as the walks want it; a world that holds them. -/
namespace Go.Proofs.YtkleadjkebofpaaGreatDoor
set_option linter.unusedVariables false
open Go.Shelf Go.Lib

theorem laidOut : laidOutB Tryz.prog = true := by kernel_rfl
theorem own : ownKnob Tryz.prog.godebug = none := by kernel_rfl
/-- What the rows list. -/
def listed : List (String × DataW Unit) := [("creel/ops.controlNames", Rows.laid_creel_ops_controlNames), ("creel/ops.memoryNames", Rows.laid_creel_ops_memoryNames), ("creel/ops.testNames", Rows.laid_creel_ops_testNames), ("creel/ops.numberNames", Rows.laid_creel_ops_numberNames), ("creel/ops.convertNames", Rows.laid_creel_ops_convertNames), ("creel/ops.accesses", Rows.laid_creel_ops_accesses)]
theorem listed_plain (W : World) : laidMetH Tryz.prog listed W = laidMet Tryz.prog listed W := Go.MakeChecks.laidMetH_plain _ _ _ (by kernel_rfl)

theorem cInt : Tryz.prog.cellsOf 3 = 1 := by kernel_rfl
theorem cBool : Tryz.prog.cellsOf 4 = 1 := by kernel_rfl
theorem cByte : Tryz.prog.cellsOf 5 = 1 := by kernel_rfl
theorem cStr : Tryz.prog.cellsOf 9 = 1 := by kernel_rfl
theorem cAcc : Tryz.prog.cellsOf 208 = 4 := by kernel_rfl

/-- A list cut into pieces of n. -/
theorem pieces {α : Type} (n : Nat) (g : α → List Value) : ∀ (l : List α) (L : List Value), L.length = l.length * n → (∀ k a, l[k]? = some a → (L.drop (k * n)).take n = g a) → L = l.flatMap g
  | [], L, hl, _ => List.eq_nil_of_length_eq_zero (by simpa using hl)
  | x :: r, L, hl, h => by
    have h0 := h 0 x rfl
    rw [Nat.zero_mul, List.drop_zero] at h0
    have hr := pieces n g r (L.drop n) (by rw [List.length_drop, hl, List.length_cons, Nat.add_mul]; omega) (fun k a hk => by
      have := h (k + 1) a hk
      rw [List.drop_drop, ← this]
      congr 2
      rw [Nat.add_mul]
      omega)
    rw [List.flatMap_cons, ← hr, ← h0, List.take_append_drop]

theorem map_flat {α : Type} (f : α → Value) : ∀ l : List α, l.map f = l.flatMap fun a => [f a]
  | [] => rfl
  | x :: r => by rw [List.map_cons, List.flatMap_cons, map_flat f r]; rfl
section
variable {H : Type} {enc : TypeId × Value → H} {w : World} {base : Nat} {sp : Nat → Bool} {held : Bool} {fuel : Nat}
theorem strs_of {t : TypeId} {n : Nat} {cs : Array Value} {l : List (List UInt8)} {p : List MemPlace} (ht : Tryz.prog.underlying t = some (.array n 9)) (hc : Tryz.prog.cellsOf t = n) (hn : l.length = n)
    (h : DataW.trod enc Tryz.prog w base sp held fuel t cs.toList = some (.agg (l.map fun s => .lit (.string s)), p)) : cs = strs l := by
  obtain ⟨_, _, _, _, hl, _, _⟩ := DataW.trod_array ht h
  apply Array.toList_inj.1
  have e : (strs l).toList = l.flatMap fun s => [.string (S s)] := by
    show l.map _ = _
    exact map_flat _ l
  rw [e]
  refine pieces 1 _ l cs.toList (by omega) (fun k a hk => ?_)
  obtain ⟨hk', rfl⟩ := List.getElem?_eq_some_iff.1 hk
  obtain ⟨f, d, q, h1, h2⟩ := array_elem ht h k (by omega)
  rw [cStr] at h2
  obtain ⟨s, hs, he, _⟩ := DataW.trod_string Tryz.underlying9 h2
  rw [hs]
  rw [List.getElem?_map, hk] at h1
  simp only [Option.map_some, Option.some.injEq] at h1
  rw [Prod.mk.injEq] at he
  rw [← h1] at he
  have e2 : l[k] = s.data.toList := by simpa using he.1
  rw [e2, S_of]
set_option maxRecDepth 100000 in
/-- A part of the table of accesses. -/
theorem quad_of {cs : List Value} {a : AccR} {p : List MemPlace}
    (h : DataW.trod enc Tryz.prog w base sp held fuel 208 cs = some (.agg [.lit (.int .i64 a.n), .lit (.int .u8 a.t), .lit (.bool a.wr), .lit (.bool a.sg)], p)) : cs = [.int .i64 a.n, .int .u8 a.t, .bool a.wr, .bool a.sg] := by
  obtain ⟨xs, m, rfl, hx, hl, hxl, hall⟩ := DataW.trod_struct Tryz.underlying208 h
  rw [cAcc] at hl
  have h0 : DataW.trod enc Tryz.prog w base sp held m 3 ((cs.drop 0).take (Tryz.prog.cellsOf 3)) = xs[0]? := hall 0 _ rfl
  have h1 : DataW.trod enc Tryz.prog w base sp held m 5 ((cs.drop 1).take (Tryz.prog.cellsOf 5)) = xs[1]? := hall 1 _ rfl
  have h2 : DataW.trod enc Tryz.prog w base sp held m 4 ((cs.drop 2).take (Tryz.prog.cellsOf 4)) = xs[2]? := hall 2 _ rfl
  have h3 : DataW.trod enc Tryz.prog w base sp held m 4 ((cs.drop 3).take (Tryz.prog.cellsOf 4)) = xs[3]? := hall 3 _ rfl
  rw [cInt] at h0
  rw [cByte] at h1
  rw [cBool] at h2 h3
  match xs, hxl, cs, hl with
  | [x0, x1, x2, x3], _, [u0, u1, u2, u3], _ =>
    simp only [List.map_cons, List.map_nil, Prod.mk.injEq, DataW.agg.injEq, List.cons.injEq, and_true] at hx
    obtain ⟨⟨e0, e1, e2, e3⟩, _⟩ := hx
    simp only [List.drop_zero, List.drop_succ_cons, List.getElem?_cons_zero, List.getElem?_cons_succ, List.take_succ_cons, List.take_zero] at h0 h1 h2 h3
    obtain ⟨z0, laidY0, rfl, _⟩ := DataW.trod_int Tryz.underlying3 h0
    obtain ⟨z1, laidY1, rfl, _⟩ := DataW.trod_int Tryz.underlying5 h1
    obtain ⟨z2, laidY2, rfl⟩ := DataW.trod_bool Tryz.underlying4 h2
    obtain ⟨z3, laidY3, rfl⟩ := DataW.trod_bool Tryz.underlying4 h3
    have e0' : (a.n : Int) = z0 := by simpa using e0
    have e1' : (a.t : Int) = z1 := by simpa using e1
    have e2' : a.wr = z2 := by simpa using e2
    have e3' : a.sg = z3 := by simpa using e3
    rw [e0', e1', e2', e3']
    have laidY0' : u0 = .int .i64 z0 := by simpa using laidY0
    have laidY1' : u1 = .int .u8 z1 := by simpa using laidY1
    have laidY2' : u2 = .bool z2 := by simpa using laidY2
    have laidY3' : u3 = .bool z3 := by simpa using laidY3
    rw [laidY0', laidY1', laidY2', laidY3']
theorem acc_of {t : TypeId} {n : Nat} {cs : Array Value} {l : List AccR} {p : List MemPlace} (ht : Tryz.prog.underlying t = some (.array n 208)) (hc : Tryz.prog.cellsOf t = n * 4) (hn : l.length = n)
    (h : DataW.trod enc Tryz.prog w base sp held fuel t cs.toList = some (.agg (l.map fun a => .agg [.lit (.int .i64 a.n), .lit (.int .u8 a.t), .lit (.bool a.wr), .lit (.bool a.sg)]), p)) : cs = accCells l := by
  obtain ⟨_, _, _, _, hl, _, _⟩ := DataW.trod_array ht h
  apply Array.toList_inj.1
  show cs.toList = l.flatMap _
  refine pieces 4 _ l cs.toList (by omega) (fun k a hk => ?_)
  obtain ⟨hk', rfl⟩ := List.getElem?_eq_some_iff.1 hk
  obtain ⟨f, d, q, h1, h2⟩ := array_elem ht h k (by omega)
  rw [cAcc] at h2
  rw [List.getElem?_map, hk] at h1
  simp only [Option.map_some, Option.some.injEq] at h1
  subst h1
  exact quad_of h2
end
theorem heap_of {W : World} {x : String} {g : Nat} {cs : Array Value} (hg : Tryz.prog.globalNamed x = some g) (hv : W.var? Tryz.prog x = some cs) : ∃ t fr, W.heap[g]? = some (.cells cs t fr) := by
  simp only [World.var?, hg, Option.bind_some] at hv
  split at hv
  · rename_i c t fr hb
    cases hv
    exact ⟨t, fr, hb⟩
  · cases hv
theorem laidN0 : Tryz.prog.globalNamed "creel/ops.controlNames" = some 2 := by kernel_rfl
theorem laidY0 : (Tryz.prog.globals[2]?).map (·.type) = some 201 := by kernel_rfl
theorem laidD0 : (Rows.laid_creel_ops_controlNames : DataW Unit) = .agg (tab0.map fun s => .lit (.string s)) := by kernel_rfl
theorem laidT0 {W : World} (h : laidMet Tryz.prog listed W) : ∃ t fr, W.heap[2]? = some (.cells (strs tab0) t fr) := by
  obtain ⟨g, t, cs, fuel, p, hg, hty, hvar, hd⟩ := Lib.laidMet.reads h (show ("creel/ops.controlNames", Rows.laid_creel_ops_controlNames) ∈ listed from .head _)
  obtain rfl := Option.some.inj (laidN0.symm.trans hg)
  obtain rfl := Option.some.inj (laidY0.symm.trans hty)
  rw [laidD0] at hd
  obtain rfl := strs_of Tryz.underlying201 (by kernel_rfl) (by kernel_rfl) hd
  exact heap_of laidN0 hvar
theorem laidN1 : Tryz.prog.globalNamed "creel/ops.memoryNames" = some 3 := by kernel_rfl
theorem laidY1 : (Tryz.prog.globals[3]?).map (·.type) = some 202 := by kernel_rfl
theorem laidD1 : (Rows.laid_creel_ops_memoryNames : DataW Unit) = .agg (tab1.map fun s => .lit (.string s)) := by kernel_rfl
theorem laidT1 {W : World} (h : laidMet Tryz.prog listed W) : ∃ t fr, W.heap[3]? = some (.cells (strs tab1) t fr) := by
  obtain ⟨g, t, cs, fuel, p, hg, hty, hvar, hd⟩ := Lib.laidMet.reads h (show ("creel/ops.memoryNames", Rows.laid_creel_ops_memoryNames) ∈ listed from .tail _ (.head _))
  obtain rfl := Option.some.inj (laidN1.symm.trans hg)
  obtain rfl := Option.some.inj (laidY1.symm.trans hty)
  rw [laidD1] at hd
  obtain rfl := strs_of Tryz.underlying202 (by kernel_rfl) (by kernel_rfl) hd
  exact heap_of laidN1 hvar
theorem laidN2 : Tryz.prog.globalNamed "creel/ops.testNames" = some 4 := by kernel_rfl
theorem laidY2 : (Tryz.prog.globals[4]?).map (·.type) = some 203 := by kernel_rfl
theorem laidD2 : (Rows.laid_creel_ops_testNames : DataW Unit) = .agg (tab2.map fun s => .lit (.string s)) := by kernel_rfl
theorem laidT2 {W : World} (h : laidMet Tryz.prog listed W) : ∃ t fr, W.heap[4]? = some (.cells (strs tab2) t fr) := by
  obtain ⟨g, t, cs, fuel, p, hg, hty, hvar, hd⟩ := Lib.laidMet.reads h (show ("creel/ops.testNames", Rows.laid_creel_ops_testNames) ∈ listed from .tail _ (.tail _ (.head _)))
  obtain rfl := Option.some.inj (laidN2.symm.trans hg)
  obtain rfl := Option.some.inj (laidY2.symm.trans hty)
  rw [laidD2] at hd
  obtain rfl := strs_of Tryz.underlying203 (by kernel_rfl) (by kernel_rfl) hd
  exact heap_of laidN2 hvar
theorem laidN3 : Tryz.prog.globalNamed "creel/ops.numberNames" = some 5 := by kernel_rfl
theorem laidY3 : (Tryz.prog.globals[5]?).map (·.type) = some 204 := by kernel_rfl
theorem laidD3 : (Rows.laid_creel_ops_numberNames : DataW Unit) = .agg (tab3.map fun s => .lit (.string s)) := by kernel_rfl
theorem laidT3 {W : World} (h : laidMet Tryz.prog listed W) : ∃ t fr, W.heap[5]? = some (.cells (strs tab3) t fr) := by
  obtain ⟨g, t, cs, fuel, p, hg, hty, hvar, hd⟩ := Lib.laidMet.reads h (show ("creel/ops.numberNames", Rows.laid_creel_ops_numberNames) ∈ listed from .tail _ (.tail _ (.tail _ (.head _))))
  obtain rfl := Option.some.inj (laidN3.symm.trans hg)
  obtain rfl := Option.some.inj (laidY3.symm.trans hty)
  rw [laidD3] at hd
  obtain rfl := strs_of Tryz.underlying204 (by kernel_rfl) (by kernel_rfl) hd
  exact heap_of laidN3 hvar
theorem laidN4 : Tryz.prog.globalNamed "creel/ops.convertNames" = some 6 := by kernel_rfl
theorem laidY4 : (Tryz.prog.globals[6]?).map (·.type) = some 205 := by kernel_rfl
theorem laidD4 : (Rows.laid_creel_ops_convertNames : DataW Unit) = .agg (tab4.map fun s => .lit (.string s)) := by kernel_rfl
theorem laidT4 {W : World} (h : laidMet Tryz.prog listed W) : ∃ t fr, W.heap[6]? = some (.cells (strs tab4) t fr) := by
  obtain ⟨g, t, cs, fuel, p, hg, hty, hvar, hd⟩ := Lib.laidMet.reads h (show ("creel/ops.convertNames", Rows.laid_creel_ops_convertNames) ∈ listed from .tail _ (.tail _ (.tail _ (.tail _ (.head _)))))
  obtain rfl := Option.some.inj (laidN4.symm.trans hg)
  obtain rfl := Option.some.inj (laidY4.symm.trans hty)
  rw [laidD4] at hd
  obtain rfl := strs_of Tryz.underlying205 (by kernel_rfl) (by kernel_rfl) hd
  exact heap_of laidN4 hvar
theorem laidN5 : Tryz.prog.globalNamed "creel/ops.accesses" = some 7 := by kernel_rfl
theorem laidY5 : (Tryz.prog.globals[7]?).map (·.type) = some 211 := by kernel_rfl
theorem laidD5 : (Rows.laid_creel_ops_accesses : DataW Unit) = .agg (tabA.map fun a => .agg [.lit (.int .i64 a.n), .lit (.int .u8 a.t), .lit (.bool a.wr), .lit (.bool a.sg)]) := by kernel_rfl
theorem laidT5 {W : World} (h : laidMet Tryz.prog listed W) : ∃ t fr, W.heap[7]? = some (.cells (accCells tabA) t fr) := by
  obtain ⟨g, t, cs, fuel, p, hg, hty, hvar, hd⟩ := Lib.laidMet.reads h (show ("creel/ops.accesses", Rows.laid_creel_ops_accesses) ∈ listed from .tail _ (.tail _ (.tail _ (.tail _ (.tail _ (.head _))))))
  obtain rfl := Option.some.inj (laidN5.symm.trans hg)
  obtain rfl := Option.some.inj (laidY5.symm.trans hty)
  rw [laidD5] at hd
  obtain rfl := acc_of Tryz.underlying211 (by kernel_rfl) (by kernel_rfl) hd
  exact heap_of laidN5 hvar
theorem tabs_of {W : World} (h : laidMetH Tryz.prog listed W) : Tabs W := by
  rw [listed_plain] at h
  exact ⟨laidT0 h, laidT1 h, laidT2 h, laidT3 h, laidT4 h, laidT5 h⟩

end Go.Proofs.YtkleadjkebofpaaGreatDoor
