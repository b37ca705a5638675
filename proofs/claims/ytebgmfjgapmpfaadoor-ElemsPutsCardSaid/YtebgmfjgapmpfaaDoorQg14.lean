/- abort.Value of a function that ends well, whatever it hands back: []api.Global. Value of one that aborts. -/
import Derived.Test.YtebgmfjgapmpfaaDoorQg07
import Derived.Test.YtebgmfjgapmpfaaDoorQg13
import Derived.RegionTactic
import Derived.Test.YtebgmfjgapmpfaaDoorQg12
import Derived.Test.YtebgmfjgapmpfaaDoorQg09
import Derived.Test.YtebgmfjgapmpfaaDoorQg04
import Derived.Deep.CutBlock
import Derived.Deep.DeepCutAuto
import Derived.ProofKit
import Derived.Test.YtebgmfjgapmpfaaDoorQg01
import Derived.OpenShut
import Derived.ShutString
import Derived.ChangeOld
import Derived.ChangeSame
import Derived.Deep.Slices
import Derived.Deep.Fields
import Derived.Lib.SmallJoins
import Derived.Test.YtebgmfjgapmpfaaDoorQg02
import Derived.Test.YtebgmfjgapmpfaaDoorQg08
import Derived.Test.YtebgmfjgapmpfaaDoorQg10
import Derived.Test.YtebgmfjgapmpfaaDoorQg06
namespace Go.Proofs.YtebgmfjgapmpfaaDoor
open Go.RowKit
set_option linter.unusedVariables false
set_option maxRecDepth 100000

section
variable {T : (Option Addr × Nat × Nat) → World → Prop}
end
end Go.Proofs.YtebgmfjgapmpfaaDoor

/- abort.Value of a function that ends well, whatever it hands back: api.Global. (By gen/genVal.py.) -/
namespace Go.Proofs.YtebgmfjgapmpfaaDoor
open Go.RowKit
set_option linter.unusedVariables false
set_option maxRecDepth 100000

theorem cfVG (cap : Array Value) (w : World) : (callFunc 89 cap).run Tryd.prog w = .ok (.enter 89 cap) w := by kernel_rfl
section
variable {T : SlotG → World → Prop}
/-- Value's own closure: what the step hands back lies in its cell. -/
theorem valClosG {g : FuncId} {cap : Array Value} {b1 b4 q : Nat} {w : World} {z : Array Value} (hz : z.size = 6) (hcf : ∀ w : World, (callFunc g cap).run Tryd.prog w = .ok (.enter g cap) w)
    (h1 : Whole w b1 89 #[.func (.func g) #[] cap]) (h4 : Whole w b4 82 #[.int .u8 0, .bool false, .int .u8 0, .int .u64 0, .int .u64 0, .slice none 0 0]) (hb : q < b4) (hT : ∀ x W W', T x W → W.grownBy W' (some b4) → T x W')
    (h : Calls Tryd.prog g cap w fun e w' => ∃ x, e = .returned (sV x) ∧ T x w' ∧ w.grownBy w' (some q)) :
    Calls Tryd.prog 89 #[.pointer (some ⟨b1, 0, none⟩), .pointer (some ⟨b4, 0, none⟩)] w fun e w' =>
      e = .returned (.tuple #[]) ∧ ∃ x, T x w' ∧ Whole w' b4 82 #[.int .u8 x.1.t.toNat, .bool x.1.m, .int .u8 x.1.i.op.toNat, .int .u64 x.1.i.a, .int .u64 x.1.i.b, .slice x.2.1 x.1.i.l.length x.2.2] ∧ ∃ w1, w.grownBy w1 (some q) ∧ w1.grownBy w' (some b4) := by
  have hnil : ∀ w : World, (binOp BinOp.neq 89 (.func (.func g) #[] cap) .nilFunc).run Tryd.prog w = .ok (.bool true) w := fun _ => by kernel_rfl
  have c1 := h1.cell 0
  simp only [List.getElem?_toArray, List.getElem?_cons_zero] at c1
  have HH := Lib.hid h
  have H4 := Lib.hid h4
  have HT := Lib.hid hT
  clear h h1 h4 hT
  go_enter Tryd.func89, Tryd.ntmps89
  go_wp2_with fail
  refine HH.out.mono ?_
  rintro e w1 ⟨x, rfl, hs, hg⟩
  have HW := H4.out.grown hg (by simp only [ne_eq, Option.some.injEq]; omega)
  have k0 := HW.cell 0
  have k1 := HW.cell 1
  have k2 := HW.cell 2
  have k3 := HW.cell 3
  have k4 := HW.cell 4
  have k5 := HW.cell 5
  have f0 := HW.frozen 0
  have f1 := HW.frozen 1
  have f2 := HW.frozen 2
  have f3 := HW.frozen 3
  have f4 := HW.frozen 4
  have f5 := HW.frozen 5
  simp only [List.getElem?_toArray, List.getElem?_cons_zero, List.getElem?_cons_succ] at k0 k1 k2 k3 k4 k5
  obtain ⟨p1, p2⟩ := put6 (u0 := .int .u8 x.1.t.toNat) (u1 := .bool x.1.m) (u2 := .int .u8 x.1.i.op.toNat) (u3 := .int .u64 x.1.i.a) (u4 := .int .u64 x.1.i.b) (u5 := .slice x.2.1 x.1.i.l.length x.2.2) HW
  have F : Hid (T x ((((((w1.setCell ⟨b4, 0, none⟩ (.int .u8 x.1.t.toNat)).setCell ⟨b4, 1, none⟩ (.bool x.1.m)).setCell ⟨b4, 2, none⟩ (.int .u8 x.1.i.op.toNat)).setCell ⟨b4, 3, none⟩ (.int .u64 x.1.i.a)).setCell ⟨b4, 4, none⟩ (.int .u64 x.1.i.b)).setCell ⟨b4, 5, none⟩ (.slice x.2.1 x.1.i.l.length x.2.2))) := HT.out _ _ _ hs p2
  have P1 := Lib.hid p1
  have P2 := Lib.hid p2
  have HG := Lib.hid hg
  clear p1 p2 hs hg HW hcf
  go_wp2_with fail
  go_end0
  exact ⟨rfl, x, F.out, P1.out, w1, HG.out, P2.out⟩
/-- What Value's closure leaves behind, seen from Value's beginning. -/
structure VSG (T : SlotG → World → Prop) (w : World) (q : Nat) (x : SlotG) (w1 : World) : Prop where
  kept : T x w1
  grown : w.grownBy w1 (some q)
  val : Whole w1 (w.heap.size + 3) 82 #[.int .u8 x.1.t.toNat, .bool x.1.m, .int .u8 x.1.i.op.toNat, .int .u64 x.1.i.a, .int .u64 x.1.i.b, .slice x.2.1 x.1.i.l.length x.2.2]
  r1 : Whole w1 (w.heap.size + 1) 82 #[.int .u8 0, .bool false, .int .u8 0, .int .u64 0, .int .u64 0, .slice none 0 0]
  r2 : Whole w1 (w.heap.size + 2) 35 #[.int .i64 0, .int .i64 0]
/-- The world in which Value calls Out. -/
def vWorldG (g : FuncId) (cap : Array Value) (w : World) : World :=
  (((w.alloc (.cells #[.func (.func g) #[] cap] 89)).alloc (.cells #[.int .u8 0, .bool false, .int .u8 0, .int .u64 0, .int .u64 0, .slice none 0 0] 82)).alloc (.cells #[.int .i64 0, .int .i64 0] 35)).alloc (.cells #[.int .u8 0, .bool false, .int .u8 0, .int .u64 0, .int .u64 0, .slice none 0 0] 82)
theorem vWorld_factsG (g : FuncId) (cap : Array Value) (w : World) : (vWorldG g cap w).heap.size = w.heap.size + 4 ∧ Whole (vWorldG g cap w) w.heap.size 89 #[.func (.func g) #[] cap] ∧
    Whole (vWorldG g cap w) (w.heap.size + 1) 82 #[.int .u8 0, .bool false, .int .u8 0, .int .u64 0, .int .u64 0, .slice none 0 0] ∧ Whole (vWorldG g cap w) (w.heap.size + 2) 35 #[.int .i64 0, .int .i64 0] ∧
    Whole (vWorldG g cap w) (w.heap.size + 3) 82 #[.int .u8 0, .bool false, .int .u8 0, .int .u64 0, .int .u64 0, .slice none 0 0] ∧ Below w.heap.size w (vWorldG g cap w) := by
  have b1 := Whole.made w 89 #[.func (.func g) #[] cap]
  have b2 := Whole.made (w.alloc (.cells #[.func (.func g) #[] cap] 89)) 82 #[.int .u8 0, .bool false, .int .u8 0, .int .u64 0, .int .u64 0, .slice none 0 0]
  have b3 := Whole.made ((w.alloc (.cells #[.func (.func g) #[] cap] 89)).alloc (.cells #[.int .u8 0, .bool false, .int .u8 0, .int .u64 0, .int .u64 0, .slice none 0 0] 82)) 35 #[.int .i64 0, .int .i64 0]
  have b4 := Whole.made (((w.alloc (.cells #[.func (.func g) #[] cap] 89)).alloc (.cells #[.int .u8 0, .bool false, .int .u8 0, .int .u64 0, .int .u64 0, .slice none 0 0] 82)).alloc (.cells #[.int .i64 0, .int .i64 0] 35)) 82 #[.int .u8 0, .bool false, .int .u8 0, .int .u64 0, .int .u64 0, .slice none 0 0]
  simp only [World.size_alloc] at b2 b3 b4
  exact ⟨by simp [vWorldG], ((b1.alloc _).alloc _).alloc _, (b2.alloc _).alloc _, b3.alloc _, b4,
    ((((Below.refl _ _).alloc (Nat.le_refl _) _).alloc (by simp) _).alloc (by simp; omega) _).alloc (by simp; omega) _⟩
theorem value_outG {g : FuncId} {cap : Array Value} {q : Nat} {w : World} (hcf : ∀ w : World, (callFunc g cap).run Tryd.prog w = .ok (.enter g cap) w) (hq : q < w.heap.size)
    (hT : ∀ x W W' b, w.heap.size ≤ b → b < w.heap.size + 5 → T x W → W.grownBy W' (some b) → T x W')
    (h : ∀ W, Below w.heap.size w W → w.heap.size + 5 ≤ W.heap.size → Calls Tryd.prog g cap W fun e w' => ∃ x, e = .returned (sV x) ∧ T x w' ∧ W.grownBy w' (some q)) :
    Calls Tryd.prog 78 #[.func (.func 89) #[] #[.pointer (some ⟨w.heap.size, 0, none⟩), .pointer (some ⟨w.heap.size + 3, 0, none⟩)]] (vWorldG g cap w) fun e w' => e = .returned (.agg #[.int .i64 0, .int .i64 0]) ∧ ∃ x, VSG T w q x w' := by
  obtain ⟨hz, b1, b2, b3, b4, hbe⟩ := vWorld_factsG g cap w
  have b5 := Whole.made (vWorldG g cap w) 35 #[.int .i64 0, .int .i64 0]
  have hbe2 : Below w.heap.size w ((vWorldG g cap w).alloc (.cells #[.int .i64 0, .int .i64 0] 35)) := hbe.alloc (by omega) _
  have hc := valClosG (T := T) (z := #[.int .u8 0, .bool false, .int .u8 0, .int .u64 0, .int .u64 0, .slice none 0 0]) rfl hcf (b1.alloc (.cells #[.int .i64 0, .int .i64 0] 35)) (b4.alloc _) (by omega : q < w.heap.size + 3) (fun x W W' => hT x W W' _ (by omega) (by omega)) (h _ hbe2 (by rw [size_box]; omega))
  refine (out_any _ _ 0 0 (vWorldG g cap w) (fun w1 => (∃ x, VSG T w q x w1) ∧ Whole w1 (vWorldG g cap w).heap.size 35 #[.int .i64 0, .int .i64 0]) (cfVG _) (hc.mono ?_) (fun _ h => h.2)).mono ?_
  · rintro e w' ⟨rfl, x, hs, hv, w1, hg1, hg2⟩
    have hz2 : w.heap.size + 5 ≤ w1.heap.size := by have := hg1.size; simp only [World.size_alloc] at this; omega
    refine ⟨.inl ⟨rfl, rfl, rfl⟩, ⟨x, hs, ?_, hv, ?_, ?_⟩, ?_⟩
    · exact gb_before (gb_trans (gb_of_below (some q) hbe2) hg1) hg2 (fun g e => .inr (by injection e with e; omega))
    · exact ((b2.alloc _).grown hg1 (by simp only [ne_eq, Option.some.injEq]; omega)).grown hg2 (by simp only [ne_eq, Option.some.injEq]; omega)
    · exact ((b3.alloc _).grown hg1 (by simp only [ne_eq, Option.some.injEq]; omega)).grown hg2 (by simp only [ne_eq, Option.some.injEq]; omega)
    · exact (b5.grown hg1 (by simp only [ne_eq, Option.some.injEq]; omega)).grown hg2 (by simp only [ne_eq, Option.some.injEq]; omega)
  · rintro e w' ⟨rfl, w1, ⟨⟨x, hs⟩, _⟩, hg⟩
    rw [hz] at hg
    exact ⟨rfl, x, hT x _ _ _ (by omega) (by omega) hs.kept hg, gb_before hs.grown hg (fun g e => .inr (by injection e with e; omega)), hs.val.grown hg (by simp only [ne_eq, Option.some.injEq]; omega), hs.r1.grown hg (by simp only [ne_eq, Option.some.injEq]; omega), hs.r2.grown hg (by simp only [ne_eq, Option.some.injEq]; omega)⟩

set_option maxHeartbeats 800000 in
/-- Value of a function that ends well. -/
theorem valueG_ok {g : FuncId} {cap : Array Value} {q : Nat} {w : World} (hcf : ∀ w : World, (callFunc g cap).run Tryd.prog w = .ok (.enter g cap) w) (hq : q < w.heap.size)
    (hT : ∀ x W W' b, w.heap.size ≤ b → b < w.heap.size + 5 → T x W → W.grownBy W' (some b) → T x W')
    (h : ∀ W, Below w.heap.size w W → w.heap.size + 5 ≤ W.heap.size → Calls Tryd.prog g cap W fun e w' => ∃ x, e = .returned (sV x) ∧ T x w' ∧ W.grownBy w' (some q)) :
    Calls Tryd.prog 45 #[.func (.func g) #[] cap] w fun e w' => ∃ x, e = .returned (.tuple #[sV x, .agg #[.int .i64 0, .int .i64 0]]) ∧ T x w' ∧ w.grownBy w' (some q) := by
  have hv := value_outG hcf hq hT h
  unfold vWorldG at hv
  have HV := Lib.hid hv
  have HT := Lib.hid hT
  have hmf : ∀ (fn : Fn) (first cap : Array Value) (w : World), (Instr.makeFunc fn first cap).run Tryd.prog w = .ok (.func fn first cap) w := fun _ _ _ _ => rfl
  clear h hv hcf hT
  go_enter Tryd.func45, Tryd.ntmps45
  go_wp2_with (go_at_call 78; go_must (refine HV.out.mono ?_; rintro e w2 ⟨rfl, x, hl⟩; have k0 := fun o => (hl.val.alloc o).cell 0; have f0 := fun o => (hl.r1.alloc o).frozen 0; have m0 := fun o => (hl.r1.alloc o).cell 0; have k1 := fun o => (hl.val.alloc o).cell 1; have f1 := fun o => (hl.r1.alloc o).frozen 1; have m1 := fun o => (hl.r1.alloc o).cell 1; have k2 := fun o => (hl.val.alloc o).cell 2; have f2 := fun o => (hl.r1.alloc o).frozen 2; have m2 := fun o => (hl.r1.alloc o).cell 2; have k3 := fun o => (hl.val.alloc o).cell 3; have f3 := fun o => (hl.r1.alloc o).frozen 3; have m3 := fun o => (hl.r1.alloc o).cell 3; have k4 := fun o => (hl.val.alloc o).cell 4; have f4 := fun o => (hl.r1.alloc o).frozen 4; have m4 := fun o => (hl.r1.alloc o).cell 4; have k5 := fun o => (hl.val.alloc o).cell 5; have f5 := fun o => (hl.r1.alloc o).frozen 5; have m5 := fun o => (hl.r1.alloc o).cell 5; have f88 := fun o => (hl.r2.alloc o).frozen 0; have f99 := fun o => (hl.r2.alloc o).frozen 1; have m88 := fun o => (hl.r2.alloc o).cell 0; have m99 := fun o => (hl.r2.alloc o).cell 1; simp only [List.getElem?_toArray, List.getElem?_cons_zero, List.getElem?_cons_succ] at k0 k1 k2 k3 k4 k5 m0 m1 m2 m3 m4 m5 m88 m99; have hz := hl.grown.size; have HL := Lib.hid hl; clear hl))
  have hb : w.heap.size + 1 + 1 = w.heap.size + 2 := by omega
  rw [hb]
  obtain ⟨p1, g1⟩ := put6 (u0 := .int .u8 x.1.t.toNat) (u1 := .bool x.1.m) (u2 := .int .u8 x.1.i.op.toNat) (u3 := .int .u64 x.1.i.a) (u4 := .int .u64 x.1.i.b) (u5 := .slice x.2.1 x.1.i.l.length x.2.2) (HL.out.r1.alloc (.cells #[.int .i64 0, .int .i64 0] 35))
  obtain ⟨p2, g2⟩ := put2 (u0 := .int .i64 0) (u1 := .int .i64 0) ((HL.out.r2.alloc (.cells #[.int .i64 0, .int .i64 0] 35)).grown g1 (by simp only [ne_eq, Option.some.injEq]; omega))
  have p3 := p1.grown g2 (by simp only [ne_eq, Option.some.injEq]; omega)
  have q0 := p3.cell 0
  have q1 := p3.cell 1
  have q2 := p3.cell 2
  have q3 := p3.cell 3
  have q4 := p3.cell 4
  have q5 := p3.cell 5
  have q88 := p2.cell 0
  have q99 := p2.cell 1
  simp only [List.getElem?_toArray, List.getElem?_cons_zero, List.getElem?_cons_succ] at q0 q1 q2 q3 q4 q5 q88 q99
  refine bodyPost_ret (v := .tuple #[sV x, .agg #[.int .i64 0, .int .i64 0]]) (by simp [results, Tryd.results45, go_sem, q0, q1, q2, q3, q4, q5, q88, q99]) rfl ⟨x, rfl, ?_, ?_⟩
  · exact HT.out _ _ _ _ (by omega) (by omega) (HT.out _ _ _ _ (by omega) (by omega) (HT.out _ _ _ w.heap.size (Nat.le_refl _) (by omega) HL.out.kept (gb_alloc (gb_refl _ _) _)) g1) g2
  · exact gb_before (gb_before (gb_alloc HL.out.grown _) g1 (fun g e => .inr (by injection e with e; omega))) g2 (fun g e => .inr (by injection e with e; omega))
end
end Go.Proofs.YtebgmfjgapmpfaaDoor

/- awake; the laws' closures; two lists side by side. -/
namespace Go.Proofs.YtebgmfjgapmpfaaDoor
open Go.RowKit
set_option linter.unusedVariables false
set_option maxRecDepth 100000

/-- The page's example: an i32 that may change, of 5. -/
def gEg : Gl := ⟨127, true, cEg⟩
theorem gEg_zero : rG gEg = 0 := by
  unfold rG
  rw [if_neg (by show ¬ valueZ 127 ≠ 0; decide +kernel)]
  exact cEg_zero
theorem gEg_put : gputL gEg = [127, 1, 65, 5, 11] := by
  unfold gputL cputL
  show encG 127 true ++ (putL cEg ++ [11]) = _
  rw [cEg_put]
  rfl
theorem gawake_any (w : World) (hT : Tabs w) : Calls Tryd.prog 41 #[] w fun e w' => e = .returned (.bool true) ∧ Below w.heap.size w w' := by
  have hp := put_gl gEg none 0 w cEg_ok hT (by decide)
  obtain ⟨l, hl⟩ : ∃ l : List UInt8, l = [127, 1, 65, 5, 11] := ⟨_, rfl⟩
  have HP := Lib.hid (show Calls Tryd.prog 43 #[.agg #[.int .u8 127, .bool true, .int .u8 65, .int .u64 5, .int .u64 0, .slice none 0 0]] w fun e w' => ∃ v, e = .returned (.tuple #[v, .int .i64 0]) ∧ Row w' w.heap.size v l ∧ Below w.heap.size w w' from hp.mono fun e w' ⟨v, h1, h2, h3⟩ => ⟨v, by rw [gEg_zero] at h1; exact h1, by rw [if_pos gEg_zero, gEg_put] at h2; rw [hl]; exact h2, h3⟩)
  have hcmp : ((S l).toList == [127, 1, 65, 5, 11]) = true := by rw [S_toList, hl]; rfl
  clear hl
  clear hp hT
  go_enter Tryd.func41, Tryd.ntmps41
  go_wp2_with (go_at_call 43; go_must ((with_reducible refine HP.out.mono ?_); intro e w1 h; obtain ⟨v, rfl, hr, hb⟩ := h; obtain ⟨A, c, rfl, hcv⟩ := hr.str; have hcv2 := hcv 9 Tryd.underlying9; have HB := Lib.hid hb; clear hb hr hcv))
  go_ret
  exact ⟨rfl, HB.out⟩

theorem cfG1 (cap : Array Value) (w : World) : (callFunc 46 cap).run Tryd.prog w = .ok (.enter 46 cap) w := by kernel_rfl
set_option maxHeartbeats 4000000 in
theorem closG1 {w : World} {p b : Nat} {l : List UInt8} {k : Nat} {x : Gl} (hb : Whole w b 51 #[.pointer (some ⟨p, 0, none⟩)])
    (hG : ∀ W, Below w.heap.size w W → Calls Tryd.prog 47 #[.pointer (some ⟨p, 0, none⟩)] W (fun e w' => ∃ A2 c2, e = .returned (glV x A2 c2) ∧ Sc w' p l k ∧ W.grownBy w' (some p))) (hp : p < w.heap.size) :
    Calls Tryd.prog 46 #[.pointer (some ⟨b, 0, none⟩)] w (fun e w' => ∃ A2 c2, e = .returned (glV x A2 c2) ∧ Sc w' p l k ∧ w.grownBy w' (some p)) := by
  have HGt := Lib.hid (hG _ (below_box w (.cells glZ 82)))
  have HWM := Lib.hid (Whole.made w 82 glZ)
  have c0' : ∀ o, (w.alloc o).cell? ⟨b, 0, none⟩ = some (.pointer (some ⟨p, 0, none⟩)) := fun o => (hb.alloc o).cell 0
  clear hb hG
  go_enter Tryd.func46, Tryd.ntmps46
  go_wp2_with (go_at_call 47; go_must ((with_reducible refine HGt.out.mono ?_); rintro e w1 ⟨A2, c2, rfl, hs, hg⟩; have HS := Lib.hid hs; have HG := Lib.hid hg; have HW1 := Lib.hid (HWM.out.grown hg (by simp only [ne_eq, Option.some.injEq]; omega)); have z0 := HW1.out.cell 0; have z1 := HW1.out.cell 1; have z2 := HW1.out.cell 2; have z3 := HW1.out.cell 3; have z4 := HW1.out.cell 4; have z5 := HW1.out.cell 5; simp only [List.getElem?_toArray, List.getElem?_cons_zero, List.getElem?_cons_succ] at z0 z1 z2 z3 z4 z5; have f0 := HW1.out.frozen 0; have f1 := HW1.out.frozen 1; have f2 := HW1.out.frozen 2; have f3 := HW1.out.frozen 3; have f4 := HW1.out.frozen 4; have f5 := HW1.out.frozen 5; clear hs hg))
  obtain ⟨h1, h2⟩ := put6 (u0 := .int .u8 x.t.toNat) (u1 := .bool x.m) (u2 := .int .u8 x.i.op.toNat) (u3 := .int .u64 x.i.a) (u4 := .int .u64 x.i.b) (u5 := .slice A2 x.i.l.length c2) HW1.out
  obtain ⟨q0, q1, q2, q3, q4, q5⟩ := Whole.gl (x := x) h1
  exact bodyPost_ret (v := glV x A2 c2) (by simp [results, Tryd.results46, go_sem, q0, q1, q2, q3, q4, q5]) rfl ⟨A2, c2, rfl, HS.out.grown h2 (by simp only [ne_eq, Option.some.injEq]; omega) (fun g e => by injection e with e; omega), gb_before (gb_trans (gb_alloc (gb_refl _ _) _) HG.out) h2 (fun g e => .inr (by injection e with e; omega))⟩

/-- The six cells of a global, by its parts. -/
abbrev SixL (w : World) (b o : Nat) (g : Gl) (a : Option Addr) (c : Nat) : Prop := w.cell? ⟨b, o, none⟩ = some (.int .u8 g.t.toNat) ∧ w.cell? ⟨b, o + 1, none⟩ = some (.bool g.m) ∧ w.cell? ⟨b, o + 2, none⟩ = some (.int .u8 g.i.op.toNat) ∧ w.cell? ⟨b, o + 3, none⟩ = some (.int .u64 g.i.a) ∧ w.cell? ⟨b, o + 4, none⟩ = some (.int .u64 g.i.b) ∧ w.cell? ⟨b, o + 5, none⟩ = some (.slice a g.i.l.length c)
/-- One of each of two lists, as a walk reads them; both lists. -/
abbrev TwoG (w : World) (A A2 : Option Addr) (l l2 : List SlotG) (b off b2 off2 k : Nat) (g : Gl) (a1 a2 : Option Addr) (c1 c2 : Nat) (W : World) : Prop :=
  (Below w.heap.size w W ∧ Gs W A l ∧ Gs W A2 l2) ∧ SixL W b (off + k * 6) g a1 c1 ∧ SixL W b2 (off2 + k * 6) g a2 c2
section
variable {w W W' : World} {A A2 : Option Addr} {l l2 : List SlotG} {b off b2 off2 k : Nat} {g : Gl} {a1 a2 : Option Addr} {c1 c2 : Nat}
theorem twoG_of (h1 : Below w.heap.size w W) (h2 : Gs W A l) (h3 : Gs W A2 l2) (hA : A = some ⟨b, off, none⟩) (hA2 : A2 = some ⟨b2, off2, none⟩) (hx : l[k]? = some (g, a1, c1)) (hy : l2[k]? = some (g, a2, c2)) : TwoG w A A2 l l2 b off b2 off2 k g a1 a2 c1 c2 W := by
  obtain ⟨d1, o1, e1, _, p⟩ := h2.six hx
  obtain ⟨d2, o2, e2, _, q⟩ := h3.six hy
  rw [hA] at e1
  rw [hA2] at e2
  injection e1 with e1
  injection e2 with e2
  injection e1 with a1 a2
  injection e2 with a3 a4
  subst a1; subst a2; subst a3; subst a4
  exact ⟨⟨h1, h2, h3⟩, p, q⟩
theorem twoG_on (h : TwoG w A A2 l l2 b off b2 off2 k g a1 a2 c1 c2 W) (hA : A = some ⟨b, off, none⟩) (hA2 : A2 = some ⟨b2, off2, none⟩) (hx : l[k]? = some (g, a1, c1)) (hy : l2[k]? = some (g, a2, c2)) (hb : Below W.heap.size W W') : TwoG w A A2 l l2 b off b2 off2 k g a1 a2 c1 c2 W' :=
  twoG_of (h.1.1.trans (hb.mono h.1.1.size)) (h.1.2.1.below hb) (h.1.2.2.below hb) hA hA2 hx hy
/-- Both have one there, and these are alike. -/
theorem both_at (hm : l.map (·.1) = l2.map (·.1)) (hk : k < l.length) : ∃ g a1 a2 c1 c2, l[k]? = some (g, a1, c1) ∧ l2[k]? = some (g, a2, c2) := by
  obtain ⟨⟨g, a1, c1⟩, hx⟩ : ∃ x, l[k]? = some x := ⟨_, List.getElem?_eq_getElem hk⟩
  have hk2 : k < l2.length := by have := congrArg List.length hm; rw [List.length_map, List.length_map] at this; omega
  obtain ⟨⟨g2, a2, c2⟩, hy⟩ : ∃ y, l2[k]? = some y := ⟨_, List.getElem?_eq_getElem hk2⟩
  have e := congrArg (fun l => l[k]?) hm
  simp only [List.getElem?_map, hx, hy, Option.map_some, Option.some.injEq] at e
  subst e
  exact ⟨g, a1, a2, c1, c2, hx, hy⟩
end
end Go.Proofs.YtebgmfjgapmpfaaDoor

/- A constant expression that was written is read: as plain functions. -/
namespace Go.Proofs.YtebgmfjgapmpfaaDoor
open Go.RowKit
set_option linter.unusedVariables false
set_option maxRecDepth 100000

theorem intR_at {l r : List UInt8} {k n : Nat} {x : Int} (h : l.drop k = sebL x ++ r) (h0 : -2 ^ (n - 1) ≤ x) (h1 : x < 2 ^ (n - 1)) (n1 : 1 ≤ n) (n2 : n ≤ 64) : intR l k n = .ok x (k + (sebL x).length) := by
  have m63 : (2 : Int) ^ (n - 1) ≤ 2 ^ 63 := mono2 (by omega)
  have e63 : (2 : Int) ^ 63 = 9223372036854775808 := rfl
  have hna := sebN_least x (by omega) (by omega)
  have hlen := sebL_length x
  have hnl := nums_sebL x
  obtain ⟨p, c, he, hg, hx, c0, c1, hf, hp⟩ := least_s h0 h1 n1 n2 hna
  rw [he] at hlen hnl
  have hd : (nums l).drop k = grps x p ++ c :: nums r := by
    have : (nums l).drop k = nums (l.drop k) := by unfold nums; rw [List.map_drop]
    rw [this, h, nums_append, hnl, ← he, hg]
    simp
  have hq : onN l k n = p := by
    have := onN_stop l k n
    rw [hd] at this
    exact this.unique (grps_stop x p _ c _ c1 (by omega))
  unfold intR
  rw [if_pos ⟨n1, n2⟩, hq, if_neg (by omega), hd, grps_at]
  simp only
  rw [if_pos hf, grps_take, hlen]
  have e : numS (grps x p) c = x := by unfold numS; rw [low_grps, grps_length]; exact hx
  rw [e]
theorem getR_c {l r : List UInt8} {k : Nat} {i : I} (oi : i.Ok) (h0 : crightZ i = 0) (h : l.drop k = putL i ++ r) : getR l k = .ok i (k + (putL i).length) := by
  obtain ⟨hr, hc⟩ := cr_zero h0
  have hl := cz_nil h0
  obtain ⟨hc0, _, _, hb8, hz0⟩ := right_zero hr
  obtain ⟨a0, a1, b0, b1, _⟩ := oi
  obtain ⟨_, _, hz3⟩ := nums_zero hz0 a0
  obtain ⟨m, hm⟩ : ∃ m, m = immR i.n := ⟨_, rfl⟩
  have hm3 : m = 7 ∨ m = 10 ∨ m = 11 := by
    rw [hm]
    rcases hc with e | e | e
    all_goals rw [show i.n = _ from e]; decide +kernel
  rw [← hm] at hb8 hz3
  have hb : i.b = 0 := by omega
  have hp1 : putL i = i.op :: immB m i := by unfold putL immL; rw [hm]
  rw [hp1, List.cons_append] at h
  have hd1 : l.drop (k + 1) = immB m i ++ r := drop_past (a := [i.op]) h
  have hop : opR l k = .ok i.op (k + 1) := by unfold opR; rw [byteR_at h, Res.bind_ok, if_pos hc0]
  unfold getR
  rw [hop, Res.bind_ok]
  rw [show immR i.op.toNat = m from hm.symm, hp1, show k + (i.op :: immB m i).length = k + 1 + (immB m i).length by rw [List.length_cons]; omega]
  clear hm hop hp1 h hr hc hc0 hz0 h0
  obtain ⟨o, a, b, ls⟩ := i
  simp only at hl hb a0 a1 hz3 hd1 ⊢
  subst hl
  subst hb
  rcases hm3 with rfl | rfl | rfl
  · have himm : immB 7 ⟨o, a, 0, []⟩ = lebL a := by simp [immB]
    rw [himm] at hd1 ⊢
    have hbd : bodyR 7 o l (k + 1) = (indexR l (k + 1)).bind fun a k1 => .ok ⟨o, a, 0, []⟩ k1 := by simp [bodyR]
    rw [hbd, indexR_at hd1 a0 (by have := (hz3 (by omega)).1; omega), Res.bind_ok]
  · have himm : immB 10 ⟨o, a, 0, []⟩ = sebL (s32 a) := by simp [immB]
    rw [himm] at hd1 ⊢
    have ha := (hz3 (by omega)).1
    have hbd : bodyR 10 o l (k + 1) = (intR l (k + 1) 32).bind fun v k1 => .ok ⟨o, v % 4294967296, 0, []⟩ k1 := by simp [bodyR]
    rw [hbd, intR_at hd1 (show -2147483648 ≤ s32 a by unfold s32; omega) (show s32 a < 2147483648 by unfold s32; omega) (by omega) (by omega), Res.bind_ok, show s32 a % 4294967296 = a by unfold s32; omega]
  · have himm : immB 11 ⟨o, a, 0, []⟩ = sebL (s64 a) := by simp [immB]
    rw [himm] at hd1 ⊢
    have hbd : bodyR 11 o l (k + 1) = (intR l (k + 1) 64).bind fun v k1 => .ok ⟨o, v % 18446744073709551616, 0, []⟩ k1 := by simp [bodyR]
    rw [hbd, intR_at hd1 (show -9223372036854775808 ≤ s64 a by unfold s64; omega) (show s64 a < 9223372036854775808 by unfold s64; omega) (by omega) (by omega), Res.bind_ok, show s64 a % 18446744073709551616 = a by unfold s64; omega]
theorem readR_at {l r : List UInt8} {k : Nat} {i : I} (oi : i.Ok) (h0 : crightZ i = 0) (h : l.drop k = cputL i ++ r) : readR l k = .ok i (k + (cputL i).length) := by
  have hd : l.drop k = putL i ++ (11 :: r) := by rw [h]; unfold cputL; simp
  have hg := getR_c oi h0 hd
  have hd2 := drop_past hd
  unfold readR
  rw [hg, Res.bind_ok, if_pos h0, byteR_at hd2, Res.bind_ok, if_pos rfl]
  unfold cputL
  rw [List.length_append, List.length_singleton, Nat.add_assoc]
end Go.Proofs.YtebgmfjgapmpfaaDoor

/- A global that was written is read. -/
namespace Go.Proofs.YtebgmfjgapmpfaaDoor
open Go.RowKit
set_option linter.unusedVariables false
set_option maxRecDepth 100000

theorem gR_at {l r : List UInt8} {k : Nat} {x : Gl} (oi : x.i.Ok) (h0 : rG x = 0) (h : l.drop k = gputL x ++ r) : gR l k = .ok x (k + (gputL x).length) := by
  obtain ⟨h1, h2⟩ := rG_zero h0
  have he : (encG (x.t.toNat : Int) x.m).length = 2 := rfl
  have hd : l.drop k = encG x.t.toNat x.m ++ (cputL x.i ++ r) := by rw [h]; unfold gputL; rw [List.append_assoc]
  have hd2 := drop_past hd
  rw [he] at hd2
  unfold gR
  rw [globR_at hd h1, Res.bind_ok, readR_at oi h2 hd2, Res.bind_ok]
  unfold gputL
  rw [List.length_append, he, Nat.add_assoc]
end Go.Proofs.YtebgmfjgapmpfaaDoor

/- The walk of GlobalsPuts. -/
namespace Go.Proofs.YtebgmfjgapmpfaaDoor
open Go.RowKit
set_option linter.unusedVariables false
set_option maxRecDepth 100000

/-- What the law keeps: the box of its input, the bytes, the scanner's cell. -/
structure PKG (w : World) (x : Gl) (A : Option Addr) (c : Nat) (p : Nat) (B : Nat) (Ab : Option Addr) (y : List UInt8) (b6 : Nat) (W : World) : Prop where
  bx : Whole W w.heap.size 82 (glC x A c)
  ly : Lies W B Ab (cells (nums y))
  pt : Whole W b6 51 #[.pointer (some ⟨p, 0, none⟩)]
  bel : Below w.heap.size w W
  o1 : w.heap.size < p
  o2 : B ≤ p
  o3 : p < b6
  o4 : B ≤ W.heap.size
section
variable {w W W' : World} {x : Gl} {A : Option Addr} {c : Nat} {p B b6 k k' q : Nat} {l : List UInt8} {Ab : Option Addr} {y : List UInt8}
theorem PKG.grown (h : PKG w x A c p B Ab y b6 W) (hg : W.grownBy W' (some q)) (h1 : p ≤ q) (h2 : b6 ≠ q) : PKG w x A c p B Ab y b6 W' := by
  obtain ⟨a1, a2, a3, a4, a5, a6, a7, a8⟩ := h
  exact ⟨a1.grown hg (by simp only [ne_eq, Option.some.injEq]; omega), a2.grown hg a8 (fun g e => by injection e with e; omega), a3.grown hg (by simp only [ne_eq, Option.some.injEq]; omega), below_new a4 hg (by omega), a5, a6, a7, Nat.le_trans a8 hg.size⟩
theorem PKG.below (h : PKG w x A c p B Ab y b6 W) (hb : Below W.heap.size W W') : PKG w x A c p B Ab y b6 W' := by
  obtain ⟨a1, a2, a3, a4, a5, a6, a7, a8⟩ := h
  exact ⟨a1.below hb, a2.below hb a8, a3.below hb, a4.trans (hb.mono a4.size), a5, a6, a7, Nat.le_trans a8 hb.size⟩
/-- At the law's end. -/
structure PEG (w : World) (x : Gl) (A : Option Addr) (c : Nat) (A2 : Option Addr) (c2 : Nat) (p : Nat) (B : Nat) (Ab : Option Addr) (y : List UInt8) (b6 g : Nat) (l : List UInt8) (k : Nat) (W : World) : Prop where
  a : PKG w x A c p B Ab y b6 W
  sc : Sc W p l k
  yb : Whole W g 82 (glC x A2 c2)
  st : Whole W (g + 1) 35 #[.int .i64 0, .int .i64 0]
theorem PEG.below {g c2 : Nat} {A2 : Option Addr} (h : PEG w x A c A2 c2 p B Ab y b6 g l k W) (hb : Below W.heap.size W W') : PEG w x A c A2 c2 p B Ab y b6 g l k W' := ⟨h.a.below hb, h.sc.below hb, h.yb.below hb, h.st.below hb⟩
/-- .. and what it reads as. -/
abbrev PEGc (w : World) (x : Gl) (A : Option Addr) (c : Nat) (A2 : Option Addr) (c2 : Nat) (p : Nat) (B : Nat) (Ab : Option Addr) (cb : Nat) (y : List UInt8) (b6 g : Nat) (l : List UInt8) (k : Nat) (W : World) : Prop := PEG w x A c A2 c2 p B Ab y b6 g l k W ∧
  SixG W w.heap.size x A c ∧ SixG W g x A2 c2 ∧
  W.cell? ⟨g + 1, 0, none⟩ = some (.int .i64 0) ∧ W.cell? ⟨b6, 0, none⟩ = some (.pointer (some ⟨p, 0, none⟩)) ∧ (convert 26 9 (.slice Ab y.length cb)).run Tryd.prog W = .ok (.string (S y)) W
theorem PEG.all {g c2 : Nat} {A2 : Option Addr} (h : PEG w x A c A2 c2 p B Ab y b6 g l k W) (cb : Nat) : PEGc w x A c A2 c2 p B Ab cb y b6 g l k W :=
  ⟨h, h.a.bx.gl, h.yb.gl, h.st.cell 0, h.a.pt.cell 0, str_any h.a.ly cb 9 Tryd.underlying9⟩
end
/-- The boxed input and the tables. -/
structure PStG (w : World) (x : Gl) (A : Option Addr) (c : Nat) (W : World) : Prop where
  tb : Tabs W
  bx : BxG w w.heap.size x A c W
theorem PStG.on {w W W' : World} {x : Gl} {A : Option Addr} {c : Nat} (h : PStG w x A c W) (hb : Below W.heap.size W W') : PStG w x A c W' := ⟨h.tb.below hb, bxG_on h.bx hb⟩
set_option maxHeartbeats 8000000 in
theorem lawGP {w : World} {x : Gl} {A : Option Addr} {c : Nat} (hT : Tabs w) (oi : x.i.Ok) (ni : (x.i.l.length : Int) ≤ 9223372036854775807) :
    Calls Tryd.prog 8 #[glV x A c] w fun e w' => e = .returned (.bool true) ∧ Below w.heap.size w w' := by
  have HTw := Lib.hid hT
  have h0 : PStG w x A c (w.alloc (.cells (glC x A c) 82)) := ⟨hT.below (below_box _ _), bxG_start w x A c⟩
  have HAW := Lib.hid (gawake_any _ h0.tb)
  have H0 := Lib.hid h0
  clear h0 hT
  by_cases g2 : 100 < x.i.l.length
  · have t2 : decide ((100 : Int) < (x.i.l.length : Int)) = true := decide_eq_true (by omega)
    clear g2
    go_enter Tryd.func8, Tryd.ntmps8
    go_wp2_with (go_at_call 41; go_must ((with_reducible refine HAW.out.mono ?_); rintro e w1 ⟨rfl, hb⟩; have H1 := Lib.hid (H0.out.on hb); obtain ⟨c0, c1, c2, c3, c4, c5⟩ := H1.out.bx.1.1.gl; clear hb))
    go_ret
    exact ⟨rfl, bxG_bel H1.out.bx⟩
  have t2 : decide ((100 : Int) < (x.i.l.length : Int)) = false := decide_eq_false (by omega)
  have HRR := Lib.hid (fun W => rgright_any x A c W oi ni)
  have HIR := Lib.hid (fun W (h : Tabs W) => gright_any x A c W oi h ni)
  have HPU := Lib.hid (fun W (h : Tabs W) => put_gl x A c W oi h ni)
  unfold PuttedG at HPU
  by_cases hz : rG x = 0
  · rw [if_pos hz] at HPU
    have HRP := Lib.hid (fun W => rput_gl x A c W oi hz)
    have hlen := gputL_len oi hz
    have HGT := Lib.hid (fun W p l r k (h : Sc W p l k) (hT : TbP p W) (hd : l.drop k = gputL x ++ r) => show Calls Tryd.prog 47 #[.pointer (some ⟨p, 0, none⟩)] W (fun e w' => ∃ A2 c2, e = .returned (glV x A2 c2) ∧ Sc w' p l (k + (gputL x).length) ∧ W.grownBy w' (some p)) from by have := get_gl h hT; rw [gR_at oi hz hd] at this; exact this)
    have hnil := cz_nil (rG_zero hz).2
    rw [hz] at HRR HIR HPU
    obtain ⟨y, hy⟩ : ∃ y, y = gputL x := ⟨_, rfl⟩
    rw [← hy] at HPU HRP hlen HGT
    have hl7 : (([] ++ y) ++ [7]).length ≤ 1000000 := by simp only [List.length_append, List.length_singleton, List.length_nil]; omega
    have hl7' : ([] ++ y : List UInt8).length + ([7] : List UInt8).length ≤ 1000000 := by simp only [List.length_append, List.length_singleton, List.length_nil]; omega
    have hl0 : ([] : List UInt8).length + y.length ≤ 1000000 := by simp only [List.length_nil]; omega
    have HD := Lib.hid (show (([] ++ y) ++ [7] : List UInt8).drop 0 = y ++ [7] from by simp)
    have HLf := Lib.hid (fun W p (h : Sc W p (([] ++ y) ++ [7]) y.length) => by
      have h2 := left_any h
      have e : (((([] ++ y) ++ [7] : List UInt8).length : Int) - (y.length : Int)) = 1 := by simp only [List.length_append, List.length_singleton, List.length_nil]; omega
      rw [e] at h2
      exact h2)
    have HSm := Lib.hid (fun W (A2 : Option Addr) (c2 : Nat) => rsame_gl (w := W) (x := x) (A := A2) (B := A) (c := c2) (d := c) hnil)
    obtain ⟨L, hL⟩ : ∃ L, L = (([] ++ y) ++ [7] : List UInt8) := ⟨_, rfl⟩
    rw [← hL] at hl7 HD HLf
    have HLd := Lib.hid hL
    clear hL
    clear hz hy g2 hnil oi ni
    go_enter Tryd.func8, Tryd.ntmps8
    go_upto_region 11 with (first
      | (go_at_call 41; go_must ((with_reducible refine HAW.out.mono ?_); rintro e w1 ⟨rfl, hb⟩; have H1 := Lib.hid (H0.out.on hb); obtain ⟨c0, c1, c2, c3, c4, c5⟩ := H1.out.bx.1.1.gl; clear hb))
      | (go_at_call 42; go_must ((with_reducible refine (HRR.out _).mono ?_); rintro e w2 ⟨rfl, hb⟩; clear c0 c1 c2 c3 c4 c5; have H2 := Lib.hid (H1.out.on hb); obtain ⟨c0, c1, c2, c3, c4, c5⟩ := H2.out.bx.1.1.gl; clear hb))
      | (go_at_call 43; go_must ((with_reducible refine (HPU.out _ H2.out.tb).mono ?_); intro e w3 hq; obtain ⟨v, rfl, hr, hb⟩ := hq; obtain ⟨Ab, cb, rfl, hpc⟩ := hr.pc; clear c0 c1 c2 c3 c4 c5; have H3 := Lib.hid (H2.out.on hb); have HP3 := Lib.hid hpc; obtain ⟨c0, c1, c2, c3, c4, c5⟩ := H3.out.bx.1.1.gl; clear hb hr hpc))
      | (go_at_call 44; go_must ((with_reducible refine (HIR.out _ H3.out.tb).mono ?_); rintro e w4 ⟨rfl, hb⟩; clear c0 c1 c2 c3 c4 c5; have H4 := Lib.hid (H3.out.on hb); have HP4 := Lib.hid (HP3.out.below hb); clear hb)))
    have R0 := Lib.hid (Row.made w4 [] w4.heap.size w4.heap.size rfl (Nat.le_refl _) (by simp))
    have HP4' := Lib.hid (HP4.out.below (below_box w4 (.cells #[] 5)))
    have hB4 : w4.heap.size ≤ (w4.alloc (.cells #[] 5)).heap.size := (below_box w4 _).size
    go_upto_region 12 with (first
      | (go_at_call 29; go_must ((with_reducible refine (over_any HP6.out.lies HP6.out.nil hl7).mono ?_); intro e w7 hq; obtain ⟨p, rfl, hpp, hs, hb⟩ := hq; have HS7 := Lib.hid hs; have HB7 := Lib.hid (HB6.out.trans (hb.mono HB6.out.size)); have HB67 := Lib.hid hb; clear hs hb))
      | (have tok := HR5; at_builtin; go_must (refine row_any rfl _ _ rfl w4.heap.size _ ([] ++ y) rfl (HR5.out.later (below_box w5 (.cells #[.int .u8 7] 5))) (some ⟨w5.heap.size, 0, none⟩) 1 1 _ [7] rfl rfl (lies_made w5 [7] (0, 0)) (fun e => by cases e) hl7' (Nat.le_trans HB5.out.size (below_box w5 _).size) ?_; intro v6 w6 hr6 hb6; rw [← HLd.out] at hr6; obtain ⟨A6, c6', rfl, hpc6⟩ := hr6.pc; have HB6 := Lib.hid ((HB5.out.trans ((below_box w5 (.cells #[.int .u8 7] 5)).mono HB5.out.size)).trans hb6); have HP6 := Lib.hid hpc6; clear hr6 hb6 hpc6))
      | (at_builtin; go_must (refine row_any rfl _ _ rfl w4.heap.size _ [] rfl R0.out Ab y.length cb _ y rfl rfl HP4'.out.lies HP4'.out.nil hl0 hB4 ?_; intro v5 w5 hr5 hb5; have HR5 := Lib.hid hr5; have HB5 := Lib.hid ((below_box w4 (.cells #[] 5)).trans hb5); clear hr5 hb5)))
    have hx4 := H4.out.bx.1.1.lt
    have h46 := HB6.out.size
    have h7p := HS7.out.lt
    have hpk : PKG w x A c p w6.heap.size Ab y w7.heap.size (w7.alloc (.cells #[.pointer (some ⟨p, 0, none⟩)] 51)) :=
      ⟨((H4.out.bx.1.1.below HB7.out).alloc _), ((HP4.out.below HB6.out).lies.below (HB67.out.trans ((below_box w7 _).mono HB67.out.size)) (Nat.le_refl _)), Whole.made _ _ _,
        (bxG_bel H4.out.bx).trans ((HB7.out.trans ((below_box w7 _).mono HB7.out.size)).mono (bxG_bel H4.out.bx).size), by omega, hpp, h7p, Nat.le_trans HB67.out.size (below_box w7 _).size⟩
    have HPK := Lib.hid hpk
    have HS8 := Lib.hid (HS7.out.alloc (.cells #[.pointer (some ⟨p, 0, none⟩)] 51))
    have hb6 : w7.heap.size < (w7.alloc (.cells #[.pointer (some ⟨p, 0, none⟩)] 51)).heap.size := hpk.pt.lt
    clear R0 HP4' HR5 H1 H2 H3 HP3 HB5 HB6 HP6 HAW H0 HRR HIR HPU HP4 H4 HB7 HB67 HS7 hpk hl7 hl7' hl0 hB4
    generalize w7.alloc (.cells #[.pointer (some ⟨p, 0, none⟩)] 51) = W8 at *
    generalize w7.heap.size = b6 at *
    have HV := Lib.hid (valueG_ok (T := fun q W => q.1 = x ∧ PKG w x A c p w6.heap.size Ab y b6 W ∧ Sc W p L y.length) (cfG1 #[.pointer (some ⟨b6, 0, none⟩)]) (q := p) (w := W8) (by omega)
      (fun q W W' b h1 h2 h3 hg => ⟨h3.1, h3.2.1.grown hg (by omega) (by omega), h3.2.2.grown hg (by simp only [ne_eq, Option.some.injEq]; omega) (fun g e => by injection e with e; omega)⟩)
      (fun W hb hsz => by
        have hW := HPK.out.below hb
        have hS := HS8.out.below hb
        refine (closG1 (x := x) (l := L) (k := y.length) hW.pt (fun W2 hb2 => ?_) hS.lt).mono ?_
        · have h2 := HGT.out W2 p L [7] 0 (hS.below hb2) (show TbP p W2 from ⟨w, HTw.out, Nat.le_of_lt hW.o1, (hW.below hb2).bel⟩) HD.out
          rw [Nat.zero_add] at h2
          exact h2
        · rintro e w' ⟨A2, c2, rfl, hs, hg⟩
          exact ⟨(x, A2, c2), rfl, ⟨rfl, hW.grown hg (Nat.le_refl _) (by omega), hs⟩, hg⟩))
    clear HGT HTw
    go_upto_region 13 with (go_at_call 45; go_must ((with_reducible refine HV.out.mono ?_); rintro e w9 ⟨⟨q, A2, c2⟩, rfl, ⟨hqx, hpk, hs⟩, hg⟩; obtain rfl : q = x := hqx; have HPE := Lib.hid (show PEG w q A c A2 c2 p w6.heap.size Ab y b6 w9.heap.size L y.length ((w9.alloc (.cells (glC q A2 c2) 82)).alloc (.cells #[.int .i64 0, .int .i64 0] 35)) from ⟨(hpk.below (below_box _ _)).below (below_box _ _), (hs.alloc _).alloc _, (Whole.made _ _ _).alloc _, (made_2 w9 _ _ _)⟩); clear hpk hs hg))
    generalize (w9.alloc (.cells (glC q A2 c2) 82)).alloc (.cells #[.int .i64 0, .int .i64 0] 35) = W9 at *
    refine wp_region_noPanic ?_
    refine wp_region_held_drew (S := fun W => PEGc w q A c A2 c2 p w6.heap.size Ab cb y b6 w9.heap.size L y.length W) (by kernel_rfl) ((HPE.out.below (Below.refl _ _).drew).all cb) (fun hHeld => ?_)
    (refine heldTake (i := 0) (oi := { dst := some 48, op := Op.move (Operand.tmp 4), type := 26, pos := "law.go:38", after := #[], guard := none }) (v := ?_) rfl (by kernel_rfl) (by kernel_rfl) (by kernel_rfl) (by assumption) ?_ ?_; rotate_left; focus (refine .inl ⟨by kernel_rfl, ?_⟩; intro w hSw; (try dsimp only at hSw); go_simp; (try with_reducible rfl)); (try simp only [Act.put, List.setIfInBounds_toArray, List.set_cons_zero, List.set_cons_succ]))
    (refine heldTake (i := 1) (oi := { dst := some 49, op := Op.convert 26 9 (Operand.tmp 48), type := 9, pos := "law.go:38", after := #[{ on := 0, ground := Ground.data }], guard := none }) (v := ?_) rfl (by kernel_rfl) (by kernel_rfl) (by kernel_rfl) (by assumption) ?_ ?_; rotate_left; focus (refine .inl ⟨by kernel_rfl, ?_⟩; intro w hSw; (try dsimp only at hSw); go_simp; (try with_reducible rfl)); (try simp only [Act.put, List.setIfInBounds_toArray, List.set_cons_zero, List.set_cons_succ]))
    (refine heldTake (i := 2) (oi := { dst := some 50, op := Op.load 82 (Operand.tmp 1), type := 82, pos := "law.go:38", after := #[], guard := none }) (v := ?_) rfl (by kernel_rfl) (by kernel_rfl) (by kernel_rfl) (by assumption) ?_ ?_; rotate_left; focus (refine .inl ⟨by kernel_rfl, ?_⟩; intro w hSw; (try dsimp only at hSw); go_simp; (try with_reducible rfl)); (try simp only [Act.put, List.setIfInBounds_toArray, List.set_cons_zero, List.set_cons_succ]))
    refine wpAnyH_ready (rs := [3]) (by kernel_rfl) (by simp) ?_
    refine AllReadyH.cons (o := { dst := some 51, op := Op.call { callee := Callee.value (Operand.func 48), args := #[Operand.tmp 50], argTypes := #[82] }, type := 9, pos := "law.go:38", after := #[{ on := 2, ground := Ground.data }], guard := none }) rfl (fun K hK => ?_) AllReadyH.nil
    go_simp
    (go_at_call 48; (with_reducible refine (HRP.out _).mono ?_); rintro e w10 ⟨rfl, hb⟩; have hk10 := (PEG.below (And.left hHeld) hb).all cb; clear hb)
    refine hK.out _ _ hk10 (fun hHeld3 => ?_)
    clear hK K hHeld
    (try simp only [Act.put, List.setIfInBounds_toArray, List.set_cons_zero, List.set_cons_succ])
    (refine heldTake (i := 4) (oi := { dst := some 52, op := Op.binOp BinOp.eql 9 (Operand.tmp 49) (Operand.tmp 51) 9, type := 4, pos := "law.go:38", after := #[{ on := 1, ground := Ground.data }, { on := 3, ground := Ground.data }], guard := none }) (v := ?_) rfl (by kernel_rfl) (by kernel_rfl) (by kernel_rfl) (by assumption) ?_ ?_; rotate_left; focus (refine .inl ⟨by kernel_rfl, ?_⟩; intro w hSw; (try dsimp only at hSw); go_simp; (try with_reducible rfl)); (try simp only [Act.put, List.setIfInBounds_toArray, List.set_cons_zero, List.set_cons_succ]))
    (refine heldTake (i := 5) (oi := { dst := some 53, op := Op.move (Operand.tmp 52), type := 4, pos := "law.go:38", after := #[{ on := 4, ground := Ground.data }, { on := 3, ground := Ground.chain }], guard := none }) (v := ?_) rfl (by kernel_rfl) (by kernel_rfl) (by kernel_rfl) (by assumption) ?_ ?_; rotate_left; focus (refine .inl ⟨by kernel_rfl, ?_⟩; intro w hSw; (try dsimp only at hSw); go_simp; (try with_reducible rfl)); (try simp only [Act.put, List.setIfInBounds_toArray, List.set_cons_zero, List.set_cons_succ]))
    (refine heldTake (i := 6) (oi := { dst := some 54, op := Op.fieldAddr 35 (Operand.tmp 8) 0, type := 0, pos := "law.go:38", after := #[{ on := 5, ground := Ground.guard }], guard := some (5, true) }) (v := ?_) rfl (by kernel_rfl) (by kernel_rfl) (by kernel_rfl) (by assumption) ?_ ?_; rotate_left; focus (refine .inl ⟨by kernel_rfl, ?_⟩; intro w hSw; (try dsimp only at hSw); go_simp; (try with_reducible rfl)); (try simp only [Act.put, List.setIfInBounds_toArray, List.set_cons_zero, List.set_cons_succ]))
    (refine heldTake (i := 7) (oi := { dst := some 55, op := Op.load 29 (Operand.tmp 54), type := 29, pos := "law.go:38", after := #[{ on := 6, ground := Ground.data }, { on := 5, ground := Ground.guard }], guard := some (5, true) }) (v := ?_) rfl (by kernel_rfl) (by kernel_rfl) (by kernel_rfl) (by assumption) ?_ ?_; rotate_left; focus (refine .inl ⟨by kernel_rfl, ?_⟩; intro w hSw; (try dsimp only at hSw); go_simp; (try with_reducible rfl)); (try simp only [Act.put, List.setIfInBounds_toArray, List.set_cons_zero, List.set_cons_succ]))
    (refine heldTake (i := 8) (oi := { dst := some 56, op := Op.binOp BinOp.eql 29 (Operand.tmp 55) (Operand.const (Value.int IntKind.i64 0)) 29, type := 4, pos := "law.go:38", after := #[{ on := 7, ground := Ground.data }, { on := 5, ground := Ground.guard }], guard := some (5, true) }) (v := ?_) rfl (by kernel_rfl) (by kernel_rfl) (by kernel_rfl) (by assumption) ?_ ?_; rotate_left; focus (refine .inl ⟨by kernel_rfl, ?_⟩; intro w hSw; (try dsimp only at hSw); go_simp; (try with_reducible rfl)); (try simp only [Act.put, List.setIfInBounds_toArray, List.set_cons_zero, List.set_cons_succ]))
    (refine heldTake (i := 9) (oi := { dst := some 57, op := Op.pick (Operand.tmp 53) (Operand.tmp 56) (Operand.const (Value.bool false)), type := 4, pos := "law.go:38", after := #[{ on := 5, ground := Ground.data }, { on := 8, ground := Ground.data }], guard := none }) (v := ?_) rfl (by kernel_rfl) (by kernel_rfl) (by kernel_rfl) (by assumption) ?_ ?_; rotate_left; focus (refine .inl ⟨by kernel_rfl, ?_⟩; intro w hSw; (try dsimp only at hSw); go_simp; (try with_reducible rfl)); (try simp only [Act.put, List.setIfInBounds_toArray, List.set_cons_zero, List.set_cons_succ]))
    (refine heldTake (i := 10) (oi := { dst := some 58, op := Op.move (Operand.tmp 57), type := 4, pos := "law.go:38", after := #[{ on := 9, ground := Ground.data }, { on := 5, ground := Ground.chain }], guard := none }) (v := ?_) rfl (by kernel_rfl) (by kernel_rfl) (by kernel_rfl) (by assumption) ?_ ?_; rotate_left; focus (refine .inl ⟨by kernel_rfl, ?_⟩; intro w hSw; (try dsimp only at hSw); go_simp; (try with_reducible rfl)); (try simp only [Act.put, List.setIfInBounds_toArray, List.set_cons_zero, List.set_cons_succ]))
    (refine heldTake (i := 11) (oi := { dst := some 59, op := Op.load 82 (Operand.tmp 7), type := 82, pos := "law.go:38", after := #[{ on := 10, ground := Ground.guard }], guard := some (10, true) }) (v := ?_) rfl (by kernel_rfl) (by kernel_rfl) (by kernel_rfl) (by assumption) ?_ ?_; rotate_left; focus (refine .inl ⟨by kernel_rfl, ?_⟩; intro w hSw; (try dsimp only at hSw); go_simp; (try with_reducible rfl)); (try simp only [Act.put, List.setIfInBounds_toArray, List.set_cons_zero, List.set_cons_succ]))
    (refine heldTake (i := 12) (oi := { dst := some 60, op := Op.load 82 (Operand.tmp 1), type := 82, pos := "law.go:38", after := #[{ on := 10, ground := Ground.guard }], guard := some (10, true) }) (v := ?_) rfl (by kernel_rfl) (by kernel_rfl) (by kernel_rfl) (by assumption) ?_ ?_; rotate_left; focus (refine .inl ⟨by kernel_rfl, ?_⟩; intro w hSw; (try dsimp only at hSw); go_simp; (try with_reducible rfl)); (try simp only [Act.put, List.setIfInBounds_toArray, List.set_cons_zero, List.set_cons_succ]))
    refine wpAnyH_ready (rs := [13]) (by kernel_rfl) (by simp) ?_
    refine AllReadyH.cons (o := { dst := some 61, op := Op.call { callee := Callee.value (Operand.func 49), args := #[Operand.tmp 59, Operand.tmp 60], argTypes := #[82, 82] }, type := 4, pos := "law.go:38", after := #[{ on := 11, ground := Ground.data }, { on := 12, ground := Ground.data }, { on := 10, ground := Ground.chain }, { on := 10, ground := Ground.guard }], guard := some (10, true) }) rfl (fun K hK => ?_) AllReadyH.nil
    go_simp
    (go_at_call 49; (with_reducible refine (HSm.out _ _ _).mono ?_); rintro e w11 ⟨rfl, hb⟩; have hk11 := (PEG.below (And.left hHeld3) hb).all cb; clear hb)
    refine hK.out _ _ hk11 (fun hHeld13 => ?_)
    clear hK K hHeld3
    (try simp only [Act.put, List.setIfInBounds_toArray, List.set_cons_zero, List.set_cons_succ])
    (refine heldTake (i := 14) (oi := { dst := some 62, op := Op.pick (Operand.tmp 58) (Operand.tmp 61) (Operand.const (Value.bool false)), type := 4, pos := "law.go:38", after := #[{ on := 10, ground := Ground.data }, { on := 13, ground := Ground.data }], guard := none }) (v := ?_) rfl (by kernel_rfl) (by kernel_rfl) (by kernel_rfl) (by assumption) ?_ ?_; rotate_left; focus (refine .inl ⟨by kernel_rfl, ?_⟩; intro w hSw; (try dsimp only at hSw); go_simp; (try with_reducible rfl)); (try simp only [Act.put, List.setIfInBounds_toArray, List.set_cons_zero, List.set_cons_succ]))
    (refine heldTake (i := 15) (oi := { dst := some 63, op := Op.move (Operand.tmp 62), type := 4, pos := "law.go:38", after := #[{ on := 14, ground := Ground.data }, { on := 13, ground := Ground.chain }], guard := none }) (v := ?_) rfl (by kernel_rfl) (by kernel_rfl) (by kernel_rfl) (by assumption) ?_ ?_; rotate_left; focus (refine .inl ⟨by kernel_rfl, ?_⟩; intro w hSw; (try dsimp only at hSw); go_simp; (try with_reducible rfl)); (try simp only [Act.put, List.setIfInBounds_toArray, List.set_cons_zero, List.set_cons_succ]))
    (refine heldTake (i := 16) (oi := { dst := some 64, op := Op.load 51 (Operand.tmp 6), type := 51, pos := "law.go:38", after := #[{ on := 15, ground := Ground.guard }], guard := some (15, true) }) (v := ?_) rfl (by kernel_rfl) (by kernel_rfl) (by kernel_rfl) (by assumption) ?_ ?_; rotate_left; focus (refine .inl ⟨by kernel_rfl, ?_⟩; intro w hSw; (try dsimp only at hSw); go_simp; (try with_reducible rfl)); (try simp only [Act.put, List.setIfInBounds_toArray, List.set_cons_zero, List.set_cons_succ]))
    refine wpAnyH_ready (rs := [17]) (by kernel_rfl) (by simp) ?_
    refine AllReadyH.cons (o := { dst := some 65, op := Op.call { callee := Callee.value (Operand.func 50), args := #[Operand.tmp 64], argTypes := #[51] }, type := 3, pos := "law.go:38", after := #[{ on := 16, ground := Ground.data }, { on := 15, ground := Ground.chain }, { on := 15, ground := Ground.guard }], guard := some (15, true) }) rfl (fun K hK => ?_) AllReadyH.nil
    go_simp
    (go_at_call 50; (with_reducible refine (HLf.out _ p (And.left hHeld13).sc).mono ?_); rintro e w12 ⟨rfl, m, rfl⟩; have hk12 := (PEG.below (And.left hHeld13) (below_drewN (Below.refl _ _) m)).all cb)
    refine hK.out _ _ hk12 (fun hHeld17 => ?_)
    clear hK K hHeld13
    (try simp only [Act.put, List.setIfInBounds_toArray, List.set_cons_zero, List.set_cons_succ])
    (refine heldTake (i := 18) (oi := { dst := some 66, op := Op.binOp BinOp.eql 3 (Operand.tmp 65) (Operand.const (Value.int IntKind.i64 1)) 3, type := 4, pos := "law.go:38", after := #[{ on := 17, ground := Ground.data }, { on := 15, ground := Ground.guard }], guard := some (15, true) }) (v := ?_) rfl (by kernel_rfl) (by kernel_rfl) (by kernel_rfl) (by assumption) ?_ ?_; rotate_left; focus (refine .inl ⟨by kernel_rfl, ?_⟩; intro w hSw; (try dsimp only at hSw); go_simp; (try with_reducible rfl)); (try simp only [Act.put, List.setIfInBounds_toArray, List.set_cons_zero, List.set_cons_succ]))
    (refine heldTake (i := 19) (oi := { dst := some 67, op := Op.pick (Operand.tmp 63) (Operand.tmp 66) (Operand.const (Value.bool false)), type := 4, pos := "law.go:38", after := #[{ on := 15, ground := Ground.data }, { on := 18, ground := Ground.data }], guard := none }) (v := ?_) rfl (by kernel_rfl) (by kernel_rfl) (by kernel_rfl) (by assumption) ?_ ?_; rotate_left; focus (refine .inl ⟨by kernel_rfl, ?_⟩; intro w hSw; (try dsimp only at hSw); go_simp; (try with_reducible rfl)); (try simp only [Act.put, List.setIfInBounds_toArray, List.set_cons_zero, List.set_cons_succ]))
    (refine heldTake (i := 20) (oi := { dst := some 2, op := Op.assign (Operand.tmp 67), type := 4, pos := "law.go:38", after := #[{ on := 19, ground := Ground.data }, { on := 17, ground := Ground.chain }, { on := 0, ground := Ground.phase }, { on := 1, ground := Ground.phase }, { on := 2, ground := Ground.phase }, { on := 3, ground := Ground.phase }, { on := 4, ground := Ground.phase }, { on := 5, ground := Ground.phase }, { on := 6, ground := Ground.phase }, { on := 7, ground := Ground.phase }, { on := 8, ground := Ground.phase }, { on := 9, ground := Ground.phase }, { on := 10, ground := Ground.phase }, { on := 11, ground := Ground.phase }, { on := 12, ground := Ground.phase }, { on := 13, ground := Ground.phase }, { on := 14, ground := Ground.phase }, { on := 15, ground := Ground.phase }, { on := 16, ground := Ground.phase }, { on := 17, ground := Ground.phase }, { on := 18, ground := Ground.phase }, { on := 19, ground := Ground.phase }], guard := none }) (v := ?_) rfl (by kernel_rfl) (by kernel_rfl) (by kernel_rfl) (by assumption) ?_ ?_; rotate_left; focus (refine .inl ⟨by kernel_rfl, ?_⟩; intro w hSw; (try dsimp only at hSw); go_simp; (try with_reducible rfl)); (try simp only [Act.put, List.setIfInBounds_toArray, List.set_cons_zero, List.set_cons_succ]))
    refine wpAnyH_done (by kernel_rfl) ?_ _
    refine NoPanic.normal ?_
    have hLast := hHeld17
    clear hHeld17
    go_wp2
    go_ret
    exact ⟨rfl, (And.left hLast).a.bel⟩
  · rw [if_neg hz] at HPU
    have dz : (rG x != 0) = true := zb_of (by simpa using hz)
    generalize rG x = z at *
    clear hz g2 oi ni
    go_enter Tryd.func8, Tryd.ntmps8
    go_wp2_with (first
      | (go_at_call 41; go_must ((with_reducible refine HAW.out.mono ?_); rintro e w1 ⟨rfl, hb⟩; have H1 := Lib.hid (H0.out.on hb); obtain ⟨c0, c1, c2, c3, c4, c5⟩ := H1.out.bx.1.1.gl; clear hb))
      | (go_at_call 42; go_must ((with_reducible refine (HRR.out _).mono ?_); rintro e w2 ⟨rfl, hb⟩; clear c0 c1 c2 c3 c4 c5; have H2 := Lib.hid (H1.out.on hb); obtain ⟨c0, c1, c2, c3, c4, c5⟩ := H2.out.bx.1.1.gl; clear hb))
      | (go_at_call 43; go_must ((with_reducible refine (HPU.out _ H2.out.tb).mono ?_); intro e w3 hq; obtain ⟨v, rfl, hr, hb⟩ := hq; obtain ⟨Ab, cb, rfl, _⟩ := hr.pc; clear c0 c1 c2 c3 c4 c5; have H3 := Lib.hid (H2.out.on hb); obtain ⟨c0, c1, c2, c3, c4, c5⟩ := H3.out.bx.1.1.gl; clear hb hr))
      | (go_at_call 44; go_must ((with_reducible refine (HIR.out _ H3.out.tb).mono ?_); rintro e w4 ⟨rfl, hb⟩; clear c0 c1 c2 c3 c4 c5; have H4 := Lib.hid (H3.out.on hb); clear hb)))
    go_ret
    exact ⟨rfl, bxG_bel H4.out.bx⟩
end Go.Proofs.YtebgmfjgapmpfaaDoor

/- Numbers of eight and of thirty-two bits, opened. -/
namespace Go.Proofs.YtebgmfjgapmpfaaDoor
set_option linter.unusedVariables false

theorem u8_ex {x : Int} (h : Lit.wf (.int .u8 x) = true) : ∃ a : UInt8, x = a.toNat := by
  have b : 0 ≤ x ∧ x ≤ 255 := by simpa [Lit.wf, IntKind.min, IntKind.max, IntKind.signed, IntKind.bits] using h
  exact ⟨UInt8.ofNat x.toNat, by rw [UInt8.toNat_ofNat']; omega⟩
theorem u32_ex {x : Int} (h : Lit.wf (.int .u32 x) = true) : ∃ a : UInt32, x = a.toNat := by
  have b : 0 ≤ x ∧ x ≤ 4294967295 := by simpa [Lit.wf, IntKind.min, IntKind.max, IntKind.signed, IntKind.bits] using h
  exact ⟨UInt32.ofNat x.toNat, by rw [UInt32.toNat_ofNat']; omega⟩
end Go.Proofs.YtebgmfjgapmpfaaDoor

/- A global by value and a slice of globals, opened. -/
namespace Go.Proofs.YtebgmfjgapmpfaaDoor
open Go.ChangeShapes Go.WideShapes Go.ChangeAt Go.RowKit Go.Joins Go.Deep
set_option linter.unusedVariables false
set_option maxRecDepth 100000

theorem cellsGl : Tryd.prog.cellsOf 82 = 6 := by kernel_rfl
/-- Its numbers are what their kinds hold. -/
def OkS (x : SlotG) : Prop := x.1.i.Ok ∧ (x.1.i.l.length : Int) ≤ 9223372036854775807
section
variable {H : Type} {enc : TypeId × Value → H} {W : World} {sp : Nat → Bool}
theorem open_gty {n : Nat} {c0 c1 : Value} {y : DataW H × List MemPlace} (h : DataW.trod enc Tryd.prog W 0 sp true n 68 [c0, c1] = some y) :
    ∃ (a : UInt8) (q : Bool), c0 = .int .u8 a.toNat ∧ c1 = .bool q := by
  obtain ⟨ys, m, _, hy, hlen, hyl, hf⟩ := DataW.trod_struct Tryd.underlying68 h
  match ys, hyl with
  | [y0, y1], _ =>
    have e1 : Tryd.prog.cellsOf 5 = 1 := by kernel_rfl
    have e2 : Tryd.prog.cellsOf 4 = 1 := by kernel_rfl
    have h0 : DataW.trod enc Tryd.prog W 0 sp true m 5 (([c0, c1].drop 0).take (Tryd.prog.cellsOf 5)) = some y0 := hf 0 _ rfl
    have h1 : DataW.trod enc Tryd.prog W 0 sp true m 4 (([c0, c1].drop 1).take (Tryd.prog.cellsOf 4)) = some y1 := hf 1 _ rfl
    rw [e1] at h0
    rw [e2] at h1
    obtain ⟨x0, q0, _, w0⟩ := DataW.trod_int Tryd.underlying5 h0
    obtain ⟨x1, q1, _⟩ := DataW.trod_bool Tryd.underlying4 h1
    obtain ⟨a, rfl⟩ := u8_ex w0
    exact ⟨a, x1, by simpa using q0, by simpa using q1⟩
/-- The four cells of an instruction. -/
theorem open_el {n : Nat} {c0 c1 c2 c3 : Value} {x : DataW H × List MemPlace} (h : DataW.trod enc Tryd.prog W 0 sp true n 25 [c0, c1, c2, c3] = some x) :
    ∃ (i : I) (B : Option Addr) (c : Nat), c0 = .int .u8 i.op.toNat ∧ c1 = .int .u64 i.a ∧ c2 = .int .u64 i.b ∧ c3 = .slice B i.l.length c ∧ i.Ok ∧ (i.l.length : Int) ≤ 9223372036854775807 := by
  obtain ⟨ys, m, _, hy, hlen, hyl, hf⟩ := DataW.trod_struct Tryd.underlying25 h
  match ys, hyl with
  | [y0, y1, y2, y3], _ =>
    have e1 : Tryd.prog.cellsOf 5 = 1 := by kernel_rfl
    have e2 : Tryd.prog.cellsOf 22 = 1 := by kernel_rfl
    have e3 : Tryd.prog.cellsOf 23 = 1 := by kernel_rfl
    have h0 : DataW.trod enc Tryd.prog W 0 sp true m 5 (([c0, c1, c2, c3].drop 0).take (Tryd.prog.cellsOf 5)) = some y0 := hf 0 _ rfl
    have h1 : DataW.trod enc Tryd.prog W 0 sp true m 22 (([c0, c1, c2, c3].drop 1).take (Tryd.prog.cellsOf 22)) = some y1 := hf 1 _ rfl
    have h2 : DataW.trod enc Tryd.prog W 0 sp true m 22 (([c0, c1, c2, c3].drop 2).take (Tryd.prog.cellsOf 22)) = some y2 := hf 2 _ rfl
    have h3 : DataW.trod enc Tryd.prog W 0 sp true m 23 (([c0, c1, c2, c3].drop 3).take (Tryd.prog.cellsOf 23)) = some y3 := hf 3 _ rfl
    rw [e1] at h0
    rw [e2] at h1 h2
    rw [e3] at h3
    obtain ⟨i, B, c, rfl, rfl, rfl, rfl, ho, _, hn⟩ := open_parts h0 h1 h2 h3
    exact ⟨i, B, c, rfl, rfl, rfl, rfl, ho, hn⟩
/-- Six cells of a global. -/
theorem open_six {n : Nat} {cs : List Value} {x : DataW H × List MemPlace} (h : DataW.trod enc Tryd.prog W 0 sp true n 82 cs = some x) (hc : cs.length = 6) : ∃ s : SlotG, cs = sL s ∧ OkS s := by
  obtain ⟨ys, m, _, hy, hlen, hyl, hf⟩ := DataW.trod_struct Tryd.underlying82 h
  match cs, hc with
  | [c0, c1, c2, c3, c4, c5], _ =>
    match ys, hyl with
    | [y0, y1], _ =>
      have e1 : Tryd.prog.cellsOf 68 = 2 := by kernel_rfl
      have e2 : Tryd.prog.cellsOf 25 = 4 := by kernel_rfl
      have h0 : DataW.trod enc Tryd.prog W 0 sp true m 68 (([c0, c1, c2, c3, c4, c5].drop 0).take (Tryd.prog.cellsOf 68)) = some y0 := hf 0 _ rfl
      have h1 : DataW.trod enc Tryd.prog W 0 sp true m 25 (([c0, c1, c2, c3, c4, c5].drop 2).take (Tryd.prog.cellsOf 25)) = some y1 := hf 1 _ rfl
      rw [e1] at h0
      rw [e2] at h1
      obtain ⟨t, g, r0, r1⟩ := open_gty h0
      obtain ⟨i, B, c, r2, r3, r4, r5, ho, hn⟩ := open_el h1
      exact ⟨(⟨t, g, i⟩, B, c), by unfold sL sC glC; rw [r0, r1, r2, r3, r4, r5], ho, hn⟩
theorem open_gl {b0 : Nat} {r : Reach} {v : Value} {d : DataW H} {p : List MemPlace} (hv : Value.okWide Tryd.prog W r b0 82 v) (h : DataW.Trod enc Tryd.prog W 0 sp true 82 v d p) :
    ∃ x : SlotG, v = sV x ∧ x.1.i.Ok ∧ (x.1.i.l.length : Int) ≤ 9223372036854775807 := by
  obtain ⟨cs, rfl, hsz⟩ := okWide_struct Tryd.underlying82 hv
  rw [cellsGl] at hsz
  obtain ⟨fuel, hf⟩ := h
  obtain ⟨i, hi, h1, h2⟩ := open_six (cs := cs.toList) (by simpa [Value.cells] using hf) (by simpa using hsz)
  exact ⟨i, by show Value.agg cs = .agg (sC i); congr 1; apply Array.toList_inj.1; exact hi, h1, h2⟩
end
end Go.Proofs.YtebgmfjgapmpfaaDoor

/- A small number's bytes. -/
namespace Go.Proofs.YtebgmfjgapmpfaaDoor
set_option linter.unusedVariables false

theorem lebL_sm (x : Int) (h0 : 0 ≤ x) (h1 : x < 128) : lebL x = [UInt8.ofNat x.toNat] := by
  have hn : lebN x = 1 := (lebN_least x (by omega)).unique ⟨Nat.le_refl _, by unfold fitU; simpa using h1, fun m a b => by omega⟩
  unfold lebL
  rw [hn]
  simp [grp]
  congr 2
  omega
end Go.Proofs.YtebgmfjgapmpfaaDoor

/- Element segments as plain data; elems.Right; creelref13.Count, Right. -/
namespace Go.Proofs.YtebgmfjgapmpfaaDoor
open Go.RowKit
set_option linter.unusedVariables false
set_option maxRecDepth 100000

/-- An element segment: its offset, its functions. -/
structure El where
  i : I
  fs : List Int
/-- Its cells, its labels at A, its functions at F. -/
abbrev elC (x : El) (A : Option Addr) (c : Nat) (F : Option Addr) (f : Nat) : Array Value := #[.int .u8 x.i.op.toNat, .int .u64 x.i.a, .int .u64 x.i.b, .slice A x.i.l.length c, .slice F x.fs.length f]
abbrev elV (x : El) (A : Option Addr) (c : Nat) (F : Option Addr) (f : Nat) : Value := .agg (elC x A c F f)
/-- The zero value's cells. -/
abbrev elZ : Array Value := #[.int .u8 0, .int .u64 0, .int .u64 0, .slice none 0 0, .slice none 0 0]
abbrev FiveE (W : World) (b : Nat) (x : El) (A : Option Addr) (c : Nat) (F : Option Addr) (f : Nat) : Prop :=
  W.cell? ⟨b, 0, none⟩ = some (.int .u8 x.i.op.toNat) ∧ W.cell? ⟨b, 1, none⟩ = some (.int .u64 x.i.a) ∧ W.cell? ⟨b, 2, none⟩ = some (.int .u64 x.i.b) ∧ W.cell? ⟨b, 3, none⟩ = some (.slice A x.i.l.length c) ∧ W.cell? ⟨b, 4, none⟩ = some (.slice F x.fs.length f)
theorem Whole.el {w : World} {b : Nat} {t : TypeId} {x : El} {A : Option Addr} {c : Nat} {F : Option Addr} {f : Nat} (h : Whole w b t (elC x A c F f)) : FiveE w b x A c F f := ⟨h.cell 0, h.cell 1, h.cell 2, h.cell 3, h.cell 4⟩
theorem put5 {w : World} {b : Nat} {t : TypeId} {x0 x1 x2 x3 x4 u0 u1 u2 u3 u4 : Value} (hb : Whole w b t #[x0, x1, x2, x3, x4]) :
    Whole (((((w.setCell ⟨b, 0, none⟩ u0).setCell ⟨b, 1, none⟩ u1).setCell ⟨b, 2, none⟩ u2).setCell ⟨b, 3, none⟩ u3).setCell ⟨b, 4, none⟩ u4) b t #[u0, u1, u2, u3, u4] ∧
    w.grownBy (((((w.setCell ⟨b, 0, none⟩ u0).setCell ⟨b, 1, none⟩ u1).setCell ⟨b, 2, none⟩ u2).setCell ⟨b, 3, none⟩ u3).setCell ⟨b, 4, none⟩ u4) (some b) :=
  ⟨(((((hb.put 0 u0).put 1 u1).put 2 u2).put 3 u3).put 4 u4),
   gb_put (p := ⟨b, 4, none⟩) (gb_put (p := ⟨b, 3, none⟩) (gb_put (p := ⟨b, 2, none⟩) (gb_put (p := ⟨b, 1, none⟩) (gb_put (p := ⟨b, 0, none⟩) (gb_refl w _) (.inl rfl) u0) (.inl rfl) u1) (.inl rfl) u2) (.inl rfl) u3) (.inl rfl) u4⟩
/-- A block that holds a segment, in a world grown from B: what is held of it. -/
abbrev BxEl (B : World) (b : Nat) (x : El) (A : Option Addr) (c : Nat) (F : Option Addr) (f : Nat) (W : World) : Prop := (Whole W b 94 (elC x A c F f) ∧ Below B.heap.size B W) ∧ FiveE W b x A c F f
section
variable {B W W' : World} {b : Nat} {x : El} {A : Option Addr} {c : Nat} {F : Option Addr} {f : Nat}
theorem bxEl_on (h : BxEl B b x A c F f W) (hb : Below W.heap.size W W') : BxEl B b x A c F f W' := ⟨⟨h.1.1.below hb, h.1.2.trans (hb.mono h.1.2.size)⟩, (h.1.1.below hb).el⟩
theorem bxEl_start (w : World) (x : El) (A : Option Addr) (c : Nat) (F : Option Addr) (f : Nat) : BxEl w w.heap.size x A c F f (w.alloc (.cells (elC x A c F f) 94)) := ⟨⟨Whole.made _ _ _, below_box _ _⟩, (Whole.made w 94 (elC x A c F f)).el⟩
theorem bxEl_bel (h : BxEl B b x A c F f W) : Below B.heap.size B W := h.1.2
end
set_option maxHeartbeats 2000000 in
theorem elright_any (x : El) (A : Option Addr) (c : Nat) (F : Option Addr) (f : Nat) (w : World) (oi : x.i.Ok) (hT : Tabs w) (hl : (x.i.l.length : Int) ≤ 9223372036854775807) (hf : x.fs.length ≤ 10000) :
    Calls Tryd.prog 54 #[elV x A c F f] w fun e w' => e = .returned (.int .i64 (crightZ x.i)) ∧ Below w.heap.size w w' := by
  have H0 := Lib.hid (bxEl_start w x A c F f)
  have HC := Lib.hid (cright_any x.i A c (w.alloc (.cells (elC x A c F f) 94)) oi (hT.below (below_box w _)) hl)
  have d1 : decide ((10000 : Int) < (x.fs.length : Int)) = false := decide_eq_false (by omega)
  clear hT oi hl hf
  go_enter Tryd.func54, Tryd.ntmps54
  go_wp2_with (go_at_call 27; go_must ((with_reducible refine HC.out.mono ?_); rintro e w1 ⟨rfl, hb⟩; have H1 := Lib.hid (bxEl_on H0.out hb); clear hb))
  go_ret
  exact ⟨rfl, bxEl_bel H1.out⟩
set_option maxHeartbeats 2000000 in
theorem relright_any (x : El) (A : Option Addr) (c : Nat) (F : Option Addr) (f : Nat) (w : World) (oi : x.i.Ok) (hl : (x.i.l.length : Int) ≤ 9223372036854775807) :
    Calls Tryd.prog 52 #[elV x A c F f] w fun e w' => e = .returned (.int .i64 (crightZ x.i)) ∧ Below w.heap.size w w' := by
  have H0 := Lib.hid (bxEl_start w x A c F f)
  have HC := Lib.hid (rcright_any x.i A c (w.alloc (.cells (elC x A c F f) 94)) oi hl)
  clear oi hl
  go_enter Tryd.func52, Tryd.ntmps52
  go_wp2_with (go_at_call 24; go_must ((with_reducible refine HC.out.mono ?_); rintro e w1 ⟨rfl, hb⟩; have H1 := Lib.hid (bxEl_on H0.out hb); clear hb))
  go_ret
  exact ⟨rfl, bxEl_bel H1.out⟩
end Go.Proofs.YtebgmfjgapmpfaaDoor

/- segment.GetHead, elems.Get of any bytes. -/
namespace Go.Proofs.YtebgmfjgapmpfaaDoor
open Go.RowKit
set_option linter.unusedVariables false
set_option maxRecDepth 100000

/-- A segment's beginning; an element segment. -/
noncomputable def headR (l : List UInt8) (k : Nat) : Res I := (noughtR l k).bind fun _ k1 => readR l k1
noncomputable def elR (l : List UInt8) (k : Nat) : Res El := (headR l k).bind fun i k1 => (labelsR l k1).bind fun fs k2 => .ok ⟨i, fs⟩ k2
set_option maxHeartbeats 4000000 in
theorem gethead_any {w : World} {p : Nat} {l : List UInt8} {k : Nat} (h : Sc w p l k) (hT : TbP p w) :
    Calls Tryd.prog 95 #[.pointer (some ⟨p, 0, none⟩)] w (GetsR p l (headR l k) w) := by
  have hp := h.lt
  have hN := getNought_any (h.alloc (.cells #[.int .u8 0, .int .u64 0, .int .u64 0, .slice none 0 0] 25))
  have HT0 := Lib.hid (hT.below (below_box w (.cells #[.int .u8 0, .int .u64 0, .int .u64 0, .slice none 0 0] 25)) (Nat.le_of_lt hp))
  have HWM := Lib.hid (Whole.made w 25 #[.int .u8 0, .int .u64 0, .int .u64 0, .slice none 0 0])
  unfold headR
  cases h1 : noughtR l k with
  | err ec ea =>
    rw [h1] at hN
    rw [Res.bind_err]
    show Calls _ _ _ _ (fun e w' => e = .panicked (stopP ec ea) ∧ w.grownBy w' (some p))
    have HN := Lib.hid hN
    clear hN h1 h hT
    go_enter Tryd.func95, Tryd.ntmps95
    go_wp2_with (go_at_call 115; go_must ((with_reducible refine HN.out.mono ?_); rintro e w1 ⟨rfl, hg⟩; have HG1 := Lib.hid hg; clear hg))
    exact ⟨rfl, rfl, gb_trans (gb_alloc (gb_refl w _) _) HG1.out⟩
  | ok u k1 =>
    rw [h1] at hN
    rw [Res.bind_ok]
    have HN := Lib.hid hN
    clear hN h1 h hT
    have hC := fun W (hs : Sc W p l k1) (ht : TbP p W) => cread_any hs ht
    cases h2 : readR l k1 with
    | err ec ea =>
      rw [h2] at hC
      show Calls _ _ _ _ (fun e w' => e = .panicked (stopP ec ea) ∧ w.grownBy w' (some p))
      have HC := Lib.hid (fun W (hs : Sc W p l k1) (ht : TbP p W) => show Calls Tryd.prog 32 #[.pointer (some ⟨p, 0, none⟩)] W (fun e w' => e = .panicked (stopP ec ea) ∧ W.grownBy w' (some p)) from hC W hs ht)
      clear hC h2
      go_enter Tryd.func95, Tryd.ntmps95
      go_wp2_with (first
        | (go_at_call 115; go_must ((with_reducible refine HN.out.mono ?_); rintro e w1 ⟨rfl, hs, hg⟩; have HS1 := Lib.hid hs; have HG1 := Lib.hid hg; clear hs hg))
        | (go_at_call 32; go_must ((with_reducible refine (HC.out _ HS1.out (HT0.out.self HG1.out)).mono ?_); rintro e w2 ⟨rfl, hg⟩; have HG2 := Lib.hid hg; clear hg)))
      exact ⟨rfl, rfl, gb_trans (gb_trans (gb_alloc (gb_refl w _) _) HG1.out) HG2.out⟩
    | ok i k2 =>
      rw [h2] at hC
      have HC := Lib.hid (fun W (hs : Sc W p l k1) (ht : TbP p W) => show Calls Tryd.prog 32 #[.pointer (some ⟨p, 0, none⟩)] W (Gets p l i k2 W) from hC W hs ht)
      clear hC h2
      go_enter Tryd.func95, Tryd.ntmps95
      go_wp2_with (first
        | (go_at_call 115; go_must ((with_reducible refine HN.out.mono ?_); rintro e w1 ⟨rfl, hs, hg⟩; have HS1 := Lib.hid hs; have HG1 := Lib.hid hg; have HW1 := Lib.hid (HWM.out.grown hg (by simp only [ne_eq, Option.some.injEq]; omega)); clear hs hg))
        | (go_at_call 32; go_must ((with_reducible refine (HC.out _ HS1.out (HT0.out.self HG1.out)).mono ?_); intro e w2 hq; obtain ⟨A, c, rfl, hla, hfar, hs, hg, hty⟩ := hq; have HS2 := Lib.hid hs; have HG2 := Lib.hid hg; have HTY := Lib.hid hty; have HF := Lib.hid hfar; have HW2 := Lib.hid (HW1.out.grown hg (by simp only [ne_eq, Option.some.injEq]; omega)); have z0 := HW2.out.cell 0; have z1 := HW2.out.cell 1; have z2 := HW2.out.cell 2; have z3 := HW2.out.cell 3; simp only [List.getElem?_toArray, List.getElem?_cons_zero, List.getElem?_cons_succ] at z0 z1 z2 z3; have f0 := HW2.out.frozen 0; have f1 := HW2.out.frozen 1; have f2 := HW2.out.frozen 2; have f3 := HW2.out.frozen 3; clear hla hfar hs hg hty)))
      obtain ⟨h1, h2⟩ := put4 (u0 := .int .u8 i.op.toNat) (u1 := .int .u64 i.a) (u2 := .int .u64 i.b) (u3 := .slice A i.l.length c) HW2.out
      have q0 := h1.cell 0
      have q1 := h1.cell 1
      have q2 := h1.cell 2
      have q3 := h1.cell 3
      simp only [List.getElem?_toArray, List.getElem?_cons_zero, List.getElem?_cons_succ] at q0 q1 q2 q3
      have hz1 := HG1.out.size
      rw [size_box] at hz1
      have hty := HTY.out.keep h2 (HTY.out.apart HW2.out (by decide))
      refine bodyPost_ret (v := insV i A c) (by simp [results, Tryd.results95, go_sem, q0, q1, q2, q3]) rfl ?_
      exact ⟨A, c, rfl, hty.lies, fun a ha => by have := HF.out a ha; omega, HS2.out.grown h2 (by simp only [ne_eq, Option.some.injEq]; omega) (fun g e => by injection e with e; omega), gb_before (gb_trans (gb_trans (gb_alloc (gb_refl w _) _) HG1.out) HG2.out) h2 (fun g e => .inr (by injection e with e; omega)), hty⟩
/-- What Get leaves behind. -/
def GotEl (p : Nat) (l : List UInt8) (r : Res El) (w : World) (e : Ending) (w' : World) : Prop := match r with
  | .ok x k => ∃ A c F f, e = .returned (elV x A c F f) ∧ Sc w' p l k ∧ w.grownBy w' (some p) ∧ LabT w' F x.fs ∧ ∀ a, F = some a → w.heap.size ≤ a.block
  | .err c a => e = .panicked (stopP c a) ∧ w.grownBy w' (some p)
/-- Get once the offset is read: the result's block, the offset's box; what the reader at q turns. -/
structure GBE (w : World) (q bt : Nat) (i : I) (A : Option Addr) (c : Nat) (W : World) : Prop where
  res : Whole W w.heap.size 94 elZ
  bx : Whole W bt 25 (insC i A c)
  gr : w.grownBy W (some q)
  hp : q < w.heap.size
  lt : w.heap.size < bt
section
variable {w W W' : World} {q bt : Nat} {i : I} {A : Option Addr} {c : Nat}
theorem GBE.call (h : GBE w q bt i A c W) (hg : W.grownBy W' (some q)) : GBE w q bt i A c W' := by
  have a := h.hp
  have b := h.lt
  exact ⟨h.res.grown hg (by simp only [ne_eq, Option.some.injEq]; omega), h.bx.grown hg (by simp only [ne_eq, Option.some.injEq]; omega), gb_trans h.gr hg, a, b⟩
theorem GBE.start {w w1 : World} (hp : q < w.heap.size) (hg : (w.alloc (.cells elZ 94)).grownBy w1 (some q)) : GBE w q w1.heap.size i A c (w1.alloc (.cells (insC i A c) 25)) := by
  have hz := hg.size
  rw [size_box] at hz
  exact ⟨((Whole.made w _ _).grown hg (by simp only [ne_eq, Option.some.injEq]; omega)).alloc _, Whole.made _ _ _, gb_alloc (gb_trans (gb_alloc (gb_refl w _) _) hg) _, hp, by omega⟩
theorem GBE.fin {x0 x1 x2 x3 x4 : Value} (h : GBE w q bt i A c W) :
    Whole (((((W.setCell ⟨w.heap.size, 0, none⟩ x0).setCell ⟨w.heap.size, 1, none⟩ x1).setCell ⟨w.heap.size, 2, none⟩ x2).setCell ⟨w.heap.size, 3, none⟩ x3).setCell ⟨w.heap.size, 4, none⟩ x4) w.heap.size 94 #[x0, x1, x2, x3, x4] ∧
    W.grownBy (((((W.setCell ⟨w.heap.size, 0, none⟩ x0).setCell ⟨w.heap.size, 1, none⟩ x1).setCell ⟨w.heap.size, 2, none⟩ x2).setCell ⟨w.heap.size, 3, none⟩ x3).setCell ⟨w.heap.size, 4, none⟩ x4) (some w.heap.size) ∧
    w.grownBy (((((W.setCell ⟨w.heap.size, 0, none⟩ x0).setCell ⟨w.heap.size, 1, none⟩ x1).setCell ⟨w.heap.size, 2, none⟩ x2).setCell ⟨w.heap.size, 3, none⟩ x3).setCell ⟨w.heap.size, 4, none⟩ x4) (some q) := by
  obtain ⟨h1, h2⟩ := put5 (u0 := x0) (u1 := x1) (u2 := x2) (u3 := x3) (u4 := x4) h.res
  have := h.hp
  exact ⟨h1, h2, gb_before h.gr h2 (fun g e => .inr (by injection e with e; omega))⟩
end
set_option maxHeartbeats 4000000 in
theorem get_el {w : World} {p : Nat} {l : List UInt8} {k : Nat} (h : Sc w p l k) (hT : TbP p w) :
    Calls Tryd.prog 57 #[.pointer (some ⟨p, 0, none⟩)] w (GotEl p l (elR l k) w) := by
  have hp := h.lt
  have hG := gethead_any (h.alloc (.cells elZ 94)) (hT.below (below_box w (.cells elZ 94)) (Nat.le_of_lt hp))
  unfold elR
  cases h1 : headR l k with
  | err ec ea =>
    rw [h1] at hG
    rw [Res.bind_err]
    show Calls _ _ _ _ (fun e w' => e = .panicked (stopP ec ea) ∧ w.grownBy w' (some p))
    have HG := Lib.hid hG
    clear hG h1 h hT
    go_enter Tryd.func57, Tryd.ntmps57
    go_wp2_with (go_at_call 95; go_must ((with_reducible refine HG.out.mono ?_); rintro e w1 ⟨rfl, hg⟩; have HG1 := Lib.hid hg; clear hg))
    exact ⟨rfl, rfl, gb_trans (gb_alloc (gb_refl w _) _) HG1.out⟩
  | ok i k1 =>
    rw [h1] at hG
    rw [Res.bind_ok]
    have HG := Lib.hid (show Calls Tryd.prog 95 #[.pointer (some ⟨p, 0, none⟩)] (w.alloc (.cells elZ 94)) (Gets p l i k1 (w.alloc (.cells elZ 94))) from hG)
    clear hG h1 h hT
    have hC := fun W (hs : Sc W p l k1) => getLabels_any hs
    cases h2 : labelsR l k1 with
    | err ec ea =>
      rw [h2] at hC
      rw [Res.bind_err]
      show Calls _ _ _ _ (fun e w' => e = .panicked (stopP ec ea) ∧ w.grownBy w' (some p))
      have HC := Lib.hid (fun W (hs : Sc W p l k1) => show Calls Tryd.prog 96 #[.pointer (some ⟨p, 0, none⟩)] W (fun e w' => e = .panicked (stopP ec ea) ∧ W.grownBy w' (some p)) from hC W hs)
      clear hC h2
      go_enter Tryd.func57, Tryd.ntmps57
      go_wp2_with (go_at_call 95; go_must ((with_reducible refine HG.out.mono ?_); intro e w1 hq; obtain ⟨A, c, rfl, _, _, hs, hg, _⟩ := hq; have HGB := Lib.hid (GBE.start (i := i) (A := A) (c := c) hp hg); have HS1 := Lib.hid (hs.alloc (.cells (insC i A c) 25)); clear hs hg))
      generalize w1.alloc (.cells (insC i A c) 25) = W at *
      generalize w1.heap.size = bt at *
      have x0 := HGB.out.bx.cell 0
      have x1 := HGB.out.bx.cell 1
      have x2 := HGB.out.bx.cell 2
      have x3 := HGB.out.bx.cell 3
      simp only [List.getElem?_toArray, List.getElem?_cons_zero, List.getElem?_cons_succ] at x0 x1 x2 x3
      have hsd : Sc W.drew p l k1 := HS1.out
      have HC2 := Lib.hid (HC.out _ hsd)
      refine wp_region_held_drew (S := fun W' => W'.cell? ⟨bt, 0, none⟩ = some (.int .u8 i.op.toNat) ∧ W'.cell? ⟨bt, 1, none⟩ = some (.int .u64 i.a) ∧ W'.cell? ⟨bt, 2, none⟩ = some (.int .u64 i.b) ∧ W'.cell? ⟨bt, 3, none⟩ = some (.slice A i.l.length c)) (by kernel_rfl) ⟨x0, x1, x2, x3⟩ (fun hHeld => ?_)
      (refine wpAnyH_take (i := 0) (oi := { dst := some 6, op := Op.load 25 (Operand.tmp 3), type := 25, pos := "elems.go:32", after := #[], guard := none }) (v := ?_) rfl (by kernel_rfl) (by kernel_rfl) (by kernel_rfl) (fun _ _ _ h => h) ?_ (by assumption) ?_; rotate_left; focus (refine .inl ⟨by kernel_rfl, ?_⟩; intro w hSw; (try dsimp only at hSw); go_simp; (try with_reducible rfl)); (try simp only [Act.put, List.setIfInBounds_toArray, List.set_cons_zero, List.set_cons_succ]))
      (refine wpAnyH_take (i := 1) (oi := { dst := some 7, op := Op.move (Operand.tmp 0), type := 51, pos := "elems.go:32", after := #[], guard := none }) (v := ?_) rfl (by kernel_rfl) (by kernel_rfl) (by kernel_rfl) (fun _ _ _ h => h) ?_ (by assumption) ?_; rotate_left; focus (refine .inl ⟨by kernel_rfl, ?_⟩; intro w hSw; (try dsimp only at hSw); go_simp; (try with_reducible rfl)); (try simp only [Act.put, List.setIfInBounds_toArray, List.set_cons_zero, List.set_cons_succ]))
      refine wpAnyH_ready (rs := [2]) (by kernel_rfl) (by simp) ?_
      refine AllReadyH.cons (o := { dst := some 8, op := Op.call { callee := Callee.value (Operand.func 96), args := #[Operand.tmp 7], argTypes := #[51] }, type := 23, pos := "elems.go:32", after := #[{ on := 1, ground := Ground.data }], guard := none }) rfl (fun K hK => ?_) AllReadyH.nil
      go_simp
      (go_at_call 96; (with_reducible refine HC2.out.mono ?_); rintro e w2 ⟨rfl, hg⟩; exact ⟨rfl, rfl, gb_trans (gb_drew HGB.out.gr) hg⟩)
    | ok fs k2 =>
      rw [h2] at hC
      rw [Res.bind_ok]
      have HC := Lib.hid (fun W (hs : Sc W p l k1) => show Calls Tryd.prog 96 #[.pointer (some ⟨p, 0, none⟩)] W (Labs p l fs k2 W) from hC W hs)
      clear hC h2
      go_enter Tryd.func57, Tryd.ntmps57
      go_wp2_with (go_at_call 95; go_must ((with_reducible refine HG.out.mono ?_); intro e w1 hq; obtain ⟨A, c, rfl, _, _, hs, hg, _⟩ := hq; have HGB := Lib.hid (GBE.start (i := i) (A := A) (c := c) hp hg); have HS1 := Lib.hid (hs.alloc (.cells (insC i A c) 25)); clear hs hg))
      generalize w1.alloc (.cells (insC i A c) 25) = W at *
      generalize w1.heap.size = bt at *
      have hsd : Sc W.drew p l k1 := HS1.out
      have HC2 := Lib.hid (HC.out _ hsd)
      have HGD := Lib.hid (HGB.out.call (gb_drew (gb_refl W _)))
      have hzw : w.heap.size ≤ W.drew.heap.size := HGD.out.gr.size
      have x0 := HGB.out.bx.cell 0
      have x1 := HGB.out.bx.cell 1
      have x2 := HGB.out.bx.cell 2
      have x3 := HGB.out.bx.cell 3
      simp only [List.getElem?_toArray, List.getElem?_cons_zero, List.getElem?_cons_succ] at x0 x1 x2 x3
      clear HC HS1 HGB HG hsd
      go_region_with (go_at_call 96; (with_reducible refine HC2.out.mono ?_); intro e w2 hq; obtain ⟨F, f, rfl, hfar, hs, hg, hty⟩ := hq; have HS2 := Lib.hid hs; have HF := Lib.hid hfar; have HTY := Lib.hid hty; have HG2 := Lib.hid (HGD.out.call hg); have y0 := HG2.out.bx.cell 0; have y1 := HG2.out.bx.cell 1; have y2 := HG2.out.bx.cell 2; have y3 := HG2.out.bx.cell 3; simp only [List.getElem?_toArray, List.getElem?_cons_zero, List.getElem?_cons_succ] at y0 y1 y2 y3; have f0 := HG2.out.res.frozen 0; have f1 := HG2.out.res.frozen 1; have f2 := HG2.out.res.frozen 2; have f3 := HG2.out.res.frozen 3; have f4 := HG2.out.res.frozen 4; have z0 := HG2.out.res.cell 0; have z1 := HG2.out.res.cell 1; have z2 := HG2.out.res.cell 2; have z3 := HG2.out.res.cell 3; have z4 := HG2.out.res.cell 4; simp only [List.getElem?_toArray, List.getElem?_cons_zero, List.getElem?_cons_succ] at z0 z1 z2 z3 z4; clear hs hg hty hfar)
      all_goals
        go_wp2
        obtain ⟨h1, h2, h3⟩ := GBE.fin (x0 := .int .u8 i.op.toNat) (x1 := .int .u64 i.a) (x2 := .int .u64 i.b) (x3 := .slice A i.l.length c) (x4 := .slice F fs.length f) HG2.out
        obtain ⟨q0, q1, q2, q3, q4⟩ := Whole.el (x := ⟨i, fs⟩) h1
        have hs3 := HS2.out.grown h2 (by have := HG2.out.hp; simp only [ne_eq, Option.some.injEq]; omega) (fun g e => by have := HG2.out.hp; injection e with e; omega)
        exact bodyPost_ret (v := elV ⟨i, fs⟩ A c F f) (by simp [results, Tryd.results57, go_sem, q0, q1, q2, q3, q4]) rfl ⟨A, c, F, f, rfl, hs3, h3, HTY.out.keep h2 (HTY.out.apart HG2.out.res (by decide)), fun a ha => Nat.le_trans hzw (HF.out a ha)⟩
end Go.Proofs.YtebgmfjgapmpfaaDoor
