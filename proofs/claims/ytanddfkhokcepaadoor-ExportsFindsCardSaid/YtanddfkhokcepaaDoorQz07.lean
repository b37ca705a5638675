/- abort.Value of a function that ends well, whatever it hands back: []sect.Section. Value of one that aborts. -/
import Derived.Test.YtanddfkhokcepaaDoorQz01
import Derived.Test.YtanddfkhokcepaaDoorQz06
import Derived.RegionTactic
import Derived.Lib.SlBytesConst
import Derived.Test.YtanddfkhokcepaaDoorQz02
import Derived.WalkSpells
import Derived.Laws.MakeOwn
import Derived.Lib.AppendZeros
import Derived.Laws.OwnMore
import Derived.Deep.CutBlock
import Derived.Deep.DeepCutAuto
namespace Go.Proofs.YtanddfkhokcepaaDoor
open Go.RowKit
set_option linter.unusedVariables false
set_option maxRecDepth 100000

theorem cfVS (cap : Array Value) (w : World) : (callFunc 99 cap).run Tryd.prog w = .ok (.enter 99 cap) w := by kernel_rfl
section
variable {T : (Option Addr × Nat × Nat) → World → Prop}
/-- Value's own closure: what the step hands back lies in its cell. -/
theorem valClosS {g : FuncId} {cap : Array Value} {b1 b4 q : Nat} {w : World} {z : Array Value} (hz : z.size = 1) (hcf : ∀ w : World, (callFunc g cap).run Tryd.prog w = .ok (.enter g cap) w)
    (h1 : Whole w b1 115 #[.func (.func g) #[] cap]) (h4 : Whole w b4 22 #[.slice none 0 0]) (hb : q < b4) (hT : ∀ x W W', T x W → W.grownBy W' (some b4) → T x W')
    (h : Calls Tryd.prog g cap w fun e w' => ∃ x, e = .returned (.slice x.1 x.2.1 x.2.2) ∧ T x w' ∧ w.grownBy w' (some q)) :
    Calls Tryd.prog 99 #[.pointer (some ⟨b1, 0, none⟩), .pointer (some ⟨b4, 0, none⟩)] w fun e w' =>
      e = .returned (.tuple #[]) ∧ ∃ x, T x w' ∧ Whole w' b4 22 #[.slice x.1 x.2.1 x.2.2] ∧ ∃ w1, w.grownBy w1 (some q) ∧ w1.grownBy w' (some b4) := by
  have hnil : ∀ w : World, (binOp BinOp.neq 115 (.func (.func g) #[] cap) .nilFunc).run Tryd.prog w = .ok (.bool true) w := fun _ => by kernel_rfl
  have c1 := h1.cell 0
  simp only [List.getElem?_toArray, List.getElem?_cons_zero] at c1
  have HH := Lib.hid h
  have H4 := Lib.hid h4
  have HT := Lib.hid hT
  clear h h1 h4 hT
  go_enter Tryd.func99, Tryd.ntmps99
  go_wp2_with fail
  refine HH.out.mono ?_
  rintro e w1 ⟨x, rfl, hs, hg⟩
  have HW := H4.out.grown hg (by simp only [ne_eq, Option.some.injEq]; omega)
  have k0 := HW.cell 0
  have f0 := HW.frozen 0
  simp only [List.getElem?_toArray, List.getElem?_cons_zero, List.getElem?_cons_succ] at k0
  obtain ⟨p1, p2⟩ := put1 (u0 := .slice x.1 x.2.1 x.2.2) HW
  have F : Hid (T x (w1.setCell ⟨b4, 0, none⟩ (.slice x.1 x.2.1 x.2.2))) := HT.out _ _ _ hs p2
  have P1 := Lib.hid p1
  have P2 := Lib.hid p2
  have HG := Lib.hid hg
  clear p1 p2 hs hg HW hcf
  go_wp2_with fail
  go_end0
  exact ⟨rfl, x, F.out, P1.out, w1, HG.out, P2.out⟩
/-- What Value's closure leaves behind, seen from Value's beginning. -/
structure VSS (T : (Option Addr × Nat × Nat) → World → Prop) (w : World) (q : Nat) (x : (Option Addr × Nat × Nat)) (w1 : World) : Prop where
  kept : T x w1
  grown : w.grownBy w1 (some q)
  val : Whole w1 (w.heap.size + 2) 22 #[.slice x.1 x.2.1 x.2.2]
  r2 : Whole w1 (w.heap.size + 1) 39 #[.int .i64 0, .int .i64 0]
/-- The world in which Value calls Out. -/
def vWorldS (g : FuncId) (cap : Array Value) (w : World) : World :=
  ((w.alloc (.cells #[.func (.func g) #[] cap] 115)).alloc (.cells #[.int .i64 0, .int .i64 0] 39)).alloc (.cells #[.slice none 0 0] 22)
theorem vWorld_factsS (g : FuncId) (cap : Array Value) (w : World) : (vWorldS g cap w).heap.size = w.heap.size + 3 ∧ Whole (vWorldS g cap w) w.heap.size 115 #[.func (.func g) #[] cap] ∧
    Whole (vWorldS g cap w) (w.heap.size + 1) 39 #[.int .i64 0, .int .i64 0] ∧
    Whole (vWorldS g cap w) (w.heap.size + 2) 22 #[.slice none 0 0] ∧ Below w.heap.size w (vWorldS g cap w) := by
  have b1 := Whole.made w 115 #[.func (.func g) #[] cap]
  have b3 := Whole.made (w.alloc (.cells #[.func (.func g) #[] cap] 115)) 39 #[.int .i64 0, .int .i64 0]
  have b4 := Whole.made ((w.alloc (.cells #[.func (.func g) #[] cap] 115)).alloc (.cells #[.int .i64 0, .int .i64 0] 39)) 22 #[.slice none 0 0]
  simp only [World.size_alloc] at b3 b4
  exact ⟨by simp [vWorldS], (b1.alloc _).alloc _, b3.alloc _, b4,
    (((Below.refl _ _).alloc (Nat.le_refl _) _).alloc (by simp) _).alloc (by simp; omega) _⟩
theorem value_outS {g : FuncId} {cap : Array Value} {q : Nat} {w : World} (hcf : ∀ w : World, (callFunc g cap).run Tryd.prog w = .ok (.enter g cap) w) (hq : q < w.heap.size)
    (hT : ∀ x W W' b, w.heap.size ≤ b → b < w.heap.size + 4 → T x W → W.grownBy W' (some b) → T x W')
    (h : ∀ W, Below w.heap.size w W → w.heap.size + 4 ≤ W.heap.size → Calls Tryd.prog g cap W fun e w' => ∃ x, e = .returned (.slice x.1 x.2.1 x.2.2) ∧ T x w' ∧ W.grownBy w' (some q)) :
    Calls Tryd.prog 75 #[.func (.func 99) #[] #[.pointer (some ⟨w.heap.size, 0, none⟩), .pointer (some ⟨w.heap.size + 2, 0, none⟩)]] (vWorldS g cap w) fun e w' => e = .returned (.agg #[.int .i64 0, .int .i64 0]) ∧ ∃ x, VSS T w q x w' := by
  obtain ⟨hz, b1, b3, b4, hbe⟩ := vWorld_factsS g cap w
  have b5 := Whole.made (vWorldS g cap w) 39 #[.int .i64 0, .int .i64 0]
  have hbe2 : Below w.heap.size w ((vWorldS g cap w).alloc (.cells #[.int .i64 0, .int .i64 0] 39)) := hbe.alloc (by omega) _
  have hc := valClosS (T := T) (z := #[.slice none 0 0]) rfl hcf (b1.alloc (.cells #[.int .i64 0, .int .i64 0] 39)) (b4.alloc _) (by omega : q < w.heap.size + 2) (fun x W W' => hT x W W' _ (by omega) (by omega)) (h _ hbe2 (by rw [size_box]; omega))
  refine (out_any _ _ 0 0 (vWorldS g cap w) (fun w1 => (∃ x, VSS T w q x w1) ∧ Whole w1 (vWorldS g cap w).heap.size 39 #[.int .i64 0, .int .i64 0]) (cfVS _) (hc.mono ?_) (fun _ h => h.2)).mono ?_
  · rintro e w' ⟨rfl, x, hs, hv, w1, hg1, hg2⟩
    have hz2 : w.heap.size + 4 ≤ w1.heap.size := by have := hg1.size; simp only [World.size_alloc] at this; omega
    refine ⟨.inl ⟨rfl, rfl, rfl⟩, ⟨x, hs, ?_, hv, ?_⟩, ?_⟩
    · exact gb_before (gb_trans (gb_of_below (some q) hbe2) hg1) hg2 (fun g e => .inr (by injection e with e; omega))
    · exact ((b3.alloc _).grown hg1 (by simp only [ne_eq, Option.some.injEq]; omega)).grown hg2 (by simp only [ne_eq, Option.some.injEq]; omega)
    · exact (b5.grown hg1 (by simp only [ne_eq, Option.some.injEq]; omega)).grown hg2 (by simp only [ne_eq, Option.some.injEq]; omega)
  · rintro e w' ⟨rfl, w1, ⟨⟨x, hs⟩, _⟩, hg⟩
    rw [hz] at hg
    exact ⟨rfl, x, hT x _ _ _ (by omega) (by omega) hs.kept hg, gb_before hs.grown hg (fun g e => .inr (by injection e with e; omega)), hs.val.grown hg (by simp only [ne_eq, Option.some.injEq]; omega), hs.r2.grown hg (by simp only [ne_eq, Option.some.injEq]; omega)⟩

set_option maxHeartbeats 800000 in
/-- Value of a function that ends well. -/
theorem valueS_ok {g : FuncId} {cap : Array Value} {q : Nat} {w : World} (hcf : ∀ w : World, (callFunc g cap).run Tryd.prog w = .ok (.enter g cap) w) (hq : q < w.heap.size)
    (hT : ∀ x W W' b, w.heap.size ≤ b → b < w.heap.size + 4 → T x W → W.grownBy W' (some b) → T x W')
    (h : ∀ W, Below w.heap.size w W → w.heap.size + 4 ≤ W.heap.size → Calls Tryd.prog g cap W fun e w' => ∃ x, e = .returned (.slice x.1 x.2.1 x.2.2) ∧ T x w' ∧ W.grownBy w' (some q)) :
    Calls Tryd.prog 64 #[.func (.func g) #[] cap] w fun e w' => ∃ x, e = .returned (.tuple #[.slice x.1 x.2.1 x.2.2, .agg #[.int .i64 0, .int .i64 0]]) ∧ T x w' ∧ w.grownBy w' (some q) := by
  have hv := value_outS hcf hq hT h
  unfold vWorldS at hv
  have HV := Lib.hid hv
  have HT := Lib.hid hT
  have hmf : ∀ (fn : Fn) (first cap : Array Value) (w : World), (Instr.makeFunc fn first cap).run Tryd.prog w = .ok (.func fn first cap) w := fun _ _ _ _ => rfl
  clear h hv hcf hT
  go_enter Tryd.func64, Tryd.ntmps64
  go_wp2_with (go_at_call 75; go_must (refine HV.out.mono ?_; rintro e w2 ⟨rfl, x, hl⟩; have k0 := fun o => (hl.val.alloc o).cell 0; have f8 := fun o => (hl.r2.alloc o).frozen 0; have f9 := fun o => (hl.r2.alloc o).frozen 1; have m8 := fun o => (hl.r2.alloc o).cell 0; have m9 := fun o => (hl.r2.alloc o).cell 1; simp only [List.getElem?_toArray, List.getElem?_cons_zero, List.getElem?_cons_succ] at k0 m8 m9; have hz := hl.grown.size; have HL := Lib.hid hl; clear hl))
  obtain ⟨p2, g2⟩ := put2 (u0 := .int .i64 0) (u1 := .int .i64 0) (HL.out.r2.alloc (.cells #[.int .i64 0, .int .i64 0] 39))
  have q8 := p2.cell 0
  have q9 := p2.cell 1
  simp only [List.getElem?_toArray, List.getElem?_cons_zero, List.getElem?_cons_succ] at q8 q9
  refine bodyPost_ret (v := .tuple #[.slice x.1 x.2.1 x.2.2, .agg #[.int .i64 0, .int .i64 0]]) (by simp [results, Tryd.results64, go_sem, q8, q9]) rfl ⟨x, rfl, ?_, ?_⟩
  · exact HT.out _ _ _ _ (by omega) (by omega) (HT.out _ _ _ w.heap.size (Nat.le_refl _) (by omega) HL.out.kept (gb_alloc (gb_refl _ _) _)) g2
  · exact gb_before (gb_alloc HL.out.grown _) g2 (fun g e => .inr (by injection e with e; omega))
end
/-- Value's own closure: what aborts goes on. -/
theorem valClosSE {g : FuncId} {cap : Array Value} {b1 b4 q : Nat} {w : World} {c a : Int} (hcf : ∀ w : World, (callFunc g cap).run Tryd.prog w = .ok (.enter g cap) w)
    (h1 : Whole w b1 115 #[.func (.func g) #[] cap])
    (h : Calls Tryd.prog g cap w fun e w' => e = .panicked (stopP c a) ∧ w.grownBy w' (some q)) :
    Calls Tryd.prog 99 #[.pointer (some ⟨b1, 0, none⟩), .pointer (some ⟨b4, 0, none⟩)] w fun e w' => e = .panicked (stopP c a) ∧ w.grownBy w' (some q) := by
  have hnil : ∀ w : World, (binOp BinOp.neq 115 (.func (.func g) #[] cap) .nilFunc).run Tryd.prog w = .ok (.bool true) w := fun _ => by kernel_rfl
  have c1 := h1.cell 0
  simp only [List.getElem?_toArray, List.getElem?_cons_zero] at c1
  have HH := Lib.hid h
  clear h h1
  go_enter Tryd.func99, Tryd.ntmps99
  go_wp2_with fail
  refine HH.out.mono ?_
  rintro e w1 ⟨rfl, hg⟩
  exact ⟨rfl, rfl, hg⟩
theorem value_outSE {g : FuncId} {cap : Array Value} {q : Nat} {w : World} {c a : Int} (hc : ¬ c = 0) (hcf : ∀ w : World, (callFunc g cap).run Tryd.prog w = .ok (.enter g cap) w) (hq : q < w.heap.size)
    (h : ∀ W, Below w.heap.size w W → w.heap.size + 4 ≤ W.heap.size → Calls Tryd.prog g cap W fun e w' => e = .panicked (stopP c a) ∧ W.grownBy w' (some q)) :
    Calls Tryd.prog 75 #[.func (.func 99) #[] #[.pointer (some ⟨w.heap.size, 0, none⟩), .pointer (some ⟨w.heap.size + 2, 0, none⟩)]] (vWorldS g cap w) fun e w' => e = .returned (.agg #[.int .i64 c, .int .i64 a]) ∧
      w.grownBy w' (some q) ∧ w.heap.size + 3 ≤ w'.heap.size ∧ Whole w' (w.heap.size + 2) 22 #[.slice none 0 0] ∧ Whole w' (w.heap.size + 1) 39 #[.int .i64 0, .int .i64 0] := by
  obtain ⟨hz, b1, b3, b4, hbe⟩ := vWorld_factsS g cap w
  have b5 := Whole.made (vWorldS g cap w) 39 #[.int .i64 0, .int .i64 0]
  have hbe2 : Below w.heap.size w ((vWorldS g cap w).alloc (.cells #[.int .i64 0, .int .i64 0] 39)) := hbe.alloc (by omega) _
  have hcl := valClosSE (b4 := w.heap.size + 2) hcf (b1.alloc (.cells #[.int .i64 0, .int .i64 0] 39)) (h _ hbe2 (by rw [size_box]; omega))
  refine (out_any _ _ c a (vWorldS g cap w) (fun w1 => ((vWorldS g cap w).alloc (.cells #[.int .i64 0, .int .i64 0] 39)).grownBy w1 (some q)) (cfVS _) (hcl.mono ?_) (fun w1 hg => b5.grown hg (by simp only [ne_eq, Option.some.injEq]; omega))).mono ?_
  · rintro e w' ⟨rfl, hg⟩
    exact ⟨.inr ⟨hc, rfl⟩, hg⟩
  · rintro e w' ⟨rfl, w1, hg1, hg2⟩
    have z1 := hg1.size
    have z2 := hg2.size
    rw [size_box] at z1
    rw [hz] at hg2
    exact ⟨rfl, gb_before (gb_trans (gb_of_below (some q) hbe2) hg1) hg2 (fun g e => .inr (by injection e with e; omega)), by omega,
      ((b4.alloc _).grown hg1 (by simp only [ne_eq, Option.some.injEq]; omega)).grown hg2 (by simp only [ne_eq, Option.some.injEq]; omega),
      ((b3.alloc _).grown hg1 (by simp only [ne_eq, Option.some.injEq]; omega)).grown hg2 (by simp only [ne_eq, Option.some.injEq]; omega)⟩
set_option maxHeartbeats 4000000 in
/-- Value of a function that aborts. -/
theorem valueSE_any {g : FuncId} {cap : Array Value} {q : Nat} {w : World} {c a : Int} (hc : ¬ c = 0) (hcf : ∀ w : World, (callFunc g cap).run Tryd.prog w = .ok (.enter g cap) w) (hq : q < w.heap.size)
    (h : ∀ W, Below w.heap.size w W → w.heap.size + 4 ≤ W.heap.size → Calls Tryd.prog g cap W fun e w' => e = .panicked (stopP c a) ∧ W.grownBy w' (some q)) :
    Calls Tryd.prog 64 #[.func (.func g) #[] cap] w fun e w' => e = .returned (.tuple #[.slice none 0 0, .agg #[.int .i64 c, .int .i64 a]]) ∧ w.grownBy w' (some q) := by
  have hv := value_outSE hc hcf hq h
  unfold vWorldS at hv
  have HV := Lib.hid hv
  have dc : (c == 0) = false := by simpa using hc
  have hmf : ∀ (fn : Fn) (first cap : Array Value) (w : World), (Instr.makeFunc fn first cap).run Tryd.prog w = .ok (.func fn first cap) w := fun _ _ _ _ => rfl
  clear h hv hcf hc
  go_enter Tryd.func64, Tryd.ntmps64
  go_wp2_with (go_at_call 75; go_must (refine HV.out.mono ?_; rintro e w2 ⟨rfl, hg, hz, hv, hr2⟩; have HL := Lib.hid (show w.grownBy w2 (some q) ∧ w.heap.size + 3 ≤ w2.heap.size ∧ Whole w2 (w.heap.size + 2) 22 #[.slice none 0 0] ∧ Whole w2 (w.heap.size + 1) 39 #[.int .i64 0, .int .i64 0] from ⟨hg, hz, hv, hr2⟩); clear hg hz hv hr2))
  generalize hW : w2.alloc (.cells #[.int .i64 c, .int .i64 a] 39) = W at *
  have hz2 := HL.out.2.1
  have k3 : Whole W (w.heap.size + 2) 22 #[.slice none 0 0] := by rw [← hW]; exact HL.out.2.2.1.alloc _
  have k2 : Whole W (w.heap.size + 1) 39 #[.int .i64 0, .int .i64 0] := by rw [← hW]; exact HL.out.2.2.2.alloc _
  have k5 : Whole W w2.heap.size 39 #[.int .i64 c, .int .i64 a] := by rw [← hW]; exact Whole.made _ _ _
  have hgW : w.grownBy W (some q) := by rw [← hW]; exact gb_alloc HL.out.1 _
  clear hW
  have K2 := Lib.hid k2
  have KG := Lib.hid hgW
  have v0 := k3.cell 0
  have s0 := k5.cell 0
  have s1 := k5.cell 1
  have n0 := k2.cell 0
  have n1 := k2.cell 1
  have g0 := k2.frozen 0
  have g1 := k2.frozen 1
  have e2 : ¬ w2.heap.size = w.heap.size + 1 := by omega
  simp only [List.getElem?_toArray, List.getElem?_cons_zero, List.getElem?_cons_succ] at v0 s0 s1 n0 n1
  clear k2 k3 k5 hgW
  go_region
  all_goals
    go_wp2
    obtain ⟨p2, j2⟩ := put2 (u0 := .int .i64 c) (u1 := .int .i64 a) K2.out
    have q8 := p2.cell 0
    have q9 := p2.cell 1
    simp only [List.getElem?_toArray, List.getElem?_cons_zero, List.getElem?_cons_succ] at q8 q9
    have hfin := gb_before KG.out j2 (fun g e => .inr (by injection e with e; omega))
    refine bodyPost_ret (v := .tuple #[.slice none 0 0, .agg #[.int .i64 c, .int .i64 a]]) (by simp [results, Tryd.results64, go_sem, q8, q9]) rfl ⟨rfl, ?_⟩
    first | exact hfin | exact gb_drew hfin | exact ⟨hfin.os, hfin.tape, hfin.output, hfin.size, hfin.block⟩
end Go.Proofs.YtanddfkhokcepaaDoor

/- sect.Split of bytes that begin with Head; awake. -/
namespace Go.Proofs.YtanddfkhokcepaaDoor
open Go.RowKit Go.Lib
set_option linter.unusedVariables false
set_option maxRecDepth 100000

/-- What a module begins with. -/
def headL : List UInt8 := [0, 97, 115, 109, 1, 0, 0, 0]
theorem TbN.of {w w' : World} {q : Nat} (h : Tabs w) (hb : Below w.heap.size w w') (hq : w.heap.size ≤ q) (hz : q ≤ w'.heap.size) : TbN q w' := by
  have h1 := block_lt_of_cell (h.1 0 (by omega))
  have h2 := block_lt_of_cell (h.2 0 (by omega)).1
  exact ⟨h.below hb, Nat.lt_of_lt_of_le h1 hq, Nat.lt_of_lt_of_le h2 hq, hz⟩
/-- What Split reads of bytes that begin with Head. -/
noncomputable def splitR (l : List UInt8) : Res (List Sct) := restR l (l.length + 1) 8 0 []
/-- What Split's closure ends with. -/
def Splits (l : List UInt8) (w : World) (e : Ending) (w' : World) : Prop := (match splitR l with
  | .ok xs k => ∃ A c rows, e = .returned (.slice A rows.length c) ∧ rows.map (·.1) = xs ∧ RowS w' w.heap.size (.slice A rows.length c) rows ∧ AllB w' w.heap.size rows
  | .err c a => e = .panicked (stopP c a)) ∧ Below w.heap.size w w'
theorem below_new {w w1 w2 : World} {q : Nat} (h : Below w.heap.size w w1) (hg : w1.grownBy w2 (some q)) (hq : w.heap.size ≤ q) : Below w.heap.size w w2 :=
  Below.grown h hg h.size (fun g e => by injection e with e; omega)
theorem splits_of {w w1 w2 : World} {l : List UInt8} {q : Nat} {e : Ending} (hb : Below w.heap.size w w1) (hz : w.heap.size ≤ q) (h : Rested q l w1 (splitR l) e w2) : Splits l w e w2 := by
  unfold Splits
  cases hr : splitR l with
  | ok xs k =>
    rw [hr] at h
    obtain ⟨v, rows, rfl, hm, h1, h2, h3, h4⟩ := h
    obtain ⟨A, c, rfl⟩ := h1.slice
    exact ⟨⟨A, c, rows, rfl, hm, h1.mono hb.size, fun x hx => (h2 x hx).mono hb.size⟩, below_new hb h4 hz⟩
  | err c a =>
    rw [hr] at h
    exact ⟨h.1, below_new hb h.2 hz⟩
theorem cfSp (cap : Array Value) (w : World) : (callFunc 65 cap).run Tryd.prog w = .ok (.enter 65 cap) w := by kernel_rfl
set_option maxHeartbeats 1000000 in
theorem splitC {w : World} {B0 cap : Nat} {A : Option Addr} {l : List UInt8} (hB : Whole w B0 25 #[.slice A l.length cap]) (hl : Lies w w.heap.size A (cells (nums l))) (h8 : 8 ≤ l.length) (hh : l.take 8 = headL) (hm : l.length ≤ 1000000) (hT : Tabs w) :
    Calls Tryd.prog 65 #[.pointer (some ⟨B0, 0, none⟩)] w (Splits l w) := by
  have c0 := hB.cell 0
  simp only [List.getElem?_toArray, List.getElem?_cons_zero] at c0
  have HO := Lib.hid (over_all (cap := cap) hl hm)
  have HT := Lib.hid hT
  have HH := Lib.hid (show (l.drop 0).take 8 = headL from hh)
  have HBy := Lib.hid (fun (W : World) (q : Nat) (hs : Sc W q l 0) => show Calls Tryd.prog 67 #[.pointer (some ⟨q, 0, none⟩), .int .i64 8] W (Byted q l 0 8 W) from bytes_ok hs 8 (by omega) hm)
  have d1 : (l.length : Int) ≤ 4194304 := by omega
  have d2 : (8 : Int) ≤ l.length := by omega
  clear hB hl hh hT
  have e5 : ((S headL).toList == [0, 97, 115, 109, 1, 0, 0, 0]) = true := by rw [S_toList]; rfl
  cases hsp : splitR l with
  | ok xs k =>
    have HSP := Lib.hid hsp
    clear hsp
    go_enter Tryd.func65, Tryd.ntmps65
    go_wp2_with (first
      | (go_at_call 66; go_must ((with_reducible refine (unlessT _ _ _).mono ?_); rintro e w' ⟨rfl, rfl⟩))
      | (go_at_call 22; go_must ((with_reducible refine HO.out.mono ?_); rintro e w1 ⟨q, rfl, hq, hs, hb⟩; have HQ := Lib.hid hq; have HB := Lib.hid hb; have HS := Lib.hid hs; have HTB := Lib.hid (TbN.of HT.out hb hq (Nat.le_of_lt hs.lt)); clear hq hb hs))
      | (go_at_call 67; go_must ((with_reducible refine (HBy.out _ _ HS.out).mono ?_); rintro e w2 ⟨v, rfl, hr, hs, hg⟩; rw [HH.out] at hr; obtain ⟨A2, c2, hv, hst⟩ := str_own hr; subst hv; have HS2 := Lib.hid hs; have HG2 := Lib.hid hg; have HR2 := Lib.hid (rest_sect hs (HTB.out.keep hg (Nat.le_refl _)) hm); have HB2 := Lib.hid (below_new HB.out hg HQ.out); clear hr hs hg))
      | (go_at_call 68; go_must ((with_reducible refine HR2.out.mono ?_); intro e w3 h3; have h4 := splits_of HB2.out HQ.out h3; unfold Splits at h4; rw [HSP.out] at h4; obtain ⟨⟨A3, c3, rows, rfl, h5⟩, hb3⟩ := h4; have H5 := Lib.hid h5; have HB3 := Lib.hid hb3; clear h3 h5 hb3)))
    go_ret
    unfold Splits
    rw [HSP.out]
    exact ⟨⟨A3, c3, rows, rfl, H5.out⟩, HB3.out⟩
  | err c a =>
    have HSP := Lib.hid hsp
    clear hsp
    go_enter Tryd.func65, Tryd.ntmps65
    go_wp2_with (first
      | (go_at_call 66; go_must ((with_reducible refine (unlessT _ _ _).mono ?_); rintro e w' ⟨rfl, rfl⟩))
      | (go_at_call 22; go_must ((with_reducible refine HO.out.mono ?_); rintro e w1 ⟨q, rfl, hq, hs, hb⟩; have HQ := Lib.hid hq; have HB := Lib.hid hb; have HS := Lib.hid hs; have HTB := Lib.hid (TbN.of HT.out hb hq (Nat.le_of_lt hs.lt)); clear hq hb hs))
      | (go_at_call 67; go_must ((with_reducible refine (HBy.out _ _ HS.out).mono ?_); rintro e w2 ⟨v, rfl, hr, hs, hg⟩; rw [HH.out] at hr; obtain ⟨A2, c2, hv, hst⟩ := str_own hr; subst hv; have HS2 := Lib.hid hs; have HG2 := Lib.hid hg; have HR2 := Lib.hid (rest_sect hs (HTB.out.keep hg (Nat.le_refl _)) hm); have HB2 := Lib.hid (below_new HB.out hg HQ.out); clear hr hs hg))
      | (go_at_call 68; go_must ((with_reducible refine HR2.out.mono ?_); intro e w3 h3; have h4 := splits_of HB2.out HQ.out h3; unfold Splits at h4; rw [HSP.out] at h4; obtain ⟨rfl, hb3⟩ := h4; have HB3 := Lib.hid hb3; clear h3 hb3)))
    refine ⟨rfl, ?_⟩
    unfold Splits
    rw [HSP.out]
    exact ⟨rfl, HB3.out⟩
/-- What Split hands back. -/
def SplitP (l : List UInt8) (w : World) (e : Ending) (w' : World) : Prop := (match splitR l with
  | .ok xs k => ∃ A c rows, e = .returned (.tuple #[.slice A rows.length c, .agg #[.int .i64 0, .int .i64 0]]) ∧ rows.map (·.1) = xs ∧ RowS w' w.heap.size (.slice A rows.length c) rows ∧ AllB w' w.heap.size rows
  | .err c a => c ≠ 0 ∧ e = .returned (.tuple #[.slice none 0 0, .agg #[.int .i64 c, .int .i64 a]])) ∧ Below w.heap.size w w'
/-- The list that Value's closure hands back. -/
def SplitT (xs : List Sct) (base : Nat) (x : Option Addr × Nat × Nat) (W : World) : Prop := ∃ rows, x.2.1 = rows.length ∧ rows.map (·.1) = xs ∧ RowS W base (.slice x.1 x.2.1 x.2.2) rows ∧ AllB W base rows
set_option maxHeartbeats 1000000 in
theorem split_any {w : World} {cap : Nat} {A : Option Addr} {l : List UInt8} (hl : Lies w w.heap.size A (cells (nums l))) (h8 : 8 ≤ l.length) (hh : l.take 8 = headL) (hm : l.length ≤ 1000000) (hT : Tabs w) :
    Calls Tryd.prog 17 #[.slice A l.length cap] w (SplitP l w) := by
  obtain ⟨W1, hW1⟩ : ∃ W1, W1 = (w.alloc (.cells #[.slice A l.length cap] 25)).alloc (.cells #[.int .i64 0, .int .i64 0] 39) := ⟨_, rfl⟩
  have hz : W1.heap.size = w.heap.size + 2 := by rw [hW1, size_box, size_box]
  have hB : Whole W1 w.heap.size 25 #[.slice A l.length cap] := by rw [hW1]; exact (Whole.made _ _ _).alloc _
  have hS : Whole W1 (w.heap.size + 1) 39 #[.int .i64 0, .int .i64 0] := by rw [hW1]; exact made_2 _ _ _ _
  have hb : Below w.heap.size w W1 := by rw [hW1]; exact ((Below.refl _ _).alloc (Nat.le_refl _) _).alloc (by simp) _
  have hcl : ∀ W, Below W1.heap.size W1 W → Calls Tryd.prog 65 #[.pointer (some ⟨w.heap.size, 0, none⟩)] W (Splits l W) := fun W hbW => by
    have hbw : Below w.heap.size w W := hb.trans (hbW.mono hb.size)
    exact splitC (hB.below hbW) ((hl.below hbw (Nat.le_refl _)).more hbw.size) h8 hh hm (hT.below hbw)
  have hmf : ∀ (fn : Fn) (first cap : Array Value) (w : World), (Instr.makeFunc fn first cap).run Tryd.prog w = .ok (.func fn first cap) w := fun _ _ _ _ => rfl
  cases hsp : splitR l with
  | ok xs k =>
    have hv := valueS_ok (T := SplitT xs (W1.heap.size + 4)) (g := 65) (cap := #[.pointer (some ⟨w.heap.size, 0, none⟩)]) (q := w.heap.size) (w := W1) (cfSp _) (by omega)
      (fun x W W' b h1 h2 ⟨rows, e1, e2, e3, e4⟩ hg => ⟨rows, e1, e2, e3.past hg (by omega), e4.past hg (by omega)⟩)
      (fun W hbW hzW => (hcl W hbW).mono fun e w' h => by
        unfold Splits at h
        rw [hsp] at h
        obtain ⟨⟨A, c, rows, rfl, e2, e3, e4⟩, hb2⟩ := h
        exact ⟨(A, rows.length, c), rfl, ⟨rows, rfl, e2, e3.mono hzW, fun x hx => (e4 x hx).mono hzW⟩, gb_of_below _ hb2⟩)
    rw [hW1] at hv
    have HV := Lib.hid hv
    have HW := Lib.hid hW1
    have HS := Lib.hid hS
    have HB := Lib.hid hb
    have HSP := Lib.hid hsp
    clear hv hcl hB hS hb hl hh hT hsp
    go_enter Tryd.func17, Tryd.ntmps17
    go_wp2_with (go_at_call 64; go_must ((with_reducible refine HV.out.mono ?_); rintro e w2 ⟨x, rfl, ht, hg⟩; rw [← HW.out] at ht hg; have hs2 := HS.out.grown hg (by simp only [ne_eq, Option.some.injEq]; omega); have m0 := hs2.cell 0; have m1 := hs2.cell 1; have f0 := hs2.frozen 0; have f1 := hs2.frozen 1; simp only [List.getElem?_toArray, List.getElem?_cons_zero, List.getElem?_cons_succ] at m0 m1; have HS2 := Lib.hid hs2; have HT2 := Lib.hid ht; have HG2 := Lib.hid hg; clear hs2 ht hg))
    obtain ⟨p2, j2⟩ := put2 (u0 := .int .i64 0) (u1 := .int .i64 0) HS2.out
    have q8 := p2.cell 0
    have q9 := p2.cell 1
    simp only [List.getElem?_toArray, List.getElem?_cons_zero, List.getElem?_cons_succ] at q8 q9
    obtain ⟨A, n, c⟩ := x
    obtain ⟨rows, e1, e2, e3, e4⟩ := HT2.out
    simp only at e1 e3
    subst e1
    refine bodyPost_ret (v := .tuple #[.slice A rows.length c, .agg #[.int .i64 0, .int .i64 0]]) (by simp [results, Tryd.results17, go_sem, q8, q9]) rfl ?_
    unfold SplitP
    rw [HSP.out]
    exact ⟨⟨A, c, rows, rfl, e2, (e3.past j2 (by omega)).mono (by omega), fun x hx => ((e4 x hx).past j2 (by omega)).mono (by omega)⟩, below_new (below_new HB.out HG2.out (Nat.le_refl _)) j2 (by omega)⟩
  | err c a =>
    have hc0 : ¬ c = 0 := restR_err hsp
    have hv := valueSE_any (g := 65) (cap := #[.pointer (some ⟨w.heap.size, 0, none⟩)]) (q := w.heap.size) (w := W1) (c := c) (a := a) hc0 (cfSp _) (by omega)
      (fun W hbW hzW => (hcl W hbW).mono fun e w' h => by
        unfold Splits at h
        rw [hsp] at h
        exact ⟨h.1, gb_of_below _ h.2⟩)
    rw [hW1] at hv
    have HV := Lib.hid hv
    have HW := Lib.hid hW1
    have HS := Lib.hid hS
    have HB := Lib.hid hb
    have HSP := Lib.hid hsp
    have HC0 := Lib.hid hc0
    clear hv hcl hB hS hb hl hh hT hsp hc0
    go_enter Tryd.func17, Tryd.ntmps17
    go_wp2_with (go_at_call 64; go_must ((with_reducible refine HV.out.mono ?_); rintro e w2 ⟨rfl, hg⟩; rw [← HW.out] at hg; have hs2 := HS.out.grown hg (by simp only [ne_eq, Option.some.injEq]; omega); have m0 := hs2.cell 0; have m1 := hs2.cell 1; have f0 := hs2.frozen 0; have f1 := hs2.frozen 1; simp only [List.getElem?_toArray, List.getElem?_cons_zero, List.getElem?_cons_succ] at m0 m1; have HS2 := Lib.hid hs2; have HG2 := Lib.hid hg; clear hs2 hg))
    obtain ⟨p2, j2⟩ := put2 (u0 := .int .i64 c) (u1 := .int .i64 a) HS2.out
    have q8 := p2.cell 0
    have q9 := p2.cell 1
    simp only [List.getElem?_toArray, List.getElem?_cons_zero, List.getElem?_cons_succ] at q8 q9
    refine bodyPost_ret (v := .tuple #[.slice none 0 0, .agg #[.int .i64 c, .int .i64 a]]) (by simp [results, Tryd.results17, go_sem, q8, q9]) rfl ?_
    unfold SplitP
    rw [HSP.out]
    exact ⟨⟨HC0.out, rfl⟩, below_new (below_new HB.out HG2.out (Nat.le_refl _)) j2 (by omega)⟩
theorem splitR_head : splitR headL = .ok [] 8 := by
  unfold splitR
  exact restR_end
/-- A block of bytes that reads as it was made, marked or not. -/
theorem lies_made (w : World) (xs : List UInt8) (fz : Nat × Nat) : Lies (w.alloc (.cells (cells (nums xs)).toArray 5 fz)) (w.heap.size + 1) (some ⟨w.heap.size, 0, none⟩) (cells (nums xs)) := fun i v hv => by
  refine ⟨w.heap.size, 0, rfl, by omega, ?_⟩
  rw [Nat.zero_add, cell_of_row _ w.heap.size i _ _ fz (heap_alloc_new w _)]
  simpa using hv
theorem head_cells : (cells (nums headL)).toArray = #[.int .u8 0, .int .u8 97, .int .u8 115, .int .u8 109, .int .u8 1, .int .u8 0, .int .u8 0, .int .u8 0] := by rfl
set_option maxHeartbeats 1000000 in
theorem awake_sect (w : World) (hT : Tabs w) : Calls Tryd.prog 10 #[] w fun e w' => e = .returned (.bool true) ∧ Below w.heap.size w w' := by
  have hl := lies_made w headL (8, 9)
  have hs := split_any (cap := 8) (A := some ⟨w.heap.size, 0, none⟩) (l := headL) (w := w.alloc (.cells (cells (nums headL)).toArray 5 (8, 9))) (by rw [size_box]; exact hl) (Nat.le_refl _) rfl (by simp [headL]) (hT.below (below_box w _))
  unfold SplitP at hs
  rw [splitR_head, head_cells] at hs
  have kc := fun (w : World) (C : Array Value) (n c : Nat) => Lib.run_convert_bytes_const (P := Tryd.prog) w 25 5 C n c Tryd.underlying25 Tryd.underlying5
  have heq : ∀ w : World, (binOp BinOp.eql 39 (.agg #[.int .i64 0, .int .i64 0]) (.agg #[.int .i64 0, .int .i64 0])).run Tryd.prog w = .ok (.bool true) w := fun _ => by kernel_rfl
  have HSp := Lib.hid (show Calls Tryd.prog 17 #[.slice (some ⟨w.heap.size, 0, none⟩) 8 8] _ _ from hs)
  clear hs hl
  go_enter Tryd.func10, Tryd.ntmps10
  go_wp2_with (go_at_call 17; go_must ((with_reducible refine HSp.out.mono ?_); rintro e w2 ⟨⟨A2, c2, rows, rfl, hm, -, -⟩, hb⟩; obtain rfl : rows = [] := List.map_eq_nil_iff.1 hm; have HB := Lib.hid hb; clear hb hm))
  go_ret
  exact ⟨rfl, ((below_box w _).trans (HB.out.mono (by simp))).alloc (by have := HB.out.size; simp at this ⊢; omega) _⟩
end Go.Proofs.YtanddfkhokcepaaDoor

/- slices.Concat of three pieces; sect.size; single steps that make rows of slices. -/
namespace Go.Proofs.YtanddfkhokcepaaDoor
open Go.RowKit
set_option linter.unusedVariables false
set_option maxRecDepth 100000

/-- Bytes that lie somewhere in this world; whose slice is nil only without room. -/
structure Pc (A : Option Addr) (c : Nat) (l : List UInt8) (w : World) : Prop where
  lies : Lies w w.heap.size A (cells (nums l))
  nil : A = none → c = 0
theorem Pc.below {A : Option Addr} {c : Nat} {l : List UInt8} {w w' : World} (h : Pc A c l w) (hb : Below w.heap.size w w') : Pc A c l w' := ⟨(h.lies.below hb (Nat.le_refl _)).more hb.size, h.nil⟩
theorem Pc.from {A : Option Addr} {c : Nat} {l : List UInt8} {w w' : World} {B : Nat} (h : Lies w B A (cells (nums l))) (hn : A = none → c = 0) (hB : B ≤ w.heap.size) (hb : Below w.heap.size w w') : Pc A c l w' := ⟨(h.below hb hB).more (Nat.le_trans hB hb.size), hn⟩
theorem Row.pc {w : World} {B : Nat} {v : Value} {xs : List UInt8} (h : Row w B v xs) : ∃ A c, v = .slice A xs.length c ∧ Pc A c xs w := by
  have h' := h
  obtain ⟨h1, h2⟩ := h
  obtain ⟨A, c, e, h3, h4, h5, _⟩ := lies_own h'
  refine ⟨A, c, e, h5, fun hA => ?_⟩
  rcases h2 with ⟨e2, _⟩ | ⟨g, cap, cur, e2, _⟩
  · rw [e] at e2
    injection e2
  · rw [e, hA] at e2
    injection e2 with e3
    cases e3
theorem Pc.room {A : Option Addr} {c : Nat} {l : List UInt8} {w : World} (h : Pc A c l w) : A = none → c = 0 := h.nil
set_option maxHeartbeats 1600000 in
/-- Concat of three pieces, of which one at least is not empty. -/
theorem concat3 {w : World} {g : Nat} {A1 A2 A3 : Option Addr} {c1 c2 c3 : Nat} {l1 l2 l3 : List UInt8} (hg : Whole w g 25 #[.slice A1 l1.length c1, .slice A2 l2.length c2, .slice A3 l3.length c3])
    (h1 : Pc A1 c1 l1 w) (h2 : Pc A2 c2 l2 w) (h3 : Pc A3 c3 l3 w) (n1 : 0 < l1.length + l2.length + l3.length) (n2 : l1.length + l2.length + l3.length ≤ 1000000) :
    Calls Tryd.prog 58 #[.slice (some ⟨g, 0, none⟩) 3 3] w (BytesL (l1 ++ l2 ++ l3) w) := by
  have g0 : w.cell? ⟨g, 0, none⟩ = some (.slice A1 l1.length c1) := hg.cell 0
  have g1 : w.cell? ⟨g, 1, none⟩ = some (.slice A2 l2.length c2) := hg.cell 1
  have g2 : w.cell? ⟨g, 2, none⟩ = some (.slice A3 l3.length c3) := hg.cell 2
  obtain ⟨m1, hm1⟩ : ∃ m, m = l1.length := ⟨_, rfl⟩
  obtain ⟨m2, hm2⟩ : ∃ m, m = l2.length := ⟨_, rfl⟩
  obtain ⟨m3, hm3⟩ : ∃ m, m = l3.length := ⟨_, rfl⟩
  rw [← hm1, ← hm2, ← hm3] at n1 n2
  rw [← hm1] at g0
  rw [← hm2] at g1
  rw [← hm3] at g2
  have HG := Lib.hid hg
  have H1 := Lib.hid h1
  have H2 := Lib.hid h2
  have H3 := Lib.hid h3
  have HM1 := Lib.hid hm1
  have HM2 := Lib.hid hm2
  have HM3 := Lib.hid hm3
  clear hg h1 h2 h3 hm1 hm2 hm3
  have HGr := Lib.hid (grow_any (m1 + m2 + m3) w (by omega) n2)
  go_enter Tryd.func58, Tryd.ntmps58
  go_wp2
  go_loop [3, 11] (fun s i => (s = .int .i64 0 ∧ i = .int .i64 0) ∨ (s = .int .i64 m1 ∧ i = .int .i64 1) ∨ (s = .int .i64 ((m1 + m2 : Nat) : Int) ∧ i = .int .i64 2) ∨ (s = .int .i64 ((m1 + m2 + m3 : Nat) : Int) ∧ i = .int .i64 3)) (fun _ i => 3 - (intOf i).toNat)
  case atStart => exact .inl ⟨rfl, rfl⟩
  case round =>
    rcases hrel with ⟨rfl, rfl⟩ | ⟨rfl, rfl⟩ | ⟨rfl, rfl⟩ | ⟨rfl, rfl⟩
    · go_wp2
      go_round
      case rel => exact .inr (.inl ⟨by go_num, rfl⟩)
      case measure => simp [intOf]
    · go_wp2
      go_round
      case rel => exact .inr (.inr (.inl ⟨by go_num, rfl⟩))
      case measure => simp [intOf]
    · go_wp2
      go_round
      case rel => exact .inr (.inr (.inr ⟨by go_num, rfl⟩))
      case measure => simp [intOf]
    · go_wp2_with (go_at_call 95; go_must (refine HGr.out.mono ?_; intro e w1 h; obtain ⟨v1, rfl, hr1, hb1⟩ := h; have HR1 := Lib.hid hr1; have HB1 := Lib.hid hb1; clear hr1 hb1))
      go_loopw [6, 27] (fun v i wr => Below w.heap.size w wr ∧ ((Row wr w.heap.size v [] ∧ i = .int .i64 0) ∨ (Row wr w.heap.size v l1 ∧ i = .int .i64 1) ∨ (Row wr w.heap.size v (l1 ++ l2) ∧ i = .int .i64 2) ∨ (Row wr w.heap.size v (l1 ++ l2 ++ l3) ∧ i = .int .i64 3))) (fun _ i _ => 3 - (intOf i).toNat)
      case atStart => exact ⟨HB1.out, .inl ⟨HR1.out, rfl⟩⟩
      case round =>
        obtain ⟨hb, ⟨hr, rfl⟩ | ⟨hr, rfl⟩ | ⟨hr, rfl⟩ | ⟨hr, rfl⟩⟩ := hrel
        · have c0 : wr.cell? ⟨g, 0, none⟩ = some (.slice A1 m1 c1) := by have := (HG.out.below hb).cell 0; rw [HM1.out]; exact this
          have HR := Lib.hid hr
          have HB := Lib.hid hb
          have hz := hb.size
          clear hr hb
          go_wp2_with (at_builtin; (refine row_any rfl _ _ rfl w.heap.size _ [] rfl HR.out A1 m1 c1 wr.heap.size l1 rfl HM1.out.symm (H1.out.below HB.out).lies H1.out.nil (by have := HM1.out; have := HM2.out; have := HM3.out; (try simp only [List.length_nil]); omega) hz ?_; intro v2 w2 hr2 hb2; have HR2 := Lib.hid hr2; have HB2 := Lib.hid hb2; clear hr2 hb2))
          go_roundw
          case rel => exact ⟨HB.out.trans HB2.out, .inr (.inl ⟨by simpa using HR2.out, rfl⟩)⟩
          case measure => simp [intOf]
        · have c0 : wr.cell? ⟨g, 1, none⟩ = some (.slice A2 m2 c2) := by have := (HG.out.below hb).cell 1; rw [HM2.out]; exact this
          have HR := Lib.hid hr
          have HB := Lib.hid hb
          have hz := hb.size
          clear hr hb
          go_wp2_with (at_builtin; (refine row_any rfl _ _ rfl w.heap.size _ l1 rfl HR.out A2 m2 c2 wr.heap.size l2 rfl HM2.out.symm (H2.out.below HB.out).lies H2.out.nil (by have := HM1.out; have := HM2.out; have := HM3.out; (try simp only [List.length_append, List.length_nil]); omega) hz ?_; intro v2 w2 hr2 hb2; have HR2 := Lib.hid hr2; have HB2 := Lib.hid hb2; clear hr2 hb2))
          go_roundw
          case rel => exact ⟨HB.out.trans HB2.out, .inr (.inr (.inl ⟨HR2.out, rfl⟩))⟩
          case measure => simp [intOf]
        · have c0 : wr.cell? ⟨g, 2, none⟩ = some (.slice A3 m3 c3) := by have := (HG.out.below hb).cell 2; rw [HM3.out]; exact this
          have HR := Lib.hid hr
          have HB := Lib.hid hb
          have hz := hb.size
          clear hr hb
          go_wp2_with (at_builtin; (refine row_any rfl _ _ rfl w.heap.size _ (l1 ++ l2) rfl HR.out A3 m3 c3 wr.heap.size l3 rfl HM3.out.symm (H3.out.below HB.out).lies H3.out.nil (by have := HM1.out; have := HM2.out; have := HM3.out; (try simp only [List.length_append]); omega) hz ?_; intro v2 w2 hr2 hb2; have HR2 := Lib.hid hr2; have HB2 := Lib.hid hb2; clear hr2 hb2))
          go_roundw
          case rel => exact ⟨HB.out.trans HB2.out, .inr (.inr (.inr ⟨HR2.out, rfl⟩))⟩
          case measure => simp [intOf]
        · have HR := Lib.hid hr
          have HB := Lib.hid hb
          clear hr hb
          go_wp2
          go_ret
          exact ⟨_, rfl, HR.out, HB.out⟩
end Go.Proofs.YtanddfkhokcepaaDoor

/- leb.Int and creelref02.Int (from the leb layer): the least number of groups of seven bits. -/
namespace Go.Proofs.YtanddfkhokcepaaDoor
set_option linter.unusedVariables false
open Go.RowKit
set_option maxRecDepth 100000

theorem no_moreS {x : Int} {k : Nat} (h : ∀ m, 1 ≤ m → m ≤ k → ¬ fitS x m) (hq : x / 128 ^ k < -64 ∨ 64 ≤ x / 128 ^ k) : ∀ m, 1 ≤ m → m ≤ k + 1 → ¬ fitS x m := by
  intro m h1 h2 h3
  rcases Nat.lt_or_ge m (k + 1) with g | g
  · exact h m h1 (by omega) h3
  · obtain rfl : m = k + 1 := by omega
    obtain ⟨a, b⟩ : -64 ≤ x / 128 ^ k ∧ x / 128 ^ k < 64 := h3
    omega
theorem bytes_endS {x q : Int} {n k : Nat} {w w2 : World} {v : Value} (hq : q = x / 128 ^ k) (hn : Least (fitS x) n) (hno : ∀ m, 1 ≤ m → m ≤ k → ¬ fitS x m) (hf : -64 ≤ q) (hf2 : q < 64)
    (ho : w2.ownsRow w.heap.size 5 1 v (k + 1) (cells (grps x k) ++ [.int .u8 (q % 128)])) (hb : Below w.heap.size w w2) : Bytes (grp x n) w (.returned v) w2 := by
  have hk : Least (fitS x) (k + 1) := ⟨by omega, by show -64 ≤ x / 128 ^ k ∧ x / 128 ^ k < 64; omega, fun m h1 h2 => hno m h1 (by omega)⟩
  obtain rfl := hk.unique hn
  have e : cells (grp x (k + 1)) = cells (grps x k) ++ [.int .u8 (q % 128)] := by rw [grp_snoc, cells_snoc, ← hq]
  exact bytes_own (by rw [e]; exact ho) (grp_length _ _) hb
theorem div_small {x q : Int} {k : Nat} (h0 : -9223372036854775808 ≤ x) (h1 : x ≤ 9223372036854775807) (hq : q = x / 128 ^ k) : -9223372036854775808 ≤ q ∧ q ≤ 9223372036854775807 := by
  have hp := p128 k
  subst hq
  refine ⟨(Int.le_ediv_iff_mul_le hp).2 ?_, ?_⟩
  · have := Int.mul_le_mul_of_nonneg_left (show (1 : Int) ≤ 128 ^ k by omega) (show (0 : Int) ≤ 9223372036854775808 by omega)
    omega
  · rcases Int.lt_or_le x 0 with g | g
    · have := Int.ediv_neg_of_neg_of_pos g hp; omega
    · exact Int.le_trans (Int.ediv_le_self _ g) h1

theorem fitS_any {x : Int} (h0 : -9223372036854775808 ≤ x) (h1 : x ≤ 9223372036854775807) (k : Nat) (a : 1 ≤ k) (b : k ≤ 9) : fitS x k ↔ anyB x (bit x 63) (7 * k - 1) 64 = false := by
  rw [any_none]; exact fitS_bits (by show -9223372036854775808 ≤ x; omega) (by show x < 9223372036854775808; omega) a b
theorem mod64_bit (x : Int) (j : Nat) (hj : j < 64) : bit (x % 18446744073709551616) j = bit x j := by
  unfold bit
  have e : (18446744073709551616 : Int) = 2 ^ j * 2 * 2 ^ (63 - j) := by
    rw [show (2 : Int) ^ j * 2 = 2 ^ (j + 1) from (Int.pow_succ 2 j).symm, ← Int.pow_add, show j + 1 + (63 - j) = 64 by omega]; rfl
  have hp := p2 j
  have e2 : x = x % 18446744073709551616 + 2 ^ j * (2 * 2 ^ (63 - j) * (x / 18446744073709551616)) := by
    rw [← Int.mul_assoc, ← Int.mul_assoc, ← e]; exact (Int.emod_add_mul_ediv x _).symm
  generalize x % 18446744073709551616 = y at *
  generalize x / 18446744073709551616 = z at *
  rw [e2, Int.add_mul_ediv_left _ _ (Int.ne_of_gt hp), Int.mul_assoc 2]
  congr 1
  omega
theorem bools_mod (x : Int) : bools (x % 18446744073709551616) 64 = bools x 64 := by
  unfold bools
  apply List.map_congr_left
  intro j hj
  rw [mod64_bit x j (List.mem_range.1 hj)]
theorem sign_bits {x : Int} (h0 : -9223372036854775808 ≤ x) (h1 : x ≤ 9223372036854775807) (j : Nat) (hj : 63 ≤ j) : bit x j = bit x 63 := by
  have h : x / 2 ^ 63 = 0 ∨ x / 2 ^ 63 = -1 := by
    show x / 9223372036854775808 = 0 ∨ x / 9223372036854775808 = -1
    omega
  rcases h with h | h
  · rw [from_same (a := 63) (t := false) (by simpa using h) j hj, from_same (a := 63) (t := false) (by simpa using h) 63 (by omega)]
  · rw [from_same (a := 63) (t := true) (by simpa using h) j hj, from_same (a := 63) (t := true) (by simpa using h) 63 (by omega)]

end Go.Proofs.YtanddfkhokcepaaDoor

/- leb.Uint, leb.Int: what they hand back is a row of the call's own; a signed number's bytes. (By gen/genOwn.py from the leb layer.) -/
namespace Go.Proofs.YtanddfkhokcepaaDoor
open Go.RowKit
set_option linter.unusedVariables false
set_option maxRecDepth 100000

def Owned (l : List Int) (w : World) (e : Ending) (w' : World) : Prop := ∃ v, e = .returned v ∧ w'.ownsRow w.heap.size 5 1 v l.length (cells l) ∧ Below w.heap.size w w'
theorem owned_own {w w' : World} {n : Nat} {v : Value} {l : List Int} (h : w'.ownsRow w.heap.size 5 1 v n (cells l)) (hn : l.length = n) (hb : Below w.heap.size w w') : Owned l w (.returned v) w' := by
  subst hn
  exact ⟨v, rfl, h, hb⟩
theorem own_end {x q : Int} {n k : Nat} {w w2 : World} {v : Value} (hq : q = x / 128 ^ k) (hn : Least (fitU x) n) (hno : ∀ m, 1 ≤ m → m ≤ k → ¬ fitU x m) (hf : q < 128)
    (ho : w2.ownsRow w.heap.size 5 1 v (k + 1) (cells (grps x k) ++ [.int .u8 q])) (hb : Below w.heap.size w w2) (h0 : 0 ≤ q) : Owned (grp x n) w (.returned v) w2 := by
  have hk : Least (fitU x) (k + 1) := ⟨by omega, by show x / 128 ^ k < 128; omega, fun m h1 h2 => hno m h1 (by omega)⟩
  obtain rfl := hk.unique hn
  have e : cells (grp x (k + 1)) = cells (grps x k) ++ [.int .u8 q] := by rw [grp_snoc, cells_snoc, ← hq, show q % 128 = q by omega]
  exact owned_own (by rw [e]; exact ho) (grp_length _ _) hb

set_option maxHeartbeats 400000 in
theorem uint_own (x : Int) (w : World) (h0 : 0 ≤ x) (h1 : x ≤ 18446744073709551615) {n : Nat} (hn : Least (fitU x) n) :
    Calls Tryd.prog 89 #[.int .u64 x] w (Owned (grp x n) w) := by
  have h10 : n ≤ 10 := hn.le (by omega) (fitU_ten x (by omega))
  obtain ⟨i0, hi0, hz0, hz1, hz2⟩ := info_parts infoB
  have HN := Lib.hid hn
  clear hn
  go_enter Tryd.func89, Tryd.ntmps89
  go_wp2_with (first
    | (go_at_call 120; go_must (refine (size_any _ _ h0 h1 HN.out).mono ?_; rintro e w' ⟨rfl, rfl⟩))
    | (at_make; refine wpList_make_own _ rfl _ _ _ rfl w.heap.size 5 i0 _ 1 Tryd.underlying25 hi0 hz0 hz1 .i64 .i64 _ n rfl rfl rfl (by rw [hz2]; omega) (by unfold maxLen; omega) (Nat.le_refl _) ?_; intro w1 hown1 hgrow1))
  have hbe1 : Below w.heap.size w w1 := below_of_gb hgrow1
  have HO := Lib.hid hown1
  have HB := Lib.hid hbe1
  clear hown1 hgrow1 hbe1
  go_loopw [3, 0] (fun b v wr => ∃ k : Nat, v = .int .u64 (x / 128 ^ k) ∧ wr.ownsRow w.heap.size 5 1 b k (cells (grps x k)) ∧ Below w.heap.size w wr ∧ ∀ m, 1 ≤ m → m ≤ k → ¬ fitU x m) (fun _ v _ => (intOf v).toNat)
  case atStart => exact ⟨0, by simp, HO.out, HB.out, fun m h1 h2 => by omega⟩
  case round =>
    obtain ⟨k, rfl, hown, hbe, hno⟩ := hrel
    obtain ⟨q, hq⟩ : ∃ q, q = x / 128 ^ k := ⟨_, rfl⟩
    have hq0 : 0 ≤ q := by rw [hq]; exact Int.ediv_nonneg h0 (Int.le_of_lt (p128 _))
    have hq1 : q ≤ 18446744073709551615 := by rw [hq]; exact Int.le_trans (Int.ediv_le_self _ h0) h1
    have hk : k ≤ 9 := by
      rcases Nat.lt_or_ge k 10 with g | g
      · omega
      · exact absurd (fitU_ten x (by omega)) (hno 10 (by omega) g)
    have hsz := hbe.size
    rw [← hq]
    have HQ := Lib.hid hq
    have HBE := Lib.hid hbe
    have HNO := Lib.hid hno
    have hor : bits .or .u8 (q % 256) 128 = q % 128 + 128 := byte_or q
    clear hq hbe hno
    by_cases hlt : 128 ≤ q
    · go_wp2_with (at_builtin; refine wpList_append_own _ rfl _ _ _ rfl w.heap.size 5 i0 _ 1 1 Tryd.underlying25 hi0 hz0 hz1 hz2 rfl (by omega) _ _ _ rfl (hown.alloc _) ⟨wr.heap.size, 0, none⟩ 1 1 [.int .u8 (q % 128 + 128)] rfl rfl (World.news_of_block (cs := #[.int .u8 (q % 128 + 128)]) (t := 5) (fr := (0, 0)) (heap_alloc_new wr _)) (by simp [Value.oneCell']) (by unfold maxLen; omega) (by omega) (by simp; omega) ?_; intro v' w2 hown2 hgrow2 _; have HO2 := Lib.hid hown2; have HG2 := Lib.hid hgrow2; clear hown2 hgrow2)
      go_roundw
      case rel => exact ⟨k + 1, by rw [pow_out, HQ.out], by rw [grps_snoc, cells_snoc, ← HQ.out]; exact HO2.out, below_append HBE.out hown HG2.out, no_more HNO.out (by rw [← HQ.out]; omega)⟩
      case measure => simp [intOf]; omega
    · go_wp2_with (at_builtin; refine wpList_append_own _ rfl _ _ _ rfl w.heap.size 5 i0 _ 1 1 Tryd.underlying25 hi0 hz0 hz1 hz2 rfl (by omega) _ _ _ rfl (hown.alloc _) ⟨wr.heap.size, 0, none⟩ 1 1 [.int .u8 q] rfl rfl (World.news_of_block (cs := #[.int .u8 q]) (t := 5) (fr := (0, 0)) (heap_alloc_new wr _)) (by simp [Value.oneCell']) (by unfold maxLen; omega) (by omega) (by simp; omega) ?_; intro v' w2 hown2 hgrow2 _; have HO2 := Lib.hid hown2; have HG2 := Lib.hid hgrow2; clear hown2 hgrow2)
      go_ret
      exact own_end HQ.out HN.out HNO.out (by omega) HO2.out (below_append HBE.out hown HG2.out) hq0

theorem own_endS {x q : Int} {n k : Nat} {w w2 : World} {v : Value} (hq : q = x / 128 ^ k) (hn : Least (fitS x) n) (hno : ∀ m, 1 ≤ m → m ≤ k → ¬ fitS x m) (hf : -64 ≤ q) (hf2 : q < 64)
    (ho : w2.ownsRow w.heap.size 5 1 v (k + 1) (cells (grps x k) ++ [.int .u8 (q % 128)])) (hb : Below w.heap.size w w2) : Owned (grp x n) w (.returned v) w2 := by
  have hk : Least (fitS x) (k + 1) := ⟨by omega, by show -64 ≤ x / 128 ^ k ∧ x / 128 ^ k < 64; omega, fun m h1 h2 => hno m h1 (by omega)⟩
  obtain rfl := hk.unique hn
  have e : cells (grp x (k + 1)) = cells (grps x k) ++ [.int .u8 (q % 128)] := by rw [grp_snoc, cells_snoc, ← hq]
  exact owned_own (by rw [e]; exact ho) (grp_length _ _) hb
theorem leastS (x : Int) (h0 : -9223372036854775808 ≤ x) (h1 : x ≤ 9223372036854775807) : ∃ n, Least (fitS x) n := least_find _ 10 (by omega) (fitS_ten x h0 (by omega))
/-- How many bytes a number with a sign takes. -/
noncomputable def sebN (x : Int) : Nat := if h : -9223372036854775808 ≤ x ∧ x ≤ 9223372036854775807 then (leastS x h.1 h.2).choose else 1
/-- A number's bytes, with a sign. -/
noncomputable def sebL (x : Int) : List UInt8 := (grp x (sebN x)).map fun c => UInt8.ofNat c.toNat
theorem sebN_least (x : Int) (h0 : -9223372036854775808 ≤ x) (h1 : x ≤ 9223372036854775807) : Least (fitS x) (sebN x) := by
  unfold sebN
  rw [dif_pos ⟨h0, h1⟩]
  exact (leastS x h0 h1).choose_spec
theorem nums_grp (x : Int) (n : Nat) : nums ((grp x n).map fun c => UInt8.ofNat c.toNat) = grp x n := by
  unfold nums
  rw [List.map_map]
  conv => rhs; rw [← List.map_id (grp x n)]
  apply List.map_congr_left
  intro c hc
  have := grp_bytes x _ c hc
  simp
  omega
theorem nums_sebL (x : Int) : nums (sebL x) = grp x (sebN x) := nums_grp x _
theorem sebL_length (x : Int) : (sebL x).length = sebN x := by unfold sebL; rw [List.length_map, grp_length]
theorem sebL_len (x : Int) (h0 : -9223372036854775808 ≤ x) (h1 : x ≤ 9223372036854775807) : 1 ≤ (sebL x).length ∧ (sebL x).length ≤ 10 := by
  rw [sebL_length]
  have h2 := sebN_least x h0 h1
  exact ⟨h2.1, h2.le (by omega) (fitS_ten x h0 (by omega))⟩
theorem bytesL_of {xs : List Int} {l : List UInt8} {w w' : World} {e : Ending} (h : Owned xs w e w') (hl : nums l = xs) : BytesL l w e w' := by
  obtain ⟨v, rfl, h1, h2⟩ := h
  subst hl
  rw [nums_length] at h1
  exact ⟨v, rfl, h1, h2⟩
theorem uintB (x : Int) (w : World) (h0 : 0 ≤ x) (h1 : x ≤ 18446744073709551615) : Calls Tryd.prog 89 #[.int .u64 x] w (BytesL (lebL x) w) :=
  (uint_own x w h0 h1 (lebN_least x h1)).mono fun _ _ h => bytesL_of h (nums_lebL x)
end Go.Proofs.YtanddfkhokcepaaDoor

/- sect.Put. -/
namespace Go.Proofs.YtanddfkhokcepaaDoor
open Go.RowKit
set_option linter.unusedVariables false
set_option maxRecDepth 100000

/-- A section's contents as they are written, and all its bytes. -/
noncomputable def innerL (x : Sct) : List UInt8 := if x.id.toNat = 0 then lebL x.name.length ++ x.name ++ x.body else x.body
noncomputable def sputL (x : Sct) : List UInt8 := [x.id] ++ lebL (innerL x).length ++ innerL x
def secV (x : Sct) (A : Option Addr) (c : Nat) : Value := .agg #[.int .u8 x.id.toNat, .string (S x.name), .slice A x.body.length c, .int .i64 x.off]
def secK (x : Sct) (A : Option Addr) (c : Nat) : Array Value := #[.int .u8 x.id.toNat, .string (S x.name), .slice A x.body.length c, .int .i64 x.off]
theorem innerL_len {x : Sct} {n : Nat} (h1 : x.name.length ≤ n) (h2 : x.body.length ≤ n) (hn : n ≤ 100000) : (innerL x).length ≤ 2 * n + 10 := by
  have h := lebL_len (x.name.length : Int) (by omega)
  unfold innerL
  split
  · simp only [List.length_append]; omega
  · omega
theorem sputL_len {x : Sct} {n : Nat} (h1 : x.name.length ≤ n) (h2 : x.body.length ≤ n) (hn : n ≤ 100000) : 2 ≤ (sputL x).length ∧ (sputL x).length ≤ 2 * n + 21 := by
  have h := innerL_len h1 h2 hn
  have h3 := lebL_len ((innerL x).length : Int) (by omega)
  unfold sputL
  simp only [List.length_append, List.length_singleton]
  omega
section
variable {w : World} {ops : Array Oper} {o : Oper} {a : Act} {K : Act → World → Prop} {Q : Exit → Act → World → Prop} {E : Prop}
theorem step_build1 (hgd : o.guard = none) (x : Operand) (ho : o.op = .buildSlice 25 1 #[(0, x)]) (c : UInt8) (hx : a.eval x = .int .u8 c.toNat)
    (h : ∀ g wa, w.heap.size ≤ g → Below w.heap.size w wa → Pc (some ⟨g, 0, none⟩) 1 [c] wa → K (a.put o.dst (.slice (some ⟨g, 0, none⟩) 1 1)) wa) :
    if Region.wanted o (yielded ops a.tmps) = true then Oper.wp Tryd.prog o a w K Q else E := by
  have hl := lies_made w [c] (0, 0)
  refine step_value (v := .slice (some ⟨w.heap.size, 0, none⟩) 1 1) (w' := w.alloc (.cells (cells (nums [c])).toArray 5)) hgd ?_ (h _ _ (Nat.le_refl _) (below_box w _) ⟨by rw [size_box]; exact hl, fun e => by cases e⟩)
  cases o
  subst ho
  clear h
  generalize a.eval = ev at hx ⊢
  simp [go_sem, hx, cells, nums]
theorem step_build2 (hgd : o.guard = none) (x0 x1 : Operand) (ho : o.op = .buildSlice 140 2 #[(0, x0), (1, x1)]) {A0 A1 : Option Addr} {n0 n1 c0 c1 : Nat} (h0 : a.eval x0 = .slice A0 n0 c0) (h1 : a.eval x1 = .slice A1 n1 c1)
    (h : ∀ g wa, w.heap.size ≤ g → Below w.heap.size w wa → Whole wa g 25 #[.slice A0 n0 c0, .slice A1 n1 c1] → K (a.put o.dst (.slice (some ⟨g, 0, none⟩) 2 2)) wa) :
    if Region.wanted o (yielded ops a.tmps) = true then Oper.wp Tryd.prog o a w K Q else E := by
  refine step_value (v := .slice (some ⟨w.heap.size, 0, none⟩) 2 2) (w' := w.alloc (.cells #[.slice A0 n0 c0, .slice A1 n1 c1] 25)) hgd ?_ (h _ _ (Nat.le_refl _) (below_box w _) (Whole.made _ _ _))
  cases o
  subst ho
  clear h
  generalize a.eval = ev at h0 h1 ⊢
  simp [go_sem, h0, h1]
theorem step_build3 (hgd : o.guard = none) (x0 x1 x2 : Operand) (ho : o.op = .buildSlice 140 3 #[(0, x0), (1, x1), (2, x2)]) {A0 A1 A2 : Option Addr} {n0 n1 n2 c0 c1 c2 : Nat} (h0 : a.eval x0 = .slice A0 n0 c0) (h1 : a.eval x1 = .slice A1 n1 c1) (h2 : a.eval x2 = .slice A2 n2 c2)
    (h : ∀ g wa, w.heap.size ≤ g → Below w.heap.size w wa → Whole wa g 25 #[.slice A0 n0 c0, .slice A1 n1 c1, .slice A2 n2 c2] → K (a.put o.dst (.slice (some ⟨g, 0, none⟩) 3 3)) wa) :
    if Region.wanted o (yielded ops a.tmps) = true then Oper.wp Tryd.prog o a w K Q else E := by
  refine step_value (v := .slice (some ⟨w.heap.size, 0, none⟩) 3 3) (w' := w.alloc (.cells #[.slice A0 n0 c0, .slice A1 n1 c1, .slice A2 n2 c2] 25)) hgd ?_ (h _ _ (Nat.le_refl _) (below_box w _) (Whole.made _ _ _))
  cases o
  subst ho
  clear h
  generalize a.eval = ev at h0 h1 h2 ⊢
  simp [go_sem, h0, h1, h2]
/-- append of whatever lies, nothing at all too. -/
theorem step_anyS (hgd : o.guard = none) (s x : Operand)
    (ho : o.op = .call { callee := .builtin .append, args := #[s, x], argTypes := #[25, 25] })
    (B : Nat) (v : Value) (xs : List UInt8) (hs : a.eval s = v) (hr : Row w B v xs)
    (A : Option Addr) (m c : Nat) (news : List UInt8) (hx : a.eval x = .slice A m c) (hl : news.length = m) (hn : Pc A c news w)
    (hb : xs.length + news.length ≤ 1000000) (hB : B ≤ w.heap.size)
    (h : ∀ v' w', Row w' B v' (xs ++ news) → Below B w w' → K (a.put o.dst v') w') :
    if Region.wanted o (yielded ops a.tmps) = true then Oper.wp Tryd.prog o a w K Q else E := by
  by_cases hm : 0 < m
  · exact step_lies hgd s x ho B v xs hs hr A m c _ news hx hl hn.lies hm hb hB h
  · obtain rfl : m = 0 := by omega
    have he : news = [] := List.eq_nil_of_length_eq_zero hl
    subst he
    have hw : Region.wanted o (yielded ops a.tmps) = true := by simp [Region.wanted, hgd]
    rw [if_pos hw]
    obtain ⟨i0, hi0, hz0, hz1, hz2⟩ := info_parts infoB
    rcases A with _ | ad
    · obtain rfl := hn.nil rfl
      exact Lib.wp_append_run w s x 25 25 ho v _ hs hx v w (run_append_owned_none (P := Tryd.prog) (w := w) B 25 o.type 5 i0 1 Tryd.underlying25 hi0 v xs.length (cells (nums xs)) hr) (h v w (by simpa using hr) (Below.refl _ _))
    · refine wp_append_own _ s x _ ho B 5 i0 _ 1 1 Tryd.underlying25 hi0 hz0 hz1 hz2 rfl (by omega) v xs.length (cells (nums xs)) hs hr ad 0 c [] hx rfl (by intro j u hu; cases hu) (by intro u hu; cases hu) (by unfold maxLen; omega) (by omega) hB (fun v' w' h2 h3 _ => h v' w' ?_ (Row.below hr hB h3))
      show w'.ownsRow B 5 1 v' (xs ++ []).length (cells (nums (xs ++ [])))
      rw [List.append_nil]
      simpa using h2
/-- []byte(s), as bytes that lie somewhere. -/
theorem step_convP (hgd : o.guard = none) (x : Operand) (ho : o.op = .convert 9 25 x) (l : List UInt8) (hx : a.eval x = .string (S l))
    (h : ∀ A cap wc, Below w.heap.size w wc → Pc A cap l wc → K (a.put o.dst (.slice A l.length cap)) wc) :
    if Region.wanted o (yielded ops a.tmps) = true then Oper.wp Tryd.prog o a w K Q else E :=
  step_conv hgd x ho l hx fun g cap wc _ _ _ hb hl => h _ _ _ hb ⟨hl, fun e => by cases e⟩
end
/-- []byte(s), behind the walk's own simplifying. -/
theorem upon_conv {o : Oper} {a : Act} {K : Act → World → Prop} {Q : Exit → Act → World → Prop} {W : World} {l : List UInt8} (h : ∀ A cap wc, Below W.heap.size W wc → Pc A cap l wc → K (a.put o.dst (.slice A l.length cap)) wc) :
    Oper.upon Tryd.prog o a K Q (((convert 9 25 (.string (S l))).run Tryd.prog W).andThen fun v w' => Result.ok (Next.value v) w') := by
  rw [conv_run (S l) W]
  have := h (some ⟨W.heap.size, 0, none⟩) (grownCap W (S l).size 0 5) (W.drew.alloc (convRow W (S l))) ((Below.refl _ _).drew.alloc (Nat.le_refl _) _) ⟨(conv_lies W l).more (by simp), fun e => by cases e⟩
  rw [← S_size] at this
  exact this
theorem hold2 {W W' : World} {X : Nat} {a b : Value} {W0 : World} (h : W.cell? ⟨X, 1, none⟩ = some a ∧ W.cell? ⟨X, 2, none⟩ = some b ∧ Below W0.heap.size W0 W) (hb : Below W.heap.size W W') : W'.cell? ⟨X, 1, none⟩ = some a ∧ W'.cell? ⟨X, 2, none⟩ = some b ∧ Below W0.heap.size W0 W' :=
  ⟨(hb.cell (p := ⟨X, 1, none⟩) (block_lt_of_cell h.1)).trans h.1, (hb.cell (p := ⟨X, 2, none⟩) (block_lt_of_cell h.2.1)).trans h.2.1, h.2.2.trans (hb.mono h.2.2.size)⟩
theorem hold1 {W W' : World} {X : Nat} {a : Value} {W0 : World} (h : W.cell? ⟨X, 0, none⟩ = some a ∧ Below W0.heap.size W0 W) (hb : Below W.heap.size W W') : W'.cell? ⟨X, 0, none⟩ = some a ∧ Below W0.heap.size W0 W' :=
  ⟨(hb.cell (p := ⟨X, 0, none⟩) (block_lt_of_cell h.1)).trans h.1, h.2.trans (hb.mono h.2.size)⟩
/-- wire.Size, Name, Sized. -/
theorem wsize_s (n : Nat) (w : World) (hn : n ≤ 1000000) : Calls Tryd.prog 96 #[.int .i64 n] w (BytesL (lebL n) w) := by
  have HU := Lib.hid (fun w => uintB (n : Int) w (by omega) (by omega))
  have wn : IntKind.u64.wrap (n : Int) = n := by simp [IntKind.wrap, IntKind.bits, IntKind.signed]; omega
  generalize lebL (n : Int) = y at *
  go_enter Tryd.func96, Tryd.ntmps96
  go_wp2_with (go_at_call 89; go_must ((with_reducible refine (HU.out _).mono ?_); intro e w1 h; obtain ⟨v, rfl, hr, hb⟩ := h; have HR := Lib.hid hr; have HB := Lib.hid hb; clear hr hb))
  go_ret
  exact ⟨_, rfl, HR.out, HB.out⟩
theorem wsizedN_s (s : List UInt8) (w : World) (hs : s.length ≤ 100000) : Calls Tryd.prog 94 #[.string (S s)] w (BytesL (lebL s.length ++ s) w) := by
  have HZ := Lib.hid (fun w => wsize_s s.length w (by omega))
  have hlen := lebL_len (s.length : Int) (by omega)
  have hsz := S_size s
  generalize lebL (s.length : Int) = y at *
  go_enter Tryd.func94, Tryd.ntmps94
  go_wp2_with (first
    | (go_at_call 96; go_must ((with_reducible refine (HZ.out _).mono ?_); intro e w1 h; obtain ⟨v, rfl, hr, hb⟩ := h; have HR := Lib.hid hr; have HB := Lib.hid hb; have hz1 := hb.size; clear hr hb))
    | (at_builtin; (refine row_str rfl _ _ rfl w.heap.size _ y rfl HR.out s rfl (by omega) hz1 ?_; intro v2 w2 hr2 hb2; have HR2 := Lib.hid hr2; have HB2 := Lib.hid hb2; clear hr2 hb2)))
  go_ret
  exact ⟨_, rfl, HR2.out, HB.out.trans HB2.out⟩
theorem wname_s (s : List UInt8) (w : World) (hs : s.length ≤ 100000) : Calls Tryd.prog 57 #[.string (S s)] w (BytesL (lebL s.length ++ s) w) := by
  have HZ := Lib.hid (wsizedN_s s w hs)
  clear hs
  go_enter Tryd.func57, Tryd.ntmps57
  go_wp2_with (go_at_call 94; go_must ((with_reducible refine HZ.out.mono ?_); intro e w1 h; obtain ⟨v, rfl, hr, hb⟩ := h; have HR := Lib.hid hr; have HB := Lib.hid hb; clear hr hb))
  go_ret
  exact ⟨_, rfl, HR.out, HB.out⟩
theorem wsized_s {w : World} {A : Option Addr} {c : Nat} {l : List UInt8} (hp : Pc A c l w) (hn : l.length ≤ 900000) :
    Calls Tryd.prog 59 #[.slice A l.length c] w (BytesL (lebL l.length ++ l) w) := by
  have HP := Lib.hid hp
  have HZ := Lib.hid (fun w => wsize_s l.length w (by omega))
  have hlen := lebL_len (l.length : Int) (by omega)
  clear hp
  generalize lebL (l.length : Int) = y at *
  go_enter Tryd.func59, Tryd.ntmps59
  go_wp2_with (first
    | (go_at_call 96; go_must ((with_reducible refine (HZ.out _).mono ?_); intro e w1 h; obtain ⟨v, rfl, hr, hb⟩ := h; have HR := Lib.hid hr; have HB := Lib.hid hb; have hz1 := hb.size; have HP1 := Lib.hid (HP.out.below hb); clear hr hb))
    | (at_builtin; (refine row_any rfl _ _ rfl w.heap.size _ y rfl HR.out A l.length c _ l rfl rfl HP1.out.lies HP1.out.nil (by omega) hz1 ?_; intro v2 w2 hr2 hb2; have HR2 := Lib.hid hr2; have HB2 := Lib.hid hb2; clear hr2 hb2)))
  go_ret
  exact ⟨_, rfl, HR2.out, HB.out.trans HB2.out⟩
set_option maxHeartbeats 1600000 in
/-- Concat of two pieces, of which one at least is not empty. -/
theorem concat2 {w : World} {g : Nat} {A1 A2 : Option Addr} {c1 c2 : Nat} {l1 l2 : List UInt8} (hg : Whole w g 25 #[.slice A1 l1.length c1, .slice A2 l2.length c2])
    (h1 : Pc A1 c1 l1 w) (h2 : Pc A2 c2 l2 w) (n1 : 0 < l1.length + l2.length) (n2 : l1.length + l2.length ≤ 1000000) :
    Calls Tryd.prog 58 #[.slice (some ⟨g, 0, none⟩) 2 2] w (BytesL (l1 ++ l2) w) := by
  have g0 : w.cell? ⟨g, 0, none⟩ = some (.slice A1 l1.length c1) := hg.cell 0
  have g1 : w.cell? ⟨g, 1, none⟩ = some (.slice A2 l2.length c2) := hg.cell 1
  obtain ⟨m1, hm1⟩ : ∃ m, m = l1.length := ⟨_, rfl⟩
  obtain ⟨m2, hm2⟩ : ∃ m, m = l2.length := ⟨_, rfl⟩
  rw [← hm1, ← hm2] at n1 n2
  rw [← hm1] at g0
  rw [← hm2] at g1
  have HG := Lib.hid hg
  have H1 := Lib.hid h1
  have H2 := Lib.hid h2
  have HM1 := Lib.hid hm1
  have HM2 := Lib.hid hm2
  clear hg h1 h2 hm1 hm2
  have HGr := Lib.hid (grow_any (m1 + m2) w (by omega) n2)
  go_enter Tryd.func58, Tryd.ntmps58
  go_wp2
  go_loop [3, 11] (fun s i => (s = .int .i64 0 ∧ i = .int .i64 0) ∨ (s = .int .i64 m1 ∧ i = .int .i64 1) ∨ (s = .int .i64 ((m1 + m2 : Nat) : Int) ∧ i = .int .i64 2)) (fun _ i => 2 - (intOf i).toNat)
  case atStart => exact .inl ⟨rfl, rfl⟩
  case round =>
    rcases hrel with ⟨rfl, rfl⟩ | ⟨rfl, rfl⟩ | ⟨rfl, rfl⟩
    · go_wp2
      go_round
      case rel => exact .inr (.inl ⟨by go_num, rfl⟩)
      case measure => simp [intOf]
    · go_wp2
      go_round
      case rel => exact .inr (.inr ⟨by go_num, rfl⟩)
      case measure => simp [intOf]
    · go_wp2_with (go_at_call 95; go_must (refine HGr.out.mono ?_; intro e w1 h; obtain ⟨v1, rfl, hr1, hb1⟩ := h; have HR1 := Lib.hid hr1; have HB1 := Lib.hid hb1; clear hr1 hb1))
      go_loopw [6, 27] (fun v i wr => Below w.heap.size w wr ∧ ((Row wr w.heap.size v [] ∧ i = .int .i64 0) ∨ (Row wr w.heap.size v l1 ∧ i = .int .i64 1) ∨ (Row wr w.heap.size v (l1 ++ l2) ∧ i = .int .i64 2))) (fun _ i _ => 2 - (intOf i).toNat)
      case atStart => exact ⟨HB1.out, .inl ⟨HR1.out, rfl⟩⟩
      case round =>
        obtain ⟨hb, ⟨hr, rfl⟩ | ⟨hr, rfl⟩ | ⟨hr, rfl⟩⟩ := hrel
        · have c0 : wr.cell? ⟨g, 0, none⟩ = some (.slice A1 m1 c1) := by have := (HG.out.below hb).cell 0; rw [HM1.out]; exact this
          have HR := Lib.hid hr
          have HB := Lib.hid hb
          have hz := hb.size
          clear hr hb
          go_wp2_with (at_builtin; (refine row_any rfl _ _ rfl w.heap.size _ [] rfl HR.out A1 m1 c1 wr.heap.size l1 rfl HM1.out.symm (H1.out.below HB.out).lies H1.out.nil (by have := HM1.out; have := HM2.out; (try simp only [List.length_nil]); omega) hz ?_; intro v2 w2 hr2 hb2; have HR2 := Lib.hid hr2; have HB2 := Lib.hid hb2; clear hr2 hb2))
          go_roundw
          case rel => exact ⟨HB.out.trans HB2.out, .inr (.inl ⟨by simpa using HR2.out, rfl⟩)⟩
          case measure => simp [intOf]
        · have c0 : wr.cell? ⟨g, 1, none⟩ = some (.slice A2 m2 c2) := by have := (HG.out.below hb).cell 1; rw [HM2.out]; exact this
          have HR := Lib.hid hr
          have HB := Lib.hid hb
          have hz := hb.size
          clear hr hb
          go_wp2_with (at_builtin; (refine row_any rfl _ _ rfl w.heap.size _ l1 rfl HR.out A2 m2 c2 wr.heap.size l2 rfl HM2.out.symm (H2.out.below HB.out).lies H2.out.nil (by have := HM1.out; have := HM2.out; (try simp only [List.length_append, List.length_nil]); omega) hz ?_; intro v2 w2 hr2 hb2; have HR2 := Lib.hid hr2; have HB2 := Lib.hid hb2; clear hr2 hb2))
          go_roundw
          case rel => exact ⟨HB.out.trans HB2.out, .inr (.inr ⟨HR2.out, rfl⟩)⟩
          case measure => simp [intOf]
        · have HR := Lib.hid hr
          have HB := Lib.hid hb
          clear hr hb
          go_wp2
          go_ret
          exact ⟨_, rfl, HR.out, HB.out⟩
set_option maxHeartbeats 1600000 in
theorem put_other (x : Sct) (A : Option Addr) (c : Nat) (w : World) (hp : Pc A c x.body w) (hn : x.name.length ≤ 100000) (hb : x.body.length ≤ 100000) (h0 : ¬ x.id.toNat = 0) :
    Calls Tryd.prog 11 #[secV x A c] w (BytesL (sputL x) w) := by
  have hW := Whole.made w 27 (secK x A c)
  have hb0 := below_box w (.cells (secK x A c) 27)
  have k0 := hW.cell 0
  have k1 := hW.cell 1
  have k2 := hW.cell 2
  simp only [secK, List.getElem?_toArray, List.getElem?_cons_zero, List.getElem?_cons_succ] at k0 k1 k2
  have HP0 := Lib.hid (hp.below hb0)
  have e0 : ((x.id.toNat : Int) == 0) = false := by simp; omega
  have hin : innerL x = x.body := by unfold innerL; rw [if_neg h0]
  obtain ⟨Y, hY⟩ : ∃ Y, Y = lebL (x.body.length : Int) ++ x.body := ⟨_, rfl⟩
  have hsp : sputL x = [x.id] ++ Y := by unfold sputL; rw [hin, hY, List.append_assoc]
  have hYl : Y.length ≤ 100010 := by have := lebL_len (x.body.length : Int) (by omega); rw [hY, List.length_append]; omega
  have HZS := Lib.hid (fun W A c (h : Pc A c x.body W) => show Calls Tryd.prog 59 #[.slice A x.body.length c] W (BytesL Y W) from by rw [hY]; exact wsized_s h (by omega))
  have HSP := Lib.hid hsp
  have HYL := Lib.hid hYl
  clear h0 hin hsp hW hp hY hYl
  unfold secV
  unfold secK at HP0 hb0
  go_enter Tryd.func11, Tryd.ntmps11
  go_upto_region 4 with fail
  generalize w.alloc (.cells #[.int .u8 x.id.toNat, .string (S x.name), .slice A x.body.length c, .int .i64 x.off] 27) = W0 at *
  have HBE := Lib.hid hb0
  clear hb0 k1 k2
  refine wp_region_noPanic ?_
  refine wp_region_held_drew (S := fun W => W.cell? ⟨w.heap.size, 0, none⟩ = some (.int .u8 x.id.toNat) ∧ Below W0.heap.size W0 W) (by kernel_rfl) ⟨k0, (Below.refl _ _).drew⟩ (fun hHeld => ?_)
  (refine heldTake (i := 0) (oi := { dst := some 15, op := Op.fieldAddr 27 (Operand.tmp 1) 0, type := 0, pos := "sect.go:97", after := #[], guard := none }) (v := ?_) rfl (by kernel_rfl) (by kernel_rfl) (by kernel_rfl) (by assumption) ?_ ?_; rotate_left; focus (refine .inl ⟨by kernel_rfl, ?_⟩; intro w hSw; (try dsimp only at hSw); go_simp; (try with_reducible rfl)); (try simp only [Act.put, List.setIfInBounds_toArray, List.set_cons_zero, List.set_cons_succ]))
  (refine heldTake (i := 1) (oi := { dst := some 16, op := Op.load 5 (Operand.tmp 15), type := 5, pos := "sect.go:97", after := #[{ on := 0, ground := Ground.data }], guard := none }) (v := ?_) rfl (by kernel_rfl) (by kernel_rfl) (by kernel_rfl) (by assumption) ?_ ?_; rotate_left; focus (refine .inl ⟨by kernel_rfl, ?_⟩; intro w hSw; (try dsimp only at hSw); go_simp; (try with_reducible rfl)); (try simp only [Act.put, List.setIfInBounds_toArray, List.set_cons_zero, List.set_cons_succ]))
  (refine heldTake (i := 3) (oi := { dst := some 18, op := Op.move (Operand.tmp 3), type := 25, pos := "sect.go:97", after := #[], guard := none }) (v := ?_) rfl (by kernel_rfl) (by kernel_rfl) (by kernel_rfl) (by assumption) ?_ ?_; rotate_left; focus (refine .inl ⟨by kernel_rfl, ?_⟩; intro w hSw; (try dsimp only at hSw); go_simp; (try with_reducible rfl)); (try simp only [Act.put, List.setIfInBounds_toArray, List.set_cons_zero, List.set_cons_succ]))
  refine wpAnyH_ready (rs := [2, 4]) (by kernel_rfl) (by simp) ?_
  refine (AllReadyH.cons (o := { dst := some 17, op := Op.buildSlice 25 1 #[(0, Operand.tmp 16)], type := 25, pos := "sect.go:97", after := #[{ on := 1, ground := Ground.data }], guard := none }) rfl (fun K hK => ?_) (AllReadyH.cons (o := { dst := some 19, op := Op.call { callee := Callee.value (Operand.func 59), args := #[Operand.tmp 18], argTypes := #[25] }, type := 25, pos := "sect.go:97", after := #[{ on := 3, ground := Ground.data }], guard := none }) rfl (fun K hK => ?_) AllReadyH.nil))
  · refine step_build1 rfl _ rfl x.id rfl ?_; intro g2 wa2 hg2 hb2 hp2; have HB2 := Lib.hid hb2; have HP2 := Lib.hid hp2; clear hb2 hp2
    refine hK.out _ _ (hold1 hHeld HB2.out) (fun hHeld2 => ?_)
    clear hK K hHeld
    (try simp only [Act.put, List.setIfInBounds_toArray, List.set_cons_zero, List.set_cons_succ])
    refine wpAnyH_ready (rs := [4]) (by kernel_rfl) (by simp) ?_
    refine (AllReadyH.cons (o := { dst := some 19, op := Op.call { callee := Callee.value (Operand.func 59), args := #[Operand.tmp 18], argTypes := #[25] }, type := 25, pos := "sect.go:97", after := #[{ on := 3, ground := Ground.data }], guard := none }) rfl (fun K hK => ?_) AllReadyH.nil)
    go_simp
    (go_at_call 59; (with_reducible refine (HZS.out _ _ _ (HP0.out.below hHeld2.2)).mono ?_); rintro e w5 ⟨v5, rfl, hr5, hb5⟩; obtain ⟨A5, c5, rfl, hp5⟩ := hr5.pc; have HB4 := Lib.hid hb5; have HP4 := Lib.hid hp5; clear hb5 hp5 hr5)
    refine hK.out _ _ (hold1 hHeld2 HB4.out) (fun hHeld4 => ?_)
    clear hK K hHeld2
    (try simp only [Act.put, List.setIfInBounds_toArray, List.set_cons_zero, List.set_cons_succ])
    refine wpAnyH_ready (rs := [5]) (by kernel_rfl) (by simp) ?_
    refine (AllReadyH.cons (o := { dst := some 20, op := Op.buildSlice 140 2 #[(0, Operand.tmp 17), (1, Operand.tmp 19)], type := 140, pos := "sect.go:97", after := #[{ on := 2, ground := Ground.data }, { on := 4, ground := Ground.data }], guard := none }) rfl (fun K hK => ?_) AllReadyH.nil)
    refine step_build2 rfl _ _ rfl rfl rfl ?_; intro g7 wa7 hg7 hb7 hw7; have HB5 := Lib.hid hb7; have HW5 := Lib.hid hw7; clear hb7 hw7
    refine hK.out _ _ (hold1 hHeld4 HB5.out) (fun hHeld5 => ?_)
    clear hK K hHeld4
    (try simp only [Act.put, List.setIfInBounds_toArray, List.set_cons_zero, List.set_cons_succ])
    refine wpAnyH_ready (rs := [6]) (by kernel_rfl) (by simp) ?_
    refine (AllReadyH.cons (o := { dst := some 21, op := Op.call { callee := Callee.value (Operand.func 58), args := #[Operand.tmp 20], argTypes := #[140] }, type := 25, pos := "sect.go:97", after := #[{ on := 5, ground := Ground.data }, { on := 4, ground := Ground.chain }], guard := none }) rfl (fun K hK => ?_) AllReadyH.nil)
    go_simp
    (go_at_call 58; (with_reducible refine (concat2 (l1 := [x.id]) HW5.out (((((HP2.out).below HB4.out)).below HB5.out)) (((HP4.out).below HB5.out)) (by have : ([x.id] : List UInt8).length = 1 := rfl; omega) (by have : ([x.id] : List UInt8).length = 1 := rfl; have := HYL.out; omega)).mono ?_); rintro e w8 ⟨v8, rfl, hr8, hb8⟩; have hz8 := Nat.le_trans HBE.out.size hHeld5.2.size; have HB6 := Lib.hid hb8; have HR8 := Lib.hid hr8; clear hb8 hr8)
    refine hK.out _ _ (hold1 hHeld5 HB6.out) (fun hHeld6 => ?_)
    clear hK K hHeld5
    (try simp only [Act.put, List.setIfInBounds_toArray, List.set_cons_zero, List.set_cons_succ])
    (refine heldTake (i := 7) (oi := { dst := some 2, op := Op.assign (Operand.tmp 21), type := 25, pos := "sect.go:97", after := #[{ on := 6, ground := Ground.data }, { on := 6, ground := Ground.chain }, { on := 0, ground := Ground.phase }, { on := 1, ground := Ground.phase }, { on := 2, ground := Ground.phase }, { on := 3, ground := Ground.phase }, { on := 4, ground := Ground.phase }, { on := 5, ground := Ground.phase }, { on := 6, ground := Ground.phase }], guard := none }) (v := ?_) rfl (by kernel_rfl) (by kernel_rfl) (by kernel_rfl) (by assumption) ?_ ?_; rotate_left; focus (refine .inl ⟨by kernel_rfl, ?_⟩; intro w hSw; (try dsimp only at hSw); go_simp; (try with_reducible rfl)); (try simp only [Act.put, List.setIfInBounds_toArray, List.set_cons_zero, List.set_cons_succ]))
    refine wpAnyH_done (by kernel_rfl) ?_ _
    refine NoPanic.normal ?_
    have hLast := hHeld6
    clear hHeld6
    go_wp2
    go_ret
    exact ⟨_, rfl, by rw [HSP.out]; exact HR8.out.mono hz8, HBE.out.trans (hLast.2.mono HBE.out.size)⟩
  · go_simp
    (go_at_call 59; (with_reducible refine (HZS.out _ _ _ (HP0.out.below hHeld.2)).mono ?_); rintro e w5 ⟨v5, rfl, hr5, hb5⟩; obtain ⟨A5, c5, rfl, hp5⟩ := hr5.pc; have HB4 := Lib.hid hb5; have HP4 := Lib.hid hp5; clear hb5 hp5 hr5)
    refine hK.out _ _ (hold1 hHeld HB4.out) (fun hHeld4 => ?_)
    clear hK K hHeld
    (try simp only [Act.put, List.setIfInBounds_toArray, List.set_cons_zero, List.set_cons_succ])
    refine wpAnyH_ready (rs := [2]) (by kernel_rfl) (by simp) ?_
    refine (AllReadyH.cons (o := { dst := some 17, op := Op.buildSlice 25 1 #[(0, Operand.tmp 16)], type := 25, pos := "sect.go:97", after := #[{ on := 1, ground := Ground.data }], guard := none }) rfl (fun K hK => ?_) AllReadyH.nil)
    refine step_build1 rfl _ rfl x.id rfl ?_; intro g2 wa2 hg2 hb2 hp2; have HB2 := Lib.hid hb2; have HP2 := Lib.hid hp2; clear hb2 hp2
    refine hK.out _ _ (hold1 hHeld4 HB2.out) (fun hHeld2 => ?_)
    clear hK K hHeld4
    (try simp only [Act.put, List.setIfInBounds_toArray, List.set_cons_zero, List.set_cons_succ])
    refine wpAnyH_ready (rs := [5]) (by kernel_rfl) (by simp) ?_
    refine (AllReadyH.cons (o := { dst := some 20, op := Op.buildSlice 140 2 #[(0, Operand.tmp 17), (1, Operand.tmp 19)], type := 140, pos := "sect.go:97", after := #[{ on := 2, ground := Ground.data }, { on := 4, ground := Ground.data }], guard := none }) rfl (fun K hK => ?_) AllReadyH.nil)
    refine step_build2 rfl _ _ rfl rfl rfl ?_; intro g7 wa7 hg7 hb7 hw7; have HB5 := Lib.hid hb7; have HW5 := Lib.hid hw7; clear hb7 hw7
    refine hK.out _ _ (hold1 hHeld2 HB5.out) (fun hHeld5 => ?_)
    clear hK K hHeld2
    (try simp only [Act.put, List.setIfInBounds_toArray, List.set_cons_zero, List.set_cons_succ])
    refine wpAnyH_ready (rs := [6]) (by kernel_rfl) (by simp) ?_
    refine (AllReadyH.cons (o := { dst := some 21, op := Op.call { callee := Callee.value (Operand.func 58), args := #[Operand.tmp 20], argTypes := #[140] }, type := 25, pos := "sect.go:97", after := #[{ on := 5, ground := Ground.data }, { on := 4, ground := Ground.chain }], guard := none }) rfl (fun K hK => ?_) AllReadyH.nil)
    go_simp
    (go_at_call 58; (with_reducible refine (concat2 (l1 := [x.id]) HW5.out (((HP2.out).below HB5.out)) (((((HP4.out).below HB2.out)).below HB5.out)) (by have : ([x.id] : List UInt8).length = 1 := rfl; omega) (by have : ([x.id] : List UInt8).length = 1 := rfl; have := HYL.out; omega)).mono ?_); rintro e w8 ⟨v8, rfl, hr8, hb8⟩; have hz8 := Nat.le_trans HBE.out.size hHeld5.2.size; have HB6 := Lib.hid hb8; have HR8 := Lib.hid hr8; clear hb8 hr8)
    refine hK.out _ _ (hold1 hHeld5 HB6.out) (fun hHeld6 => ?_)
    clear hK K hHeld5
    (try simp only [Act.put, List.setIfInBounds_toArray, List.set_cons_zero, List.set_cons_succ])
    (refine heldTake (i := 7) (oi := { dst := some 2, op := Op.assign (Operand.tmp 21), type := 25, pos := "sect.go:97", after := #[{ on := 6, ground := Ground.data }, { on := 6, ground := Ground.chain }, { on := 0, ground := Ground.phase }, { on := 1, ground := Ground.phase }, { on := 2, ground := Ground.phase }, { on := 3, ground := Ground.phase }, { on := 4, ground := Ground.phase }, { on := 5, ground := Ground.phase }, { on := 6, ground := Ground.phase }], guard := none }) (v := ?_) rfl (by kernel_rfl) (by kernel_rfl) (by kernel_rfl) (by assumption) ?_ ?_; rotate_left; focus (refine .inl ⟨by kernel_rfl, ?_⟩; intro w hSw; (try dsimp only at hSw); go_simp; (try with_reducible rfl)); (try simp only [Act.put, List.setIfInBounds_toArray, List.set_cons_zero, List.set_cons_succ]))
    refine wpAnyH_done (by kernel_rfl) ?_ _
    refine NoPanic.normal ?_
    have hLast := hHeld6
    clear hHeld6
    go_wp2
    go_ret
    exact ⟨_, rfl, by rw [HSP.out]; exact HR8.out.mono hz8, HBE.out.trans (hLast.2.mono HBE.out.size)⟩
set_option maxHeartbeats 1600000 in
theorem put_custom (x : Sct) (A : Option Addr) (c : Nat) (w : World) (hp : Pc A c x.body w) (hn : x.name.length ≤ 100000) (hb : x.body.length ≤ 100000) (h0 : x.id.toNat = 0) :
    Calls Tryd.prog 11 #[secV x A c] w (BytesL (sputL x) w) := by
  have hW := Whole.made w 27 (secK x A c)
  have hb0 := below_box w (.cells (secK x A c) 27)
  have k0 := hW.cell 0
  have k1 := hW.cell 1
  have k2 := hW.cell 2
  simp only [secK, List.getElem?_toArray, List.getElem?_cons_zero, List.getElem?_cons_succ] at k0 k1 k2
  have HP0 := Lib.hid (hp.below hb0)
  have e0 : ((x.id.toNat : Int) == 0) = true := by simp; omega
  have hin : innerL x = lebL x.name.length ++ x.name ++ x.body := by unfold innerL; rw [if_pos h0]
  have hl0 := innerL_len hn hb (by omega)
  obtain ⟨T, hT⟩ : ∃ T, T = lebL (x.name.length : Int) ++ x.name := ⟨_, rfl⟩
  obtain ⟨L, hL⟩ : ∃ L, L = innerL x := ⟨_, rfl⟩
  rw [← hL] at hl0
  obtain ⟨Y, hY⟩ : ∃ Y, Y = lebL (L.length : Int) ++ L := ⟨_, rfl⟩
  have hsp : sputL x = [x.id] ++ Y := by unfold sputL; rw [hY, hL, List.append_assoc]
  have hYl : Y.length ≤ 300000 := by have := lebL_len (L.length : Int) (by omega); rw [hY, List.length_append]; omega
  have hLT : T ++ x.body = L := by rw [hL, hin, hT]
  have HLT := Lib.hid hLT
  have hTl : T.length + x.body.length ≤ 1000000 := by have := congrArg List.length hLT; rw [List.length_append] at this; omega
  have HZS := Lib.hid (fun W A c (h : Pc A c L W) => show Calls Tryd.prog 59 #[.slice A L.length c] W (BytesL Y W) from by rw [hY]; exact wsized_s h (by omega))
  have HNM := Lib.hid (fun W => show Calls Tryd.prog 57 #[.string (S x.name)] W (BytesL T W) from by rw [hT]; exact wname_s x.name W hn)
  have HSP := Lib.hid hsp
  have HYL := Lib.hid hYl
  have HTL := Lib.hid hTl
  clear h0 hin hsp hW hp hL hl0 hT hY hYl hLT hTl
  unfold secV
  unfold secK at HP0 hb0
  go_enter Tryd.func11, Tryd.ntmps11
  go_upto_region 3 with fail
  generalize w.alloc (.cells #[.int .u8 x.id.toNat, .string (S x.name), .slice A x.body.length c, .int .i64 x.off] 27) = W0 at *
  have HBE := Lib.hid hb0
  clear hb0
  have hlt0 : w.heap.size < W0.heap.size := block_lt_of_cell k1
  go_cut [3] (fun s W => ∃ A c, s = .slice A L.length c ∧ Pc A c L W ∧ Below W0.heap.size W0 W)
  case first =>
    refine wp_region_noPanic ?_
    refine wp_region_held_drew (S := fun W => W.cell? ⟨w.heap.size, 1, none⟩ = some (.string (S x.name)) ∧ W.cell? ⟨w.heap.size, 2, none⟩ = some (.slice A x.body.length c) ∧ Below W0.heap.size W0 W) (by kernel_rfl) ⟨k1, k2, (Below.refl _ _).drew⟩ (fun hHeld => ?_)
    (refine heldTake (i := 0) (oi := { dst := some 9, op := Op.fieldAddr 27 (Operand.tmp 1) 1, type := 0, pos := "sect.go:95", after := #[], guard := none }) (v := ?_) rfl (by kernel_rfl) (by kernel_rfl) (by kernel_rfl) (by assumption) ?_ ?_; rotate_left; focus (refine .inl ⟨by kernel_rfl, ?_⟩; intro w hSw; (try dsimp only at hSw); go_simp; (try with_reducible rfl)); (try simp only [Act.put, List.setIfInBounds_toArray, List.set_cons_zero, List.set_cons_succ]))
    (refine heldTake (i := 1) (oi := { dst := some 10, op := Op.load 9 (Operand.tmp 9), type := 9, pos := "sect.go:95", after := #[{ on := 0, ground := Ground.data }], guard := none }) (v := ?_) rfl (by kernel_rfl) (by kernel_rfl) (by kernel_rfl) (by assumption) ?_ ?_; rotate_left; focus (refine .inl ⟨by kernel_rfl, ?_⟩; intro w hSw; (try dsimp only at hSw); go_simp; (try with_reducible rfl)); (try simp only [Act.put, List.setIfInBounds_toArray, List.set_cons_zero, List.set_cons_succ]))
    (refine heldTake (i := 3) (oi := { dst := some 12, op := Op.fieldAddr 27 (Operand.tmp 1) 2, type := 0, pos := "sect.go:95", after := #[], guard := none }) (v := ?_) rfl (by kernel_rfl) (by kernel_rfl) (by kernel_rfl) (by assumption) ?_ ?_; rotate_left; focus (refine .inl ⟨by kernel_rfl, ?_⟩; intro w hSw; (try dsimp only at hSw); go_simp; (try with_reducible rfl)); (try simp only [Act.put, List.setIfInBounds_toArray, List.set_cons_zero, List.set_cons_succ]))
    (refine heldTake (i := 4) (oi := { dst := some 13, op := Op.load 25 (Operand.tmp 12), type := 25, pos := "sect.go:95", after := #[{ on := 3, ground := Ground.data }], guard := none }) (v := ?_) rfl (by kernel_rfl) (by kernel_rfl) (by kernel_rfl) (by assumption) ?_ ?_; rotate_left; focus (refine .inl ⟨by kernel_rfl, ?_⟩; intro w hSw; (try dsimp only at hSw); go_simp; (try with_reducible rfl)); (try simp only [Act.put, List.setIfInBounds_toArray, List.set_cons_zero, List.set_cons_succ]))
    refine wpAnyH_ready (rs := [2]) (by kernel_rfl) (by simp) ?_
    refine (AllReadyH.cons (o := { dst := some 11, op := Op.call { callee := Callee.value (Operand.func 57), args := #[Operand.tmp 10], argTypes := #[9] }, type := 25, pos := "sect.go:95", after := #[{ on := 1, ground := Ground.data }], guard := none }) rfl (fun K hK => ?_) AllReadyH.nil)
    go_simp
    (go_at_call 57; (with_reducible refine (HNM.out _).mono ?_); rintro e w3 ⟨v3, rfl, hr3, hb3⟩; have HB2 := Lib.hid hb3; have HR3 := Lib.hid hr3; clear hb3 hr3)
    refine hK.out _ _ (hold2 hHeld HB2.out) (fun hHeld2 => ?_)
    clear hK K hHeld
    (try simp only [Act.put, List.setIfInBounds_toArray, List.set_cons_zero, List.set_cons_succ])
    refine wpAnyH_ready (rs := [5]) (by kernel_rfl) (by simp) ?_
    refine (AllReadyH.cons (o := { dst := some 14, op := Op.call { callee := Callee.builtin Builtin.append, args := #[Operand.tmp 11, Operand.tmp 13], argTypes := #[25, 25] }, type := 25, pos := "sect.go:95", after := #[{ on := 2, ground := Ground.data }, { on := 4, ground := Ground.data }, { on := 2, ground := Ground.chain }], guard := none }) rfl (fun K hK => ?_) AllReadyH.nil)
    refine step_anyS rfl _ _ rfl _ _ T rfl HR3.out A x.body.length c x.body rfl rfl (HP0.out.below hHeld2.2.2) HTL.out HB2.out.size ?_; intro v5 w5 hr5 hb5; rw [HLT.out] at hr5; obtain ⟨A5, c5, rfl, hp5⟩ := hr5.pc; have HP5 := Lib.hid hp5; have hk5 := And.intro ((hb5.cell (p := ⟨w.heap.size, 1, none⟩) hlt0).trans hHeld2.1) (And.intro ((hb5.cell (p := ⟨w.heap.size, 2, none⟩) hlt0).trans hHeld2.2.1) (hHeld2.2.2.trans (hb5.mono (Nat.le_refl _)))); clear hr5 hp5 hb5
    refine hK.out _ _ hk5 (fun hHeld5 => ?_)
    clear hK K hHeld2
    (try simp only [Act.put, List.setIfInBounds_toArray, List.set_cons_zero, List.set_cons_succ])
    (refine heldTake (i := 6) (oi := { dst := some 3, op := Op.assign (Operand.tmp 14), type := 25, pos := "sect.go:95", after := #[{ on := 5, ground := Ground.data }, { on := 5, ground := Ground.chain }, { on := 0, ground := Ground.phase }, { on := 1, ground := Ground.phase }, { on := 2, ground := Ground.phase }, { on := 3, ground := Ground.phase }, { on := 4, ground := Ground.phase }, { on := 5, ground := Ground.phase }], guard := none }) (v := ?_) rfl (by kernel_rfl) (by kernel_rfl) (by kernel_rfl) (by assumption) ?_ ?_; rotate_left; focus (refine .inl ⟨by kernel_rfl, ?_⟩; intro w hSw; (try dsimp only at hSw); go_simp; (try with_reducible rfl)); (try simp only [Act.put, List.setIfInBounds_toArray, List.set_cons_zero, List.set_cons_succ]))
    refine wpAnyH_done (by kernel_rfl) ?_ _
    refine NoPanic.normal ?_
    have hLast := hHeld5
    clear hHeld5
    go_wp2
    go_meet
    exact ⟨A5, c5, rfl, HP5.out, hLast.2.2⟩
  case rest =>
    obtain ⟨A9, c9, rfl, hp9, hb9⟩ := hcut
    have k9 := (hb9.cell (p := ⟨w.heap.size, 0, none⟩) (block_lt_of_cell k0)).trans k0
    have HBE9 := Lib.hid (HBE.out.trans (hb9.mono HBE.out.size))
    have HP9 := Lib.hid hp9
    clear hp9 hb9 k0 k1 k2 HP0 HBE
    go_upto_region 4 with fail
    refine wp_region_noPanic ?_
    refine wp_region_held_drew (S := fun W => W.cell? ⟨w.heap.size, 0, none⟩ = some (.int .u8 x.id.toNat) ∧ Below wc.heap.size wc W) (by kernel_rfl) ⟨k9, (Below.refl _ _).drew⟩ (fun hHeld => ?_)
    (refine heldTake (i := 0) (oi := { dst := some 15, op := Op.fieldAddr 27 (Operand.tmp 1) 0, type := 0, pos := "sect.go:97", after := #[], guard := none }) (v := ?_) rfl (by kernel_rfl) (by kernel_rfl) (by kernel_rfl) (by assumption) ?_ ?_; rotate_left; focus (refine .inl ⟨by kernel_rfl, ?_⟩; intro w hSw; (try dsimp only at hSw); go_simp; (try with_reducible rfl)); (try simp only [Act.put, List.setIfInBounds_toArray, List.set_cons_zero, List.set_cons_succ]))
    (refine heldTake (i := 1) (oi := { dst := some 16, op := Op.load 5 (Operand.tmp 15), type := 5, pos := "sect.go:97", after := #[{ on := 0, ground := Ground.data }], guard := none }) (v := ?_) rfl (by kernel_rfl) (by kernel_rfl) (by kernel_rfl) (by assumption) ?_ ?_; rotate_left; focus (refine .inl ⟨by kernel_rfl, ?_⟩; intro w hSw; (try dsimp only at hSw); go_simp; (try with_reducible rfl)); (try simp only [Act.put, List.setIfInBounds_toArray, List.set_cons_zero, List.set_cons_succ]))
    (refine heldTake (i := 3) (oi := { dst := some 18, op := Op.move (Operand.tmp 3), type := 25, pos := "sect.go:97", after := #[], guard := none }) (v := ?_) rfl (by kernel_rfl) (by kernel_rfl) (by kernel_rfl) (by assumption) ?_ ?_; rotate_left; focus (refine .inl ⟨by kernel_rfl, ?_⟩; intro w hSw; (try dsimp only at hSw); go_simp; (try with_reducible rfl)); (try simp only [Act.put, List.setIfInBounds_toArray, List.set_cons_zero, List.set_cons_succ]))
    refine wpAnyH_ready (rs := [2, 4]) (by kernel_rfl) (by simp) ?_
    refine (AllReadyH.cons (o := { dst := some 17, op := Op.buildSlice 25 1 #[(0, Operand.tmp 16)], type := 25, pos := "sect.go:97", after := #[{ on := 1, ground := Ground.data }], guard := none }) rfl (fun K hK => ?_) (AllReadyH.cons (o := { dst := some 19, op := Op.call { callee := Callee.value (Operand.func 59), args := #[Operand.tmp 18], argTypes := #[25] }, type := 25, pos := "sect.go:97", after := #[{ on := 3, ground := Ground.data }], guard := none }) rfl (fun K hK => ?_) AllReadyH.nil))
    · refine step_build1 rfl _ rfl x.id rfl ?_; intro g2 wa2 hg2 hb2 hp2; have HB2 := Lib.hid hb2; have HP2 := Lib.hid hp2; clear hb2 hp2
      refine hK.out _ _ (hold1 hHeld HB2.out) (fun hHeld2 => ?_)
      clear hK K hHeld
      (try simp only [Act.put, List.setIfInBounds_toArray, List.set_cons_zero, List.set_cons_succ])
      refine wpAnyH_ready (rs := [4]) (by kernel_rfl) (by simp) ?_
      refine (AllReadyH.cons (o := { dst := some 19, op := Op.call { callee := Callee.value (Operand.func 59), args := #[Operand.tmp 18], argTypes := #[25] }, type := 25, pos := "sect.go:97", after := #[{ on := 3, ground := Ground.data }], guard := none }) rfl (fun K hK => ?_) AllReadyH.nil)
      go_simp
      (go_at_call 59; (with_reducible refine (HZS.out _ _ _ (HP9.out.below hHeld2.2)).mono ?_); rintro e w5 ⟨v5, rfl, hr5, hb5⟩; obtain ⟨A5, c5, rfl, hp5⟩ := hr5.pc; have HB4 := Lib.hid hb5; have HP4 := Lib.hid hp5; clear hb5 hp5 hr5)
      refine hK.out _ _ (hold1 hHeld2 HB4.out) (fun hHeld4 => ?_)
      clear hK K hHeld2
      (try simp only [Act.put, List.setIfInBounds_toArray, List.set_cons_zero, List.set_cons_succ])
      refine wpAnyH_ready (rs := [5]) (by kernel_rfl) (by simp) ?_
      refine (AllReadyH.cons (o := { dst := some 20, op := Op.buildSlice 140 2 #[(0, Operand.tmp 17), (1, Operand.tmp 19)], type := 140, pos := "sect.go:97", after := #[{ on := 2, ground := Ground.data }, { on := 4, ground := Ground.data }], guard := none }) rfl (fun K hK => ?_) AllReadyH.nil)
      refine step_build2 rfl _ _ rfl rfl rfl ?_; intro g7 wa7 hg7 hb7 hw7; have HB5 := Lib.hid hb7; have HW5 := Lib.hid hw7; clear hb7 hw7
      refine hK.out _ _ (hold1 hHeld4 HB5.out) (fun hHeld5 => ?_)
      clear hK K hHeld4
      (try simp only [Act.put, List.setIfInBounds_toArray, List.set_cons_zero, List.set_cons_succ])
      refine wpAnyH_ready (rs := [6]) (by kernel_rfl) (by simp) ?_
      refine (AllReadyH.cons (o := { dst := some 21, op := Op.call { callee := Callee.value (Operand.func 58), args := #[Operand.tmp 20], argTypes := #[140] }, type := 25, pos := "sect.go:97", after := #[{ on := 5, ground := Ground.data }, { on := 4, ground := Ground.chain }], guard := none }) rfl (fun K hK => ?_) AllReadyH.nil)
      go_simp
      (go_at_call 58; (with_reducible refine (concat2 (l1 := [x.id]) HW5.out (((((HP2.out).below HB4.out)).below HB5.out)) (((HP4.out).below HB5.out)) (by have : ([x.id] : List UInt8).length = 1 := rfl; omega) (by have : ([x.id] : List UInt8).length = 1 := rfl; have := HYL.out; omega)).mono ?_); rintro e w8 ⟨v8, rfl, hr8, hb8⟩; have hz8 := Nat.le_trans HBE9.out.size hHeld5.2.size; have HB6 := Lib.hid hb8; have HR8 := Lib.hid hr8; clear hb8 hr8)
      refine hK.out _ _ (hold1 hHeld5 HB6.out) (fun hHeld6 => ?_)
      clear hK K hHeld5
      (try simp only [Act.put, List.setIfInBounds_toArray, List.set_cons_zero, List.set_cons_succ])
      (refine heldTake (i := 7) (oi := { dst := some 2, op := Op.assign (Operand.tmp 21), type := 25, pos := "sect.go:97", after := #[{ on := 6, ground := Ground.data }, { on := 6, ground := Ground.chain }, { on := 0, ground := Ground.phase }, { on := 1, ground := Ground.phase }, { on := 2, ground := Ground.phase }, { on := 3, ground := Ground.phase }, { on := 4, ground := Ground.phase }, { on := 5, ground := Ground.phase }, { on := 6, ground := Ground.phase }], guard := none }) (v := ?_) rfl (by kernel_rfl) (by kernel_rfl) (by kernel_rfl) (by assumption) ?_ ?_; rotate_left; focus (refine .inl ⟨by kernel_rfl, ?_⟩; intro w hSw; (try dsimp only at hSw); go_simp; (try with_reducible rfl)); (try simp only [Act.put, List.setIfInBounds_toArray, List.set_cons_zero, List.set_cons_succ]))
      refine wpAnyH_done (by kernel_rfl) ?_ _
      refine NoPanic.normal ?_
      have hLast := hHeld6
      clear hHeld6
      go_wp2
      go_ret
      exact ⟨_, rfl, by rw [HSP.out]; exact HR8.out.mono hz8, HBE9.out.trans (hLast.2.mono HBE9.out.size)⟩
    · go_simp
      (go_at_call 59; (with_reducible refine (HZS.out _ _ _ (HP9.out.below hHeld.2)).mono ?_); rintro e w5 ⟨v5, rfl, hr5, hb5⟩; obtain ⟨A5, c5, rfl, hp5⟩ := hr5.pc; have HB4 := Lib.hid hb5; have HP4 := Lib.hid hp5; clear hb5 hp5 hr5)
      refine hK.out _ _ (hold1 hHeld HB4.out) (fun hHeld4 => ?_)
      clear hK K hHeld
      (try simp only [Act.put, List.setIfInBounds_toArray, List.set_cons_zero, List.set_cons_succ])
      refine wpAnyH_ready (rs := [2]) (by kernel_rfl) (by simp) ?_
      refine (AllReadyH.cons (o := { dst := some 17, op := Op.buildSlice 25 1 #[(0, Operand.tmp 16)], type := 25, pos := "sect.go:97", after := #[{ on := 1, ground := Ground.data }], guard := none }) rfl (fun K hK => ?_) AllReadyH.nil)
      refine step_build1 rfl _ rfl x.id rfl ?_; intro g2 wa2 hg2 hb2 hp2; have HB2 := Lib.hid hb2; have HP2 := Lib.hid hp2; clear hb2 hp2
      refine hK.out _ _ (hold1 hHeld4 HB2.out) (fun hHeld2 => ?_)
      clear hK K hHeld4
      (try simp only [Act.put, List.setIfInBounds_toArray, List.set_cons_zero, List.set_cons_succ])
      refine wpAnyH_ready (rs := [5]) (by kernel_rfl) (by simp) ?_
      refine (AllReadyH.cons (o := { dst := some 20, op := Op.buildSlice 140 2 #[(0, Operand.tmp 17), (1, Operand.tmp 19)], type := 140, pos := "sect.go:97", after := #[{ on := 2, ground := Ground.data }, { on := 4, ground := Ground.data }], guard := none }) rfl (fun K hK => ?_) AllReadyH.nil)
      refine step_build2 rfl _ _ rfl rfl rfl ?_; intro g7 wa7 hg7 hb7 hw7; have HB5 := Lib.hid hb7; have HW5 := Lib.hid hw7; clear hb7 hw7
      refine hK.out _ _ (hold1 hHeld2 HB5.out) (fun hHeld5 => ?_)
      clear hK K hHeld2
      (try simp only [Act.put, List.setIfInBounds_toArray, List.set_cons_zero, List.set_cons_succ])
      refine wpAnyH_ready (rs := [6]) (by kernel_rfl) (by simp) ?_
      refine (AllReadyH.cons (o := { dst := some 21, op := Op.call { callee := Callee.value (Operand.func 58), args := #[Operand.tmp 20], argTypes := #[140] }, type := 25, pos := "sect.go:97", after := #[{ on := 5, ground := Ground.data }, { on := 4, ground := Ground.chain }], guard := none }) rfl (fun K hK => ?_) AllReadyH.nil)
      go_simp
      (go_at_call 58; (with_reducible refine (concat2 (l1 := [x.id]) HW5.out (((HP2.out).below HB5.out)) (((((HP4.out).below HB2.out)).below HB5.out)) (by have : ([x.id] : List UInt8).length = 1 := rfl; omega) (by have : ([x.id] : List UInt8).length = 1 := rfl; have := HYL.out; omega)).mono ?_); rintro e w8 ⟨v8, rfl, hr8, hb8⟩; have hz8 := Nat.le_trans HBE9.out.size hHeld5.2.size; have HB6 := Lib.hid hb8; have HR8 := Lib.hid hr8; clear hb8 hr8)
      refine hK.out _ _ (hold1 hHeld5 HB6.out) (fun hHeld6 => ?_)
      clear hK K hHeld5
      (try simp only [Act.put, List.setIfInBounds_toArray, List.set_cons_zero, List.set_cons_succ])
      (refine heldTake (i := 7) (oi := { dst := some 2, op := Op.assign (Operand.tmp 21), type := 25, pos := "sect.go:97", after := #[{ on := 6, ground := Ground.data }, { on := 6, ground := Ground.chain }, { on := 0, ground := Ground.phase }, { on := 1, ground := Ground.phase }, { on := 2, ground := Ground.phase }, { on := 3, ground := Ground.phase }, { on := 4, ground := Ground.phase }, { on := 5, ground := Ground.phase }, { on := 6, ground := Ground.phase }], guard := none }) (v := ?_) rfl (by kernel_rfl) (by kernel_rfl) (by kernel_rfl) (by assumption) ?_ ?_; rotate_left; focus (refine .inl ⟨by kernel_rfl, ?_⟩; intro w hSw; (try dsimp only at hSw); go_simp; (try with_reducible rfl)); (try simp only [Act.put, List.setIfInBounds_toArray, List.set_cons_zero, List.set_cons_succ]))
      refine wpAnyH_done (by kernel_rfl) ?_ _
      refine NoPanic.normal ?_
      have hLast := hHeld6
      clear hHeld6
      go_wp2
      go_ret
      exact ⟨_, rfl, by rw [HSP.out]; exact HR8.out.mono hz8, HBE9.out.trans (hLast.2.mono HBE9.out.size)⟩
theorem put_sect (x : Sct) (A : Option Addr) (c : Nat) (w : World) (hp : Pc A c x.body w) (hn : x.name.length ≤ 100000) (hb : x.body.length ≤ 100000) :
    Calls Tryd.prog 11 #[secV x A c] w (BytesL (sputL x) w) := by
  by_cases h0 : x.id.toNat = 0
  · exact put_custom x A c w hp hn hb h0
  · exact put_other x A c w hp hn hb h0
end Go.Proofs.YtanddfkhokcepaaDoor
