/- abort.Value of a function that ends well, whatever it hands back: []api.Code. Value of one that aborts. -/
import Derived.Test.YtnfhhamkicnpjaaGreatDoorQb03
import Derived.Test.YtnfhhamkicnpjaaGreatDoorQb06
import Derived.RegionTactic
import Derived.Test.YtnfhhamkicnpjaaGreatDoorQb01
import Derived.Test.YtnfhhamkicnpjaaGreatDoorQb07
namespace Go.Proofs.YtnfhhamkicnpjaaGreatDoor
open Go.RowKit
set_option linter.unusedVariables false
set_option maxRecDepth 100000

theorem cfVBds (cap : Array Value) (w : World) : (callFunc 68 cap).run Tryz.prog w = .ok (.enter 68 cap) w := by kernel_rfl
section
variable {T : (Option Addr × Nat × Nat) → World → Prop}
/-- Value's own closure: what the step hands back lies in its cell. -/
theorem valClosBds {g : FuncId} {cap : Array Value} {b1 b4 q : Nat} {w : World} {z : Array Value} (hz : z.size = 1) (hcf : ∀ w : World, (callFunc g cap).run Tryz.prog w = .ok (.enter g cap) w)
    (h1 : Whole w b1 72 #[.func (.func g) #[] cap]) (h4 : Whole w b4 67 #[.slice none 0 0]) (hb : q < b4) (hT : ∀ x W W', T x W → W.grownBy W' (some b4) → T x W')
    (h : Calls Tryz.prog g cap w fun e w' => ∃ x, e = .returned (.slice x.1 x.2.1 x.2.2) ∧ T x w' ∧ w.grownBy w' (some q)) :
    Calls Tryz.prog 68 #[.pointer (some ⟨b1, 0, none⟩), .pointer (some ⟨b4, 0, none⟩)] w fun e w' =>
      e = .returned (.tuple #[]) ∧ ∃ x, T x w' ∧ Whole w' b4 67 #[.slice x.1 x.2.1 x.2.2] ∧ ∃ w1, w.grownBy w1 (some q) ∧ w1.grownBy w' (some b4) := by
  have hnil : ∀ w : World, (binOp BinOp.neq 72 (.func (.func g) #[] cap) .nilFunc).run Tryz.prog w = .ok (.bool true) w := fun _ => by kernel_rfl
  have c1 := h1.cell 0
  simp only [List.getElem?_toArray, List.getElem?_cons_zero] at c1
  have HH := Lib.hid h
  have H4 := Lib.hid h4
  have HT := Lib.hid hT
  clear h h1 h4 hT
  go_enter Tryz.func68, Tryz.ntmps68
  go_wp2_with fail
  refine HH.out.mono ?_
  rintro e w1 ⟨x, rfl, hs, hg⟩
  have HW := H4.out.grown hg (by simp only [ne_eq, Option.some.injEq]; omega)
  have k0 := HW.cell 0
  have f0 := HW.frozen 0
  simp only [List.getElem?_toArray, List.getElem?_cons_zero] at k0
  obtain ⟨p1, p2⟩ := put1 (u0 := .slice x.1 x.2.1 x.2.2) HW
  have F : Hid (T x (w1.setCell ⟨b4, 0, none⟩ (.slice x.1 x.2.1 x.2.2))) := HT.out _ _ _ hs p2
  have P1 := Lib.hid p1
  have P2 := Lib.hid p2
  have HG := Lib.hid hg
  clear p1 p2 hs hg HW hcf
  go_wp2_with fail
  go_end0
  exact ⟨rfl, x, F.out, P1.out, w1, HG.out, P2.out⟩
/-- What Value's closure leaves behind, seen from Value's beginning. -/
structure VSBds (T : (Option Addr × Nat × Nat) → World → Prop) (w : World) (q : Nat) (x : (Option Addr × Nat × Nat)) (w1 : World) : Prop where
  kept : T x w1
  grown : w.grownBy w1 (some q)
  val : Whole w1 (w.heap.size + 2) 67 #[.slice x.1 x.2.1 x.2.2]
  r2 : Whole w1 (w.heap.size + 1) 32 #[.int .i64 0, .int .i64 0]
/-- The world in which Value calls Out. -/
def vWorldBds (g : FuncId) (cap : Array Value) (w : World) : World :=
  ((w.alloc (.cells #[.func (.func g) #[] cap] 72)).alloc (.cells #[.int .i64 0, .int .i64 0] 32)).alloc (.cells #[.slice none 0 0] 67)
theorem vWorld_factsBds (g : FuncId) (cap : Array Value) (w : World) : (vWorldBds g cap w).heap.size = w.heap.size + 3 ∧ Whole (vWorldBds g cap w) w.heap.size 72 #[.func (.func g) #[] cap] ∧
    Whole (vWorldBds g cap w) (w.heap.size + 1) 32 #[.int .i64 0, .int .i64 0] ∧
    Whole (vWorldBds g cap w) (w.heap.size + 2) 67 #[.slice none 0 0] ∧ Below w.heap.size w (vWorldBds g cap w) := by
  have b1 := Whole.made w 72 #[.func (.func g) #[] cap]
  have b3 := Whole.made (w.alloc (.cells #[.func (.func g) #[] cap] 72)) 32 #[.int .i64 0, .int .i64 0]
  have b4 := Whole.made ((w.alloc (.cells #[.func (.func g) #[] cap] 72)).alloc (.cells #[.int .i64 0, .int .i64 0] 32)) 67 #[.slice none 0 0]
  simp only [World.size_alloc] at b3 b4
  exact ⟨by simp [vWorldBds], (b1.alloc _).alloc _, b3.alloc _, b4,
    (((Below.refl _ _).alloc (Nat.le_refl _) _).alloc (by simp) _).alloc (by simp; omega) _⟩
theorem value_outBds {g : FuncId} {cap : Array Value} {q : Nat} {w : World} (hcf : ∀ w : World, (callFunc g cap).run Tryz.prog w = .ok (.enter g cap) w) (hq : q < w.heap.size)
    (hT : ∀ x W W' b, w.heap.size ≤ b → b < w.heap.size + 4 → T x W → W.grownBy W' (some b) → T x W')
    (h : ∀ W, Below w.heap.size w W → w.heap.size + 4 ≤ W.heap.size → Calls Tryz.prog g cap W fun e w' => ∃ x, e = .returned (.slice x.1 x.2.1 x.2.2) ∧ T x w' ∧ W.grownBy w' (some q)) :
    Calls Tryz.prog 38 #[.func (.func 68) #[] #[.pointer (some ⟨w.heap.size, 0, none⟩), .pointer (some ⟨w.heap.size + 2, 0, none⟩)]] (vWorldBds g cap w) fun e w' => e = .returned (.agg #[.int .i64 0, .int .i64 0]) ∧ ∃ x, VSBds T w q x w' := by
  obtain ⟨hz, b1, b3, b4, hbe⟩ := vWorld_factsBds g cap w
  have b5 := Whole.made (vWorldBds g cap w) 32 #[.int .i64 0, .int .i64 0]
  have hbe2 : Below w.heap.size w ((vWorldBds g cap w).alloc (.cells #[.int .i64 0, .int .i64 0] 32)) := hbe.alloc (by omega) _
  have hc := valClosBds (T := T) (z := #[.slice none 0 0]) rfl hcf (b1.alloc (.cells #[.int .i64 0, .int .i64 0] 32)) (b4.alloc _) (by omega : q < w.heap.size + 2) (fun x W W' => hT x W W' _ (by omega) (by omega)) (h _ hbe2 (by rw [size_box]; omega))
  refine (out_any _ _ 0 0 (vWorldBds g cap w) (fun w1 => (∃ x, VSBds T w q x w1) ∧ Whole w1 (vWorldBds g cap w).heap.size 32 #[.int .i64 0, .int .i64 0]) (cfVBds _) (hc.mono ?_) (fun _ h => h.2)).mono ?_
  · rintro e w' ⟨rfl, x, hs, hv, w1, hg1, hg2⟩
    have hz2 : w.heap.size + 4 ≤ w1.heap.size := by have := hg1.size; simp only [World.size_alloc] at this; omega
    refine ⟨.inl ⟨rfl, rfl, rfl⟩, ⟨x, hs, ?_, hv, ?_⟩, ?_⟩
    · exact gb_before (gb_trans (gb_of_below (some q) hbe2) hg1) hg2 (fun g e => .inr (by injection e with e; omega))
    · exact ((b3.alloc _).grown hg1 (by simp only [ne_eq, Option.some.injEq]; omega)).grown hg2 (by simp only [ne_eq, Option.some.injEq]; omega)
    · exact (b5.grown hg1 (by simp only [ne_eq, Option.some.injEq]; omega)).grown hg2 (by simp only [ne_eq, Option.some.injEq]; omega)
  · rintro e w' ⟨rfl, w1, ⟨⟨x, hs⟩, _⟩, hg⟩
    rw [hz] at hg
    exact ⟨rfl, x, hT x _ _ _ (by omega) (by omega) hs.kept hg, gb_before hs.grown hg (fun g e => .inr (by injection e with e; omega)), hs.val.grown hg (by simp only [ne_eq, Option.some.injEq]; omega), hs.r2.grown hg (by simp only [ne_eq, Option.some.injEq]; omega)⟩

set_option maxHeartbeats 800000 in
/-- Value of a function that ends well. -/
theorem valueBds_ok {g : FuncId} {cap : Array Value} {q : Nat} {w : World} (hcf : ∀ w : World, (callFunc g cap).run Tryz.prog w = .ok (.enter g cap) w) (hq : q < w.heap.size)
    (hT : ∀ x W W' b, w.heap.size ≤ b → b < w.heap.size + 4 → T x W → W.grownBy W' (some b) → T x W')
    (h : ∀ W, Below w.heap.size w W → w.heap.size + 4 ≤ W.heap.size → Calls Tryz.prog g cap W fun e w' => ∃ x, e = .returned (.slice x.1 x.2.1 x.2.2) ∧ T x w' ∧ W.grownBy w' (some q)) :
    Calls Tryz.prog 33 #[.func (.func g) #[] cap] w fun e w' => ∃ x, e = .returned (.tuple #[.slice x.1 x.2.1 x.2.2, .agg #[.int .i64 0, .int .i64 0]]) ∧ T x w' ∧ w.grownBy w' (some q) := by
  have hv := value_outBds hcf hq hT h
  unfold vWorldBds at hv
  have HV := Lib.hid hv
  have HT := Lib.hid hT
  have hmf : ∀ (fn : Fn) (first cap : Array Value) (w : World), (Instr.makeFunc fn first cap).run Tryz.prog w = .ok (.func fn first cap) w := fun _ _ _ _ => rfl
  clear h hv hcf hT
  go_enter Tryz.func33, Tryz.ntmps33
  go_wp2_with (go_at_call 38; go_must (refine HV.out.mono ?_; rintro e w2 ⟨rfl, x, hl⟩; have k0 := fun o => (hl.val.alloc o).cell 0; have f8 := fun o => (hl.r2.alloc o).frozen 0; have f9 := fun o => (hl.r2.alloc o).frozen 1; have m8 := fun o => (hl.r2.alloc o).cell 0; have m9 := fun o => (hl.r2.alloc o).cell 1; simp only [List.getElem?_toArray, List.getElem?_cons_zero, List.getElem?_cons_succ] at k0 m8 m9; have hz := hl.grown.size; have HL := Lib.hid hl; clear hl))
  obtain ⟨p2, g2⟩ := put2 (u0 := .int .i64 0) (u1 := .int .i64 0) (HL.out.r2.alloc (.cells #[.int .i64 0, .int .i64 0] 32))
  have q8 := p2.cell 0
  have q9 := p2.cell 1
  simp only [List.getElem?_toArray, List.getElem?_cons_zero, List.getElem?_cons_succ] at q8 q9
  refine bodyPost_ret (v := .tuple #[.slice x.1 x.2.1 x.2.2, .agg #[.int .i64 0, .int .i64 0]]) (by simp [results, Tryz.results33, go_sem, q8, q9]) rfl ⟨x, rfl, ?_, ?_⟩
  · exact HT.out _ _ _ _ (by omega) (by omega) (HT.out _ _ _ w.heap.size (Nat.le_refl _) (by omega) HL.out.kept (gb_alloc (gb_refl _ _) _)) g2
  · exact gb_before (gb_alloc HL.out.grown _) g2 (fun g e => .inr (by injection e with e; omega))
end
/-- Value's own closure: what aborts goes on. -/
theorem valClosBdsE {g : FuncId} {cap : Array Value} {b1 b4 q : Nat} {w : World} {c a : Int} (hcf : ∀ w : World, (callFunc g cap).run Tryz.prog w = .ok (.enter g cap) w)
    (h1 : Whole w b1 72 #[.func (.func g) #[] cap])
    (h : Calls Tryz.prog g cap w fun e w' => e = .panicked (stopP c a) ∧ w.grownBy w' (some q)) :
    Calls Tryz.prog 68 #[.pointer (some ⟨b1, 0, none⟩), .pointer (some ⟨b4, 0, none⟩)] w fun e w' => e = .panicked (stopP c a) ∧ w.grownBy w' (some q) := by
  have hnil : ∀ w : World, (binOp BinOp.neq 72 (.func (.func g) #[] cap) .nilFunc).run Tryz.prog w = .ok (.bool true) w := fun _ => by kernel_rfl
  have c1 := h1.cell 0
  simp only [List.getElem?_toArray, List.getElem?_cons_zero] at c1
  have HH := Lib.hid h
  clear h h1
  go_enter Tryz.func68, Tryz.ntmps68
  go_wp2_with fail
  refine HH.out.mono ?_
  rintro e w1 ⟨rfl, hg⟩
  exact ⟨rfl, rfl, hg⟩
theorem value_outBdsE {g : FuncId} {cap : Array Value} {q : Nat} {w : World} {c a : Int} (hc : ¬ c = 0) (hcf : ∀ w : World, (callFunc g cap).run Tryz.prog w = .ok (.enter g cap) w) (hq : q < w.heap.size)
    (h : ∀ W, Below w.heap.size w W → w.heap.size + 4 ≤ W.heap.size → Calls Tryz.prog g cap W fun e w' => e = .panicked (stopP c a) ∧ W.grownBy w' (some q)) :
    Calls Tryz.prog 38 #[.func (.func 68) #[] #[.pointer (some ⟨w.heap.size, 0, none⟩), .pointer (some ⟨w.heap.size + 2, 0, none⟩)]] (vWorldBds g cap w) fun e w' => e = .returned (.agg #[.int .i64 c, .int .i64 a]) ∧
      w.grownBy w' (some q) ∧ w.heap.size + 3 ≤ w'.heap.size ∧ Whole w' (w.heap.size + 2) 67 #[.slice none 0 0] ∧ Whole w' (w.heap.size + 1) 32 #[.int .i64 0, .int .i64 0] := by
  obtain ⟨hz, b1, b3, b4, hbe⟩ := vWorld_factsBds g cap w
  have b5 := Whole.made (vWorldBds g cap w) 32 #[.int .i64 0, .int .i64 0]
  have hbe2 : Below w.heap.size w ((vWorldBds g cap w).alloc (.cells #[.int .i64 0, .int .i64 0] 32)) := hbe.alloc (by omega) _
  have hcl := valClosBdsE (b4 := w.heap.size + 2) hcf (b1.alloc (.cells #[.int .i64 0, .int .i64 0] 32)) (h _ hbe2 (by rw [size_box]; omega))
  refine (out_any _ _ c a (vWorldBds g cap w) (fun w1 => ((vWorldBds g cap w).alloc (.cells #[.int .i64 0, .int .i64 0] 32)).grownBy w1 (some q)) (cfVBds _) (hcl.mono ?_) (fun w1 hg => b5.grown hg (by simp only [ne_eq, Option.some.injEq]; omega))).mono ?_
  · rintro e w' ⟨rfl, hg⟩
    exact ⟨.inr ⟨hc, rfl⟩, hg⟩
  · rintro e w' ⟨rfl, w1, hg1, hg2⟩
    have z1 := hg1.size
    have z2 := hg2.size
    rw [size_box] at z1
    rw [hz] at hg2
    exact ⟨rfl, gb_before (gb_trans (gb_of_below (some q) hbe2) hg1) hg2 (fun g e => .inr (by injection e with e; omega)), by omega,
      ((b4.alloc _).grown hg1 (by simp only [ne_eq, Option.some.injEq]; omega)).grown hg2 (by simp only [ne_eq, Option.some.injEq]; omega),
      ((b3.alloc _).grown hg1 (by simp only [ne_eq, Option.some.injEq]; omega)).grown hg2 (by simp only [ne_eq, Option.some.injEq]; omega)⟩
set_option maxHeartbeats 4000000 in
/-- Value of a function that aborts. -/
theorem valueBdsE_any {g : FuncId} {cap : Array Value} {q : Nat} {w : World} {c a : Int} (hc : ¬ c = 0) (hcf : ∀ w : World, (callFunc g cap).run Tryz.prog w = .ok (.enter g cap) w) (hq : q < w.heap.size)
    (h : ∀ W, Below w.heap.size w W → w.heap.size + 4 ≤ W.heap.size → Calls Tryz.prog g cap W fun e w' => e = .panicked (stopP c a) ∧ W.grownBy w' (some q)) :
    Calls Tryz.prog 33 #[.func (.func g) #[] cap] w fun e w' => e = .returned (.tuple #[.slice none 0 0, .agg #[.int .i64 c, .int .i64 a]]) ∧ w.grownBy w' (some q) := by
  have hv := value_outBdsE hc hcf hq h
  unfold vWorldBds at hv
  have HV := Lib.hid hv
  have dc : (c == 0) = false := by simpa using hc
  have hmf : ∀ (fn : Fn) (first cap : Array Value) (w : World), (Instr.makeFunc fn first cap).run Tryz.prog w = .ok (.func fn first cap) w := fun _ _ _ _ => rfl
  clear h hv hcf hc
  go_enter Tryz.func33, Tryz.ntmps33
  go_wp2_with (go_at_call 38; go_must (refine HV.out.mono ?_; rintro e w2 ⟨rfl, hg, hz, hv, hr2⟩; have HL := Lib.hid (show w.grownBy w2 (some q) ∧ w.heap.size + 3 ≤ w2.heap.size ∧ Whole w2 (w.heap.size + 2) 67 #[.slice none 0 0] ∧ Whole w2 (w.heap.size + 1) 32 #[.int .i64 0, .int .i64 0] from ⟨hg, hz, hv, hr2⟩); clear hg hz hv hr2))
  generalize hW : w2.alloc (.cells #[.int .i64 c, .int .i64 a] 32) = W at *
  have hz2 := HL.out.2.1
  have k3 : Whole W (w.heap.size + 2) 67 #[.slice none 0 0] := by rw [← hW]; exact HL.out.2.2.1.alloc _
  have k2 : Whole W (w.heap.size + 1) 32 #[.int .i64 0, .int .i64 0] := by rw [← hW]; exact HL.out.2.2.2.alloc _
  have k5 : Whole W w2.heap.size 32 #[.int .i64 c, .int .i64 a] := by rw [← hW]; exact Whole.made _ _ _
  have hgW : w.grownBy W (some q) := by rw [← hW]; exact gb_alloc HL.out.1 _
  clear hW
  have K2 := Lib.hid k2
  have KG := Lib.hid hgW
  have v0 := k3.cell 0
  have s0 := k5.cell 0
  have s1 := k5.cell 1
  have n0 := k2.cell 0
  have n1 := k2.cell 1
  have g0 := k2.frozen 0
  have g1 := k2.frozen 1
  have e2 : ¬ w2.heap.size = w.heap.size + 1 := by omega
  simp only [List.getElem?_toArray, List.getElem?_cons_zero, List.getElem?_cons_succ] at v0 s0 s1 n0 n1
  clear k2 k3 k5 hgW
  go_region
  all_goals
    go_wp2
    obtain ⟨p2, j2⟩ := put2 (u0 := .int .i64 c) (u1 := .int .i64 a) K2.out
    have q8 := p2.cell 0
    have q9 := p2.cell 1
    simp only [List.getElem?_toArray, List.getElem?_cons_zero, List.getElem?_cons_succ] at q8 q9
    have hfin := gb_before KG.out j2 (fun g e => .inr (by injection e with e; omega))
    refine bodyPost_ret (v := .tuple #[.slice none 0 0, .agg #[.int .i64 c, .int .i64 a]]) (by simp [results, Tryz.results33, go_sem, q8, q9]) rfl ⟨rfl, ?_⟩
    first | exact hfin | exact gb_drew hfin | exact ⟨hfin.os, hfin.tape, hfin.output, hfin.size, hfin.block⟩
end Go.Proofs.YtnfhhamkicnpjaaGreatDoor

/- abort.Value of a function that ends well, whatever it hands back: api.Code. (By gen/genVal.py.) -/
namespace Go.Proofs.YtnfhhamkicnpjaaGreatDoor
open Go.RowKit
set_option linter.unusedVariables false
set_option maxRecDepth 100000

theorem cfVBd (cap : Array Value) (w : World) : (callFunc 60 cap).run Tryz.prog w = .ok (.enter 60 cap) w := by kernel_rfl
section
variable {T : SlotBd → World → Prop}
/-- Value's own closure: what the step hands back lies in its cell. -/
theorem valClosBd {g : FuncId} {cap : Array Value} {b1 b4 q : Nat} {w : World} {z : Array Value} (hz : z.size = 2) (hcf : ∀ w : World, (callFunc g cap).run Tryz.prog w = .ok (.enter g cap) w)
    (h1 : Whole w b1 63 #[.func (.func g) #[] cap]) (h4 : Whole w b4 55 #[.slice none 0 0, .slice none 0 0]) (hb : q < b4) (hT : ∀ x W W', T x W → W.grownBy W' (some b4) → T x W')
    (h : Calls Tryz.prog g cap w fun e w' => ∃ x, e = .returned (cV x) ∧ T x w' ∧ w.grownBy w' (some q)) :
    Calls Tryz.prog 60 #[.pointer (some ⟨b1, 0, none⟩), .pointer (some ⟨b4, 0, none⟩)] w fun e w' =>
      e = .returned (.tuple #[]) ∧ ∃ x, T x w' ∧ Whole w' b4 55 #[.slice x.2.1.1 x.1.ls.length x.2.1.2, .slice x.2.2.1 x.1.b.length x.2.2.2] ∧ ∃ w1, w.grownBy w1 (some q) ∧ w1.grownBy w' (some b4) := by
  have hnil : ∀ w : World, (binOp BinOp.neq 63 (.func (.func g) #[] cap) .nilFunc).run Tryz.prog w = .ok (.bool true) w := fun _ => by kernel_rfl
  have c1 := h1.cell 0
  simp only [List.getElem?_toArray, List.getElem?_cons_zero] at c1
  have HH := Lib.hid h
  have H4 := Lib.hid h4
  have HT := Lib.hid hT
  clear h h1 h4 hT
  go_enter Tryz.func60, Tryz.ntmps60
  go_wp2_with fail
  refine HH.out.mono ?_
  rintro e w1 ⟨x, rfl, hs, hg⟩
  have HW := H4.out.grown hg (by simp only [ne_eq, Option.some.injEq]; omega)
  have k0 := HW.cell 0
  have k1 := HW.cell 1
  have f0 := HW.frozen 0
  have f1 := HW.frozen 1
  simp only [List.getElem?_toArray, List.getElem?_cons_zero, List.getElem?_cons_succ] at k0 k1
  obtain ⟨p1, p2⟩ := put2 (u0 := .slice x.2.1.1 x.1.ls.length x.2.1.2) (u1 := .slice x.2.2.1 x.1.b.length x.2.2.2) HW
  have F : Hid (T x ((w1.setCell ⟨b4, 0, none⟩ (.slice x.2.1.1 x.1.ls.length x.2.1.2)).setCell ⟨b4, 1, none⟩ (.slice x.2.2.1 x.1.b.length x.2.2.2))) := HT.out _ _ _ hs p2
  have P1 := Lib.hid p1
  have P2 := Lib.hid p2
  have HG := Lib.hid hg
  clear p1 p2 hs hg HW hcf
  go_wp2_with fail
  go_end0
  exact ⟨rfl, x, F.out, P1.out, w1, HG.out, P2.out⟩
/-- What Value's closure leaves behind, seen from Value's beginning. -/
structure VSBd (T : SlotBd → World → Prop) (w : World) (q : Nat) (x : SlotBd) (w1 : World) : Prop where
  kept : T x w1
  grown : w.grownBy w1 (some q)
  val : Whole w1 (w.heap.size + 3) 55 #[.slice x.2.1.1 x.1.ls.length x.2.1.2, .slice x.2.2.1 x.1.b.length x.2.2.2]
  r1 : Whole w1 (w.heap.size + 1) 55 #[.slice none 0 0, .slice none 0 0]
  r2 : Whole w1 (w.heap.size + 2) 32 #[.int .i64 0, .int .i64 0]
/-- The world in which Value calls Out. -/
def vWorldBd (g : FuncId) (cap : Array Value) (w : World) : World :=
  (((w.alloc (.cells #[.func (.func g) #[] cap] 63)).alloc (.cells #[.slice none 0 0, .slice none 0 0] 55)).alloc (.cells #[.int .i64 0, .int .i64 0] 32)).alloc (.cells #[.slice none 0 0, .slice none 0 0] 55)
theorem vWorld_factsBd (g : FuncId) (cap : Array Value) (w : World) : (vWorldBd g cap w).heap.size = w.heap.size + 4 ∧ Whole (vWorldBd g cap w) w.heap.size 63 #[.func (.func g) #[] cap] ∧
    Whole (vWorldBd g cap w) (w.heap.size + 1) 55 #[.slice none 0 0, .slice none 0 0] ∧ Whole (vWorldBd g cap w) (w.heap.size + 2) 32 #[.int .i64 0, .int .i64 0] ∧
    Whole (vWorldBd g cap w) (w.heap.size + 3) 55 #[.slice none 0 0, .slice none 0 0] ∧ Below w.heap.size w (vWorldBd g cap w) := by
  have b1 := Whole.made w 63 #[.func (.func g) #[] cap]
  have b2 := Whole.made (w.alloc (.cells #[.func (.func g) #[] cap] 63)) 55 #[.slice none 0 0, .slice none 0 0]
  have b3 := Whole.made ((w.alloc (.cells #[.func (.func g) #[] cap] 63)).alloc (.cells #[.slice none 0 0, .slice none 0 0] 55)) 32 #[.int .i64 0, .int .i64 0]
  have b4 := Whole.made (((w.alloc (.cells #[.func (.func g) #[] cap] 63)).alloc (.cells #[.slice none 0 0, .slice none 0 0] 55)).alloc (.cells #[.int .i64 0, .int .i64 0] 32)) 55 #[.slice none 0 0, .slice none 0 0]
  simp only [World.size_alloc] at b2 b3 b4
  exact ⟨by simp [vWorldBd], ((b1.alloc _).alloc _).alloc _, (b2.alloc _).alloc _, b3.alloc _, b4,
    ((((Below.refl _ _).alloc (Nat.le_refl _) _).alloc (by simp) _).alloc (by simp; omega) _).alloc (by simp; omega) _⟩
theorem value_outBd {g : FuncId} {cap : Array Value} {q : Nat} {w : World} (hcf : ∀ w : World, (callFunc g cap).run Tryz.prog w = .ok (.enter g cap) w) (hq : q < w.heap.size)
    (hT : ∀ x W W' b, w.heap.size ≤ b → b < w.heap.size + 5 → T x W → W.grownBy W' (some b) → T x W')
    (h : ∀ W, Below w.heap.size w W → w.heap.size + 5 ≤ W.heap.size → Calls Tryz.prog g cap W fun e w' => ∃ x, e = .returned (cV x) ∧ T x w' ∧ W.grownBy w' (some q)) :
    Calls Tryz.prog 38 #[.func (.func 60) #[] #[.pointer (some ⟨w.heap.size, 0, none⟩), .pointer (some ⟨w.heap.size + 3, 0, none⟩)]] (vWorldBd g cap w) fun e w' => e = .returned (.agg #[.int .i64 0, .int .i64 0]) ∧ ∃ x, VSBd T w q x w' := by
  obtain ⟨hz, b1, b2, b3, b4, hbe⟩ := vWorld_factsBd g cap w
  have b5 := Whole.made (vWorldBd g cap w) 32 #[.int .i64 0, .int .i64 0]
  have hbe2 : Below w.heap.size w ((vWorldBd g cap w).alloc (.cells #[.int .i64 0, .int .i64 0] 32)) := hbe.alloc (by omega) _
  have hc := valClosBd (T := T) (z := #[.slice none 0 0, .slice none 0 0]) rfl hcf (b1.alloc (.cells #[.int .i64 0, .int .i64 0] 32)) (b4.alloc _) (by omega : q < w.heap.size + 3) (fun x W W' => hT x W W' _ (by omega) (by omega)) (h _ hbe2 (by rw [size_box]; omega))
  refine (out_any _ _ 0 0 (vWorldBd g cap w) (fun w1 => (∃ x, VSBd T w q x w1) ∧ Whole w1 (vWorldBd g cap w).heap.size 32 #[.int .i64 0, .int .i64 0]) (cfVBd _) (hc.mono ?_) (fun _ h => h.2)).mono ?_
  · rintro e w' ⟨rfl, x, hs, hv, w1, hg1, hg2⟩
    have hz2 : w.heap.size + 5 ≤ w1.heap.size := by have := hg1.size; simp only [World.size_alloc] at this; omega
    refine ⟨.inl ⟨rfl, rfl, rfl⟩, ⟨x, hs, ?_, hv, ?_, ?_⟩, ?_⟩
    · exact gb_before (gb_trans (gb_of_below (some q) hbe2) hg1) hg2 (fun g e => .inr (by injection e with e; omega))
    · exact ((b2.alloc _).grown hg1 (by simp only [ne_eq, Option.some.injEq]; omega)).grown hg2 (by simp only [ne_eq, Option.some.injEq]; omega)
    · exact ((b3.alloc _).grown hg1 (by simp only [ne_eq, Option.some.injEq]; omega)).grown hg2 (by simp only [ne_eq, Option.some.injEq]; omega)
    · exact (b5.grown hg1 (by simp only [ne_eq, Option.some.injEq]; omega)).grown hg2 (by simp only [ne_eq, Option.some.injEq]; omega)
  · rintro e w' ⟨rfl, w1, ⟨⟨x, hs⟩, _⟩, hg⟩
    rw [hz] at hg
    exact ⟨rfl, x, hT x _ _ _ (by omega) (by omega) hs.kept hg, gb_before hs.grown hg (fun g e => .inr (by injection e with e; omega)), hs.val.grown hg (by simp only [ne_eq, Option.some.injEq]; omega), hs.r1.grown hg (by simp only [ne_eq, Option.some.injEq]; omega), hs.r2.grown hg (by simp only [ne_eq, Option.some.injEq]; omega)⟩

set_option maxHeartbeats 800000 in
/-- Value of a function that ends well. -/
theorem valueBd_ok {g : FuncId} {cap : Array Value} {q : Nat} {w : World} (hcf : ∀ w : World, (callFunc g cap).run Tryz.prog w = .ok (.enter g cap) w) (hq : q < w.heap.size)
    (hT : ∀ x W W' b, w.heap.size ≤ b → b < w.heap.size + 5 → T x W → W.grownBy W' (some b) → T x W')
    (h : ∀ W, Below w.heap.size w W → w.heap.size + 5 ≤ W.heap.size → Calls Tryz.prog g cap W fun e w' => ∃ x, e = .returned (cV x) ∧ T x w' ∧ W.grownBy w' (some q)) :
    Calls Tryz.prog 25 #[.func (.func g) #[] cap] w fun e w' => ∃ x, e = .returned (.tuple #[cV x, .agg #[.int .i64 0, .int .i64 0]]) ∧ T x w' ∧ w.grownBy w' (some q) := by
  have hv := value_outBd hcf hq hT h
  unfold vWorldBd at hv
  have HV := Lib.hid hv
  have HT := Lib.hid hT
  have hmf : ∀ (fn : Fn) (first cap : Array Value) (w : World), (Instr.makeFunc fn first cap).run Tryz.prog w = .ok (.func fn first cap) w := fun _ _ _ _ => rfl
  clear h hv hcf hT
  go_enter Tryz.func25, Tryz.ntmps25
  go_wp2_with (go_at_call 38; go_must (refine HV.out.mono ?_; rintro e w2 ⟨rfl, x, hl⟩; have k0 := fun o => (hl.val.alloc o).cell 0; have f0 := fun o => (hl.r1.alloc o).frozen 0; have m0 := fun o => (hl.r1.alloc o).cell 0; have k1 := fun o => (hl.val.alloc o).cell 1; have f1 := fun o => (hl.r1.alloc o).frozen 1; have m1 := fun o => (hl.r1.alloc o).cell 1; have f88 := fun o => (hl.r2.alloc o).frozen 0; have f99 := fun o => (hl.r2.alloc o).frozen 1; have m88 := fun o => (hl.r2.alloc o).cell 0; have m99 := fun o => (hl.r2.alloc o).cell 1; simp only [List.getElem?_toArray, List.getElem?_cons_zero, List.getElem?_cons_succ] at k0 k1 m0 m1 m88 m99; have hz := hl.grown.size; have HL := Lib.hid hl; clear hl))
  have hb : w.heap.size + 1 + 1 = w.heap.size + 2 := by omega
  rw [hb]
  obtain ⟨p1, g1⟩ := put2 (u0 := .slice x.2.1.1 x.1.ls.length x.2.1.2) (u1 := .slice x.2.2.1 x.1.b.length x.2.2.2) (HL.out.r1.alloc (.cells #[.int .i64 0, .int .i64 0] 32))
  obtain ⟨p2, g2⟩ := put2 (u0 := .int .i64 0) (u1 := .int .i64 0) ((HL.out.r2.alloc (.cells #[.int .i64 0, .int .i64 0] 32)).grown g1 (by simp only [ne_eq, Option.some.injEq]; omega))
  have p3 := p1.grown g2 (by simp only [ne_eq, Option.some.injEq]; omega)
  have q0 := p3.cell 0
  have q1 := p3.cell 1
  have q88 := p2.cell 0
  have q99 := p2.cell 1
  simp only [List.getElem?_toArray, List.getElem?_cons_zero, List.getElem?_cons_succ] at q0 q1 q88 q99
  refine bodyPost_ret (v := .tuple #[cV x, .agg #[.int .i64 0, .int .i64 0]]) (by simp [results, Tryz.results25, go_sem, q0, q1, q88, q99]) rfl ⟨x, rfl, ?_, ?_⟩
  · exact HT.out _ _ _ _ (by omega) (by omega) (HT.out _ _ _ _ (by omega) (by omega) (HT.out _ _ _ w.heap.size (Nat.le_refl _) (by omega) HL.out.kept (gb_alloc (gb_refl _ _) _)) g1) g2
  · exact gb_before (gb_before (gb_alloc HL.out.grown _) g1 (fun g e => .inr (by injection e with e; omega))) g2 (fun g e => .inr (by injection e with e; omega))
end
end Go.Proofs.YtnfhhamkicnpjaaGreatDoor

/- awake; the laws' closures; two lists side by side. -/
namespace Go.Proofs.YtnfhhamkicnpjaaGreatDoor
open Go.RowKit
set_option linter.unusedVariables false
set_option maxRecDepth 100000

/-- The page's example: an end alone. -/
def eEnd : I := ⟨11, 0, 0, []⟩
theorem eEnd_ok : eEnd.Ok := ⟨by decide, by decide, by decide, by decide, fun c h => by cases h⟩
theorem eEnd_imm : immR eEnd.n = 0 := by decide +kernel
theorem eEnd_put : putL eEnd = [11] := by
  unfold putL immL immB
  rw [eEnd_imm]
  rfl
def bEg : Bd := ⟨[], [eEnd]⟩
theorem bEg_zero : brZ bEg = 0 := by decide +kernel
theorem bEg_code : codeL bEg = [2, 0, 11] := by
  have hb : bputL bEg = [0, 11] := by
    unfold bputL losL bodyL
    show (lebL 0 ++ []) ++ [eEnd].flatMap putL = _
    rw [List.flatMap_cons, List.flatMap_nil, eEnd_put, lebL_sm 0 (by omega) (by omega)]
    rfl
  unfold codeL
  rw [hb]
  show lebL 2 ++ [0, 11] = _
  rw [lebL_sm 2 (by omega) (by omega)]
  rfl
theorem ins_end (w : World) : Ins (w.alloc (.cells #[.int .u8 11, .int .u64 0, .int .u64 0, .slice none 0 0] 42)) (some ⟨w.heap.size, 0, none⟩) [eEnd] := fun j i hij => by
  have hw := Whole.made w 42 #[.int .u8 11, .int .u64 0, .int .u64 0, .slice none 0 0]
  match j, hij with
  | 0, hij =>
    injection hij with hij
    subst hij
    exact ⟨w.heap.size, 0, none, 0, rfl, hw.lt, ⟨hw.cell 0, hw.cell 1, hw.cell 2, hw.cell 3⟩, fun j v hv => by simp [cells32, eEnd] at hv⟩
  | j + 1, hij => simp at hij
theorem bdawake_any (w : World) (hT : Tabs w) : Calls Tryz.prog 19 #[] w fun e w' => e = .returned (.bool true) ∧ Below w.heap.size w w' := by
  have hb0 := below_box w (.cells #[.int .u8 11, .int .u64 0, .int .u64 0, .slice none 0 0] 42)
  have hp := put_bd (x := bEg) (L := none) (l := 0) (B := some ⟨w.heap.size, 0, none⟩) (c := 1) (hT.below hb0) (fun j x hx => by cases hx) (ins_end w) (by decide) (by decide) (fun i hi => by rw [List.mem_singleton.1 (show i ∈ [eEnd] from hi)]; exact ⟨eEnd_ok, by decide⟩)
  obtain ⟨l, hl⟩ : ∃ l : List UInt8, l = [2, 0, 11] := ⟨_, rfl⟩
  have HP := Lib.hid (show Calls Tryz.prog 22 #[.agg #[.slice none 0 0, .slice (some ⟨w.heap.size, 0, none⟩) 1 1]] (w.alloc (.cells #[.int .u8 11, .int .u64 0, .int .u64 0, .slice none 0 0] 42)) fun e w' => ∃ v, e = .returned (.tuple #[v, .int .i64 0]) ∧ Row w' (w.alloc (.cells #[.int .u8 11, .int .u64 0, .int .u64 0, .slice none 0 0] 42)).heap.size v l ∧ Below (w.alloc (.cells #[.int .u8 11, .int .u64 0, .int .u64 0, .slice none 0 0] 42)).heap.size (w.alloc (.cells #[.int .u8 11, .int .u64 0, .int .u64 0, .slice none 0 0] 42)) w' from hp.mono fun e w' ⟨v, h1, h2, h3⟩ => ⟨v, by rw [bEg_zero] at h1; exact h1, by rw [if_pos bEg_zero, bEg_code] at h2; rw [hl]; exact h2, h3⟩)
  have hcmp : ((S l).toList == [2, 0, 11]) = true := by rw [S_toList, hl]; rfl
  have HB0 := Lib.hid hb0
  clear hl
  clear hp hT hb0
  go_enter Tryz.func19, Tryz.ntmps19
  go_wp2_with (go_at_call 22; go_must ((with_reducible refine HP.out.mono ?_); intro e w1 h; obtain ⟨v, rfl, hr, hb⟩ := h; obtain ⟨A, c, rfl, hcv⟩ := hr.str; have hcv2 := hcv 9 Tryz.underlying9; have HB := Lib.hid (HB0.out.trans (hb.mono HB0.out.size)); clear hb hr hcv))
  go_ret
  exact ⟨rfl, HB.out⟩
theorem cfBd1 (cap : Array Value) (w : World) : (callFunc 26 cap).run Tryz.prog w = .ok (.enter 26 cap) w := by kernel_rfl
theorem cfBd2 (cap : Array Value) (w : World) : (callFunc 34 cap).run Tryz.prog w = .ok (.enter 34 cap) w := by kernel_rfl
set_option maxHeartbeats 4000000 in
theorem closBd1 {w : World} {p b : Nat} {l : List UInt8} {k : Nat} {x : Bd} (hb : Whole w b 24 #[.pointer (some ⟨p, 0, none⟩)])
    (hG : ∀ W, Below w.heap.size w W → Calls Tryz.prog 27 #[.pointer (some ⟨p, 0, none⟩)] W (GotBd p l x k W)) (hp : p < w.heap.size) :
    Calls Tryz.prog 26 #[.pointer (some ⟨b, 0, none⟩)] w (GotBd p l x k w) := by
  have HGt := Lib.hid (hG _ (below_box w (.cells bdZ 55)))
  have HWM := Lib.hid (Whole.made w 55 bdZ)
  have hzz := size_box w (.cells bdZ 55)
  have c0' : ∀ o, (w.alloc o).cell? ⟨b, 0, none⟩ = some (.pointer (some ⟨p, 0, none⟩)) := fun o => (hb.alloc o).cell 0
  clear hb hG
  go_enter Tryz.func26, Tryz.ntmps26
  go_wp2_with (go_at_call 27; go_must ((with_reducible refine HGt.out.mono ?_); intro e w1 hq; obtain ⟨⟨y, ⟨A, c⟩, ⟨B, d⟩⟩, hyx, rfl, hh, hs, hg⟩ := hq; obtain rfl : y = x := hyx; have HS := Lib.hid hs; have HG := Lib.hid hg; have HH := Lib.hid hh; have HW1 := Lib.hid (HWM.out.grown hg (by simp only [ne_eq, Option.some.injEq]; omega)); have z0 := HW1.out.cell 0; have z1 := HW1.out.cell 1; simp only [List.getElem?_toArray, List.getElem?_cons_zero, List.getElem?_cons_succ] at z0 z1; have f0 := HW1.out.frozen 0; have f1 := HW1.out.frozen 1; clear hs hg hh))
  obtain ⟨h1, h2⟩ := put2 (u0 := .slice A y.ls.length c) (u1 := .slice B y.b.length d) HW1.out
  have q0 := h1.cell 0
  have q1 := h1.cell 1
  simp only [List.getElem?_toArray, List.getElem?_cons_zero, List.getElem?_cons_succ] at q0 q1
  exact bodyPost_ret (v := bdV y A c B d) (by simp [results, Tryz.results26, go_sem, q0, q1]) rfl ⟨(y, (A, c), (B, d)), rfl, rfl, (HH.out.past h2 (by omega)).mono (by omega), HS.out.grown h2 (by simp only [ne_eq, Option.some.injEq]; omega) (fun g e => by injection e with e; omega), gb_before (gb_trans (gb_alloc (gb_refl _ _) _) HG.out) h2 (fun g e => .inr (by injection e with e; omega))⟩
theorem closBd2 {w : World} {p b : Nat} {xs : List SlotBd} (hb : Whole w b 24 #[.pointer (some ⟨p, 0, none⟩)]) (hs : Sc w p (allBd xs) 0) (hT : TbP p w) (ho : OkBds xs) (h0 : errBd xs = 0) (h20 : xs.length ≤ 20) :
    Calls Tryz.prog 34 #[.pointer (some ⟨b, 0, none⟩)] w (GotAllBd p (xs.map (·.1)) w) := by
  have c0 := hb.cell 0
  simp only [List.getElem?_toArray, List.getElem?_cons_zero] at c0
  have HG := Lib.hid (getall_bd hs hT ho h0 h20)
  unfold GotAllBd at HG ⊢
  clear hb hs hT ho h0 h20
  go_enter Tryz.func34, Tryz.ntmps34
  go_wp2_with (go_at_call 35; go_must ((with_reducible refine HG.out.mono ?_); intro e w1 hq; obtain ⟨v, rows, rfl, hr, hm, hg⟩ := hq; have HR := Lib.hid hr; have HG1 := Lib.hid hg; have HM := Lib.hid hm; clear hr hg hm))
  go_ret
  exact ⟨_, rows, rfl, HR.out, HM.out, HG1.out⟩

/-- The two cells of a body, by its parts. -/
abbrev TwoL (w : World) (b o : Nat) (g : Bd) (a f : Option Addr × Nat) : Prop := w.cell? ⟨b, o, none⟩ = some (.slice a.1 g.ls.length a.2) ∧ w.cell? ⟨b, o + 1, none⟩ = some (.slice f.1 g.b.length f.2)
/-- One of each of two lists, as a walk reads them; both lists. -/
abbrev TwoBd (w : World) (A A2 : Option Addr) (l l2 : List SlotBd) (b off b2 off2 k : Nat) (g : Bd) (a1 a2 c1 c2 : Option Addr × Nat) (W : World) : Prop :=
  (Below w.heap.size w W ∧ Bds W A l ∧ Bds W A2 l2) ∧ TwoL W b (off + k * 2) g a1 c1 ∧ TwoL W b2 (off2 + k * 2) g a2 c2
section
variable {w W W' : World} {A A2 : Option Addr} {l l2 : List SlotBd} {b off b2 off2 k : Nat} {g : Bd} {a1 a2 c1 c2 : Option Addr × Nat}
theorem twoBd_of (h1 : Below w.heap.size w W) (h2 : Bds W A l) (h3 : Bds W A2 l2) (hA : A = some ⟨b, off, none⟩) (hA2 : A2 = some ⟨b2, off2, none⟩) (hx : l[k]? = some (g, a1, c1)) (hy : l2[k]? = some (g, a2, c2)) : TwoBd w A A2 l l2 b off b2 off2 k g a1 a2 c1 c2 W := by
  obtain ⟨d1, o1, e1, _, p⟩ := h2.two hx
  obtain ⟨d2, o2, e2, _, q⟩ := h3.two hy
  rw [hA] at e1
  rw [hA2] at e2
  injection e1 with e1
  injection e2 with e2
  injection e1 with a1 a2
  injection e2 with a3 a4
  subst a1; subst a2; subst a3; subst a4
  exact ⟨⟨h1, h2, h3⟩, p, q⟩
theorem twoBd_on (h : TwoBd w A A2 l l2 b off b2 off2 k g a1 a2 c1 c2 W) (hA : A = some ⟨b, off, none⟩) (hA2 : A2 = some ⟨b2, off2, none⟩) (hx : l[k]? = some (g, a1, c1)) (hy : l2[k]? = some (g, a2, c2)) (hb : Below W.heap.size W W') : TwoBd w A A2 l l2 b off b2 off2 k g a1 a2 c1 c2 W' :=
  twoBd_of (h.1.1.trans (hb.mono h.1.1.size)) (h.1.2.1.below hb) (h.1.2.2.below hb) hA hA2 hx hy
/-- Both have one there, and these are alike. -/
theorem bothBd_at (hm : l.map (·.1) = l2.map (·.1)) (hk : k < l.length) : ∃ g a1 a2 c1 c2, l[k]? = some (g, a1, c1) ∧ l2[k]? = some (g, a2, c2) := by
  obtain ⟨⟨g, a1, c1⟩, hx⟩ : ∃ x, l[k]? = some x := ⟨_, List.getElem?_eq_getElem hk⟩
  have hk2 : k < l2.length := by have := congrArg List.length hm; rw [List.length_map, List.length_map] at this; omega
  obtain ⟨⟨g2, a2, c2⟩, hy⟩ : ∃ y, l2[k]? = some y := ⟨_, List.getElem?_eq_getElem hk2⟩
  have e := congrArg (fun l => l[k]?) hm
  simp only [List.getElem?_map, hx, hy, Option.map_some, Option.some.injEq] at e
  subst e
  exact ⟨g, a1, a2, c1, c2, hx, hy⟩
end
end Go.Proofs.YtnfhhamkicnpjaaGreatDoor
