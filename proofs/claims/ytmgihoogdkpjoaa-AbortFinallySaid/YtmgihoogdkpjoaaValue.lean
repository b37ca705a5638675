/- The contract of Value. -/
import Derived.Test.YtmgihoogdkpjoaaAwake
import Derived.RegionTactic
import Derived.Laws.ResultCell
namespace Go.Proofs.Ytmgihoogdkpjoaa
open Go.RowKit

/-- The world in which Value's function is called. -/
def vWorld3 (g : FuncId) (cap : Array Value) (w : World) : World :=
  ((w.alloc (.cells #[.func (.func g) #[] cap] 35)).alloc (.cells #[.int .i64 0, .int .i64 0] 29)).alloc (.cells #[.int .i64 0] 3)
def vWorld (g : FuncId) (cap : Array Value) (w : World) : World := (vWorld3 g cap w).alloc (.cells #[.int .i64 0, .int .i64 0] 29)

theorem vWorld3_size (g : FuncId) (cap : Array Value) (w : World) : (vWorld3 g cap w).heap.size = w.heap.size + 3 := by simp [vWorld3]

/-- What Out leaves behind in Value. -/
structure VLeft (g : FuncId) (cap : Array Value) (w : World) (pb : Nat) (q x : Int) (w' : World) : Prop where
  grown : w.grownBy w' (some pb)
  counter : Whole w' pb 3 #[.int .i64 q]
  value : Whole w' (w.heap.size + 2) 3 #[.int .i64 x]
  res : Whole w' (w.heap.size + 1) 29 #[.int .i64 0, .int .i64 0]
  size : w.heap.size + 4 ≤ w'.heap.size

theorem VLeft.alloc {g : FuncId} {cap : Array Value} {w : World} {pb : Nat} {q x : Int} {w' : World} (h : VLeft g cap w pb q x w') (o : Obj) : VLeft g cap w pb q x (w'.alloc o) :=
  ⟨gb_alloc h.grown o, h.counter.alloc o, h.value.alloc o, h.res.alloc o, by have := h.size; simp; omega⟩
theorem VLeft.facts {g : FuncId} {cap : Array Value} {w : World} {pb : Nat} {q x : Int} {w' : World} (h : VLeft g cap w pb q x w') :
    w'.cell? ⟨w.heap.size + 1 + 1, 0, none⟩ = some (.int .i64 x) ∧ w'.cell? ⟨w.heap.size + 1, 0, none⟩ = some (.int .i64 0) ∧ w'.cell? ⟨w.heap.size + 1, 1, none⟩ = some (.int .i64 0) ∧ w'.frozen? ⟨w.heap.size + 1, 0, none⟩ = false ∧ w'.frozen? ⟨w.heap.size + 1, 1, none⟩ = false :=
  ⟨h.value.cell 0, h.res.cell 0, h.res.cell 1, h.res.frozen 0, h.res.frozen 1⟩

/-- The end of Value: the named result is written in its variable. -/
theorem VLeft.written {g : FuncId} {cap : Array Value} {w : World} {pb : Nat} {q x : Int} {w' : World} (h : VLeft g cap w pb q x w') (hpb : pb < w.heap.size) (u v : Value) :
    Whole ((w'.setCell ⟨w.heap.size + 1, 0, none⟩ u).setCell ⟨w.heap.size + 1, 1, none⟩ v) (w.heap.size + 1) 29 #[u, v] ∧ w.grownBy ((w'.setCell ⟨w.heap.size + 1, 0, none⟩ u).setCell ⟨w.heap.size + 1, 1, none⟩ v) (some pb) ∧
      Whole ((w'.setCell ⟨w.heap.size + 1, 0, none⟩ u).setCell ⟨w.heap.size + 1, 1, none⟩ v) pb 3 #[.int .i64 q] := by
  have h1 : Whole ((w'.setCell ⟨w.heap.size + 1, 0, none⟩ u).setCell ⟨w.heap.size + 1, 1, none⟩ v) (w.heap.size + 1) 29 ((#[.int .i64 0, .int .i64 0].setIfInBounds 0 u).setIfInBounds 1 v) := (h.res.put 0 u).put 1 v
  have g1 : w.grownBy (w'.setCell ⟨w.heap.size + 1, 0, none⟩ u) (some pb) := gb_put (p := ⟨w.heap.size + 1, 0, none⟩) h.grown (.inr (by show w.heap.size ≤ w.heap.size + 1; omega)) u
  have g2 : w.grownBy ((w'.setCell ⟨w.heap.size + 1, 0, none⟩ u).setCell ⟨w.heap.size + 1, 1, none⟩ v) (some pb) := gb_put (p := ⟨w.heap.size + 1, 1, none⟩) g1 (.inr (by show w.heap.size ≤ w.heap.size + 1; omega)) v
  have c1 := h.counter.far (p := ⟨w.heap.size + 1, 0, none⟩) (by show pb ≠ w.heap.size + 1; omega) u
  have c2 := c1.far (p := ⟨w.heap.size + 1, 1, none⟩) (by show pb ≠ w.heap.size + 1; omega) v
  exact ⟨h1, g2, c2⟩

theorem value_out (g : FuncId) (cap : Array Value) (c a v q : Int) (pb : Nat) (w : World) (hcf : ∀ w : World, (callFunc g cap).run Try.prog w = .ok (.enter g cap) w) (hpb : pb < w.heap.size)
    (h : Calls Try.prog g cap (vWorld g cap w) fun e w' => EndedV c a v e ∧ (vWorld g cap w).grownBy w' (some pb) ∧ Whole w' pb 3 #[.int .i64 q]) :
    Calls Try.prog 9 #[.func (.func 32) #[] #[.pointer (some ⟨w.heap.size, 0, none⟩), .pointer (some ⟨w.heap.size + 2, 0, none⟩)]] (vWorld3 g cap w) fun e w' => e = .returned (.agg #[.int .i64 c, .int .i64 a]) ∧ VLeft g cap w pb q (if c = 0 then v else 0) w' := by
  have s3 := vWorld3_size g cap w
  have b1 : Whole (vWorld g cap w) w.heap.size 35 #[.func (.func g) #[] cap] := (((Whole.made w _ _).alloc _).alloc _).alloc _
  have b2 : Whole (vWorld g cap w) (w.heap.size + 1) 29 #[.int .i64 0, .int .i64 0] := by
    have := Whole.made (w.alloc (.cells #[.func (.func g) #[] cap] 35)) 29 #[.int .i64 0, .int .i64 0]
    simp only [World.size_alloc] at this
    exact (this.alloc _).alloc _
  have b3 : Whole (vWorld g cap w) (w.heap.size + 2) 3 #[.int .i64 0] := by
    have := Whole.made ((w.alloc (.cells #[.func (.func g) #[] cap] 35)).alloc (.cells #[.int .i64 0, .int .i64 0] 29)) 3 #[.int .i64 0]
    simp only [World.size_alloc] at this
    exact this.alloc _
  have b4 : Whole (vWorld g cap w) (vWorld3 g cap w).heap.size 29 #[.int .i64 0, .int .i64 0] := Whole.made _ _ _
  have gw : w.grownBy (vWorld g cap w) (some pb) := gb_alloc (gb_alloc (gb_alloc (gb_alloc (gb_refl w _) _) _) _) _
  have hcl := valueClosure g cap c a v w.heap.size (w.heap.size + 2) (vWorld g cap w) (fun w' => (vWorld g cap w).grownBy w' (some pb) ∧ Whole w' pb 3 #[.int .i64 q]) hcf b1 h
    (fun w' hs => b3.grown hs.1 (by simp only [ne_eq, Option.some.injEq]; omega))
  refine (out_any 32 _ c a (vWorld3 g cap w) _ (cfV _) hcl ?_).mono ?_
  · rintro w' ⟨w1, ⟨hg, hw⟩, hg2, hw2⟩
    exact (b4.grown hg (by simp only [ne_eq, Option.some.injEq]; omega)).grown hg2 (by simp only [ne_eq, Option.some.injEq]; omega)
  · rintro e w' ⟨rfl, w2, ⟨w1, ⟨hg, hw⟩, hg2, hw2⟩, hg3⟩
    rw [s3] at hg3
    have hsz := hg.size
    have hsz2 := hg2.size
    have hsz3 := hg3.size
    have e4 : (vWorld g cap w).heap.size = w.heap.size + 4 := by simp [vWorld, s3]
    refine ⟨rfl, ?_, ?_, ?_, ?_, by omega⟩
    · exact gb_before (gb_before (gb_trans gw hg) hg2 (fun g e => .inr (by simp only [Option.some.injEq] at e; omega))) hg3 (fun g e => .inr (by simp only [Option.some.injEq] at e; omega))
    · exact (hw.grown hg2 (by simp only [ne_eq, Option.some.injEq]; omega)).grown hg3 (by simp only [ne_eq, Option.some.injEq]; omega)
    · exact hw2.grown hg3 (by simp only [ne_eq, Option.some.injEq]; omega)
    · exact ((b2.grown hg (by simp only [ne_eq, Option.some.injEq]; omega)).grown hg2 (by simp only [ne_eq, Option.some.injEq]; omega)).grown hg3 (by simp only [ne_eq, Option.some.injEq]; omega)

set_option maxHeartbeats 600000 in
theorem value_any (g : FuncId) (cap : Array Value) (c a v q : Int) (pb : Nat) (w : World) (hcf : ∀ w : World, (callFunc g cap).run Try.prog w = .ok (.enter g cap) w) (hpb : pb < w.heap.size)
    (h : Calls Try.prog g cap (vWorld g cap w) fun e w' => EndedV c a v e ∧ (vWorld g cap w).grownBy w' (some pb) ∧ Whole w' pb 3 #[.int .i64 q]) (hca : c = 0 → a = 0) :
    Calls Try.prog 12 #[.func (.func g) #[] cap] w fun e w' => e = .returned (.tuple #[.int .i64 (if c = 0 then v else 0), .agg #[.int .i64 c, .int .i64 a]]) ∧ w.grownBy w' (some pb) ∧ Whole w' pb 3 #[.int .i64 q] := by
  have hv := value_out g cap c a v q pb w hcf hpb h
  unfold vWorld3 at hv
  have HV := Lib.hid hv
  have hmf : ∀ (fn : Fn) (first cap : Array Value) (w : World), (Instr.makeFunc fn first cap).run Try.prog w = .ok (.func fn first cap) w := fun _ _ _ _ => rfl
  clear h hv hcf
  by_cases hc : c = 0
  · obtain rfl := hca hc
    subst hc
    simp only [if_true] at HV ⊢
    clear hca
    go_enter Try.func12, Try.ntmps12
    go_wp2_with (go_at_call 9; go_must (refine HV.out.mono ?_; rintro e w2 ⟨rfl, hl⟩; have k := fun o => (hl.alloc o).facts; have k2 := fun o => (k o).1; have k1 := fun o => (k o).2.1; have k1' := fun o => (k o).2.2.1; have f1 := fun o => (k o).2.2.2.1; have f1' := fun o => (k o).2.2.2.2; have hz := hl.size; have HL := Lib.hid hl; clear hl k))
    obtain ⟨p1, p2, p3⟩ := (HL.out.alloc (.cells #[.int .i64 0, .int .i64 0] 29)).written hpb (.int .i64 0) (.int .i64 0)
    have q0 := p1.cell 0
    have q1 := p1.cell 1
    simp at q0 q1
    exact bodyPost_ret (v := .tuple #[.int .i64 v, .agg #[.int .i64 0, .int .i64 0]]) (by simp [results, Try.results12, go_sem, q0, q1]) rfl ⟨rfl, p2, p3⟩
  · have R0 : (c == 0) = false := by simpa using hc
    rw [if_neg hc]
    rw [if_neg hc] at HV
    clear hca
    go_enter Try.func12, Try.ntmps12
    go_wp2_with (go_at_call 9; go_must (refine HV.out.mono ?_; rintro e w2 ⟨rfl, hl⟩; have k := fun o => (hl.alloc o).facts; have k2 := fun o => (k o).1; have k1 := fun o => (k o).2.1; have k1' := fun o => (k o).2.2.1; have f1 := fun o => (k o).2.2.2.1; have f1' := fun o => (k o).2.2.2.2; have hz := hl.size; have HL := Lib.hid hl; clear hl k))
    go_region
    all_goals
      go_wp2
      obtain ⟨p1, p2, p3⟩ := (HL.out.alloc (.cells #[.int .i64 c, .int .i64 a] 29)).written hpb (.int .i64 c) (.int .i64 a)
      have q0 := p1.cell 0
      have q1 := p1.cell 1
      simp at q0 q1
      exact bodyPost_ret (v := .tuple #[.int .i64 0, .agg #[.int .i64 c, .int .i64 a]]) (by simp [results, Try.results12, go_sem, q0, q1]) rfl ⟨rfl, gb_drew p2, p3.drew⟩
end Go.Proofs.Ytmgihoogdkpjoaa
