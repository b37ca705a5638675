/- The contract of Each. -/
import Derived.Test.YtmgihoogdkpjoaaAwake
import Derived.RegionTactic
import Derived.Laws.ResultCell
namespace Go.Proofs.Ytmgihoogdkpjoaa
open Go.RowKit

theorem cf33 (cap : Array Value) (w : World) : (callFunc 33 cap).run Try.prog w = .ok (.enter 33 cap) w := by kernel_rfl

/-- Each's own closure calls the function with the number. -/
theorem each_closure (g : FuncId) (c1 c2 : Value) (k bf bi : Nat) (w : World) (R : Ending → World → Prop) (hcf : ∀ (args : Array Value) (w : World), (callFunc g args).run Try.prog w = .ok (.enter g args) w)
    (h1 : Whole w bf 39 #[.func (.func g) #[] #[c1, c2]]) (h2 : Whole w bi 3 #[.int .i64 k]) (h : Calls Try.prog g #[.int .i64 k, c1, c2] w R) (hR : ∀ e w', R e w' → e = .returned (.tuple #[]) ∨ ∃ ch, e = .panicked ch) :
    Calls Try.prog 33 #[.pointer (some ⟨bf, 0, none⟩), .pointer (some ⟨bi, 0, none⟩)] w R := by
  have x1 := h1.cell 0
  have x2 := h2.cell 0
  simp at x1 x2
  have HH := Lib.hid h
  have HR := Lib.hid hR
  clear h hR h1 h2
  go_enter Try.func33, Try.ntmps33
  go_wp2_with fail
  refine HH.out.mono ?_
  intro e w' hr
  have HK := Lib.hid hr
  rcases HR.out e w' hr with rfl | ⟨ch, rfl⟩
  · clear hr
    go_wp2_with fail
    go_end0
    exact HK.out
  · exact ⟨rfl, HK.out⟩

/-- What a round of Each leaves. -/
structure ELeft (w : World) (pb : Nat) (S : World → Prop) (fv : Value) (k : Nat) (wr w' : World) : Prop where
  state : S w'
  grown : w.grownBy w' (some pb)
  fun_ : Whole w' w.heap.size 39 #[fv]
  res : Whole w' (w.heap.size + 1) 29 #[.int .i64 0, .int .i64 0]
  idx : Whole w' wr.heap.size 3 #[.int .i64 k]
  size : wr.heap.size < w'.heap.size

theorem each_out (g : FuncId) (c1 c2 : Value) (k pb : Nat) (c a : Int) (w wr : World) (S0 S1 : World → Prop) (hcf : ∀ (args : Array Value) (w : World), (callFunc g args).run Try.prog w = .ok (.enter g args) w)
    (hpb : pb < w.heap.size) (hS1 : ∀ w1 w2 g, S1 w1 → w1.grownBy w2 (some g) → w.heap.size ≤ g → S1 w2)
    (hS0 : ∀ w1 w2 g, S0 w1 → w1.grownBy w2 (some g) → w.heap.size ≤ g → S0 w2)
    (h : ∀ w1, S0 w1 → w.heap.size ≤ w1.heap.size → Calls Try.prog g #[.int .i64 k, c1, c2] w1 fun e w' => Ended c a e ∧ S1 w' ∧ w1.grownBy w' (some pb))
    (hs : S0 wr) (hg : w.grownBy wr (some pb)) (hf : Whole wr w.heap.size 39 #[.func (.func g) #[] #[c1, c2]]) (hres : Whole wr (w.heap.size + 1) 29 #[.int .i64 0, .int .i64 0]) :
    Calls Try.prog 9 #[.func (.func 33) #[] #[.pointer (some ⟨w.heap.size, 0, none⟩), .pointer (some ⟨wr.heap.size, 0, none⟩)]] (wr.alloc (.cells #[.int .i64 k] 3)) fun e w' =>
      e = .returned (.agg #[.int .i64 c, .int .i64 a]) ∧ ELeft w pb S1 (.func (.func g) #[] #[c1, c2]) k wr w' := by
  have hz := hg.size
  have hz2 := hres.lt
  have hz3 : (wr.alloc (.cells #[.int .i64 k] 3)).heap.size = wr.heap.size + 1 := by simp
  have s2 : S0 ((wr.alloc (.cells #[.int .i64 k] 3)).alloc (.cells #[.int .i64 0, .int .i64 0] 29)) := hS0 _ _ (w.heap.size) hs (gb_alloc (gb_alloc (gb_refl wr _) _) _) (Nat.le_refl _)
  have hc := h _ s2 (by simp; omega)
  have hcl := each_closure g c1 c2 k w.heap.size wr.heap.size _ _ hcf ((hf.alloc _).alloc _) ((Whole.made wr _ _).alloc _) hc (fun e w' h => h.1.two)
  refine (out_any 33 _ c a (wr.alloc (.cells #[.int .i64 k] 3)) _ (cf33 _) hcl ?_).mono ?_
  · rintro w' ⟨_, hg2⟩
    exact (Whole.made _ _ _).grown hg2 (by simp only [ne_eq, Option.some.injEq]; omega)
  · rintro e w' ⟨rfl, w1, ⟨hs1, hg1⟩, hg2⟩
    rw [hz3] at hg2
    have g1 := hg1.size
    have g2 := hg2.size
    simp only [World.size_alloc] at g1
    refine ⟨rfl, hS1 _ _ _ hs1 hg2 (by omega), ?_, ?_, ?_, ?_, by omega⟩
    · exact gb_before (gb_trans (gb_alloc (gb_alloc hg _) _) hg1) hg2 (fun g e => .inr (by simp only [Option.some.injEq] at e; omega))
    · exact (((hf.alloc _).alloc _).grown hg1 (by simp only [ne_eq, Option.some.injEq]; omega)).grown hg2 (by simp only [ne_eq, Option.some.injEq]; omega)
    · exact (((hres.alloc _).alloc _).grown hg1 (by simp only [ne_eq, Option.some.injEq]; omega)).grown hg2 (by simp only [ne_eq, Option.some.injEq]; omega)
    · exact (((Whole.made wr _ _).alloc _).grown hg1 (by simp only [ne_eq, Option.some.injEq]; omega)).grown hg2 (by simp only [ne_eq, Option.some.injEq]; omega)

theorem ELeft.alloc {w : World} {pb : Nat} {S : World → Prop} {fv : Value} {k : Nat} {wr w' : World} (hS1 : ∀ w1 w2 g, S w1 → w1.grownBy w2 (some g) → w.heap.size ≤ g → S w2) (h : ELeft w pb S fv k wr w') (o : Obj) : ELeft w pb S fv k wr (w'.alloc o) :=
  ⟨hS1 _ _ w.heap.size h.state (gb_alloc (gb_refl w' _) o) (Nat.le_refl _), gb_alloc h.grown o, h.fun_.alloc o, h.res.alloc o, h.idx.alloc o, by have := h.size; simp; omega⟩

/-- The end of Each: the named result is written in its variable. -/
theorem each_written {w : World} {pb : Nat} {S : World → Prop} {w' : World} (hS1 : ∀ w1 w2 g, S w1 → w1.grownBy w2 (some g) → w.heap.size ≤ g → S w2) (h1 : S w') (h2 : w.grownBy w' (some pb)) (h3 : Whole w' (w.heap.size + 1) 29 #[.int .i64 0, .int .i64 0]) (u v : Value) :
    Whole ((w'.setCell ⟨w.heap.size + 1, 0, none⟩ u).setCell ⟨w.heap.size + 1, 1, none⟩ v) (w.heap.size + 1) 29 #[u, v] ∧ w.grownBy ((w'.setCell ⟨w.heap.size + 1, 0, none⟩ u).setCell ⟨w.heap.size + 1, 1, none⟩ v) (some pb) ∧
      S ((w'.setCell ⟨w.heap.size + 1, 0, none⟩ u).setCell ⟨w.heap.size + 1, 1, none⟩ v) := by
  have k1 : Whole ((w'.setCell ⟨w.heap.size + 1, 0, none⟩ u).setCell ⟨w.heap.size + 1, 1, none⟩ v) (w.heap.size + 1) 29 ((#[.int .i64 0, .int .i64 0].setIfInBounds 0 u).setIfInBounds 1 v) := (h3.put 0 u).put 1 v
  have g1 : w.grownBy (w'.setCell ⟨w.heap.size + 1, 0, none⟩ u) (some pb) := gb_put (p := ⟨w.heap.size + 1, 0, none⟩) h2 (.inr (by show w.heap.size ≤ w.heap.size + 1; omega)) u
  have g2 : w.grownBy ((w'.setCell ⟨w.heap.size + 1, 0, none⟩ u).setCell ⟨w.heap.size + 1, 1, none⟩ v) (some pb) := gb_put (p := ⟨w.heap.size + 1, 1, none⟩) g1 (.inr (by show w.heap.size ≤ w.heap.size + 1; omega)) v
  have q1 : w'.grownBy (w'.setCell ⟨w.heap.size + 1, 0, none⟩ u) (some (w.heap.size + 1)) := gb_put (p := ⟨w.heap.size + 1, 0, none⟩) (gb_refl w' _) (.inl rfl) u
  have q2 : w'.grownBy ((w'.setCell ⟨w.heap.size + 1, 0, none⟩ u).setCell ⟨w.heap.size + 1, 1, none⟩ v) (some (w.heap.size + 1)) := gb_put (p := ⟨w.heap.size + 1, 1, none⟩) q1 (.inl rfl) v
  exact ⟨k1, g2, hS1 _ _ _ h1 q2 (by omega)⟩

/-- Where Each ends: at the first number whose call gives up, or behind the last one. -/
structure EEnd (n i0 kS : Nat) (C A : Nat → Int) (cS aS : Int) : Prop where
  le : i0 ≤ n
  zero : ∀ j, j < i0 → C j = 0
  last : (i0 = n ∧ cS = 0 ∧ aS = 0 ∧ kS = n) ∨ (i0 < n ∧ cS = C i0 ∧ aS = A i0 ∧ kS = i0 + 1 ∧ ¬ C i0 = 0)

set_option maxRecDepth 100000 in
set_option maxHeartbeats 1000000 in
theorem each_any (g : FuncId) (c1 c2 : Value) (n i0 kS pb : Nat) (C A : Nat → Int) (cS aS : Int) (S : Nat → World → Prop) (w : World) (hcf : ∀ (args : Array Value) (w : World), (callFunc g args).run Try.prog w = .ok (.enter g args) w)
    (hE : EEnd n i0 kS C A cS aS) (hn : n ≤ 1000) (hpb : pb < w.heap.size) (hS : ∀ i w1 w2 g, S i w1 → w1.grownBy w2 (some g) → w.heap.size ≤ g → S i w2)
    (h : ∀ k, k < n → ∀ w1, S k w1 → w.heap.size ≤ w1.heap.size → Calls Try.prog g #[.int .i64 k, c1, c2] w1 fun e w' => Ended (C k) (A k) e ∧ S (k + 1) w' ∧ w1.grownBy w' (some pb)) (h0 : S 0 w) :
    Calls Try.prog 14 #[.int .i64 n, .func (.func g) #[] #[c1, c2]] w fun e w' => e = .returned (.tuple #[.int .i64 i0, .agg #[.int .i64 cS, .int .i64 aS]]) ∧ S kS w' ∧ w.grownBy w' (some pb) := by
  have hnil : ∀ w : World, (binOp BinOp.eql 39 (.func (.func g) #[] #[c1, c2]) .nilFunc).run Try.prog w = .ok (.bool false) w := fun _ => by kernel_rfl
  have hmf : ∀ (fn : Fn) (first cap : Array Value) (w : World), (Instr.makeFunc fn first cap).run Try.prog w = .ok (.func fn first cap) w := fun _ _ _ _ => rfl
  have hle := hE.le
  have HE := Lib.hid hE
  have HS := Lib.hid hS
  have HH := Lib.hid h
  have H0 := Lib.hid h0
  have HCF := Lib.hid hcf
  clear hE hS h h0 hcf
  go_enter Try.func14, Try.ntmps14
  go_wp2
  go_loopw [14] (fun i wr => ∃ k : Nat, k ≤ i0 ∧ i = .int .i64 k ∧ S k wr ∧ w.grownBy wr (some pb) ∧ Whole wr w.heap.size 39 #[.func (.func g) #[] #[c1, c2]] ∧ Whole wr (w.heap.size + 1) 29 #[.int .i64 0, .int .i64 0]) (fun i _ => n - (intOf i).toNat)
  case atStart =>
    refine ⟨0, Nat.zero_le _, rfl, HS.out 0 w _ w.heap.size H0.out (gb_alloc (gb_alloc (gb_refl w _) _) _) (Nat.le_refl _), gb_alloc (gb_alloc (gb_refl w _) _) _, (Whole.made w _ _).alloc _, ?_⟩
    have := Whole.made (w.alloc (.cells #[.func (.func g) #[] #[c1, c2]] 39)) 29 #[.int .i64 0, .int .i64 0]
    simpa using this
  case round =>
    obtain ⟨k, hk, rfl, hs, hg, hf, hres⟩ := hrel
    have hz := hres.lt
    by_cases hkn : k < n
    · have ho := each_out g c1 c2 k pb (C k) (A k) w wr (S k) (S (k + 1)) HCF.out hpb (HS.out (k + 1)) (HS.out k) (HH.out k hkn) hs hg hf hres
      have HO := Lib.hid ho
      clear ho hs hg hf hres
      by_cases hck : C k = 0
      · have hk2 : k + 1 ≤ i0 := by
          rcases Nat.lt_or_ge k i0 with h | h
          · omega
          · exfalso
            rcases HE.out.last with ⟨h1, _⟩ | ⟨_, _, _, _, h1⟩
            · omega
            · have e : i0 = k := by omega
              rw [e] at h1
              exact h1 hck
        obtain ⟨a, ha⟩ : ∃ a, a = A k := ⟨_, rfl⟩
        have HO2 : Hid (Calls Try.prog 9 #[.func (.func 33) #[] #[.pointer (some ⟨w.heap.size, 0, none⟩), .pointer (some ⟨wr.heap.size, 0, none⟩)]] (wr.alloc (.cells #[.int .i64 k] 3)) fun e w' =>
          e = .returned (.agg #[.int .i64 0, .int .i64 a]) ∧ ELeft w pb (S (k + 1)) (.func (.func g) #[] #[c1, c2]) k wr w') := by
          have := HO.out
          rw [hck, ← ha] at this
          exact this
        clear hck ha HO
        go_wp2_with (go_at_call 9; go_must (refine HO2.out.mono ?_; rintro e w2 ⟨rfl, hl⟩; have HL := Lib.hid hl; clear hl))
        go_roundw
        case rel => exact ⟨k + 1, hk2, by go_num, (HL.out.alloc (HS.out _) _).state, (HL.out.alloc (HS.out _) _).grown, (HL.out.alloc (HS.out _) _).fun_, (HL.out.alloc (HS.out _) _).res⟩
        case measure => simp [intOf]; omega
      · have hki : k = i0 := by
          rcases Nat.lt_or_ge k i0 with h | h
          · exact absurd (HE.out.zero k h) hck
          · omega
        subst hki
        obtain ⟨c, hc⟩ : ∃ c, c = C k := ⟨_, rfl⟩
        obtain ⟨a, ha⟩ : ∃ a, a = A k := ⟨_, rfl⟩
        rw [← hc] at hck
        have hlast : cS = c ∧ aS = a ∧ kS = k + 1 := by
          rcases HE.out.last with ⟨h1, _⟩ | ⟨_, h1, h2, h3, _⟩
          · omega
          · exact ⟨by rw [hc, h1], by rw [ha, h2], h3⟩
        obtain ⟨rfl, rfl, rfl⟩ := hlast
        have R1 : (cS == 0) = false := by simpa using hck
        have R2 : (cS != 0) = true := by simpa using hck
        have HO2 : Hid (Calls Try.prog 9 #[.func (.func 33) #[] #[.pointer (some ⟨w.heap.size, 0, none⟩), .pointer (some ⟨wr.heap.size, 0, none⟩)]] (wr.alloc (.cells #[.int .i64 k] 3)) fun e w' =>
          e = .returned (.agg #[.int .i64 cS, .int .i64 aS]) ∧ ELeft w pb (S (k + 1)) (.func (.func g) #[] #[c1, c2]) k wr w') := by
          have := HO.out
          rw [← hc, ← ha] at this
          exact this
        clear hck ha hc HO
        go_wp2_with (go_at_call 9; go_must (refine HO2.out.mono ?_; rintro e w2 ⟨rfl, hl⟩; have xi := fun o => (hl.idx.alloc o).cell 0; have x0 := fun o => (hl.res.alloc o).cell 0; have x1 := fun o => (hl.res.alloc o).cell 1; have f0 := fun o => (hl.res.alloc o).frozen 0; have f1 := fun o => (hl.res.alloc o).frozen 1; have hz5 := hl.size; have HL := Lib.hid hl; simp at xi x0 x1; clear hl))
        go_region
        all_goals
          go_wp2
          obtain ⟨p1, p2, p3⟩ := each_written (HS.out _) (HL.out.alloc (HS.out _) (.cells #[.int .i64 cS, .int .i64 aS] 29)).state (HL.out.alloc (HS.out _) _).grown (HL.out.alloc (HS.out _) _).res (.int .i64 cS) (.int .i64 aS)
          have q0 := p1.cell 0
          have q1 := p1.cell 1
          simp at q0 q1
          exact bodyPost_ret (v := .tuple #[.int .i64 k, .agg #[.int .i64 cS, .int .i64 aS]]) (by simp [results, Try.results14, go_sem, q0, q1]) rfl ⟨rfl, HS.out _ _ _ w.heap.size p3 (gb_drew (gb_refl _ _)) (Nat.le_refl _), gb_drew p2⟩
    · have hkn2 : k = n := by omega
      subst hkn2
      clear hkn
      have hlast : i0 = k ∧ cS = 0 ∧ aS = 0 ∧ kS = k := by
        rcases HE.out.last with ⟨h1, h2, h3, h4⟩ | ⟨h1, _⟩
        · exact ⟨h1, h2, h3, h4⟩
        · omega
      obtain ⟨rfl, rfl, rfl, rfl⟩ := hlast
      have x0 := hres.cell 0
      have x1 := hres.cell 1
      have f0 := hres.frozen 0
      have f1 := hres.frozen 1
      have HW := Lib.hid (each_written (HS.out _) hs hg hres (.int .i64 0) (.int .i64 0))
      simp at x0 x1
      clear hs hg hf hres
      go_wp2
      obtain ⟨p1, p2, p3⟩ := HW.out
      have q0 := p1.cell 0
      have q1 := p1.cell 1
      simp at q0 q1
      exact bodyPost_ret (v := .tuple #[.int .i64 kS, .agg #[.int .i64 0, .int .i64 0]]) (by simp [results, Try.results14, go_sem, q0, q1]) rfl ⟨rfl, p3, p2⟩

set_option maxHeartbeats 400000 in
/-- Each of a negative number calls nothing. -/
theorem each_neg (g : FuncId) (c1 c2 : Value) (N : Int) (w : World) (hN : N < 0) :
    Calls Try.prog 14 #[.int .i64 N, .func (.func g) #[] #[c1, c2]] w fun e w' => e = .returned (.tuple #[.int .i64 0, .agg #[.int .i64 0, .int .i64 0]]) ∧ w.grownBy w' none := by
  have hnil : ∀ w : World, (binOp BinOp.eql 39 (.func (.func g) #[] #[c1, c2]) .nilFunc).run Try.prog w = .ok (.bool false) w := fun _ => by kernel_rfl
  go_enter Try.func14, Try.ntmps14
  go_wp2
  go_loop [14] (fun i => i = .int .i64 0) (fun _ => 0)
  case atStart => rfl
  case round =>
    subst hrel
    go_wp2
    exact bodyPost_ret (v := .tuple #[.int .i64 0, .agg #[.int .i64 0, .int .i64 0]]) (by simp [results, Try.results14, go_sem]) rfl ⟨rfl, gb_alloc (gb_alloc (gb_refl w _) _) _⟩
end Go.Proofs.Ytmgihoogdkpjoaa
