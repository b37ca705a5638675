/- The contracts of awake (the chapter's example), Value, Finally. -/
import Derived.Test.YtmgihoogdkpjoaaWalk
import Derived.Test.YtmgihoogdkpjoaaPlain
namespace Go.Proofs.Ytmgihoogdkpjoaa
open Go.RowKit

theorem cf22 (cap : Array Value) (w : World) : (callFunc 22 cap).run Try.prog w = .ok (.enter 22 cap) w := by kernel_rfl
theorem cf24 (cap : Array Value) (w : World) : (callFunc 24 cap).run Try.prog w = .ok (.enter 24 cap) w := by kernel_rfl

theorem awake11 (w : World) : Calls Try.prog 24 #[] w fun e w' => e = .panicked (stopP 2 3) ∧ w = w' := by
  go_enter Try.func24, Try.ntmps24
  go_wp2_with (go_at_call 25; refine (now_any _ _ _).mono ?_; rintro e w' ⟨rfl, rfl⟩)
  exact ⟨rfl, rfl, rfl⟩

theorem awake1 (w : World) : Calls Try.prog 22 #[] w fun e w' => Ended 2 13 e ∧ w.grownBy w' none := by
  have h := within_any 24 #[] 2 3 10 w (fun w' => w.alloc (.cells #[.int .i64 0, .int .i64 0] 29) = w') (cf24 _)
    ((awake11 _).mono fun e w' ⟨he, hw⟩ => ⟨.inr ⟨by decide, he⟩, hw⟩) (by rintro w' rfl; exact Whole.made w _ _) (by decide) (by decide) (by decide) (by decide)
  have h2 := h.mono (R' := fun e w' => e = .panicked (stopP 2 13) ∧ w.grownBy w' none) (by
    rintro e w' ⟨he, w1, rfl, hg⟩
    rcases he with ⟨h0, _⟩ | ⟨_, he⟩
    · exact absurd h0 (by decide)
    · exact ⟨he, gb_before (gb_alloc (gb_refl w _) _) hg (fun g e => .inr (by simp only [Option.some.injEq] at e; omega))⟩)
  clear h
  go_enter Try.func22, Try.ntmps22
  go_wp2_with (go_at_call 23; refine h2.mono ?_; rintro e w' ⟨rfl, hg⟩)
  exact ⟨rfl, .inr ⟨by decide, rfl⟩, by assumption⟩

theorem awake_any (w : World) : Calls Try.prog 6 #[] w fun e w' => e = .returned (.bool true) ∧ w.grownBy w' none := by
  have h := out_any 22 #[] 2 13 w (fun w' => (w.alloc (.cells #[.int .i64 0, .int .i64 0] 29)).grownBy w' none) (cf22 _) (awake1 _)
    (fun w' hg => (Whole.made w _ _).grown hg (by simp))
  have heq : ∀ w : World, (binOp BinOp.eql 29 (.agg #[.int .i64 2, .int .i64 13]) (.agg #[.int .i64 2, .int .i64 13])).run Try.prog w = .ok (.bool true) w := fun _ => by kernel_rfl
  go_enter Try.func6, Try.ntmps6
  go_wp2_with (go_at_call 9; refine h.mono ?_; rintro e w' ⟨rfl, w1, hg, hg2⟩; have HG := Lib.hid hg; have HG2 := Lib.hid hg2; clear hg hg2)
  go_ret
  exact ⟨rfl, gb_before (gb_trans (gb_alloc (gb_refl w _) _) HG.out) HG2.out (fun g e => .inr (by simp only [Option.some.injEq] at e; omega))⟩

/-- A deferred call of a function through 'call': it leaves the mode as it is. -/
theorem call_deferred (g : FuncId) (cap : Array Value) (u : FrameMode) (w : World) (S : World → Prop) (hcf : ∀ w : World, (callFunc g cap).run Try.prog w = .ok (.enter g cap) w) (h : Calls Try.prog g cap w fun e w' => e = .returned (.tuple #[]) ∧ S w') :
    CallsD Try.prog 29 #[.func (.func g) #[] cap] u w fun e u' w' => u' = u ∧ e = .returned (.tuple #[]) ∧ S w' := by
  have hnil : ∀ w : World, (binOp BinOp.neq 1 (.func (.func g) #[] cap) .nilFunc).run Try.prog w = .ok (.bool true) w := fun _ => by kernel_rfl
  go_enter_d Try.func29, Try.ntmps29
  go_wp2_with fail
  refine h.mono ?_
  rintro e w' ⟨rfl, hs⟩
  have HS := Lib.hid hs
  clear hs h
  go_wp2_with fail
  go_end0
  exact ⟨rfl, HS.out⟩

set_option maxHeartbeats 400000 in
/-- Finally: both functions are called, and what the first one ends with goes on. -/
theorem finally_any (g1 g2 : FuncId) (cap1 cap2 : Array Value) (c a : Int) (w : World) (S1 S2 : World → Prop)
    (hcf1 : ∀ w : World, (callFunc g1 cap1).run Try.prog w = .ok (.enter g1 cap1) w) (hcf2 : ∀ w : World, (callFunc g2 cap2).run Try.prog w = .ok (.enter g2 cap2) w)
    (h1 : Calls Try.prog g1 cap1 w fun e w' => Ended c a e ∧ S1 w') (h2 : ∀ w1, S1 w1 → Calls Try.prog g2 cap2 w1 fun e w' => e = .returned (.tuple #[]) ∧ S2 w') :
    Calls Try.prog 17 #[.func (.func g1) #[] cap1, .func (.func g2) #[] cap2] w fun e w' => Ended c a e ∧ S2 w' := by
  have h := call_any g1 cap1 w _ hcf1 h1 (by
    rintro v w' ⟨he, hs⟩
    rcases he with ⟨h0, h1, _⟩ | ⟨_, h1⟩
    · exact ⟨.inl ⟨h0, h1, rfl⟩, hs⟩
    · cases h1) (by
    rintro w' ⟨he, _⟩
    rcases he with ⟨_, _, h1⟩ | ⟨_, h1⟩ <;> cases h1)
  have H1 := Lib.hid h1
  have H2 := Lib.hid h2
  have HC := Lib.hid hcf2
  clear h1 h2 hcf1 hcf2
  go_enter_defers Try.func17, Try.ntmps17
  go_wp2_with (go_at_call 29; go_must (refine h.mono ?_))
  rintro e w1 ⟨he, hs⟩
  rcases he with ⟨rfl, rfl, rfl⟩ | ⟨hc, rfl⟩
  · have HS := Lib.hid hs
    clear hs h
    go_wp2_with fail
    refine leaves_cons (f := 29) (args := #[.func (.func g2) #[] cap2]) (by simp) (by simp [go_sem]) ?_
    refine (call_deferred g2 cap2 .returning w1 S2 HC.out (H2.out w1 HS.out)).mono ?_
    rintro e u' w2 ⟨rfl, rfl, hs2⟩
    have F : Ended 0 0 (.returned (.tuple #[])) ∧ S2 w2 := ⟨.inl ⟨rfl, rfl, rfl⟩, hs2⟩
    simp [Leaves, settle, results, Try.results17, go_sem]
    exact F
  · have HS := Lib.hid hs
    have HC2 := Lib.hid hc
    clear hs h hc
    go_wp2_with fail
    refine leaves_cons (f := 29) (args := #[.func (.func g2) #[] cap2]) (by simp) (by simp [go_sem]) ?_
    refine (call_deferred g2 cap2 (.panicking (stopP c a)) w1 S2 HC.out (H2.out w1 HS.out)).mono ?_
    rintro e u' w2 ⟨rfl, rfl, hs2⟩
    have F : Ended c a (.panicked (stopP c a)) ∧ S2 w2 := ⟨.inr ⟨HC2.out, rfl⟩, hs2⟩
    simp only [Leaves, settle, stopP]
    exact F

/-- How a function that answers a number ends. -/
def EndedV (c a v : Int) (e : Ending) : Prop := (c = 0 ∧ a = 0 ∧ e = .returned (.int .i64 v)) ∨ (¬ c = 0 ∧ e = .panicked (stopP c a))

theorem cfV (cap : Array Value) (w : World) : (callFunc 32 cap).run Try.prog w = .ok (.enter 32 cap) w := by kernel_rfl

/-- What Value's own closure does. -/
theorem valueClosure (g : FuncId) (cap : Array Value) (c a v : Int) (b1 b4 : Nat) (w : World) (S : World → Prop) (hcf : ∀ w : World, (callFunc g cap).run Try.prog w = .ok (.enter g cap) w)
    (h1 : Whole w b1 35 #[.func (.func g) #[] cap]) (h : Calls Try.prog g cap w fun e w' => EndedV c a v e ∧ S w') (hS : ∀ w', S w' → Whole w' b4 3 #[.int .i64 0]) :
    Calls Try.prog 32 #[.pointer (some ⟨b1, 0, none⟩), .pointer (some ⟨b4, 0, none⟩)] w fun e w' => Ended c a e ∧ ∃ w1, S w1 ∧ w1.grownBy w' (some b4) ∧ Whole w' b4 3 #[.int .i64 (if c = 0 then v else 0)] := by
  have hnil : ∀ w : World, (binOp BinOp.neq 35 (.func (.func g) #[] cap) .nilFunc).run Try.prog w = .ok (.bool true) w := fun _ => by kernel_rfl
  have c1 := h1.cell 0
  simp at c1
  have HH := Lib.hid h
  have HS := Lib.hid hS
  clear h h1 hS
  go_enter Try.func32, Try.ntmps32
  go_wp2_with fail
  refine HH.out.mono ?_
  rintro e w1 ⟨he, hs⟩
  have hw := HS.out w1 hs
  have k4 := hw.cell 0
  simp at k4
  have f4 := hw.frozen 0
  rcases he with ⟨rfl, rfl, rfl⟩ | ⟨hc, rfl⟩
  · have F : Hid (∃ w2, S w2 ∧ w2.grownBy (w1.setCell ⟨b4, 0, none⟩ (.int .i64 v)) (some b4) ∧ Whole (w1.setCell ⟨b4, 0, none⟩ (.int .i64 v)) b4 3 #[.int .i64 v]) :=
      ⟨w1, hs, gb_put (p := ⟨b4, 0, none⟩) (gb_refl w1 _) (.inl rfl) _, by simpa using hw.put 0 (.int .i64 v)⟩
    clear hs hw
    go_wp2_with fail
    go_end0
    exact ⟨.inl ⟨rfl, rfl, rfl⟩, F.out⟩
  · refine ⟨rfl, .inr ⟨hc, rfl⟩, w1, hs, gb_refl w1 _, ?_⟩
    rw [if_neg hc]
    exact hw

end Go.Proofs.Ytmgihoogdkpjoaa
