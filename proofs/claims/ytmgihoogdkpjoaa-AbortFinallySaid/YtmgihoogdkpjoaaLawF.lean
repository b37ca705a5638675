/- The walk of the law AbortFinally. -/
import Derived.Test.YtmgihoogdkpjoaaInv
namespace Go.Proofs.Ytmgihoogdkpjoaa
open Go.RowKit

theorem cfF1 (cap : Array Value) (w : World) : (callFunc 16 cap).run Try.prog w = .ok (.enter 16 cap) w := by kernel_rfl
theorem cfF2 (cap : Array Value) (w : World) : (callFunc 20 cap).run Try.prog w = .ok (.enter 20 cap) w := by kernel_rfl
theorem cfF11 (cap : Array Value) (w : World) : (callFunc 18 cap).run Try.prog w = .ok (.enter 18 cap) w := by kernel_rfl
theorem cfF12 (cap : Array Value) (w : World) : (callFunc 19 cap).run Try.prog w = .ok (.enter 19 cap) w := by kernel_rfl

theorem fin1 {l : List St} {A : Option Addr} {c bs : Nat} {n m : Int} {w0 w : World} (h : Inv l A c bs n m w0 w) (h0 : 0 ≤ n) (h1 : n ≤ 900000) :
    Calls Try.prog 18 #[.pointer (some ⟨bs, 0, none⟩), .pointer (some ⟨bs + 1, 0, none⟩)] w fun e w' => Ended (runS l).2.1 (runS l).2.2 e ∧ Inv l A c bs (n + (runS l).1) m w0 w' ∧ w.grownBy w' (some (bs + 1)) := by
  have hc := h.run1 h0 h1
  have c0 := h.cell.cell 0
  simp at c0
  have HC := Lib.hid hc
  clear hc h h0 h1
  go_enter Try.func18, Try.ntmps18
  go_wp2_with fail
  refine HC.out.mono ?_
  rintro e w' ⟨he, hi⟩
  rcases he with ⟨e1, e2, rfl⟩ | ⟨hc, rfl⟩
  · have HI := Lib.hid hi
    have E1 := Lib.hid e1
    have E2 := Lib.hid e2
    clear hi e1 e2
    go_wp2_with fail
    go_end0
    exact ⟨.inl ⟨E1.out, E2.out, rfl⟩, HI.out⟩
  · exact ⟨rfl, .inr ⟨hc, rfl⟩, hi⟩

theorem fin2 {l : List St} {A : Option Addr} {c bs : Nat} {n m : Int} {w0 w : World} (h : Inv l A c bs n m w0 w) :
    Calls Try.prog 19 #[.pointer (some ⟨bs + 1, 0, none⟩), .pointer (some ⟨bs + 2, 0, none⟩)] w fun e w' => e = .returned (.tuple #[]) ∧ Inv l A c bs n n w0 w' ∧ w.grownBy w' (some (bs + 2)) := by
  have c1 := h.one.cell 0
  have c2 := h.two.cell 0
  have f2 := h.two.frozen 0
  simp at c1 c2
  have g : w.grownBy (w.setCell ⟨bs + 2, 0, none⟩ (.int .i64 n)) (some (bs + 2)) := gb_put (p := ⟨bs + 2, 0, none⟩) (gb_refl w _) (.inl rfl) _
  have HI := Lib.hid (h.of_two g (by simpa using h.two.put 0 (.int .i64 n)))
  have HG := Lib.hid g
  clear h g
  go_enter Try.func19, Try.ntmps19
  go_wp2
  go_end0
  exact ⟨rfl, HI.out, HG.out⟩

/-- The closure that calls Finally. -/
theorem fin_closure {l : List St} {A : Option Addr} {c bs : Nat} {m : Int} {w0 w : World} (rb : Nat) (hrb : bs + 2 < rb) (h : Inv l A c bs 0 m w0 w) (hw : Whole w rb 29 #[.int .i64 0, .int .i64 0]) :
    Calls Try.prog 16 #[.pointer (some ⟨bs, 0, none⟩), .pointer (some ⟨bs + 1, 0, none⟩), .pointer (some ⟨bs + 2, 0, none⟩)] w fun e w' => Ended (runS l).2.1 (runS l).2.2 e ∧ Inv l A c bs (runS l).1 (runS l).1 w0 w' ∧ Whole w' rb 29 #[.int .i64 0, .int .i64 0] := by
  have hf := finally_any 18 19 #[.pointer (some ⟨bs, 0, none⟩), .pointer (some ⟨bs + 1, 0, none⟩)] #[.pointer (some ⟨bs + 1, 0, none⟩), .pointer (some ⟨bs + 2, 0, none⟩)] (runS l).2.1 (runS l).2.2 w
    (fun w' => Inv l A c bs (runS l).1 m w0 w' ∧ Whole w' rb 29 #[.int .i64 0, .int .i64 0]) (fun w' => Inv l A c bs (runS l).1 (runS l).1 w0 w' ∧ Whole w' rb 29 #[.int .i64 0, .int .i64 0]) (cfF11 _) (cfF12 _)
    ((fin1 h (by omega) (by omega)).mono fun e w' hh => by
      rw [Int.zero_add] at hh
      exact ⟨hh.1, hh.2.1, hw.grown hh.2.2 (by simp only [ne_eq, Option.some.injEq]; omega)⟩)
    (fun w1 hs => (fin2 hs.1).mono fun e w' hh => ⟨hh.1, hh.2.1, hs.2.grown hh.2.2 (by simp only [ne_eq, Option.some.injEq]; omega)⟩)
  have HF := Lib.hid hf
  have hmf : ∀ (fn : Fn) (first cap : Array Value) (w : World), (Instr.makeFunc fn first cap).run Try.prog w = .ok (.func fn first cap) w := fun _ _ _ _ => rfl
  clear hf h hw
  go_enter Try.func16, Try.ntmps16
  go_wp2_with fail
  refine HF.out.mono ?_
  rintro e w' ⟨he, hi⟩
  rcases he with ⟨e1, e2, rfl⟩ | ⟨hc, rfl⟩
  · have HI := Lib.hid hi
    have E1 := Lib.hid e1
    have E2 := Lib.hid e2
    clear hi e1 e2
    go_wp2_with fail
    go_end0
    exact ⟨.inl ⟨E1.out, E2.out, rfl⟩, HI.out⟩
  · exact ⟨rfl, .inr ⟨hc, rfl⟩, hi⟩

theorem fin_out {l : List St} {A : Option Addr} {c bs : Nat} {m : Int} {w0 w : World} (h : Inv l A c bs 0 m w0 w) :
    Calls Try.prog 9 #[.func (.func 16) #[] #[.pointer (some ⟨bs, 0, none⟩), .pointer (some ⟨bs + 1, 0, none⟩), .pointer (some ⟨bs + 2, 0, none⟩)]] w fun e w' => e = .returned (.agg #[.int .i64 (runS l).2.1, .int .i64 (runS l).2.2]) ∧ Inv l A c bs (runS l).1 (runS l).1 w0 w' := by
  have h2 := h.two.lt
  refine (out_any 16 _ (runS l).2.1 (runS l).2.2 w _ (cfF1 _) (fin_closure w.heap.size h2 (h.alloc _) (Whole.made w _ _)) (fun w' hs => hs.2)).mono ?_
  rintro e w' ⟨rfl, w1, ⟨hi, _⟩, hg⟩
  exact ⟨rfl, hi.of_far hg h2⟩

/-- What is asked: nothing where it holds, else a Stop. -/
theorem fin_ask (is : Bool) (code : Int) (b0 b1 : Nat) (w : World) (h0 : Whole w b0 4 #[.bool is]) (h1 : Whole w b1 3 #[.int .i64 code]) :
    Calls Try.prog 20 #[.pointer (some ⟨b0, 0, none⟩), .pointer (some ⟨b1, 0, none⟩)] w fun e w' => Ended (if is then 0 else 1 + code % 64) (if is then 0 else 7) e ∧ w = w' := by
  have c0 := h0.cell 0
  have c1 := h1.cell 0
  simp at c0 c1
  have ax : bits .and .i64 code 63 = code % 64 := and63 code
  clear h0 h1
  cases is with
  | true =>
    go_enter Try.func20, Try.ntmps20
    go_wp2_with (go_at_call 21; go_must (refine (unless_true _ _ _).mono ?_; rintro e w' ⟨rfl, rfl⟩))
    go_end0
    exact ⟨.inl ⟨rfl, rfl, rfl⟩, rfl⟩
  | false =>
    obtain ⟨x, hx⟩ : ∃ x, x = code % 64 := ⟨_, rfl⟩
    have hx0 : 0 ≤ x := by omega
    have hx1 : x ≤ 63 := by omega
    rw [← hx] at ax ⊢
    clear hx
    go_enter Try.func20, Try.ntmps20
    go_wp2_with (go_at_call 21; go_must (refine (unless_false _ _ _).mono ?_; rintro e w' ⟨rfl, rfl⟩))
    refine ⟨rfl, .inr ⟨?_, rfl⟩, rfl⟩
    show ¬ (1 + x : Int) = 0
    omega

theorem fin_out2 (is : Bool) (code : Int) (b0 b1 : Nat) (w : World) (h0 : Whole w b0 4 #[.bool is]) (h1 : Whole w b1 3 #[.int .i64 code]) :
    Calls Try.prog 9 #[.func (.func 20) #[] #[.pointer (some ⟨b0, 0, none⟩), .pointer (some ⟨b1, 0, none⟩)]] w fun e w' => e = .returned (.agg #[.int .i64 (if is then 0 else 1 + code % 64), .int .i64 (if is then 0 else 7)]) ∧ w.grownBy w' none := by
  refine (out_any 20 _ _ _ w (fun w' => w.alloc (.cells #[.int .i64 0, .int .i64 0] 29) = w') (cfF2 _) (fin_ask is code b0 b1 _ (h0.alloc _) (h1.alloc _)) ?_).mono ?_
  · rintro w' rfl
    exact Whole.made w _ _
  · rintro e w' ⟨rfl, w1, rfl, hg⟩
    exact ⟨rfl, gb_before (gb_alloc (gb_refl w _) _) hg (fun g e => .inr (by simp only [Option.some.injEq] at e; omega))⟩

set_option maxRecDepth 100000 in
set_option maxHeartbeats 1000000 in
theorem lawFin_small (A : Option Addr) (cap B : Nat) (l : List St) (is : Bool) (code : Int) (w : World) (hr : Reads w B A l) (hB : B ≤ w.heap.size) (hm : cap ≤ maxLen) (h40 : l.length ≤ 40) :
    Calls Try.prog 5 #[.slice A l.length cap, .bool is, .int .i64 code] w fun e w' => e = .returned (.bool true) ∧ w.grownBy w' none := by
  have hmf : ∀ (fn : Fn) (first cap : Array Value) (w : World), (Instr.makeFunc fn first cap).run Try.prog w = .ok (.func fn first cap) w := fun _ _ _ _ => rfl
  obtain ⟨rn, hrn⟩ : ∃ x, x = (runS (l.map plainSt)).1 := ⟨_, rfl⟩
  obtain ⟨rc, hrc⟩ : ∃ x, x = (runS (l.map plainSt)).2.1 := ⟨_, rfl⟩
  obtain ⟨ra, hra⟩ : ∃ x, x = (runS (l.map plainSt)).2.2 := ⟨_, rfl⟩
  have hbx0 := (Whole.made w 4 #[.bool is]).alloc (.cells #[.int .i64 code] 3)
  have hbx1 := Whole.made (w.alloc (.cells #[.bool is] 4)) 3 #[.int .i64 code]
  simp only [World.size_alloc] at hbx1
  have ax : bits .and .i64 code 63 = code % 64 := and63 code
  have HR := Lib.hid hr
  have HM := Lib.hid hm
  have HRN := Lib.hid hrn
  have HRC := Lib.hid hrc
  have HRA := Lib.hid hra
  clear hr hm hrn hrc hra
  cases is with
  | true =>
    go_enter Try.func5, Try.ntmps5
    go_wp2_with (first
      | (go_at_call 6; go_must (refine (awake_any _).mono ?_; rintro e w1 ⟨rfl, hg⟩; have HG1 := Lib.hid hg; clear hg))
      | (go_at_call 7; go_must (refine (plain_any A cap B l w1 (HR.out.same fun p hp _ => (World.cell?_of_block (HG1.out.block p.block (by simp; omega) (by simp))).trans ((World.cell?_alloc_lt _ _ _ (by simp; omega)).trans (World.cell?_alloc_lt _ _ _ (by omega)))) (by have := HG1.out.size; simp at this; omega) HM.out h40).mono ?_; rintro e w2 ⟨A2, c2, rfl, q1, q2, q3, q4, q5⟩; have HA2 := Lib.hid q4; have HR2 := Lib.hid q3; have HC2 := Lib.hid q2; have HG2 := Lib.hid q5; clear q2 q3 q4 q5))
      | (go_at_call 8; go_must (refine (refRun_any _ A2 l.length c2 w2.heap.size (l.map plainSt) _ (Nat.le_refl _) (HR2.out.same fun p hp _ => World.cell?_alloc_lt w2 _ p hp) (by simp) (by simpa using q1) HC2.out (by simpa using h40) (good_plain l)).mono ?_; rintro e w3 ⟨rfl, x, rfl⟩; rw [← HRN.out, ← HRC.out, ← HRA.out]; have tok1 : True := trivial))
      | (go_at_call 9; have tt := tok1; go_must (refine (fin_out (Inv.start HG1.out HG2.out (by simp) q1 HC2.out h40 (good_plain l) HR2.out HA2.out)).mono ?_; rintro e w4 ⟨rfl, hi⟩; rw [← HRC.out, ← HRA.out]; rw [← HRN.out] at hi; have hz4 := hi.two.lt; have hb4 := fun o => ((hbx0.grown hi.grown (by simp)).alloc o).cell 0; have hc4 := fun o => ((hbx1.grown hi.grown (by simp)).alloc o).cell 0; simp at hb4 hc4; have HI := Lib.hid hi; clear hi tok1 tt; have tok2 : True := trivial))
      | (go_at_call 9; have tt := tok2; go_must (refine (fin_out2 true code _ _ _ (((hbx0.grown HI.out.grown (by simp)).alloc _)) (((hbx1.grown HI.out.grown (by simp)).alloc _))).mono ?_; rintro e w5 ⟨rfl, hg⟩; have hi5 := (HI.out.alloc _).of_none hg; have g13 := ((Whole.made w4 _ _).grown hg (by simp)); have hz5 := g13.lt; have x13 := fun o => (g13.alloc o).cell 0; have y13 := fun o => (g13.alloc o).cell 1; have xn := fun o => (hi5.alloc o).one.cell 0; have xl := fun o => (hi5.alloc o).two.cell 0; have xb := fun o => ((hbx0.grown hi5.grown (by simp)).alloc o).cell 0; have xc := fun o => ((hbx1.grown hi5.grown (by simp)).alloc o).cell 0; simp at x13 y13 xn xl xb xc; have HI2 := Lib.hid hi5; clear hg g13 hi5 tok2 tt)))
    all_goals
      go_ret
      exact ⟨rfl, gb_trans (gb_alloc (gb_alloc (gb_refl w _) _) _) (HI2.out.alloc _).grown⟩
  | false =>
    obtain ⟨y, hy⟩ : ∃ x, x = code % 64 := ⟨_, rfl⟩
    have hy0 : 0 ≤ y := by omega
    have hy1 : y ≤ 63 := by omega
    have HY := Lib.hid hy
    rw [← hy] at ax
    clear hy
    go_enter Try.func5, Try.ntmps5
    go_wp2_with (first
      | (go_at_call 6; go_must (refine (awake_any _).mono ?_; rintro e w1 ⟨rfl, hg⟩; have HG1 := Lib.hid hg; clear hg))
      | (go_at_call 7; go_must (refine (plain_any A cap B l w1 (HR.out.same fun p hp _ => (World.cell?_of_block (HG1.out.block p.block (by simp; omega) (by simp))).trans ((World.cell?_alloc_lt _ _ _ (by simp; omega)).trans (World.cell?_alloc_lt _ _ _ (by omega)))) (by have := HG1.out.size; simp at this; omega) HM.out h40).mono ?_; rintro e w2 ⟨A2, c2, rfl, q1, q2, q3, q4, q5⟩; have HA2 := Lib.hid q4; have HR2 := Lib.hid q3; have HC2 := Lib.hid q2; have HG2 := Lib.hid q5; clear q2 q3 q4 q5))
      | (go_at_call 8; go_must (refine (refRun_any _ A2 l.length c2 w2.heap.size (l.map plainSt) _ (Nat.le_refl _) (HR2.out.same fun p hp _ => World.cell?_alloc_lt w2 _ p hp) (by simp) (by simpa using q1) HC2.out (by simpa using h40) (good_plain l)).mono ?_; rintro e w3 ⟨rfl, x, rfl⟩; rw [← HRN.out, ← HRC.out, ← HRA.out]; have tok1 : True := trivial))
      | (go_at_call 9; have tt := tok1; go_must (refine (fin_out (Inv.start HG1.out HG2.out (by simp) q1 HC2.out h40 (good_plain l) HR2.out HA2.out)).mono ?_; rintro e w4 ⟨rfl, hi⟩; rw [← HRC.out, ← HRA.out]; rw [← HRN.out] at hi; have hz4 := hi.two.lt; have hb4 := fun o => ((hbx0.grown hi.grown (by simp)).alloc o).cell 0; have hc4 := fun o => ((hbx1.grown hi.grown (by simp)).alloc o).cell 0; simp at hb4 hc4; have HI := Lib.hid hi; clear hi tok1 tt; have tok2 : True := trivial))
      | (go_at_call 9; have tt := tok2; go_must (refine (fin_out2 false code _ _ _ (((hbx0.grown HI.out.grown (by simp)).alloc _)) (((hbx1.grown HI.out.grown (by simp)).alloc _))).mono ?_; rintro e w5 ⟨rfl, hg⟩; rw [← HY.out]; have hi5 := (HI.out.alloc _).of_none hg; have g13 := ((Whole.made w4 _ _).grown hg (by simp)); have hz5 := g13.lt; have x13 := fun o => (g13.alloc o).cell 0; have y13 := fun o => (g13.alloc o).cell 1; have xn := fun o => (hi5.alloc o).one.cell 0; have xl := fun o => (hi5.alloc o).two.cell 0; have xb := fun o => ((hbx0.grown hi5.grown (by simp)).alloc o).cell 0; have xc := fun o => ((hbx1.grown hi5.grown (by simp)).alloc o).cell 0; simp at x13 y13 xn xl xb xc; have HI2 := Lib.hid hi5; clear hg g13 hi5 tok2 tt)))
    all_goals
      go_ret
      exact ⟨rfl, gb_trans (gb_alloc (gb_alloc (gb_refl w _) _) _) (HI2.out.alloc _).grown⟩

theorem lawFin_large (A : Option Addr) (len cap : Nat) (is : Bool) (code : Int) (w : World) (hlen : 40 < len) :
    Calls Try.prog 5 #[.slice A len cap, .bool is, .int .i64 code] w fun e w' => e = .returned (.bool true) ∧ w.grownBy w' none := by
  go_enter Try.func5, Try.ntmps5
  go_wp2_with (go_at_call 6; go_must (refine (awake_any _).mono ?_; rintro e w1 ⟨rfl, hg⟩; have HG1 := Lib.hid hg; clear hg))
  go_ret
  exact ⟨rfl, gb_trans (gb_alloc (gb_alloc (gb_refl w _) _) _) HG1.out⟩
end Go.Proofs.Ytmgihoogdkpjoaa
