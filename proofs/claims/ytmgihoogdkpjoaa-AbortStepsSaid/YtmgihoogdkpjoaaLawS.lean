/- The walk of the law AbortSteps. -/
import Derived.Test.YtmgihoogdkpjoaaInv
namespace Go.Proofs.Ytmgihoogdkpjoaa
open Go.RowKit

theorem cfS1 (cap : Array Value) (w : World) : (callFunc 10 cap).run Try.prog w = .ok (.enter 10 cap) w := by kernel_rfl
theorem cfS2 (cap : Array Value) (w : World) : (callFunc 13 cap).run Try.prog w = .ok (.enter 13 cap) w := by kernel_rfl

theorem steps1 {l : List St} {A : Option Addr} {c bs : Nat} {n m : Int} {w0 w : World} (h : Inv l A c bs n m w0 w) (h0 : 0 ≤ n) (h1 : n ≤ 900000) :
    Calls Try.prog 10 #[.pointer (some ⟨bs, 0, none⟩), .pointer (some ⟨bs + 1, 0, none⟩)] w fun e w' => Ended (runS l).2.1 (runS l).2.2 e ∧ Inv l A c bs (n + (runS l).1) m w0 w' ∧ w.grownBy w' (some (bs + 1)) := by
  have hc := h.run1 h0 h1
  have c0 := h.cell.cell 0
  simp at c0
  have HC := Lib.hid hc
  clear hc h h0 h1
  go_enter Try.func10, Try.ntmps10
  go_wp2_with fail
  refine HC.out.mono ?_
  rintro e w' ⟨he, hi⟩
  rcases he with ⟨e1, e2, rfl⟩ | ⟨hc, rfl⟩
  · have HI := Lib.hid hi
    have E1 := Lib.hid e1
    have E2 := Lib.hid e2
    clear hi e1 e2
    go_wp2_with fail
    go_end0
    exact ⟨.inl ⟨E1.out, E2.out, rfl⟩, HI.out⟩
  · exact ⟨rfl, .inr ⟨hc, rfl⟩, hi⟩

theorem steps2 {l : List St} {A : Option Addr} {c bs : Nat} {n m : Int} {w0 w : World} (h : Inv l A c bs n m w0 w) (h0 : 0 ≤ m) (h1 : m ≤ 900000) :
    Calls Try.prog 13 #[.pointer (some ⟨bs, 0, none⟩), .pointer (some ⟨bs + 2, 0, none⟩)] w fun e w' => EndedV (runS l).2.1 (runS l).2.2 (m + (runS l).1 + 1) e ∧ Inv l A c bs n (m + (runS l).1) w0 w' ∧ w.grownBy w' (some (bs + 2)) := by
  have hc := h.run2 h0 h1
  have hb := runS_small h.forty h.good
  have c0 := h.cell.cell 0
  simp at c0
  obtain ⟨q, hq⟩ : ∃ q, q = m + (runS l).1 := ⟨_, rfl⟩
  rw [← hq] at hc ⊢
  have q0 : 0 ≤ q := by omega
  have q1 : q ≤ 1000000 := by omega
  have HC := Lib.hid hc
  clear hc h h0 h1 hb hq
  go_enter Try.func13, Try.ntmps13
  go_wp2_with fail
  refine HC.out.mono ?_
  rintro e w' ⟨he, hi⟩
  rcases he with ⟨e1, e2, rfl⟩ | ⟨hc, rfl⟩
  · have c2 := hi.1.two.cell 0
    simp at c2
    have HI := Lib.hid hi
    have E1 := Lib.hid e1
    have E2 := Lib.hid e2
    clear hi e1 e2
    go_wp2_with fail
    go_ret
    exact ⟨.inl ⟨E1.out, E2.out, rfl⟩, HI.out⟩
  · exact ⟨rfl, .inr ⟨hc, rfl⟩, hi⟩

/-- Out of the first closure. -/
theorem steps_out {l : List St} {A : Option Addr} {c bs : Nat} {w0 w : World} (h : Inv l A c bs 0 0 w0 w) :
    Calls Try.prog 9 #[.func (.func 10) #[] #[.pointer (some ⟨bs, 0, none⟩), .pointer (some ⟨bs + 1, 0, none⟩)]] w fun e w' => e = .returned (.agg #[.int .i64 (runS l).2.1, .int .i64 (runS l).2.2]) ∧ Inv l A c bs (runS l).1 0 w0 w' := by
  have h2 := h.two.lt
  refine (out_any 10 _ (runS l).2.1 (runS l).2.2 w _ (cfS1 _) (steps1 (h.alloc _) (by omega) (by omega)) ?_).mono ?_
  · rintro w' ⟨_, hg⟩
    exact (Whole.made w _ _).grown hg (by simp only [ne_eq, Option.some.injEq]; omega)
  · rintro e w' ⟨rfl, w1, ⟨hi, hg1⟩, hg⟩
    refine ⟨rfl, ?_⟩
    rw [Int.zero_add] at hi
    have hz := hi.two.lt
    have h3 := hg1.size
    simp only [World.size_alloc] at h3
    exact ⟨gb_before hi.grown hg (fun g e => .inr (by simp only [Option.some.injEq] at e; have := hi.low; omega)), hi.low, hi.len, hi.cap, hi.forty, hi.good,
      hi.cell.grown hg (by simp only [ne_eq, Option.some.injEq]; omega), hi.one.grown hg (by simp only [ne_eq, Option.some.injEq]; omega), hi.two.grown hg (by simp only [ne_eq, Option.some.injEq]; omega),
      hi.reads.same (fun p hp _ => World.cell?_of_block (hg.block p.block (by omega) (by simp only [ne_eq, Option.some.injEq]; omega))), hi.apart⟩

/-- Value of the second closure. -/
theorem steps_value {l : List St} {A : Option Addr} {c bs : Nat} {n : Int} {w0 w : World} (h : Inv l A c bs n 0 w0 w) :
    Calls Try.prog 12 #[.func (.func 13) #[] #[.pointer (some ⟨bs, 0, none⟩), .pointer (some ⟨bs + 2, 0, none⟩)]] w fun e w' => e = .returned (.tuple #[.int .i64 (if (runS l).2.1 = 0 then (runS l).1 + 1 else 0), .agg #[.int .i64 (runS l).2.1, .int .i64 (runS l).2.2]]) ∧ Inv l A c bs n (runS l).1 w0 w' ∧ w.grownBy w' (some (bs + 2)) := by
  have h2 := h.two.lt
  have hb := runS_small h.forty h.good
  have hi : Inv l A c bs n 0 w0 (vWorld 13 #[.pointer (some ⟨bs, 0, none⟩), .pointer (some ⟨bs + 2, 0, none⟩)] w) := (((h.alloc _).alloc _).alloc _).alloc _
  have hc := (steps2 hi (by omega) (by omega)).mono (R' := fun e w' => EndedV (runS l).2.1 (runS l).2.2 ((runS l).1 + 1) e ∧ (vWorld 13 #[.pointer (some ⟨bs, 0, none⟩), .pointer (some ⟨bs + 2, 0, none⟩)] w).grownBy w' (some (bs + 2)) ∧ Whole w' (bs + 2) 3 #[.int .i64 (runS l).1])
    (fun e w' hh => by rw [Int.zero_add] at hh; exact ⟨hh.1, hh.2.2, hh.2.1.two⟩)
  exact (value_any 13 _ (runS l).2.1 (runS l).2.2 ((runS l).1 + 1) (runS l).1 (bs + 2) w (cfS2 _) h2 hc hb.2.2.2.2.2.2).mono fun e w' hh => ⟨hh.1, h.of_two hh.2.1 hh.2.2, hh.2.1⟩

set_option maxRecDepth 100000 in
set_option maxHeartbeats 1000000 in
theorem lawSteps_small (A : Option Addr) (cap B : Nat) (l : List St) (w : World) (hr : Reads w B A l) (hB : B ≤ w.heap.size) (hm : cap ≤ maxLen) (h40 : l.length ≤ 40) :
    Calls Try.prog 3 #[.slice A l.length cap] w fun e w' => e = .returned (.bool true) ∧ w.grownBy w' none := by
  have hmf : ∀ (fn : Fn) (first cap : Array Value) (w : World), (Instr.makeFunc fn first cap).run Try.prog w = .ok (.func fn first cap) w := fun _ _ _ _ => rfl
  obtain ⟨rn, hrn⟩ : ∃ x, x = (runS (l.map plainSt)).1 := ⟨_, rfl⟩
  obtain ⟨rc, hrc⟩ : ∃ x, x = (runS (l.map plainSt)).2.1 := ⟨_, rfl⟩
  obtain ⟨ra, hra⟩ : ∃ x, x = (runS (l.map plainSt)).2.2 := ⟨_, rfl⟩
  have hb := runS_small (l := l.map plainSt) (by simpa using h40) (good_plain l)
  rw [← hrn, ← hrc, ← hra] at hb
  obtain ⟨hb1, hb2, hb3, hb4, hb5, hb6, hb7⟩ := hb
  have HR := Lib.hid hr
  have HM := Lib.hid hm
  have HRN := Lib.hid hrn
  have HRC := Lib.hid hrc
  have HRA := Lib.hid hra
  clear hr hm hrn hrc hra
  by_cases hc : rc = 0
  · obtain rfl := hb7 hc
    subst hc
    clear hb7
    go_enter Try.func3, Try.ntmps3
    go_wp2_with (first
      | (go_at_call 6; go_must (refine (awake_any _).mono ?_; rintro e w1 ⟨rfl, hg⟩; have HG1 := Lib.hid hg; clear hg))
      | (go_at_call 7; go_must (refine (plain_any A cap B l w1 (HR.out.same fun p hp _ => World.cell?_of_block (HG1.out.block p.block (by omega) (by simp))) (by have := HG1.out.size; omega) HM.out h40).mono ?_; rintro e w2 ⟨A2, c2, rfl, q1, q2, q3, q4, q5⟩; have HA2 := Lib.hid q4; have HR2 := Lib.hid q3; have HC2 := Lib.hid q2; have HG2 := Lib.hid q5; clear q2 q3 q4 q5))
      | (go_at_call 8; go_must (refine (refRun_any _ A2 l.length c2 w2.heap.size (l.map plainSt) _ (Nat.le_refl _) (HR2.out.same fun p hp _ => World.cell?_alloc_lt w2 _ p hp) (by simp) (by simpa using q1) HC2.out (by simpa using h40) (good_plain l)).mono ?_; rintro e w3 ⟨rfl, x, rfl⟩; rw [← HRN.out, ← HRC.out, ← HRA.out]))
      | (go_at_call 9; go_must (refine (steps_out (Inv.start HG1.out HG2.out (by simp) q1 HC2.out h40 (good_plain l) HR2.out HA2.out)).mono ?_; rintro e w4 ⟨rfl, hi⟩; rw [← HRC.out, ← HRA.out]; rw [← HRN.out] at hi; have hz4 := hi.two.lt; have HI := Lib.hid hi; clear hi))
      | (go_at_call 12; go_must (refine (steps_value (HI.out.alloc _)).mono ?_; rintro e w5 ⟨rfl, hi, hg⟩; rw [← HRN.out, ← HRC.out, ← HRA.out]; rw [← HRN.out] at hi; have hw9 := fun o => ((Whole.made w4 _ _).grown hg (by simp only [ne_eq, Option.some.injEq]; omega)).alloc o; have x9 := fun o => (hw9 o).cell 0; have y9 := fun o => (hw9 o).cell 1; have xn := fun o => (hi.alloc o).one.cell 0; simp at x9 y9 xn; have HI2 := Lib.hid hi; clear hi hg hw9)))
    all_goals
      go_ret
      exact ⟨rfl, (HI2.out.alloc _).grown⟩
  · have R0 : (rc == 0) = false := by simpa using hc
    have R1 : (rc != 0) = true := by simpa using hc
    have HCC := Lib.hid hc
    clear hb7 hc
    go_enter Try.func3, Try.ntmps3
    go_wp2_with (first
      | (go_at_call 6; go_must (refine (awake_any _).mono ?_; rintro e w1 ⟨rfl, hg⟩; have HG1 := Lib.hid hg; clear hg))
      | (go_at_call 7; go_must (refine (plain_any A cap B l w1 (HR.out.same fun p hp _ => World.cell?_of_block (HG1.out.block p.block (by omega) (by simp))) (by have := HG1.out.size; omega) HM.out h40).mono ?_; rintro e w2 ⟨A2, c2, rfl, q1, q2, q3, q4, q5⟩; have HA2 := Lib.hid q4; have HR2 := Lib.hid q3; have HC2 := Lib.hid q2; have HG2 := Lib.hid q5; clear q2 q3 q4 q5))
      | (go_at_call 8; go_must (refine (refRun_any _ A2 l.length c2 w2.heap.size (l.map plainSt) _ (Nat.le_refl _) (HR2.out.same fun p hp _ => World.cell?_alloc_lt w2 _ p hp) (by simp) (by simpa using q1) HC2.out (by simpa using h40) (good_plain l)).mono ?_; rintro e w3 ⟨rfl, x, rfl⟩; rw [← HRN.out, ← HRC.out, ← HRA.out]))
      | (go_at_call 9; go_must (refine (steps_out (Inv.start HG1.out HG2.out (by simp) q1 HC2.out h40 (good_plain l) HR2.out HA2.out)).mono ?_; rintro e w4 ⟨rfl, hi⟩; rw [← HRC.out, ← HRA.out]; rw [← HRN.out] at hi; have hz4 := hi.two.lt; have HI := Lib.hid hi; clear hi))
      | (go_at_call 12; go_must (refine (steps_value (HI.out.alloc _)).mono ?_; rintro e w5 ⟨rfl, hi, hg⟩; rw [← HRN.out, ← HRC.out, ← HRA.out]; rw [← HRN.out] at hi; have hw9 := fun o => ((Whole.made w4 _ _).grown hg (by simp only [ne_eq, Option.some.injEq]; omega)).alloc o; have x9 := fun o => (hw9 o).cell 0; have y9 := fun o => (hw9 o).cell 1; have xn := fun o => (hi.alloc o).one.cell 0; simp at x9 y9 xn; have HI2 := Lib.hid hi; clear hi hg hw9)))
    all_goals
      go_ret
      exact ⟨rfl, (HI2.out.alloc _).grown⟩

theorem lawSteps_large (A : Option Addr) (len cap : Nat) (w : World) (hlen : 40 < len) :
    Calls Try.prog 3 #[.slice A len cap] w fun e w' => e = .returned (.bool true) ∧ w.grownBy w' none := by
  go_enter Try.func3, Try.ntmps3
  go_wp2_with (go_at_call 6; go_must (refine (awake_any _).mono ?_; rintro e w1 ⟨rfl, hg⟩; have HG1 := Lib.hid hg; clear hg))
  go_ret
  exact ⟨rfl, HG1.out⟩
end Go.Proofs.Ytmgihoogdkpjoaa
