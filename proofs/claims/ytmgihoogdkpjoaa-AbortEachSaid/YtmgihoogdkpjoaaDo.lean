/- The contract of the law's own run: the steps are done by package abort, and they end as runS says. -/
import Derived.Test.YtmgihoogdkpjoaaRun
import Derived.Test.YtmgihoogdkpjoaaOut
import Derived.Deep.DeepMust
namespace Go.Proofs.Ytmgihoogdkpjoaa
open Go.RowKit

/-- How doing the steps ends, and what it leaves: the counter in block pb has grown. -/
def RunsTo (l : List St) (pb : Nat) (m0 : Int) (w : World) (e : Ending) (w' : World) : Prop :=
  Ended (runS l).2.1 (runS l).2.2 e ∧ w.grownBy w' (some pb) ∧ Whole w' pb 3 #[.int .i64 (m0 + (runS l).1)]

/-- What a call of run on lists shorter than N does. -/
def RunSpec (N : Nat) : Prop := ∀ (A : Option Addr) (len cap B : Nat) (l : List St) (w : World) (pb : Nat) (m0 : Int), l.length < N → Reads w B A l → B ≤ w.heap.size → (∀ a, A = some a → a.block ≠ pb) → l.length = len → l.length ≤ cap → cap ≤ maxLen → l.length ≤ 40 → Good l →
  Whole w pb 3 #[.int .i64 m0] → 0 ≤ m0 → m0 + 1000 * l.length ≤ 1000000 → Calls Try.prog 11 #[.slice A len cap, .pointer (some ⟨pb, 0, none⟩)] w (RunsTo l pb m0 w)

theorem closure2 (A : Option Addr) (len cap b6 b0 pb : Nat) (w : World) (R : Ending → World → Prop) (h6 : Whole w b6 22 #[.slice A len cap]) (h0 : Whole w b0 32 #[.pointer (some ⟨pb, 0, none⟩)])
    (h : Calls Try.prog 11 #[.slice A len cap, .pointer (some ⟨pb, 0, none⟩)] w R)
    (hR : ∀ e w', R e w' → e = .returned (.tuple #[]) ∨ ∃ ch, e = .panicked ch) :
    Calls Try.prog 30 #[.pointer (some ⟨b6, 0, none⟩), .pointer (some ⟨b0, 0, none⟩)] w R := by
  have c6 := h6.cell 0
  have c0 := h0.cell 0
  simp at c6 c0
  clear h6 h0
  go_enter Try.func30, Try.ntmps30
  go_wp2_with (go_at_call 11; refine h.mono ?_)
  intro e w' hr
  rcases hR e w' hr with rfl | ⟨ch, rfl⟩
  · clear h hR
    go_wp2_with fail
    exact bodyPost_ret (v := .tuple #[]) (by simp [results, Try.results30, go_sem]) rfl hr
  · exact ⟨rfl, hr⟩

theorem closure3 (A : Option Addr) (len cap b6 b0 pb : Nat) (w : World) (R : Ending → World → Prop) (h6 : Whole w b6 22 #[.slice A len cap]) (h0 : Whole w b0 32 #[.pointer (some ⟨pb, 0, none⟩)])
    (h : Calls Try.prog 11 #[.slice A len cap, .pointer (some ⟨pb, 0, none⟩)] w R)
    (hR : ∀ e w', R e w' → e = .returned (.tuple #[]) ∨ ∃ ch, e = .panicked ch) :
    Calls Try.prog 31 #[.pointer (some ⟨b6, 0, none⟩), .pointer (some ⟨b0, 0, none⟩)] w R := by
  have c6 := h6.cell 0
  have c0 := h0.cell 0
  simp at c6 c0
  clear h6 h0
  go_enter Try.func31, Try.ntmps31
  go_wp2_with (go_at_call 11; refine h.mono ?_)
  intro e w' hr
  rcases hR e w' hr with rfl | ⟨ch, rfl⟩
  · clear h hR
    go_wp2_with fail
    exact bodyPost_ret (v := .tuple #[]) (by simp [results, Try.results31, go_sem]) rfl hr
  · exact ⟨rfl, hr⟩

theorem Ended.two {c a : Int} {e : Ending} (h : Ended c a e) : e = .returned (.tuple #[]) ∨ ∃ ch, e = .panicked ch := by
  rcases h with ⟨_, _, h⟩ | ⟨_, h⟩
  · exact .inl h
  · exact .inr ⟨_, h⟩

theorem cf2 (cap : Array Value) (w : World) : (callFunc 30 cap).run Try.prog w = .ok (.enter 30 cap) w := by kernel_rfl
theorem cf3 (cap : Array Value) (w : World) : (callFunc 31 cap).run Try.prog w = .ok (.enter 31 cap) w := by kernel_rfl

/-- A nested part that is found out (kind 2): the call of Out in a round. -/
theorem out_part {N : Nat} (ih : RunSpec N) {A : Option Addr} {len cap B : Nat} {l : List St} {w : World} {pb b6 b0 : Nat} {m0 : Int} (h1 : l.length < N) (h2 : Reads w B A l) (h3 : B ≤ w.heap.size) (h4 : ∀ a, A = some a → a.block ≠ pb) (h5 : l.length = len) (h6 : l.length ≤ cap) (h7 : cap ≤ maxLen) (h8 : l.length ≤ 40) (h9 : Good l)
    (h10 : Whole w pb 3 #[.int .i64 m0]) (h11 : 0 ≤ m0) (h12 : m0 + 1000 * l.length ≤ 1000000) (w6 : Whole w b6 22 #[.slice A len cap]) (w0 : Whole w b0 32 #[.pointer (some ⟨pb, 0, none⟩)]) :
    Calls Try.prog 9 #[.func (.func 30) #[] #[.pointer (some ⟨b6, 0, none⟩), .pointer (some ⟨b0, 0, none⟩)]] w fun e w' =>
      e = .returned (.agg #[.int .i64 (runS l).2.1, .int .i64 (runS l).2.2]) ∧ w.grownBy w' (some pb) ∧ Whole w' pb 3 #[.int .i64 (m0 + (runS l).1)] := by
  have hlt := h10.lt
  have hrd : Reads (w.alloc (.cells #[.int .i64 0, .int .i64 0] 29)) B A l := h2.same fun p hp _ => World.cell?_alloc_lt w _ p (by omega)
  have hc := ih A len cap B l (w.alloc (.cells #[.int .i64 0, .int .i64 0] 29)) pb m0 h1 hrd (by simp; omega) h4 h5 h6 h7 h8 h9 (h10.alloc _) h11 h12
  have hcl := closure2 A len cap b6 b0 pb _ _ (w6.alloc _) (w0.alloc _) hc (fun e w' h => h.1.two)
  refine (out_any 30 _ (runS l).2.1 (runS l).2.2 w (fun w' => (w.alloc (.cells #[.int .i64 0, .int .i64 0] 29)).grownBy w' (some pb) ∧ Whole w' pb 3 #[.int .i64 (m0 + (runS l).1)]) (cf2 _) hcl ?_).mono ?_
  · rintro w' ⟨hg, _⟩
    exact (Whole.made w _ _).grown hg (by simp only [ne_eq, Option.some.injEq]; omega)
  · rintro e w' ⟨rfl, w1, ⟨hg, hw⟩, hg2⟩
    refine ⟨rfl, ?_, hw.grown hg2 (by simp only [ne_eq, Option.some.injEq]; omega)⟩
    exact gb_before (gb_trans (World.grownBy_alloc w _ _) hg) hg2 (fun g e => .inr (by simp only [Option.some.injEq] at e; omega))

/-- A nested part that lies farther on (kind 3): the call of Within in a round. -/
theorem within_part {N : Nat} (ih : RunSpec N) {A : Option Addr} {len cap B : Nat} {l : List St} {w : World} {pb b6 b0 : Nat} {m0 n : Int} (h1 : l.length < N) (h2 : Reads w B A l) (h3 : B ≤ w.heap.size) (h4 : ∀ a, A = some a → a.block ≠ pb) (h5 : l.length = len) (h6 : l.length ≤ cap) (h7 : cap ≤ maxLen) (h8 : l.length ≤ 40) (h9 : Good l)
    (h10 : Whole w pb 3 #[.int .i64 m0]) (h11 : 0 ≤ m0) (h12 : m0 + 1000 * l.length ≤ 1000000) (w6 : Whole w b6 22 #[.slice A len cap]) (w0 : Whole w b0 32 #[.pointer (some ⟨pb, 0, none⟩)]) (hn : 0 ≤ n) (hn2 : n ≤ 1000000) :
    Calls Try.prog 23 #[.int .i64 n, .func (.func 31) #[] #[.pointer (some ⟨b6, 0, none⟩), .pointer (some ⟨b0, 0, none⟩)]] w fun e w' =>
      Ended (runS l).2.1 (if (runS l).2.1 = 0 then 0 else (runS l).2.2 + n) e ∧ w.grownBy w' (some pb) ∧ Whole w' pb 3 #[.int .i64 (m0 + (runS l).1)] := by
  have hlt := h10.lt
  have hb := runS_bounds _ l (Nat.le_refl _) h9
  have hrd : Reads (w.alloc (.cells #[.int .i64 0, .int .i64 0] 29)) B A l := h2.same fun p hp _ => World.cell?_alloc_lt w _ p (by omega)
  have hc := ih A len cap B l (w.alloc (.cells #[.int .i64 0, .int .i64 0] 29)) pb m0 h1 hrd (by simp; omega) h4 h5 h6 h7 h8 h9 (h10.alloc _) h11 h12
  have hcl := closure3 A len cap b6 b0 pb _ _ (w6.alloc _) (w0.alloc _) hc (fun e w' h => h.1.two)
  refine (within_any 31 _ (runS l).2.1 (runS l).2.2 n w (fun w' => (w.alloc (.cells #[.int .i64 0, .int .i64 0] 29)).grownBy w' (some pb) ∧ Whole w' pb 3 #[.int .i64 (m0 + (runS l).1)]) (cf3 _) hcl ?_ (by omega) (by omega) hn hn2).mono ?_
  · rintro w' ⟨hg, _⟩
    exact (Whole.made w _ _).grown hg (by simp only [ne_eq, Option.some.injEq]; omega)
  · rintro e w' ⟨he, w1, ⟨hg, hw⟩, hg2⟩
    refine ⟨he, ?_, hw.grown hg2 (by simp only [ne_eq, Option.some.injEq]; omega)⟩
    exact gb_before (gb_trans (World.grownBy_alloc w _ _) hg) hg2 (fun g e => .inr (by simp only [Option.some.injEq] at e; omega))
end Go.Proofs.Ytmgihoogdkpjoaa
