/- What the laws on steps keep in memory: the steps' slice, and two counters behind it. -/
import Derived.Test.YtmgihoogdkpjoaaValue
namespace Go.Proofs.Ytmgihoogdkpjoaa
open Go.RowKit

/-- Block bs holds the slice of the steps l, the next two hold the numbers n and m; nothing that was in w0 has turned. -/
structure Inv (l : List St) (A : Option Addr) (c bs : Nat) (n m : Int) (w0 w : World) : Prop where
  grown : w0.grownBy w none
  low : w0.heap.size ≤ bs
  len : l.length ≤ c
  cap : c ≤ maxLen
  forty : l.length ≤ 40
  good : Good l
  cell : Whole w bs 22 #[.slice A l.length c]
  one : Whole w (bs + 1) 3 #[.int .i64 n]
  two : Whole w (bs + 2) 3 #[.int .i64 m]
  reads : Reads w bs A l
  apart : ∀ a, A = some a → a.block < bs

theorem Inv.of_one {l : List St} {A : Option Addr} {c bs : Nat} {n m n' : Int} {w0 w w' : World} (h : Inv l A c bs n m w0 w) (hg : w.grownBy w' (some (bs + 1))) (hn : Whole w' (bs + 1) 3 #[.int .i64 n']) : Inv l A c bs n' m w0 w' :=
  ⟨gb_before h.grown hg (fun g e => .inr (by simp only [Option.some.injEq] at e; have := h.low; omega)), h.low, h.len, h.cap, h.forty, h.good,
    h.cell.grown hg (by simp only [ne_eq, Option.some.injEq]; omega), hn, h.two.grown hg (by simp only [ne_eq, Option.some.injEq]; omega),
    h.reads.same (fun p hp _ => World.cell?_of_block (hg.block p.block (by have := h.cell.lt; omega) (by simp only [ne_eq, Option.some.injEq]; omega))), h.apart⟩
theorem Inv.of_two {l : List St} {A : Option Addr} {c bs : Nat} {n m m' : Int} {w0 w w' : World} (h : Inv l A c bs n m w0 w) (hg : w.grownBy w' (some (bs + 2))) (hn : Whole w' (bs + 2) 3 #[.int .i64 m']) : Inv l A c bs n m' w0 w' :=
  ⟨gb_before h.grown hg (fun g e => .inr (by simp only [Option.some.injEq] at e; have := h.low; omega)), h.low, h.len, h.cap, h.forty, h.good,
    h.cell.grown hg (by simp only [ne_eq, Option.some.injEq]; omega), h.one.grown hg (by simp only [ne_eq, Option.some.injEq]; omega), hn,
    h.reads.same (fun p hp _ => World.cell?_of_block (hg.block p.block (by have := h.cell.lt; omega) (by simp only [ne_eq, Option.some.injEq]; omega))), h.apart⟩
theorem Inv.of_none {l : List St} {A : Option Addr} {c bs : Nat} {n m : Int} {w0 w w' : World} (h : Inv l A c bs n m w0 w) (hg : w.grownBy w' none) : Inv l A c bs n m w0 w' :=
  ⟨gb_trans h.grown hg, h.low, h.len, h.cap, h.forty, h.good, h.cell.grown hg (by simp), h.one.grown hg (by simp), h.two.grown hg (by simp),
    h.reads.same (fun p hp _ => World.cell?_of_block (hg.block p.block (by have := h.cell.lt; omega) (by simp))), h.apart⟩
theorem Inv.alloc {l : List St} {A : Option Addr} {c bs : Nat} {n m : Int} {w0 w : World} (h : Inv l A c bs n m w0 w) (o : Obj) : Inv l A c bs n m w0 (w.alloc o) := h.of_none (gb_alloc (gb_refl w _) o)

theorem Inv.run1 {l : List St} {A : Option Addr} {c bs : Nat} {n m : Int} {w0 w : World} (h : Inv l A c bs n m w0 w) (h0 : 0 ≤ n) (h1 : n ≤ 900000) :
    Calls Try.prog 11 #[.slice A l.length c, .pointer (some ⟨bs + 1, 0, none⟩)] w fun e w' => Ended (runS l).2.1 (runS l).2.2 e ∧ Inv l A c bs (n + (runS l).1) m w0 w' ∧ w.grownBy w' (some (bs + 1)) :=
  (run_any (l.length + 1) A l.length c bs l w (bs + 1) n (by omega) h.reads (by have := h.cell.lt; omega) (fun a e => by have := h.apart a e; omega) rfl h.len h.cap h.forty h.good h.one h0 (by have := h.forty; omega)).mono
    fun _ _ ⟨he, hg, hw⟩ => ⟨he, h.of_one hg hw, hg⟩
theorem Inv.run2 {l : List St} {A : Option Addr} {c bs : Nat} {n m : Int} {w0 w : World} (h : Inv l A c bs n m w0 w) (h0 : 0 ≤ m) (h1 : m ≤ 900000) :
    Calls Try.prog 11 #[.slice A l.length c, .pointer (some ⟨bs + 2, 0, none⟩)] w fun e w' => Ended (runS l).2.1 (runS l).2.2 e ∧ Inv l A c bs n (m + (runS l).1) w0 w' ∧ w.grownBy w' (some (bs + 2)) :=
  (run_any (l.length + 1) A l.length c bs l w (bs + 2) m (by omega) h.reads (by have := h.cell.lt; omega) (fun a e => by have := h.apart a e; omega) rfl h.len h.cap h.forty h.good h.two h0 (by have := h.forty; omega)).mono
    fun _ _ ⟨he, hg, hw⟩ => ⟨he, h.of_two hg hw, hg⟩

theorem runS_small {l : List St} (h : l.length ≤ 40) (hg : Good l) : 0 ≤ (runS l).1 ∧ (runS l).1 ≤ 40000 ∧ 0 ≤ (runS l).2.1 ∧ (runS l).2.1 ≤ 64 ∧ 0 ≤ (runS l).2.2 ∧ (runS l).2.2 ≤ 40920 ∧ ((runS l).2.1 = 0 → (runS l).2.2 = 0) := by
  have := runS_bounds _ l (Nat.le_refl _) hg
  refine ⟨this.1, by omega, by omega, by omega, by omega, by omega, this.2.2.2.2.2.2⟩

theorem Inv.of_far {l : List St} {A : Option Addr} {c bs : Nat} {n m : Int} {w0 w w' : World} {g : Nat} (h : Inv l A c bs n m w0 w) (hg : w.grownBy w' (some g)) (hgt : bs + 2 < g) : Inv l A c bs n m w0 w' :=
  ⟨gb_before h.grown hg (fun g' e => .inr (by simp only [Option.some.injEq] at e; have := h.low; omega)), h.low, h.len, h.cap, h.forty, h.good,
    h.cell.grown hg (by simp only [ne_eq, Option.some.injEq]; omega), h.one.grown hg (by simp only [ne_eq, Option.some.injEq]; omega), h.two.grown hg (by simp only [ne_eq, Option.some.injEq]; omega),
    h.reads.same (fun p hp _ => World.cell?_of_block (hg.block p.block (by have := h.cell.lt; omega) (by simp only [ne_eq, Option.some.injEq]; omega))), h.apart⟩

/-- Where the laws begin to do the steps. -/
theorem Inv.start {l : List St} {A : Option Addr} {len c x : Nat} {m : Int} {w0 w1 w2 : World} (hg1 : w0.grownBy w1 none) (hg2 : Below w1.heap.size w1 w2) (hl : l.length = len) (hc : len ≤ c) (hm : c ≤ maxLen) (h40 : len ≤ 40) (hgd : Good l)
    (hr : Reads w2 w2.heap.size A l) (hA : ∀ a, A = some a → w1.heap.size ≤ a.block ∧ a.block < w2.heap.size) :
    Inv l A c w2.heap.size 0 m w0 ((((w2.alloc (.cells #[.slice A len c] 22)).drewN x).alloc (.cells #[.int .i64 0] 3)).alloc (.cells #[.int .i64 m] 3)) := by
  subst hl
  have s1 : ((w2.alloc (.cells #[.slice A l.length c] 22)).drewN x).heap.size = w2.heap.size + 1 := by simp
  have s2 : (((w2.alloc (.cells #[.slice A l.length c] 22)).drewN x).alloc (.cells #[.int .i64 0] 3)).heap.size = w2.heap.size + 2 := by simp
  have g : w0.grownBy ((w2.alloc (.cells #[.slice A l.length c] 22)).drewN x) none := by
    have g1 := gb_alloc (gb_trans hg1 (gb_of_below none hg2)) (.cells #[.slice A l.length c] 22)
    exact ⟨g1.os, g1.tape, g1.output, g1.size, g1.block⟩
  have h0 : Whole ((w2.alloc (.cells #[.slice A l.length c] 22)).drewN x) w2.heap.size 22 #[.slice A l.length c] := Whole.made w2 _ _
  have h1 := Whole.made ((w2.alloc (.cells #[.slice A l.length c] 22)).drewN x) 3 #[.int .i64 0]
  rw [s1] at h1
  have h2 := Whole.made (((w2.alloc (.cells #[.slice A l.length c] 22)).drewN x).alloc (.cells #[.int .i64 0] 3)) 3 #[.int .i64 m]
  rw [s2] at h2
  refine ⟨gb_alloc (gb_alloc g _) _, Nat.le_trans hg1.size hg2.size, hc, hm, h40, hgd, (h0.alloc _).alloc _, h1.alloc _, h2, ?_, fun a e => (hA a e).2⟩
  refine hr.same fun p hp _ => ?_
  rw [World.cell?_alloc_lt _ _ _ (by rw [s2]; omega), World.cell?_alloc_lt _ _ _ (by rw [s1]; omega), World.cell?_drewN, World.cell?_alloc_lt _ _ _ hp]
end Go.Proofs.Ytmgihoogdkpjoaa
