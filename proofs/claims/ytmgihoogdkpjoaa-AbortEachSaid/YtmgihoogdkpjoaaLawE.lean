/- The walk of the law AbortEach. -/
import Derived.Test.YtmgihoogdkpjoaaEach
import Derived.Test.YtmgihoogdkpjoaaWalk
import Derived.Test.YtmgihoogdkpjoaaPlain
namespace Go.Proofs.Ytmgihoogdkpjoaa
open Go.RowKit

theorem cf15 (args : Array Value) (w : World) : (callFunc 15 args).run Try.prog w = .ok (.enter 15 args) w := by kernel_rfl

/-- Rows of steps in memory. -/
def Table (w : World) (B : Nat) (A : Option Addr) (L : List (List St)) : Prop :=
  ∀ i, i < L.length → ∃ b off, A = some ⟨b, off, none⟩ ∧ b < B ∧ ∃ A2 cap r, L[i]? = some r ∧ w.cell? ⟨b, off + i, none⟩ = some (.slice A2 r.length cap) ∧ r.length ≤ cap ∧ cap ≤ maxLen ∧ Reads w B A2 r

theorem Table.grown {w w' : World} {B : Nat} {A : Option Addr} {L : List (List St)} (h : Table w B A L) (hg : w.grownBy w' none) (hB : B ≤ w.heap.size) : Table w' B A L := by
  have hc : ∀ p : Addr, p.block < B → w'.cell? p = w.cell? p := fun p hp => World.cell?_of_block (hg.block p.block (by omega) (by simp))
  intro i hi
  obtain ⟨b, off, hA, hb, A2, cap, r, h1, h2, h3, h4, h5⟩ := h i hi
  exact ⟨b, off, hA, hb, A2, cap, r, h1, (hc _ hb).trans h2, h3, h4, h5.same fun p hp _ => hc p hp⟩

/-- Row j as plain makes it; a row that is not there is empty. -/
def rowAt (L : List (List St)) (j : Nat) : List St := (L.getD j []).map plainSt
def cntTo (L : List (List St)) : Nat → Int
  | 0 => 0
  | j + 1 => cntTo L j + (runS (rowAt L j)).1

theorem rowAt_beyond {L : List (List St)} {j : Nat} (h : L.length ≤ j) : rowAt L j = [] := by
  simp [rowAt, List.getElem?_eq_none h]
theorem rowAt_of {L : List (List St)} {j : Nat} {r : List St} (h : L[j]? = some r) : rowAt L j = r.map plainSt := by
  simp [rowAt, h]
theorem cntTo_beyond {L : List (List St)} {k : Nat} (h : L.length ≤ k) : cntTo L k = cntTo L L.length := by
  induction k with
  | zero => have : L.length = 0 := by omega
            rw [this]
  | succ k ih =>
    rcases Nat.lt_or_ge k L.length with h1 | h1
    · have : L.length = k + 1 := by omega
      rw [this]
    · show cntTo L k + (runS (rowAt L k)).1 = _
      rw [rowAt_beyond h1, ih h1, runS_nil]
      simp
/-- Every row is short. -/
def Short (L : List (List St)) : Prop := ∀ j, (L.getD j []).length ≤ 30
theorem Short.row {L : List (List St)} (h : Short L) (j : Nat) : (rowAt L j).length ≤ 30 := by
  have := h j
  simpa [rowAt] using this
theorem cntTo_bounds {L : List (List St)} (h : Short L) (k : Nat) : 0 ≤ cntTo L k ∧ cntTo L k ≤ 30000 * k := by
  induction k with
  | zero => simp [cntTo]
  | succ k ih =>
    have hb := runS_bounds _ (rowAt L k) (Nat.le_refl _) (good_plain _)
    have hs := h.row k
    simp only [cntTo]
    omega

/-- What holds behind k calls of the law's closure. -/
structure ES (L : List (List St)) (AL : Option Addr) (capL b0 bc : Nat) (w0 : World) (k : Nat) (w : World) : Prop where
  grown : w0.grownBy w none
  box : Whole w b0 37 #[.slice AL L.length capL]
  count : Whole w bc 3 #[.int .i64 (cntTo L k)]

theorem ES.later {L : List (List St)} {AL : Option Addr} {capL b0 bc : Nat} {w0 : World} {k : Nat} {w w' : World} {g : Nat} (h : ES L AL capL b0 bc w0 k w) (hg : w.grownBy w' (some g)) (h1 : w0.heap.size ≤ g) (h2 : b0 < g) (h3 : bc < g) : ES L AL capL b0 bc w0 k w' :=
  ⟨gb_before h.grown hg (fun g' e => .inr (by simp only [Option.some.injEq] at e; omega)), h.box.grown hg (by simp only [ne_eq, Option.some.injEq]; omega), h.count.grown hg (by simp only [ne_eq, Option.some.injEq]; omega)⟩

set_option maxRecDepth 100000 in
set_option maxHeartbeats 400000 in
/-- The law's closure does row k, if there is one. -/
theorem each1 {L : List (List St)} {AL : Option Addr} {capL b0 bc : Nat} {w0 w : World} {k : Nat} (hT : Table w0 w0.heap.size AL L) (hs : Short L) (hk : k < 20) (hb : w0.heap.size ≤ bc) (h : ES L AL capL b0 bc w0 k w) :
    Calls Try.prog 15 #[.int .i64 k, .pointer (some ⟨b0, 0, none⟩), .pointer (some ⟨bc, 0, none⟩)] w fun e w' => Ended (runS (rowAt L k)).2.1 (runS (rowAt L k)).2.2 e ∧ ES L AL capL b0 bc w0 (k + 1) w' ∧ w.grownBy w' (some bc) := by
  have hne : b0 ≠ bc := h.box.apart h.count (by decide)
  have xb := h.box.cell 0
  simp at xb
  by_cases hlt : k < L.length
  · have hT2 := hT.grown h.grown (Nat.le_refl _)
    obtain ⟨b, off, rfl, hbB, A2, cap, r, hr, hcell, hrc, hcm, hrd⟩ := hT2 k hlt
    have hsz := h.grown.size
    have hr30 : r.length ≤ 30 := by have := hs k; simpa [hr] using this
    have hp := plain_any A2 cap w0.heap.size r w hrd hsz hcm (by omega)
    have hcb := cntTo_bounds hs k
    have hrow := rowAt_of hr
    have hrun : ∀ (A3 : Option Addr) (c3 : Nat) (w3 : World), r.length ≤ c3 → c3 ≤ maxLen → Reads w3 w3.heap.size A3 (r.map plainSt) → (∀ a, A3 = some a → w.heap.size ≤ a.block ∧ a.block < w3.heap.size) → Below w.heap.size w w3 →
        Calls Try.prog 11 #[.slice A3 r.length c3, .pointer (some ⟨bc, 0, none⟩)] w3 fun e w' => Ended (runS (rowAt L k)).2.1 (runS (rowAt L k)).2.2 e ∧ ES (L := L) (some ⟨b, off, none⟩) capL b0 bc w0 (k + 1) w' ∧ w.grownBy w' (some bc) := by
      intro A3 c3 w3 q1 q2 q3 q4 q5
      have hlt := h.count.lt
      have h3 := h.count.below q5
      refine (run_any (r.length + 1) A3 r.length c3 w3.heap.size (r.map plainSt) w3 bc (cntTo L k) (by simp) q3 (Nat.le_refl _) (fun a e => by have := (q4 a e).1; omega) (by simp) (by simpa using q1) q2 (by simp; omega) (good_plain r) h3 hcb.1 (by simp; omega)).mono ?_
      rintro e w' ⟨he, hg, hw⟩
      rw [hrow]
      have hg2 := gb_trans (gb_of_below (some bc) q5) hg
      refine ⟨he, ⟨gb_before h.grown hg2 (fun g e => .inr (by simp only [Option.some.injEq] at e; omega)), h.box.grown hg2 (by simpa using hne), ?_⟩, hg2⟩
      have e1 : cntTo L (k + 1) = cntTo L k + (runS (r.map plainSt)).1 := by simp only [cntTo, hrow]
      rw [e1]
      exact hw
    have hlt3 := block_lt_of_cell hcell
    have HP := Lib.hid hp
    have HRUN := Lib.hid hrun
    clear hT hT2 hs h hp hrun hr hrd hcb hrow hne
    go_enter Try.func15, Try.ntmps15
    go_wp2_with (first
      | (go_at_call 7; go_must (refine HP.out.mono ?_; rintro e w3 ⟨A3, c3, rfl, q1, q2, q3, q4, q5⟩; have HCC := Lib.hid (HRUN.out A3 c3 w3 q1 q2 q3 q4 q5); clear q1 q2 q3 q4 q5))
      | (go_at_call 11; go_must (refine HCC.out.mono ?_)))
    rintro e w' ⟨he, hi⟩
    rcases he with ⟨e1, e2, rfl⟩ | ⟨hc, rfl⟩
    · have HI := Lib.hid hi
      have E1 := Lib.hid e1
      have E2 := Lib.hid e2
      clear hi e1 e2
      go_wp2_with fail
      go_end0
      exact ⟨.inl ⟨E1.out, E2.out, rfl⟩, HI.out⟩
    · exact ⟨rfl, .inr ⟨hc, rfl⟩, hi⟩
  · have hge : L.length ≤ k := by omega
    have e0 := rowAt_beyond hge
    have F : Hid (Ended (runS (rowAt L k)).2.1 (runS (rowAt L k)).2.2 (.returned (.tuple #[])) ∧ ES L AL capL b0 bc w0 (k + 1) w ∧ w.grownBy w (some bc)) := by
      refine ⟨by rw [e0]; exact .inl ⟨rfl, rfl, rfl⟩, ⟨h.grown, h.box, ?_⟩, gb_refl _ _⟩
      have e1 : cntTo L (k + 1) = cntTo L k := by simp only [cntTo, e0, runS_nil]; omega
      rw [e1]
      exact h.count
    clear hT hs h e0 hlt hne
    go_enter Try.func15, Try.ntmps15
    go_wp2
    go_end0
    exact F.out

theorem eend_exists (C A : Nat → Int) : ∀ n, ∃ i0 kS cS aS, EEnd n i0 kS C A cS aS := by
  intro n
  induction n with
  | zero => exact ⟨0, 0, 0, 0, Nat.le_refl _, fun j h => by omega, .inl ⟨rfl, rfl, rfl, rfl⟩⟩
  | succ n ih =>
    obtain ⟨i0, kS, cS, aS, h1, h2, h3⟩ := ih
    rcases h3 with ⟨e1, _, _, _⟩ | ⟨e1, e2, e3, e4, e5⟩
    · by_cases hc : C n = 0
      · exact ⟨n + 1, n + 1, 0, 0, Nat.le_refl _, fun j hj => by
          rcases Nat.lt_or_ge j n with h | h
          · exact h2 j (by omega)
          · have : j = n := by omega
            rw [this]; exact hc, .inl ⟨rfl, rfl, rfl, rfl⟩⟩
      · exact ⟨n, n + 1, C n, A n, by omega, fun j hj => h2 j (by omega), .inr ⟨by omega, rfl, rfl, rfl, hc⟩⟩
    · exact ⟨i0, kS, cS, aS, by omega, h2, .inr ⟨by omega, e2, e3, e4, e5⟩⟩

/-- Each of the law's closure. -/
theorem each_law {L : List (List St)} {AL : Option Addr} {capL b0 bc i0 kS : Nat} {cS aS N : Int} {w1 wr : World} (hT : Table w1 w1.heap.size AL L) (hs : Short L) (hN : N ≤ 20) (hb : w1.heap.size ≤ bc) (hbb : b0 < w1.heap.size)
    (hE : EEnd N.toNat i0 kS (fun k => (runS (rowAt L k)).2.1) (fun k => (runS (rowAt L k)).2.2) cS aS) (h : ES L AL capL b0 bc w1 0 wr) :
    Calls Try.prog 14 #[.int .i64 N, .func (.func 15) #[] #[.pointer (some ⟨b0, 0, none⟩), .pointer (some ⟨bc, 0, none⟩)]] wr fun e w' => e = .returned (.tuple #[.int .i64 i0, .agg #[.int .i64 cS, .int .i64 aS]]) ∧ ES L AL capL b0 bc w1 kS w' ∧ wr.grownBy w' (some bc) := by
  have hlt := h.count.lt
  have hlt0 := h.grown.size
  rcases Int.lt_or_le N 0 with h0 | h0
  · have hn : N.toNat = 0 := by omega
    rw [hn] at hE
    obtain ⟨h1, _, h3⟩ := hE
    have hi : i0 = 0 := by omega
    subst hi
    rcases h3 with ⟨_, rfl, rfl, rfl⟩ | ⟨e, _⟩
    · refine (each_neg _ _ _ N wr h0).mono fun e w' hh => ⟨hh.1, h.later (gb_any (some wr.heap.size) hh.2) (by omega) (by omega) (by omega), gb_any _ hh.2⟩
    · omega
  · obtain ⟨n, rfl⟩ : ∃ n : Nat, N = n := ⟨N.toNat, by omega⟩
    have hn : (n : Int).toNat = n := by omega
    rw [hn] at hE
    exact each_any 15 _ _ n i0 kS bc _ _ cS aS (fun k w => ES L AL capL b0 bc w1 k w) wr cf15 hE (by omega) hlt
      (fun i wa wb g ha hg hge => ha.later hg (by omega) (by omega) (by omega))
      (fun k hk wa ha _ => each1 hT hs (by omega) hb ha) h

/-- The first k rows are short. -/
def ShortTo (L : List (List St)) (k : Nat) : Prop := ∀ j, j < k → (L.getD j []).length ≤ 30
theorem ShortTo.all {L : List (List St)} (h : ShortTo L L.length) : Short L := by
  intro j
  rcases Nat.lt_or_ge j L.length with h1 | h1
  · exact h j h1
  · simp [List.getElem?_eq_none h1]
theorem ShortTo.next {L : List (List St)} {k : Nat} {r : List St} (h : ShortTo L k) (hr : L[k]? = some r) (h30 : r.length ≤ 30) : ShortTo L (k + 1) := by
  intro j hj
  rcases Nat.lt_or_ge j k with h1 | h1
  · exact h j h1
  · have : j = k := by omega
    subst this
    simpa [hr] using h30

theorem Table.more {w : World} {B B' : Nat} {A : Option Addr} {L : List (List St)} (h : Table w B A L) (hB : B ≤ B') : Table w B' A L := by
  intro i hi
  obtain ⟨b, off, hA, hb, A2, cap, r, h1, h2, h3, h4, h5⟩ := h i hi
  refine ⟨b, off, hA, by omega, A2, cap, r, h1, h2, h3, h4, fun j hj => ?_⟩
  obtain ⟨b', off', e1, e2, e3⟩ := h5 j hj
  exact ⟨b', off', e1, by omega, e3⟩

theorem lmid_stop {L : List (List St)} {AL : Option Addr} {capL b0 : Nat} {w1 w' : World} (n1 : w1.grownBy w' none) (n2 : Whole w' b0 37 #[.slice AL L.length capL]) (n3 : Whole w' w1.heap.size 3 #[.int .i64 0]) (n4 : Whole w' (w1.heap.size + 1) 29 #[.int .i64 0, .int .i64 0]) (hb : b0 < w1.heap.size) (u v : Value) :
    w1.grownBy ((w'.setCell ⟨w1.heap.size + 1, 0, none⟩ u).setCell ⟨w1.heap.size + 1, 1, none⟩ v) none ∧ Whole ((w'.setCell ⟨w1.heap.size + 1, 0, none⟩ u).setCell ⟨w1.heap.size + 1, 1, none⟩ v) b0 37 #[.slice AL L.length capL] ∧
      Whole ((w'.setCell ⟨w1.heap.size + 1, 0, none⟩ u).setCell ⟨w1.heap.size + 1, 1, none⟩ v) w1.heap.size 3 #[.int .i64 0] ∧ Whole ((w'.setCell ⟨w1.heap.size + 1, 0, none⟩ u).setCell ⟨w1.heap.size + 1, 1, none⟩ v) (w1.heap.size + 1) 29 #[u, v] := by
  have g1 : w1.grownBy (w'.setCell ⟨w1.heap.size + 1, 0, none⟩ u) none := gb_put (p := ⟨w1.heap.size + 1, 0, none⟩) n1 (.inr (by show w1.heap.size ≤ w1.heap.size + 1; omega)) u
  have g2 : w1.grownBy ((w'.setCell ⟨w1.heap.size + 1, 0, none⟩ u).setCell ⟨w1.heap.size + 1, 1, none⟩ v) none := gb_put (p := ⟨w1.heap.size + 1, 1, none⟩) g1 (.inr (by show w1.heap.size ≤ w1.heap.size + 1; omega)) v
  have k1 : Whole ((w'.setCell ⟨w1.heap.size + 1, 0, none⟩ u).setCell ⟨w1.heap.size + 1, 1, none⟩ v) (w1.heap.size + 1) 29 ((#[.int .i64 0, .int .i64 0].setIfInBounds 0 u).setIfInBounds 1 v) := (n4.put 0 u).put 1 v
  have m2 := (n2.far (p := ⟨w1.heap.size + 1, 0, none⟩) (by show b0 ≠ w1.heap.size + 1; omega) u).far (p := ⟨w1.heap.size + 1, 1, none⟩) (by show b0 ≠ w1.heap.size + 1; omega) v
  have m3 := (n3.far (p := ⟨w1.heap.size + 1, 0, none⟩) (by show w1.heap.size ≠ w1.heap.size + 1; omega) u).far (p := ⟨w1.heap.size + 1, 1, none⟩) (by show w1.heap.size ≠ w1.heap.size + 1; omega) v
  exact ⟨g2, m2, m3, k1⟩

theorem gb_drewN {w w1 : World} {row : Option Nat} (h : w.grownBy w1 row) (n : Nat) : w.grownBy (w1.drewN n) row := ⟨h.os, h.tape, h.output, h.size, h.block⟩

/-- The relation of the law's own second loop. -/
structure LMid (L : List (List St)) (AL : Option Addr) (capL b0 bc : Nat) (w1 : World) (i0 : Nat) (cS aS N : Int) (want place : Value) (k : Nat) (wr : World) : Prop where
  grown : w1.grownBy wr none
  box : Whole wr b0 37 #[.slice AL L.length capL]
  count : Whole wr bc 3 #[.int .i64 0]
  rest : (k ≤ i0 ∧ k ≤ L.length ∧ want = .int .i64 (cntTo L k) ∧ place = .int .i64 (max N 0) ∧ Whole wr (bc + 1) 29 #[.int .i64 0, .int .i64 0]) ∨
    (k = i0 + 1 ∧ (i0 : Int) < N ∧ want = .int .i64 (cntTo L (i0 + 1)) ∧ place = .int .i64 i0 ∧ Whole wr (bc + 1) 29 #[.int .i64 cS, .int .i64 aS])

set_option maxRecDepth 100000 in
set_option maxHeartbeats 1000000 in
theorem lawEach_short (AL : Option Addr) (cap : Nat) (L : List (List St)) (N : Int) (w : World) (hT : Table w w.heap.size AL L) (hL : L.length ≤ 20) (hN : N ≤ 20) :
    Calls Try.prog 4 #[.slice AL L.length cap, .int .i64 N] w fun e w' => e = .returned (.bool true) ∧ w.grownBy w' none := by
  have hmf : ∀ (fn : Fn) (first cap : Array Value) (w : World), (Instr.makeFunc fn first cap).run Try.prog w = .ok (.func fn first cap) w := fun _ _ _ _ => rfl
  have HT := Lib.hid hT
  clear hT
  go_enter Try.func4, Try.ntmps4
  go_wp2_with (go_at_call 6; go_must (refine (awake_any _).mono ?_; rintro e w1 ⟨rfl, hg⟩; have xb := ((Whole.made w _ _).grown hg (by simp)).cell 0; have HG1 := Lib.hid hg; simp at xb; clear hg))
  have HT1 : Hid (Table w1 w1.heap.size AL L) := by
    have h0 : Table (w.alloc (.cells #[.slice AL L.length cap] 37)) w.heap.size AL L := HT.out.grown (gb_alloc (gb_refl w _) _) (Nat.le_refl _)
    exact (h0.grown HG1.out (by simp)).more (by have := HG1.out.size; simp at this; omega)
  have hz1 : w.heap.size < w1.heap.size := by have := HG1.out.size; simp at this; omega
  have HW1 : Hid (w.grownBy w1 none) := gb_trans (gb_alloc (gb_refl w _) _) HG1.out
  have HBX : Hid (Whole w1 w.heap.size 37 #[.slice AL L.length cap]) := (Whole.made w _ _).grown HG1.out (by simp)
  go_loop [5] (fun i => ∃ k : Nat, k ≤ L.length ∧ i = .int .i64 k ∧ ShortTo L k) (fun i => L.length - (intOf i).toNat)
  case atStart => exact ⟨0, Nat.zero_le _, rfl, fun j h => absurd h (Nat.not_lt_zero _)⟩
  case round =>
    obtain ⟨k, hk, rfl, hsh⟩ := hrel
    have HSH := Lib.hid hsh
    clear hsh
    by_cases hlt : k < L.length
    · obtain ⟨b, off, rfl, hbB, A2, cap2, r, hr, hcell, hrc, hcm, hrd⟩ := HT1.out k hlt
      have H2 := Lib.hid hr
      clear hr hrd hcm
      by_cases h30 : r.length ≤ 30
      · go_wp2
        go_round
        case rel => exact ⟨k + 1, by omega, by go_num, HSH.out.next H2.out h30⟩
        case measure => simp [intOf]; omega
      · go_wp2
        go_ret
        exact ⟨rfl, HW1.out⟩
    · obtain rfl : k = L.length := by omega
      have hs := HSH.out.all
      obtain ⟨i0, kS, cS, aS, hE⟩ := eend_exists (fun k => (runS (rowAt L k)).2.1) (fun k => (runS (rowAt L k)).2.2) N.toNat
      have HS := Lib.hid hs
      have HE := Lib.hid hE
      clear hs hE hlt hk
      have HST : Hid (LMid L AL cap w.heap.size w1.heap.size w1 i0 cS aS N (.int .i64 0) (.int .i64 (max N 0)) 0 ((w1.alloc (.cells #[.int .i64 0] 3)).alloc (.cells #[.int .i64 0, .int .i64 0] 29))) := by
        have h3 := Whole.made (w1.alloc (.cells #[.int .i64 0] 3)) 29 #[.int .i64 0, .int .i64 0]
        simp only [World.size_alloc] at h3
        exact ⟨gb_alloc (gb_alloc (gb_refl w1 _) _) _, (HBX.out.alloc _).alloc _, (Whole.made w1 _ _).alloc _, .inl ⟨Nat.zero_le _, Nat.zero_le _, rfl, rfl, h3⟩⟩
      by_cases hN0 : 0 ≤ N
      · go_wp2
        go_loopw [7, 9, 10] (fun want place i wr => ∃ k : Nat, i = .int .i64 k ∧ LMid L AL cap w.heap.size w1.heap.size w1 i0 cS aS N want place k wr) (fun _ _ i _ => L.length + 1 - (intOf i).toNat)
        case atStart =>
          refine ⟨0, rfl, ?_⟩
          have e : ∀ x, x = max N 0 → LMid L AL cap w.heap.size w1.heap.size w1 i0 cS aS N (.int .i64 0) (.int .i64 x) 0 ((w1.alloc (.cells #[.int .i64 0] 3)).alloc (.cells #[.int .i64 0, .int .i64 0] 29)) := fun x hx => by rw [hx]; exact HST.out
          exact e _ (by omega)
        case round =>
          obtain ⟨k, rfl, hm⟩ := hrel
          have yb := hm.box.cell 0
          simp at yb
          obtain ⟨hgr, hbx, hct, hrest⟩ := hm
          have HGR := Lib.hid hgr
          have HB2 := Lib.hid hbx
          have HCT := Lib.hid hct
          have hzr := hgr.size
          clear hgr hbx hct
          have HEACH := Lib.hid (each_law HT1.out HS.out hN (Nat.le_refl _) hz1 HE.out ⟨HGR.out, HB2.out, HCT.out⟩)
          rcases hrest with ⟨hk1, hk2, rfl, rfl, hst⟩ | ⟨rfl, hk1, rfl, rfl, hst⟩
          · have s0 := hst.cell 0
            have s1 := hst.cell 1
            simp at s0 s1
            have HSTP := Lib.hid hst
            have hcb := cntTo_bounds HS.out k
            obtain ⟨cn, hcn⟩ : ∃ cn, cn = cntTo L k := ⟨_, rfl⟩
            rw [← hcn] at hcb ⊢
            obtain ⟨hcb1, hcb2⟩ := hcb
            have HCN := Lib.hid hcn
            clear hst hcn
            by_cases hgo : (k : Int) < N ∧ k < L.length
            · obtain ⟨hkN, hkL⟩ := hgo
              obtain ⟨b, off, rfl, hbB, A2, cap2, r, hr, hcell, hrc, hcm, hrd⟩ := (HT1.out.grown HGR.out (Nat.le_refl _)) k hkL
              have hr30 : r.length ≤ 30 := by have := HS.out k; simpa [hr] using this
              have hp := plain_any A2 cap2 w1.heap.size r wr hrd hzr hcm (by omega)
              have hrow := rowAt_of hr
              have hb := runS_bounds _ (rowAt L k) (Nat.le_refl _) (good_plain _)
              have hrl := HS.out.row k
              have hc1 : cntTo L (k + 1) = cn + (runS (rowAt L k)).1 := by rw [HCN.out]; rfl
              obtain ⟨rn, hrn⟩ : ∃ x, x = (runS (rowAt L k)).1 := ⟨_, rfl⟩
              obtain ⟨rc, hrcd⟩ : ∃ x, x = (runS (rowAt L k)).2.1 := ⟨_, rfl⟩
              obtain ⟨ra, hra⟩ : ∃ x, x = (runS (rowAt L k)).2.2 := ⟨_, rfl⟩
              have HRUN : Hid (∀ (A3 : Option Addr) (c3 : Nat) (w3 : World), Reads w3 w3.heap.size A3 (r.map plainSt) → r.length ≤ c3 → c3 ≤ maxLen → Calls Try.prog 8 #[.slice A3 r.length c3] w3 fun e w' => e = .returned (.tuple #[.int .i64 rn, .int .i64 rc, .int .i64 ra]) ∧ ∃ x, w' = w3.drewN x) := by
                intro A3 c3 w3 q1 q2 q3
                rw [hrn, hrcd, hra, hrow]
                exact refRun_any _ A3 r.length c3 w3.heap.size (r.map plainSt) w3 (Nat.le_refl _) q1 (by simp) (by simpa using q2) q3 (by simp; omega) (good_plain r)
              rw [← hrn] at hb hc1
              have HP := Lib.hid hp
              have HC1 := Lib.hid hc1
              have hrn1 := hb.1
              have hrn2 : rn ≤ 30000 := by omega
              have hbw : b < wr.heap.size := block_lt_of_cell hcell
              have HRD := Lib.hid hrcd
              have HRA := Lib.hid hra
              clear hp hr hrd hrow hb hrl hc1 hrn hrcd hra hcm
              have NEXT : Hid (∀ w3 x, Below wr.heap.size wr w3 → w1.grownBy (w3.drewN x) none ∧ Whole (w3.drewN x) w.heap.size 37 #[.slice (some ⟨b, off, none⟩) L.length cap] ∧ Whole (w3.drewN x) w1.heap.size 3 #[.int .i64 0] ∧ Whole (w3.drewN x) (w1.heap.size + 1) 29 #[.int .i64 0, .int .i64 0]) :=
                fun w3 x hb3 => ⟨gb_drewN (gb_trans HGR.out (gb_of_below none hb3)) x, (HB2.out.below hb3 : Whole w3 _ _ _), (HCT.out.below hb3 : Whole w3 _ _ _), (HSTP.out.below hb3 : Whole w3 _ _ _)⟩
              by_cases hc0 : rc = 0
              · have hk3 : k + 1 ≤ i0 := by
                  rcases Nat.lt_or_ge k i0 with h | h
                  · omega
                  · exfalso
                    rcases HE.out.last with ⟨h1, _⟩ | ⟨_, _, _, _, h1⟩
                    · omega
                    · have e : i0 = k := by omega
                      rw [e] at h1
                      exact h1 (by rw [← HRD.out]; exact hc0)
                subst hc0
                go_wp2_with (first
                  | (go_at_call 7; go_must (refine HP.out.mono ?_; rintro e w3 ⟨A3, c3, rfl, q1, q2, q3, q4, q5⟩; have HR3 := Lib.hid (HRUN.out A3 c3 w3 q3 q1 q2); have HB3 := Lib.hid q5; clear q1 q2 q3 q4 q5))
                  | (go_at_call 8; go_must (refine HR3.out.mono ?_; rintro e w' ⟨rfl, x, rfl⟩)))
                go_roundw
                case rel =>
                  obtain ⟨n1, n2, n3, n4⟩ := NEXT.out w3 x HB3.out
                  exact ⟨k + 1, by go_num, n1, n2, n3, .inl ⟨hk3, by omega, by rw [HC1.out], rfl, n4⟩⟩
                case measure => simp [intOf]; omega
              · have hki : k = i0 := by
                  rcases Nat.lt_or_ge k i0 with h | h
                  · exact absurd (by rw [HRD.out]; exact HE.out.zero k h) hc0
                  · omega
                subst hki
                have hlast : cS = rc ∧ aS = ra := by
                  rcases HE.out.last with ⟨h1, _⟩ | ⟨_, h1, h2, _, _⟩
                  · omega
                  · exact ⟨by rw [HRD.out, h1], by rw [HRA.out, h2]⟩
                obtain ⟨rfl, rfl⟩ := hlast
                have R1 : (cS == 0) = false := by simpa using hc0
                have R2 : (cS != 0) = true := by simpa using hc0
                clear hc0
                go_wp2_with (first
                  | (go_at_call 7; go_must (refine HP.out.mono ?_; rintro e w3 ⟨A3, c3, rfl, q1, q2, q3, q4, q5⟩; have HR3 := Lib.hid (HRUN.out A3 c3 w3 q3 q1 q2); have HB3 := Lib.hid q5; clear q1 q2 q3 q4 q5))
                  | (go_at_call 8; go_must (refine HR3.out.mono ?_; rintro e w' ⟨rfl, x, rfl⟩; have NX := Lib.hid (NEXT.out w3 x HB3.out); have z0 := NX.out.2.2.2.cell 0; have z1 := NX.out.2.2.2.cell 1; have z2 := NX.out.2.2.2.frozen 0; have z3 := NX.out.2.2.2.frozen 1; simp at z0 z1 z2 z3)))
                go_roundw
                case rel =>
                  obtain ⟨n1, n2, n3, n4⟩ := NX.out
                  obtain ⟨m1, m2, m3, m4⟩ := lmid_stop n1 n2 n3 n4 hz1 (.int .i64 cS) (.int .i64 aS)
                  exact ⟨k + 1, by go_num, m1, m2, m3, .inr ⟨rfl, hkN, by rw [HC1.out], rfl, m4⟩⟩
                case measure => simp [intOf]; omega
            · have hlast : cS = 0 ∧ aS = 0 ∧ kS = N.toNat ∧ i0 = N.toNat := by
                rcases HE.out.last with ⟨h1, h2, h3, h4⟩ | ⟨h1, h2, _, _, h4⟩
                · exact ⟨h2, h3, h4, h1⟩
                · exfalso
                  have hkN : (k : Int) < N := by omega
                  have hkL : ¬ k < L.length := fun h => hgo ⟨hkN, h⟩
                  have := rowAt_beyond (L := L) (j := i0) (by omega)
                  exact h4 (by show (runS (rowAt L i0)).2.1 = 0; rw [this]; rfl)
              obtain ⟨rfl, rfl, rfl, hi0⟩ := hlast
              have hck : cntTo L N.toNat = cn := by
                rw [HCN.out]
                by_cases hkN : (k : Int) < N
                · have hkL : L.length ≤ k := by
                    rcases Nat.lt_or_ge k L.length with h | h
                    · exact absurd ⟨hkN, h⟩ hgo
                    · exact h
                  have e : k = L.length := by omega
                  rw [cntTo_beyond (by omega), e]
                · have e : N.toNat = k := by omega
                  rw [e]
              have HCK := Lib.hid hck
              clear hck
              have hmx : max N 0 = (i0 : Int) := by omega
              rw [hmx]
              have hcn2 : cn ≤ 600000 := by omega
              clear hmx
              by_cases hkN : (k : Int) < N
              · have hkL : ¬ k < L.length := fun h => hgo ⟨hkN, h⟩
                clear hgo
                go_wp2_with (go_at_call 14; go_must (refine HEACH.out.mono ?_; rintro e w5 ⟨rfl, hes, hg5⟩; have xc : ∀ o, (w5.alloc o).cell? ⟨w1.heap.size, 0, none⟩ = some (.int .i64 cn) := (fun o => (by rw [← HCK.out]; exact (hes.count.alloc o).cell 0)); have st5 := HSTP.out.grown hg5 (by simp only [ne_eq, Option.some.injEq]; omega); have t0 := fun o => (st5.alloc o).cell 0; have t1 := fun o => (st5.alloc o).cell 1; have HES := Lib.hid hes; simp at t0 t1; clear hes hg5 st5))
                go_ret
                exact ⟨rfl, gb_trans HW1.out (gb_alloc HES.out.grown _)⟩
              · clear hgo
                go_wp2_with (go_at_call 14; go_must (refine HEACH.out.mono ?_; rintro e w5 ⟨rfl, hes, hg5⟩; have xc : ∀ o, (w5.alloc o).cell? ⟨w1.heap.size, 0, none⟩ = some (.int .i64 cn) := (fun o => (by rw [← HCK.out]; exact (hes.count.alloc o).cell 0)); have st5 := HSTP.out.grown hg5 (by simp only [ne_eq, Option.some.injEq]; omega); have t0 := fun o => (st5.alloc o).cell 0; have t1 := fun o => (st5.alloc o).cell 1; have HES := Lib.hid hes; simp at t0 t1; clear hes hg5 st5))
                go_ret
                exact ⟨rfl, gb_trans HW1.out (gb_alloc HES.out.grown _)⟩
          · have s0 := hst.cell 0
            have s1 := hst.cell 1
            simp at s0 s1
            have HSTP := Lib.hid hst
            have hlast : ¬ cS = 0 ∧ kS = i0 + 1 := by
              rcases HE.out.last with ⟨h1, _⟩ | ⟨_, h2, _, h4, h5⟩
              · omega
              · exact ⟨by rw [h2]; exact h5, h4⟩
            obtain ⟨hcS, rfl⟩ := hlast
            have hcb := cntTo_bounds HS.out (i0 + 1)
            obtain ⟨cn, hcn⟩ : ∃ cn, cn = cntTo L (i0 + 1) := ⟨_, rfl⟩
            rw [← hcn] at hcb ⊢
            obtain ⟨hcb1, hcb2⟩ := hcb
            have HCK : Hid (cntTo L (i0 + 1) = cn) := hcn.symm
            have R1 : (cS == 0) = false := by simpa using hcS
            have heq : ∀ w : World, (binOp BinOp.eql 29 (.agg #[.int .i64 cS, .int .i64 aS]) (.agg #[.int .i64 0, .int .i64 0])).run Try.prog w = .ok (.bool false) w := by
              intro w
              simp [go_sem, R1]
            clear hst hcn hcS
            by_cases hkN : ((i0 + 1 : Nat) : Int) < N
            · by_cases hkL : i0 + 1 < L.length
              · go_wp2_with (go_at_call 14; go_must (refine HEACH.out.mono ?_; rintro e w5 ⟨rfl, hes, hg5⟩; have xc : ∀ o, (w5.alloc o).cell? ⟨w1.heap.size, 0, none⟩ = some (.int .i64 cn) := (fun o => (by rw [← HCK.out]; exact (hes.count.alloc o).cell 0)); have st5 := HSTP.out.grown hg5 (by simp only [ne_eq, Option.some.injEq]; omega); have t0 := fun o => (st5.alloc o).cell 0; have t1 := fun o => (st5.alloc o).cell 1; have HES := Lib.hid hes; simp at t0 t1; clear hes hg5 st5))
                go_ret
                exact ⟨rfl, gb_trans HW1.out (gb_alloc HES.out.grown _)⟩
              · go_wp2_with (go_at_call 14; go_must (refine HEACH.out.mono ?_; rintro e w5 ⟨rfl, hes, hg5⟩; have xc : ∀ o, (w5.alloc o).cell? ⟨w1.heap.size, 0, none⟩ = some (.int .i64 cn) := (fun o => (by rw [← HCK.out]; exact (hes.count.alloc o).cell 0)); have st5 := HSTP.out.grown hg5 (by simp only [ne_eq, Option.some.injEq]; omega); have t0 := fun o => (st5.alloc o).cell 0; have t1 := fun o => (st5.alloc o).cell 1; have HES := Lib.hid hes; simp at t0 t1; clear hes hg5 st5))
                go_ret
                exact ⟨rfl, gb_trans HW1.out (gb_alloc HES.out.grown _)⟩
            · go_wp2_with (go_at_call 14; go_must (refine HEACH.out.mono ?_; rintro e w5 ⟨rfl, hes, hg5⟩; have xc : ∀ o, (w5.alloc o).cell? ⟨w1.heap.size, 0, none⟩ = some (.int .i64 cn) := (fun o => (by rw [← HCK.out]; exact (hes.count.alloc o).cell 0)); have st5 := HSTP.out.grown hg5 (by simp only [ne_eq, Option.some.injEq]; omega); have t0 := fun o => (st5.alloc o).cell 0; have t1 := fun o => (st5.alloc o).cell 1; have HES := Lib.hid hes; simp at t0 t1; clear hes hg5 st5))
              go_ret
              exact ⟨rfl, gb_trans HW1.out (gb_alloc HES.out.grown _)⟩
      · go_wp2
        go_loopw [7, 9, 10] (fun want place i wr => ∃ k : Nat, i = .int .i64 k ∧ LMid L AL cap w.heap.size w1.heap.size w1 i0 cS aS N want place k wr) (fun _ _ i _ => L.length + 1 - (intOf i).toNat)
        case atStart =>
          refine ⟨0, rfl, ?_⟩
          have e : ∀ x, x = max N 0 → LMid L AL cap w.heap.size w1.heap.size w1 i0 cS aS N (.int .i64 0) (.int .i64 x) 0 ((w1.alloc (.cells #[.int .i64 0] 3)).alloc (.cells #[.int .i64 0, .int .i64 0] 29)) := fun x hx => by rw [hx]; exact HST.out
          exact e _ (by omega)
        case round =>
          obtain ⟨k, rfl, hm⟩ := hrel
          have yb := hm.box.cell 0
          simp at yb
          obtain ⟨hgr, hbx, hct, hrest⟩ := hm
          have HGR := Lib.hid hgr
          have HB2 := Lib.hid hbx
          have HCT := Lib.hid hct
          have hzr := hgr.size
          clear hgr hbx hct
          have HEACH := Lib.hid (each_law HT1.out HS.out hN (Nat.le_refl _) hz1 HE.out ⟨HGR.out, HB2.out, HCT.out⟩)
          rcases hrest with ⟨hk1, hk2, rfl, rfl, hst⟩ | ⟨rfl, hk1, rfl, rfl, hst⟩
          · have s0 := hst.cell 0
            have s1 := hst.cell 1
            simp at s0 s1
            have HSTP := Lib.hid hst
            have hcb := cntTo_bounds HS.out k
            obtain ⟨cn, hcn⟩ : ∃ cn, cn = cntTo L k := ⟨_, rfl⟩
            rw [← hcn] at hcb ⊢
            obtain ⟨hcb1, hcb2⟩ := hcb
            have HCN := Lib.hid hcn
            clear hst hcn
            have hgo : ¬ ((k : Int) < N ∧ k < L.length) := by omega
            have hlast : cS = 0 ∧ aS = 0 ∧ kS = N.toNat ∧ i0 = N.toNat := by
              rcases HE.out.last with ⟨h1, h2, h3, h4⟩ | ⟨h1, h2, _, _, h4⟩
              · exact ⟨h2, h3, h4, h1⟩
              · exfalso
                have hkN : (k : Int) < N := by omega
                have hkL : ¬ k < L.length := fun h => hgo ⟨hkN, h⟩
                have := rowAt_beyond (L := L) (j := i0) (by omega)
                exact h4 (by show (runS (rowAt L i0)).2.1 = 0; rw [this]; rfl)
            obtain ⟨rfl, rfl, rfl, hi0⟩ := hlast
            have hck : cntTo L N.toNat = cn := by
              rw [HCN.out]
              by_cases hkN : (k : Int) < N
              · have hkL : L.length ≤ k := by
                  rcases Nat.lt_or_ge k L.length with h | h
                  · exact absurd ⟨hkN, h⟩ hgo
                  · exact h
                have e : k = L.length := by omega
                rw [cntTo_beyond (by omega), e]
              · have e : N.toNat = k := by omega
                rw [e]
            have HCK := Lib.hid hck
            clear hck
            have hmx : max N 0 = (i0 : Int) := by omega
            rw [hmx]
            have hcn2 : cn ≤ 600000 := by omega
            clear hmx
            clear hgo
            go_wp2_with (go_at_call 14; go_must (refine HEACH.out.mono ?_; rintro e w5 ⟨rfl, hes, hg5⟩; have xc : ∀ o, (w5.alloc o).cell? ⟨w1.heap.size, 0, none⟩ = some (.int .i64 cn) := (fun o => (by rw [← HCK.out]; exact (hes.count.alloc o).cell 0)); have st5 := HSTP.out.grown hg5 (by simp only [ne_eq, Option.some.injEq]; omega); have t0 := fun o => (st5.alloc o).cell 0; have t1 := fun o => (st5.alloc o).cell 1; have HES := Lib.hid hes; simp at t0 t1; clear hes hg5 st5))
            go_ret
            exact ⟨rfl, gb_trans HW1.out (gb_alloc HES.out.grown _)⟩
          · exfalso
            omega

theorem lawEach_long (AL : Option Addr) (len cap : Nat) (N : Int) (w : World) (hL : 20 < len) :
    Calls Try.prog 4 #[.slice AL len cap, .int .i64 N] w fun e w' => e = .returned (.bool true) ∧ w.grownBy w' none := by
  go_enter Try.func4, Try.ntmps4
  go_wp2_with (go_at_call 6; go_must (refine (awake_any _).mono ?_; rintro e w1 ⟨rfl, hg⟩; have xb := ((Whole.made w _ _).grown hg (by simp)).cell 0; have HG1 := Lib.hid hg; simp at xb; clear hg))
  go_ret
  exact ⟨rfl, gb_trans (gb_alloc (gb_refl w _) _) HG1.out⟩

theorem lawEach_great (AL : Option Addr) (len cap : Nat) (N : Int) (w : World) (hL : len ≤ 20) (hN : 20 < N) :
    Calls Try.prog 4 #[.slice AL len cap, .int .i64 N] w fun e w' => e = .returned (.bool true) ∧ w.grownBy w' none := by
  go_enter Try.func4, Try.ntmps4
  go_wp2_with (go_at_call 6; go_must (refine (awake_any _).mono ?_; rintro e w1 ⟨rfl, hg⟩; have xb := ((Whole.made w _ _).grown hg (by simp)).cell 0; have HG1 := Lib.hid hg; simp at xb; clear hg))
  go_ret
  exact ⟨rfl, gb_trans (gb_alloc (gb_refl w _) _) HG1.out⟩
end Go.Proofs.Ytmgihoogdkpjoaa
