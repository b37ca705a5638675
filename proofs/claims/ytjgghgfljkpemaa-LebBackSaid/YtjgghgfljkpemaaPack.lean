/- The law LebBack. -/
import Derived.Test.YtjgghgfljkpemaaBack
namespace Go.Proofs.Ytjgghgfljkpemaa
open Go.RowKit
set_option linter.unusedVariables false

/-- Bytes l, n of them, in a row that the call made. -/
def Wrote (l : List Int) (n : Nat) (w : World) (e : Ending) (w' : World) : Prop :=
  ∃ A c, e = .returned (.slice A n c) ∧ n ≤ c ∧ c ≤ maxLen ∧ Lies w' w'.heap.size A (cells l) ∧ Below w.heap.size w w'
theorem wrote_of {l l' : List Int} {n : Nat} {w w' : World} {e : Ending} (h : Bytes l w e w') (hl : l = l') (hn : l'.length = n) : Wrote l' n w e w' := by
  subst hl
  obtain ⟨A, c, rfl, h1, h2, h3, _, h5⟩ := h
  rw [hn] at h1 ⊢
  exact ⟨A, c, rfl, h1, h2, h3, h5⟩

theorem pack_u {x : Int} {n : Nat} (h0 : 0 ≤ x) (h1 : x < 2 ^ n) (n1 : 1 ≤ n) (n2 : n ≤ 64) :
    ∃ (q : Nat) (init : List Int) (c : Int), q < (n + 6) / 7 ∧ init.length = q ∧ 0 ≤ c ∧ c < 128 ∧
      (∀ W, Calls Try.prog 8 #[.int .u64 x] W (Wrote (init ++ [c]) (q + 1) W)) ∧
      (∀ (more : List Int), (∀ d ∈ more, 0 ≤ d ∧ d ≤ 255) → ∀ A cap B w len, (init ++ c :: more).length = len → Has w B A cap (init ++ c :: more) →
        Calls Try.prog 15 #[.slice A len cap, .int .i64 0, .int .i64 n] w fun e w' => e = .returned (.tuple #[.int .u64 x, .int .i64 ((q : Int) + 1), .int .i64 0]) ∧ w = w') ∧
      (q + 1 < (n + 6) / 7 → ∀ A cap B w, Has w B A cap (init ++ [c + 128, 0]) →
        Calls Try.prog 15 #[.slice A (q + 1 + 1) cap, .int .i64 0, .int .i64 n] w fun e w' => e = .returned (.tuple #[.int .u64 x, .int .i64 ((q : Int) + 1 + 1), .int .i64 0]) ∧ w = w') ∧
      (∀ A cap B w, Has w B A cap init → Calls Try.prog 15 #[.slice A q cap, .int .i64 0, .int .i64 n] w fun e w' => e = .returned (.tuple #[.int .u64 0, .int .i64 0, .int .i64 2]) ∧ w = w') := by
  have m64 := mono2 n2
  have e64 : (2 : Int) ^ 64 = 18446744073709551616 := rfl
  obtain ⟨na, hna⟩ := leastU x (by omega)
  obtain ⟨p, c, rfl, hg, hx, c0, c1, hf, hp⟩ := least_u h0 h1 n1 n2 hna
  have hc : c = x / 128 ^ p % 128 := by
    have h := grp_snoc x p
    rw [hg] at h
    have := List.append_cancel_left h
    injection this
  refine ⟨p, grps x p, c, hp, grps_length x p, c0, c1, fun W => ?_, fun more hm A cap B w len hlen hh => rdU x c p n more A cap B len w hlen hh hm hx c0 c1 hf n1 n2 hp, fun hlt A cap B w hh => ?_, fun A cap B w hh => rdShort x p n A cap B w hh n1 n2 hp⟩
  · exact (uint_any x W h0 (by omega) hna).mono fun e w' h => wrote_of h hg (by simp [grps_length])
  · have hl : grps x p ++ [c + 128, 0] = grps x (p + 1) ++ [0] := by rw [grps_snoc, ← hc]; simp
    rw [hl] at hh
    have hsm : x % 2 ^ (7 * (p + 1)) = x := by
      have b := Int.emod_nonneg x (Int.ne_of_gt (p2 (7 * p)))
      have b2 := Int.emod_lt_of_pos x (p2 (7 * p))
      have e : (2 : Int) ^ (7 * (p + 1)) = 128 * 2 ^ (7 * p) := by rw [show 7 * (p + 1) = 7 * p + 7 by omega, Int.pow_add, Int.mul_comm]; rfl
      refine Int.emod_eq_of_lt h0 ?_
      rw [e]
      have := Int.mul_le_mul_of_nonneg_right (show c ≤ 127 by omega) (Int.le_of_lt (p2 (7 * p)))
      omega
    have h := rdU x 0 (p + 1) n [] A cap B (p + 1 + 1) w (by simp [grps_length]) hh (by simp) (by rw [hsm]; omega) (by omega) (by omega) (by simp) n1 n2 hlt
    refine h.mono fun e w' he => ⟨?_, he.2⟩
    rw [he.1]; simp
theorem pack_s {x : Int} {n : Nat} (h0 : -2 ^ (n - 1) ≤ x) (h1 : x < 2 ^ (n - 1)) (n1 : 1 ≤ n) (n2 : n ≤ 64) :
    ∃ (q : Nat) (init : List Int) (c : Int), q < (n + 6) / 7 ∧ init.length = q ∧ 0 ≤ c ∧ c < 128 ∧
      (∀ W, Calls Try.prog 10 #[.int .i64 x] W (Wrote (init ++ [c]) (q + 1) W)) ∧
      (∀ (more : List Int), (∀ d ∈ more, 0 ≤ d ∧ d ≤ 255) → ∀ A cap B w len, (init ++ c :: more).length = len → Has w B A cap (init ++ c :: more) →
        Calls Try.prog 16 #[.slice A len cap, .int .i64 0, .int .i64 n] w fun e w' => e = .returned (.tuple #[.int .i64 x, .int .i64 ((q : Int) + 1), .int .i64 0]) ∧ w = w') := by
  have m63 := mono2 (a := n - 1) (b := 63) (by omega)
  have e63 : (2 : Int) ^ 63 = 9223372036854775808 := rfl
  obtain ⟨na, hna⟩ := leastS x (by omega) (by omega)
  obtain ⟨p, c, rfl, hg, hx, c0, c1, hf, hp⟩ := least_s h0 h1 n1 n2 hna
  refine ⟨p, grps x p, c, hp, grps_length x p, c0, c1, fun W => ?_, fun more hm A cap B w len hlen hh => rdS x c p n more A cap B len w hlen hh hm hx c0 c1 hf n1 n2 hp⟩
  exact (int_any x W (by omega) (by omega) hna).mono fun e w' h => wrote_of h hg (by simp [grps_length])

theorem cut_u (v : Int) (n : Nat) (n2 : n ≤ 64) : 0 ≤ IntKind.u64.wrap (v * 2 ^ (64 - n)) / 2 ^ (64 - n) ∧ IntKind.u64.wrap (v * 2 ^ (64 - n)) / 2 ^ (64 - n) < 2 ^ n := by
  have hp := p2 (64 - n)
  have e : (2 : Int) ^ n * 2 ^ (64 - n) = 18446744073709551616 := by rw [← Int.pow_add, show n + (64 - n) = 64 by omega]; rfl
  have hw : 0 ≤ IntKind.u64.wrap (v * 2 ^ (64 - n)) ∧ IntKind.u64.wrap (v * 2 ^ (64 - n)) < 18446744073709551616 := by
    generalize v * 2 ^ (64 - n) = z
    simp only [IntKind.wrap, IntKind.bits, IntKind.signed]
    simp
    omega
  refine ⟨Int.ediv_nonneg hw.1 (Int.le_of_lt hp), (Int.ediv_lt_iff_lt_mul hp).2 ?_⟩
  rw [e]; exact hw.2
theorem cut_s (v : Int) (n : Nat) (n1 : 1 ≤ n) (n2 : n ≤ 64) : -2 ^ (n - 1) ≤ wrap64 (v * 2 ^ (64 - n)) / 2 ^ (64 - n) ∧ wrap64 (v * 2 ^ (64 - n)) / 2 ^ (64 - n) < 2 ^ (n - 1) := by
  have hw : -2 ^ 63 ≤ wrap64 (v * 2 ^ (64 - n)) ∧ wrap64 (v * 2 ^ (64 - n)) < 2 ^ 63 := by
    rw [← IntWalk.i64_left, IntKind.wrap_i64]
    show -9223372036854775808 ≤ _ ∧ _ < 9223372036854775808
    omega
  have h := div_bounds (a := 64 - n) (b := 63) (by omega) hw.1 hw.2
  rw [show 63 - (64 - n) = n - 1 by omega] at h
  exact h

theorem row_first {W w' : World} {o : Obj} (hg : (W.alloc o).grownBy w' (some W.heap.size)) : Below W.heap.size W w' :=
  Below.grown ((Below.refl _ _).alloc (Nat.le_refl _) _) hg (by simp) (fun g h => by injection h with h; omega)
theorem row_next {W w1 w2 : World} {e : TypeId} {v : Value} {n : Nat} {vs : List Value} (hb : Below W.heap.size W w1) (ho : w1.ownsRow W.heap.size e 1 v n vs) (hg : w1.grownBy w2 v.ownBlock) : Below W.heap.size W w2 :=
  Below.grown hb hg hb.size (fun g h => (ho.lt g h).1)
theorem cells_one (l : List Int) : ∀ u ∈ cells l, u.oneCell' = true := by
  intro u hu
  obtain ⟨c, _, rfl⟩ := List.mem_map.1 hu
  rfl
theorem cells_app (l m : List Int) : cells l ++ cells m = cells (l ++ m) := by simp [cells]
/-- A row of the call's own, as an argument. -/
theorem has_own {W w : World} {v : Value} {n : Nat} {l : List Int} (ho : w.ownsRow W.heap.size 5 1 v n (cells l)) (hn : l.length = n) : ∃ A c, v = .slice A n c ∧ Has w w.heap.size A c l := by
  obtain ⟨A, c, rfl, h1, h2, h3, _⟩ := lies_own ho
  exact ⟨A, c, rfl, h3, Nat.le_refl _, by omega, h2⟩
theorem some_of {w : World} {B : Nat} {A : Option Addr} {l : List Int} (h : Lies w B A (cells l)) (hl : 0 < l.length) {P : Prop} : A = none → P := by
  intro e
  obtain ⟨b, off, e', _⟩ := h.byte (List.getElem?_eq_getElem hl)
  rw [e] at e'; cases e'
end Go.Proofs.Ytjgghgfljkpemaa
