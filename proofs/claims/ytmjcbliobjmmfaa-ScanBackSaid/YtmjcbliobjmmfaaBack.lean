/- What is written is read again: behind it, longer by a group, without its last byte. -/
import Derived.Test.YtmjcbliobjmmfaaLawR
import Derived.Laws.AppendOwnNone
namespace Go.Proofs.Ytmjcbliobjmmfaa
open Go.RowKit
set_option linter.unusedVariables false

theorem p128_2 (k : Nat) : (128 : Int) ^ k = 2 ^ (7 * k) := (pow7 k).symm
theorem mod_step (x : Int) (k : Nat) : x % 2 ^ (7 * (k + 1)) = x % 2 ^ (7 * k) + x / 2 ^ (7 * k) % 128 * 2 ^ (7 * k) := by
  have hp := p2 (7 * k)
  have e4 : (2 : Int) ^ (7 * (k + 1)) = 128 * 2 ^ (7 * k) := by rw [show 7 * (k + 1) = 7 * k + 7 by omega, Int.pow_add, Int.mul_comm]; rfl
  have e3 : x / 2 ^ (7 * (k + 1)) = x / 2 ^ (7 * k) / 128 := by rw [show 7 * (k + 1) = 7 * k + 7 by omega, ← div_pow]; rfl
  have e1 := Int.emod_def x (2 ^ (7 * k))
  have e2 := Int.emod_def x (2 ^ (7 * (k + 1)))
  rw [e3, e4] at e2
  rw [e4, e2, e1]
  have h2 : x / 2 ^ (7 * k) = 128 * (x / 2 ^ (7 * k) / 128) + x / 2 ^ (7 * k) % 128 := by omega
  generalize x / 2 ^ (7 * k) / 128 = q at *
  generalize x / 2 ^ (7 * k) % 128 = m at *
  rw [h2]
  grind
theorem low_grps (x : Int) : ∀ k, low (grps x k) = x % 2 ^ (7 * k)
  | 0 => by simp [grps, low]
  | k + 1 => by
    rw [grps_snoc, low_snoc, low_grps x k, grps_length, mod_step, p128_2]
    congr 2
    omega
theorem grps_wf (x : Int) (k : Nat) : ∀ c ∈ grps x k, 0 ≤ c ∧ c ≤ 255 := by
  intro c hc
  obtain ⟨i, _, rfl⟩ := List.mem_map.1 hc
  omega
theorem grps_on (x : Int) (k : Nat) : ∀ c ∈ grps x k, 128 ≤ c := by
  intro c hc
  obtain ⟨i, _, rfl⟩ := List.mem_map.1 hc
  omega
theorem grps_at (x : Int) (p : Nat) (c : Int) (l : List Int) : (grps x p ++ c :: l)[p]? = some c := by
  have h : (grps x p).length = p := grps_length x p
  rw [List.getElem?_append_right (by omega), h]; simp
theorem grps_take (x : Int) (p : Nat) (c : Int) (l : List Int) : (grps x p ++ c :: l).take p = grps x p := by
  have h : (grps x p).length = p := grps_length x p
  rw [List.take_append_of_le_length (by omega), List.take_of_length_le (by omega)]
theorem grps_stop (x : Int) (p M : Nat) (c : Int) (l : List Int) (hc : c < 128) (hM : p ≤ M) : Stop M (grps x p ++ c :: l) p := by
  have h : (grps x p).length = p := grps_length x p
  refine ⟨hM, by simp; omega, fun i d hi hd => ?_, fun d _ hd => ?_⟩
  · rw [List.getElem?_append_left (by omega)] at hd
    exact grps_on x p d (List.mem_of_getElem? hd)
  · rw [grps_at] at hd; injection hd with hd; omega
theorem grps_short (x : Int) (p M : Nat) (hM : p ≤ M) : Stop M (grps x p) p := by
  have h : (grps x p).length = p := grps_length x p
  refine ⟨hM, by omega, fun i d hi hd => grps_on x p d (List.mem_of_getElem? hd), fun d _ hd => ?_⟩
  rw [List.getElem?_eq_none (by omega)] at hd; cases hd

theorem rdU (x c : Int) (p n : Nat) (l : List Int) (A : Option Addr) (cap B len : Nat) (w : World) (hlen : (grps x p ++ c :: l).length = len) (hh : Has w B A cap (grps x p ++ c :: l)) (hwf : ∀ d ∈ l, 0 ≤ d ∧ d ≤ 255)
    (hx : x % 2 ^ (7 * p) + c * 2 ^ (7 * p) = x) (c0 : 0 ≤ c) (c1 : c < 128) (hf : c / 2 ^ (n - 7 * p) = 0) (n1 : 1 ≤ n) (n2 : n ≤ 64) (hp : p < (n + 6) / 7) :
    Calls Try.prog 48 #[.slice A len cap, .int .i64 0, .int .i64 n] w fun e w' => e = .returned (.tuple #[.int .u64 x, .int .i64 ((p : Int) + 1), .int .i64 0]) ∧ w = w' := by
  subst hlen
  have hb : ∀ d ∈ grps x p ++ c :: l, 0 ≤ d ∧ d ≤ 255 := fun d hd => by
    rcases List.mem_append.1 hd with h | h
    · exact grps_wf x p d h
    · rcases List.mem_cons.1 h with rfl | h
      · omega
      · exact hwf d h
  have h := ru_ok (grps x p ++ c :: l) A cap B 0 n p c w hh.lies hb hh.room hh.most (Nat.zero_le _) n1 n2 (by rw [List.drop_zero]; exact grps_stop x p _ c l c1 (by omega)) hp (by rw [List.drop_zero]; exact grps_at x p c l) hf
  rw [List.drop_zero, grps_take] at h
  have e : numU (grps x p) c = x := by unfold numU; rw [low_grps, grps_length]; exact hx
  rw [e] at h
  refine h.mono fun e' w' he => ⟨?_, he.2⟩
  rw [he.1]; simp
theorem rdShort (x : Int) (p n : Nat) (A : Option Addr) (cap B : Nat) (w : World) (hh : Has w B A cap (grps x p)) (n1 : 1 ≤ n) (n2 : n ≤ 64) (hp : p < (n + 6) / 7) :
    Calls Try.prog 48 #[.slice A p cap, .int .i64 0, .int .i64 n] w fun e w' => e = .returned (.tuple #[.int .u64 0, .int .i64 0, .int .i64 2]) ∧ w = w' := by
  have hl := grps_length x p
  have h := length_right (grps x p) A cap B 0 n p w hh.lies (grps_wf x p) hh.room hh.most (Nat.zero_le _) n1 n2 (by rw [List.drop_zero]; exact grps_short x p _ (by omega))
  unfold lenN lenE at h
  have hne : ¬ p = (n + 6) / 7 := by omega
  rw [hl] at h
  simp [hne] at h
  exact ru_fail _ _ _ 2 w (.inr (.inl rfl)) h

/-- A number below 2^n and its least groups. -/
theorem least_u {x : Int} {n na : Nat} (h0 : 0 ≤ x) (h1 : x < 2 ^ n) (n1 : 1 ≤ n) (n2 : n ≤ 64) (hn : Least (fitU x) na) :
    ∃ p c, na = p + 1 ∧ grp x na = grps x p ++ [c] ∧ x % 2 ^ (7 * p) + c * 2 ^ (7 * p) = x ∧ 0 ≤ c ∧ c < 128 ∧ c / 2 ^ (n - 7 * p) = 0 ∧ p < (n + 6) / 7 := by
  have hle : na ≤ (n + 6) / 7 := by
    refine hn.le (by omega) ?_
    show x / 128 ^ ((n + 6) / 7 - 1) < 128
    have hM : 1 ≤ (n + 6) / 7 := by omega
    have hM2 : n ≤ 7 * ((n + 6) / 7) := by omega
    generalize (n + 6) / 7 = M at *
    have e : (128 : Int) * 128 ^ (M - 1) = 2 ^ (7 * M) := by rw [p128_2, show 7 * M = 7 * (M - 1) + 7 by omega, Int.pow_add, Int.mul_comm]; rfl
    rw [Int.ediv_lt_iff_lt_mul (p128 _), e]
    have := mono2 hM2
    omega
  have h1' := hn.1
  obtain ⟨p, rfl⟩ : ∃ p, na = p + 1 := ⟨na - 1, by omega⟩
  have hf : x / 128 ^ p < 128 := hn.2.1
  have hq : 0 ≤ x / 128 ^ p := Int.ediv_nonneg h0 (Int.le_of_lt (p128 _))
  have hc : x / 128 ^ p % 128 = x / 128 ^ p := Int.emod_eq_of_lt hq hf
  refine ⟨p, x / 128 ^ p, rfl, by rw [grp_snoc, hc], ?_, hq, hf, ?_, by omega⟩
  · rw [p128_2, Int.mul_comm]; exact Int.emod_add_mul_ediv x _
  · rw [p128_2, div_pow, show 7 * p + (n - 7 * p) = n by omega]; exact Int.ediv_eq_zero_of_lt h0 h1
theorem least_s {x : Int} {n na : Nat} (h0 : -2 ^ (n - 1) ≤ x) (h1 : x < 2 ^ (n - 1)) (n1 : 1 ≤ n) (n2 : n ≤ 64) (hn : Least (fitS x) na) :
    ∃ p c, na = p + 1 ∧ grp x na = grps x p ++ [c] ∧ x % 2 ^ (7 * p) + sg c * 2 ^ (7 * p) = x ∧ 0 ≤ c ∧ c < 128 ∧ (sg c / 2 ^ (n - 7 * p - 1) = 0 ∨ sg c / 2 ^ (n - 7 * p - 1) = -1) ∧ p < (n + 6) / 7 := by
  have hle : na ≤ (n + 6) / 7 := by
    refine hn.le (by omega) ?_
    have e : (64 : Int) * 128 ^ ((n + 6) / 7 - 1) = 2 ^ (7 * ((n + 6) / 7 - 1) + 6) := by rw [p128_2, Int.pow_add, Int.mul_comm]; rfl
    have := mono2 (a := n - 1) (b := 7 * ((n + 6) / 7 - 1) + 6) (by omega)
    refine ⟨(Int.le_ediv_iff_mul_le (p128 _)).2 ?_, (Int.ediv_lt_iff_lt_mul (p128 _)).2 ?_⟩
    · rw [Int.neg_mul, e]; omega
    · rw [e]; omega
  have h1' := hn.1
  obtain ⟨p, rfl⟩ : ∃ p, na = p + 1 := ⟨na - 1, by omega⟩
  obtain ⟨f0, f1⟩ : -64 ≤ x / 128 ^ p ∧ x / 128 ^ p < 64 := hn.2.1
  have hs : sg (x / 128 ^ p % 128) = x / 128 ^ p := by unfold sg; split <;> omega
  refine ⟨p, x / 128 ^ p % 128, rfl, by rw [grp_snoc], ?_, by omega, by omega, ?_, by omega⟩
  · rw [hs, p128_2, Int.mul_comm]; exact Int.emod_add_mul_ediv x _
  · rw [hs, p128_2, div_pow, show 7 * p + (n - 7 * p - 1) = n - 1 by omega]
    obtain ⟨b0, b1⟩ := div_bounds (x := x) (a := n - 1) (b := n - 1) (Nat.le_refl _) h0 h1
    simp at b0 b1
    omega

theorem Lies.cell_add {w : World} {B : Nat} {ad : Addr} {vs : List Value} (h : Lies w B (some ad) vs) : ∀ j u, vs[j]? = some u → w.cell? (ad.add j) = some u := fun j u hu => by
  obtain ⟨b, off, e, _, h2⟩ := h j u hu
  injection e with e
  subst e
  rw [Go.WideShapes.add_plain]; exact h2
/-- append of whatever lies somewhere, nil too. -/
theorem wpList_append_lies {P : Program} {w : World} {ops : Array Oper} {rest : List Oper} {o : Oper} {a : Act} {Q : Exit → Act → World → Prop} (hgd : o.guard = none) (s x : Operand) (t : TypeId)
    (ho : o.op = .call { callee := .builtin .append, args := #[s, x], argTypes := #[t, t] })
    (base : Nat) (e : TypeId) (i : TypeInfo) (z : Value) (ht : P.underlying t = some (.slice e)) (hi : P.info? e = some i) (hz : i.zero = some z)
    (hsize : i.size = 1) (hby : i.bytes = 1) (hzs : z.cells.size = 1)
    (v : Value) (n : Nat) (xs : List Value) (hs : a.eval s = v) (hown : w.ownsRow base e 1 v n xs)
    (A : Option Addr) (m c B : Nat) (news : List Value) (hx : a.eval x = .slice A m c) (hl : news.length = m) (hnews : Lies w B A news) (hA : A = none → m = 0 ∧ c = 0) (h1 : ∀ u ∈ news, u.oneCell' = true)
    (h63 : n + m ≤ 1000) (hbase : base ≤ w.heap.size)
    (h : ∀ v' w', w'.ownsRow base e 1 v' (n + m) (xs ++ news) → w.grownBy w' v.ownBlock → wpList P ops Q rest (a.put o.dst v') w') : wpList P ops Q (o :: rest) a w := by
  rcases A with _ | ad
  · obtain ⟨rfl, rfl⟩ := hA rfl
    have hn : news = [] := List.eq_nil_of_length_eq_zero hl
    subst hn
    refine wpList_append_own_none hgd s x t ho base e i 1 ht hi v n xs hs hown hx (h v w (by simpa using hown) (World.grownBy.refl w _))
  · exact wpList_append_own w hgd s x t ho base e i z 1 1 ht hi hz hsize hby hzs (by omega) v n xs hs hown ad m c news hx (by omega) hnews.cell_add h1 (by unfold maxLen; omega) (by omega) hbase (fun v' w' h2 h3 _ => h v' w' h2 h3)
end Go.Proofs.Ytmjcbliobjmmfaa

