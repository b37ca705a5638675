/- creelref02.Read. -/
import Derived.Test.YtohliaellefhaaaDoorQy03
import Derived.Laws.AppendOwnNone
import Derived.Test.YtohliaellefhaaaDoorQy01
import Derived.Lib.AppendZerosOnto
import Derived.Lib.AppendZeros
import Derived.Deep.DeepAppendWide
import Derived.LoopTactic
import Derived.Test.YtohliaellefhaaaDoorQy02
import Derived.Deep.QuietTactic
import Derived.BigQuiet
namespace Go.Proofs.YtohliaellefhaaaDoor
open Go.RowKit
set_option linter.unusedVariables false

end Go.Proofs.YtohliaellefhaaaDoor

/- Both readers, each beside the reference: the same answer. -/
namespace Go.Proofs.YtohliaellefhaaaDoor
open Go.RowKit
set_option linter.unusedVariables false

theorem low_take {q : List Int} {p : Nat} {c : Int} (hpc : q[p]? = some c) (c0 : 0 ≤ c) (c2 : c < 128) : low (q.take (p + 1)) = numU (q.take p) c := by
  have hp := (List.getElem?_eq_some_iff.1 hpc).1
  rw [take_snoc hpc, low_snoc]
  unfold numU
  rw [Int.emod_eq_of_lt c0 c2]
theorem take_len {q : List Int} {p : Nat} {c : Int} (hpc : q[p]? = some c) : (q.take p).length = p := by
  have hp := (List.getElem?_eq_some_iff.1 hpc).1
  rw [List.length_take]; omega
theorem num_bd {q : List Int} {p : Nat} {c : Int} (hpc : q[p]? = some c) (c0 : 0 ≤ c) (c2 : c < 128) : 0 ≤ numU (q.take p) c ∧ numU (q.take p) c < 2 ^ (7 * (p + 1)) := by
  have hp := (List.getElem?_eq_some_iff.1 hpc).1
  have h := low_bd (q.take (p + 1))
  rw [low_take hpc c0 c2, List.length_take, show min (p + 1) q.length = p + 1 by omega] at h
  exact h
theorem ext_signed {q : List Int} {p : Nat} {c : Int} (hpc : q[p]? = some c) (c0 : 0 ≤ c) (c2 : c < 128) : ext true (numU (q.take p) c) (7 * (p + 1)) = numS (q.take p) c := by
  obtain ⟨b0, b1⟩ := num_bd hpc c0 c2
  have hb := bit_top (m := 7 * (p + 1)) (by omega) b0 b1
  obtain ⟨l0, l1⟩ := low_bd (q.take p)
  unfold ext
  unfold numS numU at *
  rw [take_len hpc] at *
  rw [hb]
  have e1 : (2 : Int) ^ (7 * (p + 1) - 1) = 64 * 2 ^ (7 * p) := by rw [show 7 * (p + 1) - 1 = 7 * p + 6 by omega, Int.pow_add, Int.mul_comm]; rfl
  have e2 : (2 : Int) ^ (7 * (p + 1)) = 128 * 2 ^ (7 * p) := by rw [show 7 * (p + 1) = 7 * p + 7 by omega, Int.pow_add, Int.mul_comm]; rfl
  rw [e1, e2]
  unfold sg
  generalize (2 : Int) ^ (7 * p) = t at *
  by_cases h : 64 ≤ c
  · have : 64 * t ≤ low (q.take p) + c * t := by
      have := Int.mul_le_mul_of_nonneg_right h (show 0 ≤ t by omega)
      omega
    simp only [this, decide_true, Bool.and_self, if_true, if_pos h]
    grind
  · have : ¬ 64 * t ≤ low (q.take p) + c * t := by
      have := Int.mul_le_mul_of_nonneg_right (show c ≤ 63 by omega) (show 0 ≤ t by omega)
      omega
    simp only [this, decide_false, Bool.and_false, Bool.false_eq_true, if_false, if_neg h]

/-- What is asked of a slice that comes in: it reads as these bytes. -/
structure Has (w : World) (B : Nat) (A : Option Addr) (cap : Nat) (r : List Int) : Prop where
  lies : Lies w B A (cells r)
  low_ : B ≤ w.heap.size
  room : r.length ≤ cap
  most : cap ≤ maxLen

end Go.Proofs.YtohliaellefhaaaDoor

/- The law LebReads. -/
namespace Go.Proofs.YtohliaellefhaaaDoor
open Go.RowKit
set_option linter.unusedVariables false

theorem Has.below {w w' : World} {B : Nat} {A : Option Addr} {cap : Nat} {r : List Int} (h : Has w B A cap r) (hb : Below w.heap.size w w') : Has w' B A cap r :=
  ⟨h.lies.below hb h.low_, Nat.le_trans h.low_ hb.size, h.room, h.most⟩
theorem back_s {V : Int} (h0 : -9223372036854775808 ≤ V) (h1 : V ≤ 9223372036854775807) : IntKind.i64.wrap (V % 2 ^ 64) = V := by
  have e : (2 : Int) ^ 64 = 18446744073709551616 := rfl
  rw [IntKind.wrap_i64, e]
  omega

end Go.Proofs.YtohliaellefhaaaDoor

/- What is written is read again: behind it, longer by a group, without its last byte. -/
namespace Go.Proofs.YtohliaellefhaaaDoor
open Go.RowKit
set_option linter.unusedVariables false

theorem p128_2 (k : Nat) : (128 : Int) ^ k = 2 ^ (7 * k) := (pow7 k).symm
theorem mod_step (x : Int) (k : Nat) : x % 2 ^ (7 * (k + 1)) = x % 2 ^ (7 * k) + x / 2 ^ (7 * k) % 128 * 2 ^ (7 * k) := by
  have hp := p2 (7 * k)
  have e4 : (2 : Int) ^ (7 * (k + 1)) = 128 * 2 ^ (7 * k) := by rw [show 7 * (k + 1) = 7 * k + 7 by omega, Int.pow_add, Int.mul_comm]; rfl
  have e3 : x / 2 ^ (7 * (k + 1)) = x / 2 ^ (7 * k) / 128 := by rw [show 7 * (k + 1) = 7 * k + 7 by omega, ← div_pow]; rfl
  have e1 := Int.emod_def x (2 ^ (7 * k))
  have e2 := Int.emod_def x (2 ^ (7 * (k + 1)))
  rw [e3, e4] at e2
  rw [e4, e2, e1]
  have h2 : x / 2 ^ (7 * k) = 128 * (x / 2 ^ (7 * k) / 128) + x / 2 ^ (7 * k) % 128 := by omega
  generalize x / 2 ^ (7 * k) / 128 = q at *
  generalize x / 2 ^ (7 * k) % 128 = m at *
  rw [h2]
  grind
theorem low_grps (x : Int) : ∀ k, low (grps x k) = x % 2 ^ (7 * k)
  | 0 => by simp [grps, low]
  | k + 1 => by
    rw [grps_snoc, low_snoc, low_grps x k, grps_length, mod_step, p128_2]
    congr 2
    omega
theorem grps_wf (x : Int) (k : Nat) : ∀ c ∈ grps x k, 0 ≤ c ∧ c ≤ 255 := by
  intro c hc
  obtain ⟨i, _, rfl⟩ := List.mem_map.1 hc
  omega
theorem grps_on (x : Int) (k : Nat) : ∀ c ∈ grps x k, 128 ≤ c := by
  intro c hc
  obtain ⟨i, _, rfl⟩ := List.mem_map.1 hc
  omega
theorem grps_at (x : Int) (p : Nat) (c : Int) (l : List Int) : (grps x p ++ c :: l)[p]? = some c := by
  have h : (grps x p).length = p := grps_length x p
  rw [List.getElem?_append_right (by omega), h]; simp
theorem grps_take (x : Int) (p : Nat) (c : Int) (l : List Int) : (grps x p ++ c :: l).take p = grps x p := by
  have h : (grps x p).length = p := grps_length x p
  rw [List.take_append_of_le_length (by omega), List.take_of_length_le (by omega)]
theorem grps_stop (x : Int) (p M : Nat) (c : Int) (l : List Int) (hc : c < 128) (hM : p ≤ M) : Stop M (grps x p ++ c :: l) p := by
  have h : (grps x p).length = p := grps_length x p
  refine ⟨hM, by simp; omega, fun i d hi hd => ?_, fun d _ hd => ?_⟩
  · rw [List.getElem?_append_left (by omega)] at hd
    exact grps_on x p d (List.mem_of_getElem? hd)
  · rw [grps_at] at hd; injection hd with hd; omega
theorem grps_short (x : Int) (p M : Nat) (hM : p ≤ M) : Stop M (grps x p) p := by
  have h : (grps x p).length = p := grps_length x p
  refine ⟨hM, by omega, fun i d hi hd => grps_on x p d (List.mem_of_getElem? hd), fun d _ hd => ?_⟩
  rw [List.getElem?_eq_none (by omega)] at hd; cases hd

theorem rdU (x c : Int) (p n : Nat) (l : List Int) (A : Option Addr) (cap B len : Nat) (w : World) (hlen : (grps x p ++ c :: l).length = len) (hh : Has w B A cap (grps x p ++ c :: l)) (hwf : ∀ d ∈ l, 0 ≤ d ∧ d ≤ 255)
    (hx : x % 2 ^ (7 * p) + c * 2 ^ (7 * p) = x) (c0 : 0 ≤ c) (c1 : c < 128) (hf : c / 2 ^ (n - 7 * p) = 0) (n1 : 1 ≤ n) (n2 : n ≤ 64) (hp : p < (n + 6) / 7) :
    Calls Tryd.prog 96 #[.slice A len cap, .int .i64 0, .int .i64 n] w fun e w' => e = .returned (.tuple #[.int .u64 x, .int .i64 ((p : Int) + 1), .int .i64 0]) ∧ w = w' := by
  subst hlen
  have hb : ∀ d ∈ grps x p ++ c :: l, 0 ≤ d ∧ d ≤ 255 := fun d hd => by
    rcases List.mem_append.1 hd with h | h
    · exact grps_wf x p d h
    · rcases List.mem_cons.1 h with rfl | h
      · omega
      · exact hwf d h
  have h := ru_ok (grps x p ++ c :: l) A cap B 0 n p c w hh.lies hb hh.room hh.most (Nat.zero_le _) n1 n2 (by rw [List.drop_zero]; exact grps_stop x p _ c l c1 (by omega)) hp (by rw [List.drop_zero]; exact grps_at x p c l) hf
  rw [List.drop_zero, grps_take] at h
  have e : numU (grps x p) c = x := by unfold numU; rw [low_grps, grps_length]; exact hx
  rw [e] at h
  refine h.mono fun e' w' he => ⟨?_, he.2⟩
  rw [he.1]; simp
theorem rdShort (x : Int) (p n : Nat) (A : Option Addr) (cap B : Nat) (w : World) (hh : Has w B A cap (grps x p)) (n1 : 1 ≤ n) (n2 : n ≤ 64) (hp : p < (n + 6) / 7) :
    Calls Tryd.prog 96 #[.slice A p cap, .int .i64 0, .int .i64 n] w fun e w' => e = .returned (.tuple #[.int .u64 0, .int .i64 0, .int .i64 2]) ∧ w = w' := by
  have hl := grps_length x p
  have h := length_right (grps x p) A cap B 0 n p w hh.lies (grps_wf x p) hh.room hh.most (Nat.zero_le _) n1 n2 (by rw [List.drop_zero]; exact grps_short x p _ (by omega))
  unfold lenN lenE at h
  have hne : ¬ p = (n + 6) / 7 := by omega
  rw [hl] at h
  simp [hne] at h
  exact ru_fail _ _ _ 2 w (.inr (.inl rfl)) h

/-- A number below 2^n and its least groups. -/
theorem least_u {x : Int} {n na : Nat} (h0 : 0 ≤ x) (h1 : x < 2 ^ n) (n1 : 1 ≤ n) (n2 : n ≤ 64) (hn : Least (fitU x) na) :
    ∃ p c, na = p + 1 ∧ grp x na = grps x p ++ [c] ∧ x % 2 ^ (7 * p) + c * 2 ^ (7 * p) = x ∧ 0 ≤ c ∧ c < 128 ∧ c / 2 ^ (n - 7 * p) = 0 ∧ p < (n + 6) / 7 := by
  have hle : na ≤ (n + 6) / 7 := by
    refine hn.le (by omega) ?_
    show x / 128 ^ ((n + 6) / 7 - 1) < 128
    have hM : 1 ≤ (n + 6) / 7 := by omega
    have hM2 : n ≤ 7 * ((n + 6) / 7) := by omega
    generalize (n + 6) / 7 = M at *
    have e : (128 : Int) * 128 ^ (M - 1) = 2 ^ (7 * M) := by rw [p128_2, show 7 * M = 7 * (M - 1) + 7 by omega, Int.pow_add, Int.mul_comm]; rfl
    rw [Int.ediv_lt_iff_lt_mul (p128 _), e]
    have := mono2 hM2
    omega
  have h1' := hn.1
  obtain ⟨p, rfl⟩ : ∃ p, na = p + 1 := ⟨na - 1, by omega⟩
  have hf : x / 128 ^ p < 128 := hn.2.1
  have hq : 0 ≤ x / 128 ^ p := Int.ediv_nonneg h0 (Int.le_of_lt (p128 _))
  have hc : x / 128 ^ p % 128 = x / 128 ^ p := Int.emod_eq_of_lt hq hf
  refine ⟨p, x / 128 ^ p, rfl, by rw [grp_snoc, hc], ?_, hq, hf, ?_, by omega⟩
  · rw [p128_2, Int.mul_comm]; exact Int.emod_add_mul_ediv x _
  · rw [p128_2, div_pow, show 7 * p + (n - 7 * p) = n by omega]; exact Int.ediv_eq_zero_of_lt h0 h1
theorem least_s {x : Int} {n na : Nat} (h0 : -2 ^ (n - 1) ≤ x) (h1 : x < 2 ^ (n - 1)) (n1 : 1 ≤ n) (n2 : n ≤ 64) (hn : Least (fitS x) na) :
    ∃ p c, na = p + 1 ∧ grp x na = grps x p ++ [c] ∧ x % 2 ^ (7 * p) + sg c * 2 ^ (7 * p) = x ∧ 0 ≤ c ∧ c < 128 ∧ (sg c / 2 ^ (n - 7 * p - 1) = 0 ∨ sg c / 2 ^ (n - 7 * p - 1) = -1) ∧ p < (n + 6) / 7 := by
  have hle : na ≤ (n + 6) / 7 := by
    refine hn.le (by omega) ?_
    have e : (64 : Int) * 128 ^ ((n + 6) / 7 - 1) = 2 ^ (7 * ((n + 6) / 7 - 1) + 6) := by rw [p128_2, Int.pow_add, Int.mul_comm]; rfl
    have := mono2 (a := n - 1) (b := 7 * ((n + 6) / 7 - 1) + 6) (by omega)
    refine ⟨(Int.le_ediv_iff_mul_le (p128 _)).2 ?_, (Int.ediv_lt_iff_lt_mul (p128 _)).2 ?_⟩
    · rw [Int.neg_mul, e]; omega
    · rw [e]; omega
  have h1' := hn.1
  obtain ⟨p, rfl⟩ : ∃ p, na = p + 1 := ⟨na - 1, by omega⟩
  obtain ⟨f0, f1⟩ : -64 ≤ x / 128 ^ p ∧ x / 128 ^ p < 64 := hn.2.1
  have hs : sg (x / 128 ^ p % 128) = x / 128 ^ p := by unfold sg; split <;> omega
  refine ⟨p, x / 128 ^ p % 128, rfl, by rw [grp_snoc], ?_, by omega, by omega, ?_, by omega⟩
  · rw [hs, p128_2, Int.mul_comm]; exact Int.emod_add_mul_ediv x _
  · rw [hs, p128_2, div_pow, show 7 * p + (n - 7 * p - 1) = n - 1 by omega]
    obtain ⟨b0, b1⟩ := div_bounds (x := x) (a := n - 1) (b := n - 1) (Nat.le_refl _) h0 h1
    simp at b0 b1
    omega

theorem Lies.cell_add {w : World} {B : Nat} {ad : Addr} {vs : List Value} (h : Lies w B (some ad) vs) : ∀ j u, vs[j]? = some u → w.cell? (ad.add j) = some u := fun j u hu => by
  obtain ⟨b, off, e, _, h2⟩ := h j u hu
  injection e with e
  subst e
  rw [Go.WideShapes.add_plain]; exact h2
/-- append of whatever lies somewhere, nil too. -/
theorem wpList_append_lies {P : Program} {w : World} {ops : Array Oper} {rest : List Oper} {o : Oper} {a : Act} {Q : Exit → Act → World → Prop} (hgd : o.guard = none) (s x : Operand) (t : TypeId)
    (ho : o.op = .call { callee := .builtin .append, args := #[s, x], argTypes := #[t, t] })
    (base : Nat) (e : TypeId) (i : TypeInfo) (z : Value) (ht : P.underlying t = some (.slice e)) (hi : P.info? e = some i) (hz : i.zero = some z)
    (hsize : i.size = 1) (hby : i.bytes = 1) (hzs : z.cells.size = 1)
    (v : Value) (n : Nat) (xs : List Value) (hs : a.eval s = v) (hown : w.ownsRow base e 1 v n xs)
    (A : Option Addr) (m c B : Nat) (news : List Value) (hx : a.eval x = .slice A m c) (hl : news.length = m) (hnews : Lies w B A news) (hA : A = none → m = 0 ∧ c = 0) (h1 : ∀ u ∈ news, u.oneCell' = true)
    (h63 : n + m ≤ 1000) (hbase : base ≤ w.heap.size)
    (h : ∀ v' w', w'.ownsRow base e 1 v' (n + m) (xs ++ news) → w.grownBy w' v.ownBlock → wpList P ops Q rest (a.put o.dst v') w') : wpList P ops Q (o :: rest) a w := by
  rcases A with _ | ad
  · obtain ⟨rfl, rfl⟩ := hA rfl
    have hn : news = [] := List.eq_nil_of_length_eq_zero hl
    subst hn
    refine wpList_append_own_none hgd s x t ho base e i 1 ht hi v n xs hs hown hx (h v w (by simpa using hown) (World.grownBy.refl w _))
  · exact wpList_append_own w hgd s x t ho base e i z 1 1 ht hi hz hsize hby hzs (by omega) v n xs hs hown ad m c news hx (by omega) hnews.cell_add h1 (by unfold maxLen; omega) (by omega) hbase (fun v' w' h2 h3 _ => h v' w' h2 h3)
end Go.Proofs.YtohliaellefhaaaDoor

/- slices.Grow, slices.Concat of bytes; append of whatever lies. -/
namespace Go.Proofs.YtohliaellefhaaaDoor
open Go.RowKit
set_option linter.unusedVariables false
set_option maxRecDepth 100000

/-- append of whatever lies somewhere, nothing at all too. -/
theorem row_any {w : World} {ops : Array Oper} {rest : List Oper} {o : Oper} {a : Act} {Q : Exit → Act → World → Prop} (hgd : o.guard = none) (s x : Operand)
    (ho : o.op = .call { callee := .builtin .append, args := #[s, x], argTypes := #[36, 36] })
    (B : Nat) (v : Value) (xs : List UInt8) (hs : a.eval s = v) (hr : Row w B v xs)
    (A : Option Addr) (m c B' : Nat) (news : List UInt8) (hx : a.eval x = .slice A m c) (hl : news.length = m) (hn : Lies w B' A (cells (nums news))) (hA : A = none → c = 0)
    (hb : xs.length + news.length ≤ 1000000) (hB : B ≤ w.heap.size)
    (h : ∀ v' w', Row w' B v' (xs ++ news) → Below B w w' → wpList Tryd.prog ops Q rest (a.put o.dst v') w') : wpList Tryd.prog ops Q (o :: rest) a w := by
  by_cases hm : 0 < m
  · exact row_lies hgd s x ho B v xs hs hr A m c B' news hx hl hn hm hb hB h
  · obtain rfl : m = 0 := by omega
    have he : news = [] := List.eq_nil_of_length_eq_zero hl
    subst he
    obtain ⟨i0, hi0, hz0, hz1, hz2⟩ := info_parts infoB
    rcases A with _ | ad
    · obtain rfl := hA rfl
      refine wpList_append_own_none hgd s x 36 ho B 5 i0 1 Tryd.underlying36 hi0 v xs.length (cells (nums xs)) hs hr hx (h v w (by simpa using hr) (Below.refl _ _))
    · refine wpList_append_own w hgd s x 36 ho B 5 i0 _ 1 1 Tryd.underlying36 hi0 hz0 hz1 hz2 rfl (by omega) v xs.length (cells (nums xs)) hs hr ad 0 c [] hx rfl (by intro j u hu; cases hu) (by intro u hu; cases hu) (by unfold maxLen; omega) (by omega) hB (fun v' w' h2 h3 _ => h v' w' ?_ (Row.below hr hB h3))
      show w'.ownsRow B 5 1 v' (xs ++ []).length (cells (nums (xs ++ [])))
      rw [List.append_nil]
      simpa using h2

/-- Grow of nil: room for n bytes, none of them read. -/
def Room (w : World) (e : Ending) (w' : World) : Prop := ∃ v, e = .returned v ∧ Row w' w.heap.size v [] ∧ Below w.heap.size w w'
theorem grow_any (n : Nat) (w : World) (h0 : 0 < n) (hn : n ≤ 1000000) : Calls Tryd.prog 39 #[.slice none 0 0, .int .i64 n] w (Room w) := by
  obtain ⟨i0, hi0, hz0, hz1, hz2⟩ := info_parts infoB
  have hrz : ∀ ty, (Builtin.append_ #[36, 3] ty #[.slice none 0 0, .int .i64 n]).run Tryd.prog w = _ := fun ty =>
    Lib.run_append_grow_zeros w 36 3 ty 5 i0 _ .i64 .i64 Tryd.underlying36 Tryd.underlying3 hi0 hz0 none 0 0 [] (run_firstCells_none w.drew i0.size 0 0 0) n h0 (by omega) (by omega) (by omega) (by rw [hz2]; omega) (growslice_fits_wide (by omega) (by rw [hz2]; omega))
  simp only [Nat.zero_add] at hrz
  have hGn : n ≤ grownCap w n 0 5 := grownCap_ge w _ _ _
  have hG63 : grownCap w n 0 5 ≤ maxLen := grownCap_le_maxLen w n 0 5 (by unfold maxLen; omega)
  obtain ⟨G, hG⟩ : ∃ G, G = grownCap w n 0 5 := ⟨_, rfl⟩
  rw [← hG] at hrz hGn hG63
  clear hG
  have hend : ∀ cs : Array Value, cs.size = G → Row (w.alloc (.cells cs 5)).drew w.heap.size (.slice (some ⟨w.heap.size, 0, none⟩) 0 G) [] := fun cs hc =>
    ⟨rfl, .inr ⟨w.heap.size, G, cs, rfl, Nat.le_refl _, heap_alloc_new w _, by simp, hG63, by simp [hc], by simp [cells, nums]⟩⟩
  have hcs : (Builtin.zeroCells #[Value.int .u8 0] n ++ Builtin.zeroCells #[Value.int .u8 0] (G - n)).size = G := by
    simp only [Array.size_append, size_zeroCells]
    simp
    omega
  have HEND := Lib.hid (hend _ hcs)
  have hG2 : (G : Int) ≤ 9223372036854775807 := by unfold maxLen at hG63; omega
  have n1 : ¬ ((n : Int) < 0) := by omega
  have n2 : (n : Int) > 0 := by omega
  clear hend hcs hG63
  go_enter Tryd.func39, Tryd.ntmps39
  go_wp2_with (at_builtin; refine Lib.wpList_append_run _ rfl _ _ _ _ rfl _ _ rfl rfl _ _ (hrz _) ?_)
  go_ret
  exact ⟨_, rfl, HEND.out, ((Below.refl _ _).alloc (Nat.le_refl _) _).drew⟩

/-- Bytes that lie somewhere lie at a block. -/
theorem no_block {w : World} {B : Nat} {A : Option Addr} {l : List UInt8} (h : Lies w B A (cells (nums l))) (hA : A = none) : ¬ 0 < l.length := fun hl => by
  obtain ⟨b, off, e, _⟩ := h.at_ (i := 0) (by rw [cells_length, nums_length]; exact hl)
  rw [hA] at e
  cases e
set_option maxHeartbeats 800000 in
/-- Concat of two pieces, the first one not empty. -/
theorem concat_any {w : World} {g : Nat} {A1 A2 : Option Addr} {c1 c2 : Nat} {l1 l2 : List UInt8} (hg : Whole w g 36 #[.slice A1 l1.length c1, .slice A2 l2.length c2])
    (h1 : Lies w w.heap.size A1 (cells (nums l1))) (h2 : Lies w w.heap.size A2 (cells (nums l2))) (hA : A2 = none → c2 = 0) (n1 : 0 < l1.length) (n2 : l1.length + l2.length ≤ 1000000) :
    Calls Tryd.prog 21 #[.slice (some ⟨g, 0, none⟩) 2 2] w (BytesL (l1 ++ l2) w) := by
  have g0 : w.cell? ⟨g, 0, none⟩ = some (.slice A1 l1.length c1) := hg.cell 0
  have g1 : w.cell? ⟨g, 1, none⟩ = some (.slice A2 l2.length c2) := hg.cell 1
  obtain ⟨m1, hm1⟩ : ∃ m, m = l1.length := ⟨_, rfl⟩
  obtain ⟨m2, hm2⟩ : ∃ m, m = l2.length := ⟨_, rfl⟩
  rw [← hm1] at g0 n1 n2
  rw [← hm2] at g1 n2
  have HG := Lib.hid hg
  have H1 := Lib.hid h1
  have H2 := Lib.hid h2
  have HA := Lib.hid hA
  have HM1 := Lib.hid hm1
  have HM2 := Lib.hid hm2
  clear hg h1 h2 hA hm1 hm2
  have HGr := Lib.hid (grow_any (m1 + m2) w (by omega) n2)
  go_enter Tryd.func21, Tryd.ntmps21
  go_wp2
  go_loop [3, 11] (fun s i => (s = .int .i64 0 ∧ i = .int .i64 0) ∨ (s = .int .i64 m1 ∧ i = .int .i64 1) ∨ (s = .int .i64 ((m1 + m2 : Nat) : Int) ∧ i = .int .i64 2)) (fun _ i => 2 - (intOf i).toNat)
  case atStart => exact .inl ⟨rfl, rfl⟩
  case round =>
    rcases hrel with ⟨rfl, rfl⟩ | ⟨rfl, rfl⟩ | ⟨rfl, rfl⟩
    · go_wp2
      go_round
      case rel => exact .inr (.inl ⟨by go_num, rfl⟩)
      case measure => simp [intOf]
    · go_wp2
      go_round
      case rel => exact .inr (.inr ⟨by go_num, rfl⟩)
      case measure => simp [intOf]
    · go_wp2_with (go_at_call 39; go_must (refine HGr.out.mono ?_; intro e w1 h; obtain ⟨v1, rfl, hr1, hb1⟩ := h; have HR1 := Lib.hid hr1; have HB1 := Lib.hid hb1; clear hr1 hb1))
      go_loopw [6, 27] (fun v i wr => Below w.heap.size w wr ∧ ((Row wr w.heap.size v [] ∧ i = .int .i64 0) ∨ (Row wr w.heap.size v l1 ∧ i = .int .i64 1) ∨ (Row wr w.heap.size v (l1 ++ l2) ∧ i = .int .i64 2))) (fun _ i _ => 2 - (intOf i).toNat)
      case atStart => exact ⟨HB1.out, .inl ⟨HR1.out, rfl⟩⟩
      case round =>
        obtain ⟨hb, ⟨hr, rfl⟩ | ⟨hr, rfl⟩ | ⟨hr, rfl⟩⟩ := hrel
        · have c0 : wr.cell? ⟨g, 0, none⟩ = some (.slice A1 m1 c1) := by have := (HG.out.below hb).cell 0; rw [HM1.out]; exact this
          have HR := Lib.hid hr
          have HB := Lib.hid hb
          have hz := hb.size
          clear hr hb
          go_wp2_with (at_builtin; (refine row_any rfl _ _ rfl w.heap.size _ [] rfl HR.out A1 m1 c1 w.heap.size l1 rfl HM1.out.symm (H1.out.below HB.out (Nat.le_refl _)) (fun h => absurd n1 (by have := H1.out; cases HM1.out; exact no_block this h)) (by have := HM1.out; simp; omega) hz ?_; intro v2 w2 hr2 hb2; have HR2 := Lib.hid hr2; have HB2 := Lib.hid hb2; clear hr2 hb2))
          go_roundw
          case rel => exact ⟨HB.out.trans HB2.out, .inr (.inl ⟨by simpa using HR2.out, rfl⟩)⟩
          case measure => simp [intOf]
        · have c0 : wr.cell? ⟨g, 1, none⟩ = some (.slice A2 m2 c2) := by have := (HG.out.below hb).cell 1; rw [HM2.out]; exact this
          have HR := Lib.hid hr
          have HB := Lib.hid hb
          have hz := hb.size
          clear hr hb
          go_wp2_with (at_builtin; (refine row_any rfl _ _ rfl w.heap.size _ l1 rfl HR.out A2 m2 c2 w.heap.size l2 rfl HM2.out.symm (H2.out.below HB.out (Nat.le_refl _)) HA.out (by have := HM1.out; have := HM2.out; omega) hz ?_; intro v2 w2 hr2 hb2; have HR2 := Lib.hid hr2; have HB2 := Lib.hid hb2; clear hr2 hb2))
          go_roundw
          case rel => exact ⟨HB.out.trans HB2.out, .inr (.inr ⟨HR2.out, rfl⟩)⟩
          case measure => simp [intOf]
        · have HR := Lib.hid hr
          have HB := Lib.hid hb
          clear hr hb
          go_wp2
          go_ret
          exact ⟨_, rfl, HR.out, HB.out⟩
end Go.Proofs.YtohliaellefhaaaDoor

/- creelref02.Group: the groups of seven bits, off a list of 64 bits. -/
namespace Go.Proofs.YtohliaellefhaaaDoor
set_option linter.unusedVariables false
open Go.RowKit

theorem grp_get (x : Int) {n k : Nat} (h : k < n) : (grp x n)[k]? = some (x / 128 ^ k % 128 + if k + 1 < n then 128 else 0) := by simp [grp, h]
theorem grp_take (x : Int) {n k : Nat} (h : k < n) : (grp x n).take (k + 1) = (grp x n).take k ++ [x / 128 ^ k % 128 + if k + 1 < n then 128 else 0] := by
  have hk : k < (grp x n).length := by rw [grp_length]; exact h
  rw [List.take_succ_eq_append_getElem hk]
  congr 2
  have := grp_get x h
  rw [List.getElem?_eq_getElem hk] at this
  injection this

theorem group_next {x e : Int} {k m : Nat} (hm : m < 7) (he : x / 2 ^ (7 * k + m) % 2 ^ (7 - m) = e) :
    (∃ m' : Nat, m' < 7 ∧ Value.int .i64 ((m : Int) - 1) = .int .i64 m' ∧ Value.int .i64 e = .int .i64 (x / 2 ^ (7 * k + (m' + 1)) % 2 ^ (7 - (m' + 1)))) ∨
      (Value.int .i64 ((m : Int) - 1) = .int .i64 (-1) ∧ Value.int .i64 e = .int .i64 (x / 2 ^ (7 * k + 0) % 2 ^ (7 - 0))) := by
  rcases m with _ | m
  · exact .inr ⟨by simp, by rw [he]⟩
  · exact .inl ⟨m, by omega, by go_num, by rw [he]⟩

set_option maxHeartbeats 800000 in
theorem group_any (x : Int) (n : Nat) (t : Bool) (A : Option Addr) (cap B : Nat) (w : World) (hl : Lies w B A (bools x 64)) (hB : B ≤ w.heap.size) (h64 : ∀ j, 64 ≤ j → bit x j = t) (hn : n ≤ 10) :
    Calls Tryd.prog 56 #[.slice A 64 cap, .int .i64 n, .bool t] w (Bytes (grp x n) w) := by
  obtain ⟨i0, hi0, hz0, hz1, hz2⟩ := info_parts infoB
  have HL := Lib.hid hl
  have H64 := Lib.hid h64
  clear hl h64
  go_enter Tryd.func56, Tryd.ntmps56
  go_wp2
  go_loopw [7, 8] (fun b i wr => ∃ k : Nat, k ≤ n ∧ i = .int .i64 k ∧ wr.ownsRow w.heap.size 5 1 b k (cells ((grp x n).take k)) ∧ Below w.heap.size w wr) (fun _ i _ => n - (intOf i).toNat)
  case atStart => exact ⟨0, by omega, rfl, World.ownsRow_nil _ _ _ _, Below.refl _ _⟩
  case round =>
    obtain ⟨k, hk, rfl, hown, hbe⟩ := hrel
    have hsz := hbe.size
    obtain ⟨wo, rfl⟩ : ∃ wo : World, wo = wr := ⟨_, rfl⟩
    have HL2 := Lib.hid (HL.out.below hbe hB)
    have HO := Lib.hid hown
    have HBE := Lib.hid hbe
    clear hown hbe
    by_cases hlt : k < n
    · go_wp2
      go_loop [9, 10] (fun c d => (∃ m : Nat, m < 7 ∧ d = .int .i64 m ∧ c = .int .i64 (x / 2 ^ (7 * k + (m + 1)) % 2 ^ (7 - (m + 1)))) ∨ (d = .int .i64 (-1) ∧ c = .int .i64 (x / 2 ^ (7 * k + 0) % 2 ^ (7 - 0)))) (fun _ d => (intOf d + 1).toNat)
      case atStart => exact .inl ⟨6, by omega, rfl, by simp⟩
      case round =>
        rcases hrel with ⟨m, hm, rfl, rfl⟩ | ⟨rfl, rfl⟩
        · have hst := group_step x (7 * k) m hm
          have hbd := group_bd x (7 * k) (m + 1) (by omega)
          generalize x / 2 ^ (7 * k + (m + 1)) % 2 ^ (7 - (m + 1)) = c at *
          obtain ⟨c0, c1⟩ := hbd
          have HST := Lib.hid hst
          clear hst
          have htn : (7 * (k : Int) + (m : Int)).toNat = 7 * k + m := by omega
          by_cases hj : 7 * k + m < 64
          · obtain ⟨b, off, rfl, hb, hc⟩ := HL2.out _ _ (bools_get x hj)
            have hj' : 7 * (k : Int) + m < 64 := by omega
            generalize hbt : bit x (7 * k + m) = bt at *
            have HBT := Lib.hid hbt
            clear hbt
            cases bt
            all_goals go_wp2
            all_goals
              go_round
              case rel => exact group_next hm (by rw [HST.out]; simp)
              case measure => simp [intOf]
          · have hj' : ¬ 7 * (k : Int) + m < 64 := by omega
            have HBT := Lib.hid (H64.out (7 * k + m) (by omega))
            cases t
            all_goals go_wp2
            all_goals
              go_round
              case rel => exact group_next hm (by rw [HST.out, HBT.out]; simp)
              case measure => simp [intOf]
        · have e7 : x / 2 ^ (7 * k + 0) % 2 ^ (7 - 0) = x / 128 ^ k % 128 := by rw [Nat.add_zero, pow7]; rfl
          rw [e7]
          have hbd : 0 ≤ x / 128 ^ k % 128 ∧ x / 128 ^ k % 128 ≤ 127 := by omega
          have htk := grp_take x hlt
          clear e7
          generalize x / 128 ^ k % 128 = c at *
          obtain ⟨c0, c1⟩ := hbd
          have HT := Lib.hid htk
          clear htk
          by_cases hla : k + 1 < n
          · have hla' : (k : Int) < n - 1 := by omega
            go_wp2_with (at_builtin; refine wpList_append_own _ rfl _ _ _ rfl w.heap.size 5 i0 _ 1 1 Tryd.underlying36 hi0 hz0 hz1 hz2 rfl (by omega) _ _ _ rfl (HO.out.alloc _) ⟨wo.heap.size, 0, none⟩ 1 1 [.int .u8 (c + 128)] rfl rfl (World.news_of_block (cs := #[.int .u8 (c + 128)]) (t := 5) (fr := (0, 0)) (heap_alloc_new wo _)) (by simp [Value.oneCell']) (by unfold maxLen; omega) (by omega) (by simp; omega) ?_; intro v' w2 hown2 hgrow2 _; have HO2 := Lib.hid hown2; have HG2 := Lib.hid hgrow2; clear hown2 hgrow2)
            go_roundw
            case rel => exact ⟨k + 1, by omega, by go_num, by have h := HT.out; rw [if_pos hla] at h; rw [h, cells_snoc]; exact HO2.out, below_append HBE.out HO.out HG2.out⟩
            case measure => simp [intOf]; omega
          · have hla' : ¬ (k : Int) < n - 1 := by omega
            go_wp2_with (at_builtin; refine wpList_append_own _ rfl _ _ _ rfl w.heap.size 5 i0 _ 1 1 Tryd.underlying36 hi0 hz0 hz1 hz2 rfl (by omega) _ _ _ rfl (HO.out.alloc _) ⟨wo.heap.size, 0, none⟩ 1 1 [.int .u8 (c)] rfl rfl (World.news_of_block (cs := #[.int .u8 (c)]) (t := 5) (fr := (0, 0)) (heap_alloc_new wo _)) (by simp [Value.oneCell']) (by unfold maxLen; omega) (by omega) (by simp; omega) ?_; intro v' w2 hown2 hgrow2 _; have HO2 := Lib.hid hown2; have HG2 := Lib.hid hgrow2; clear hown2 hgrow2)
            go_roundw
            case rel => exact ⟨k + 1, by omega, by go_num, by have h := HT.out; rw [if_neg hla, Int.add_zero] at h; rw [h, cells_snoc]; exact HO2.out, below_append HBE.out HO.out HG2.out⟩
            case measure => simp [intOf]; omega
    · obtain rfl : k = n := by omega
      have hfull := HO.out
      rw [List.take_of_length_le (by rw [grp_length]; omega)] at hfull
      have HF := Lib.hid (bytes_own hfull (grp_length _ _) HBE.out)
      clear hfull
      go_wp2
      go_ret
      exact HF.out
end Go.Proofs.YtohliaellefhaaaDoor

/- creelref02.Uint; the least number of groups. -/
namespace Go.Proofs.YtohliaellefhaaaDoor
set_option linter.unusedVariables false
open Go.RowKit

theorem below_drewN {B : Nat} {w w1 : World} (h : Below B w w1) (d : Nat) : Below B w (w1.drewN d) := ⟨h.os, h.tape, h.output, h.size, h.block⟩

/-- Is a bit from a up to j other than t? -/
def anyB (x : Int) (t : Bool) (a : Nat) : Nat → Bool
  | 0 => false
  | j + 1 => anyB x t a j || (decide (a ≤ j) && (bit x j != t))
theorem any_start (x : Int) (t : Bool) (a : Nat) : ∀ j, j ≤ a → anyB x t a j = false
  | 0, _ => rfl
  | j + 1, h => by
    show (anyB x t a j || (decide (a ≤ j) && (bit x j != t))) = false
    rw [any_start x t a j (by omega)]
    simp; omega
theorem any_snoc (x : Int) (t : Bool) {a j : Nat} (h : a ≤ j) : anyB x t a (j + 1) = (anyB x t a j || (bit x j != t)) := by
  show (anyB x t a j || (decide (a ≤ j) && (bit x j != t))) = _
  simp [h]
theorem any_none (x : Int) (t : Bool) (a : Nat) : ∀ j, anyB x t a j = false ↔ ∀ i, a ≤ i → i < j → bit x i = t
  | 0 => by simp [anyB]
  | j + 1 => by
    show (anyB x t a j || (decide (a ≤ j) && (bit x j != t))) = false ↔ _
    rw [Bool.or_eq_false_iff, any_none x t a j]
    constructor
    · rintro ⟨h1, h2⟩ i hi hij
      rcases Nat.lt_or_ge i j with g | g
      · exact h1 i hi g
      · obtain rfl : i = j := by omega
        simpa [hi] using h2
    · intro h
      refine ⟨fun i hi hij => h i hi (by omega), ?_⟩
      by_cases g : a ≤ j
      · simp [g, h j g (by omega)]
      · simp [g]

theorem bytes_made {l : List Int} {w w1 w' : World} {e : Ending} (h : Bytes l w1 e w') (hb : Below w.heap.size w w1) : Bytes l w e w' := by
  obtain ⟨A, c, h1, h2, h3, h4, h5, h6⟩ := h
  have := hb.size
  exact ⟨A, c, h1, h2, h3, h4, fun a e => ⟨by have := (h5 a e).1; omega, (h5 a e).2⟩, hb.trans (h6.mono this)⟩

set_option maxHeartbeats 1000000 in
theorem refUint_any (x : Int) (w : World) (h0 : 0 ≤ x) (h1 : x ≤ 18446744073709551615) {n : Nat} (hn : Least (fitU x) n) :
    Calls Tryd.prog 40 #[.int .u64 x] w (Bytes (grp x n) w) := by
  have h10 : n ≤ 10 := hn.le (by omega) (fitU_ten x (by omega))
  have hn1 := hn.1
  have hall : ∀ k, 1 ≤ k → k ≤ 9 → (fitU x k ↔ anyB x false (7 * k) 64 = false) := fun k a b => by
    rw [any_none]; exact fitU_bits h0 (by show x < 18446744073709551616; omega) a b
  have h64 : ∀ j, 64 ≤ j → bit x j = false := fun j hj => bit_high h0 (b := 64) (by show x < 18446744073709551616; omega) j hj
  have HA := Lib.hid hall
  have HN := Lib.hid hn
  have H64 := Lib.hid h64
  clear hall hn h64
  go_enter Tryd.func40, Tryd.ntmps40
  go_wp2_with (go_at_call 55; go_must (refine (bits_any _ _ h0 h1).mono ?_; rintro e w1 ⟨A, c, rfl, hc1, hc2, hl, hlo, hbe⟩; rw [bools_length] at hc1; simp only [bools_length]; have HL := Lib.hid hl; have HBE := Lib.hid hbe; clear hl hlo hbe))
  go_loop [4] (fun i => ∃ k : Nat, 1 ≤ k ∧ k ≤ n ∧ i = .int .i64 k) (fun i => 10 - (intOf i).toNat)
  case atStart => exact ⟨1, by omega, by omega, rfl⟩
  case round =>
    obtain ⟨k, hk1, hkn, rfl⟩ := hrel
    by_cases hk9 : k < 10
    · have hk9' : (k : Int) < 10 := by omega
      go_wp2
      go_loop [5, 6] (fun m i => ∃ j : Nat, 7 * k ≤ j ∧ j ≤ 64 ∧ i = .int .i64 j ∧ m = .bool (anyB x false (7 * k) j)) (fun _ i => 64 - (intOf i).toNat)
      case atStart => exact ⟨7 * k, by omega, by omega, by go_num, by rw [any_start _ _ _ _ (by omega)]⟩
      case round =>
        obtain ⟨j, hj1, hj2, rfl, rfl⟩ := hrel
        by_cases hj : j < 64
        · obtain ⟨b, off, rfl, hb, hc⟩ := HL.out _ _ (bools_get x hj)
          have hs := any_snoc x false hj1
          generalize anyB x false (7 * k) j = s at *
          generalize bit x j = bt at *
          have HS := Lib.hid hs
          clear hs
          cases s
          all_goals go_wp2
          all_goals
            go_round
            case rel => exact ⟨j + 1, by omega, by omega, by go_num, by rw [HS.out]; simp⟩
            case measure => simp [intOf]; omega
        · obtain rfl : j = 64 := by omega
          by_cases hkn2 : k = n
          · subst hkn2
            have hf : anyB x false (7 * k) 64 = false := (HA.out k hk1 (by omega)).1 HN.out.2.1
            rw [hf]
            clear hf
            go_wp2_with (go_at_call 56; go_must (refine (group_any x k false A c _ _ HL.out (Nat.le_refl _) H64.out h10).mono ?_; intro e w2 hb2; have HB2 := Lib.hid (bytes_made hb2 HBE.out); obtain ⟨A2, c2, rfl, -⟩ := hb2))
            go_ret
            exact HB2.out
          · have hf : anyB x false (7 * k) 64 = true := by
              have := mt (HA.out k hk1 (by omega)).2 (HN.out.2.2 k hk1 (by omega))
              simpa using this
            rw [hf]
            clear hf
            go_wp2
            go_round
            case rel => exact ⟨k + 1, by omega, by omega, by go_num⟩
            case measure => simp [intOf]; omega
    · obtain rfl : k = 10 := by omega
      obtain rfl : n = 10 := by omega
      go_wp2_with (go_at_call 56; go_must (refine (group_any x 10 false A c _ _ HL.out (Nat.le_refl _) H64.out (Nat.le_refl _)).mono ?_; intro e w2 hb2; have HB2 := Lib.hid (bytes_made hb2 HBE.out); obtain ⟨A2, c2, rfl, -⟩ := hb2))
      go_ret
      exact HB2.out

theorem least_find (F : Nat → Prop) : ∀ k, 1 ≤ k → F k → ∃ n, Least F n := by
  intro k
  induction k using Nat.strongRecOn with
  | _ k ih =>
    intro h1 h2
    by_cases h : ∃ m, 1 ≤ m ∧ m < k ∧ F m
    · obtain ⟨m, a, b, c⟩ := h
      exact ih m b a c
    · exact ⟨k, h1, h2, fun m a b c => h ⟨m, a, b, c⟩⟩
theorem leastU (x : Int) (h : x ≤ 18446744073709551615) : ∃ n, Least (fitU x) n := least_find _ 10 (by omega) (fitU_ten x (by omega))
end Go.Proofs.YtohliaellefhaaaDoor
