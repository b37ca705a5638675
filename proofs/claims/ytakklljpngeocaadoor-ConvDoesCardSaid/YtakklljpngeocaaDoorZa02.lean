/- creelref20: Bytes, Do, Place. -/
import Derived.Test.YtakklljpngeocaaDoorZa01
import Derived.Laws.BitsAllLaws
import Derived.BigQuiet
import Derived.Laws.MakeOwn
namespace Go.Proofs.YtakklljpngeocaaDoor
open Go.RowKit
set_option linter.unusedVariables false
set_option maxRecDepth 100000

/-- The k lowest bytes of a number, the lowest first. -/
def bytN : Nat → Nat → List UInt8
  | 0, _ => []
  | k + 1, x => bytN k x ++ [UInt8.ofNat (x / 256 ^ k)]
theorem bytN_len (k x : Nat) : (bytN k x).length = k := by
  induction k with
  | zero => rfl
  | succ k ih => simp [bytN, ih]
set_option maxHeartbeats 2000000 in
theorem bytesB (x : Nat) (n : Int) (w : World) (hx : x < 18446744073709551616) : Calls Tryd.prog 12 #[.int .u64 x, .int .i64 n] w fun e w' => e = .returned (.string (S (bytN (min n 8).toNat x))) ∧ Below w.heap.size w w' := by
  obtain ⟨c, hc⟩ : ∃ c, c = (min n 8).toNat := ⟨_, rfl⟩
  have hcn : c ≤ 8 ∧ (∀ j : Nat, j < c → (j : Int) < n) ∧ (c = 8 ∨ ¬ (c : Int) < n) := ⟨by omega, fun j hj => by omega, by omega⟩
  rw [← hc]
  obtain ⟨R, hR⟩ : ∃ R, R = S (bytN c x) := ⟨_, rfl⟩
  rw [← hR]
  have HRr := Lib.hid hR
  clear hc hR
  go_enter Tryd.func12, Tryd.ntmps12
  go_wp2
  go_loopw [0, 5, 6] (fun v o i wr => ∃ j : Nat, j ≤ c ∧ i = .int .i64 j ∧ v = .int .u64 ((x / 256 ^ j : Nat) : Int) ∧ Row wr w.heap.size o (bytN j x) ∧ Below w.heap.size w wr) (fun _ _ i _ => c - (intOf i).toNat)
  case atStart => exact ⟨0, Nat.zero_le _, rfl, by simp, Row.nil _ _, Below.refl _ _⟩
  case round =>
    obtain ⟨j, hj, rfl, rfl, hr, hb⟩ := hrel
    have hz := hb.size
    by_cases hlt : j < c
    · have d1 : decide ((j : Int) < n) = true := decide_eq_true (hcn.2.1 j hlt)
      have hy : x / 256 ^ j < 18446744073709551616 := Nat.lt_of_le_of_lt (Nat.div_le_self _ _) hx
      have HD := Lib.hid (show x / 256 ^ (j + 1) = x / 256 ^ j / 256 by rw [Nat.div_div_eq_div_mul, Nat.pow_succ])
      have HS := Lib.hid (show bytN (j + 1) x = bytN j x ++ [UInt8.ofNat (x / 256 ^ j)] from rfl)
      have hl := bytN_len j x
      obtain ⟨y, hyy⟩ : ∃ y, y = x / 256 ^ j := ⟨_, rfl⟩
      rw [← hyy] at HD HS hy ⊢
      obtain ⟨z, hzz⟩ : ∃ z, z = UInt8.ofNat y := ⟨_, rfl⟩
      rw [← hzz] at HS
      have hzn : z.toNat = y % 256 := by rw [hzz, UInt8.toNat_ofNat']
      obtain ⟨acc, hacc⟩ : ∃ acc, acc = bytN j x := ⟨_, rfl⟩
      rw [← hacc] at hr HS hl
      have e1 : IntKind.u8.wrap ((y : Int) % 256) = (z.toNat : Int) := by rw [hzn]; simp only [IntKind.wrap, IntKind.bits, IntKind.signed]; try simp
      have d8 : (j : Int) < 8 := by omega
      have HR := Lib.hid (hr.later (below_box wr (.cells #[.int .u8 z.toNat] 5)))
      have HB := Lib.hid (hb.alloc hz (.cells #[.int .u8 z.toNat] 5))
      have HX := Lib.hid (Whole.made wr 5 #[.int .u8 z.toNat])
      have hsz : (wr.alloc (.cells #[.int .u8 z.toNat] 5)).heap.size = wr.heap.size + 1 := size_box _ _
      clear hr hb hyy hzz hacc hzn
      go_wp2_with (at_builtin; (refine row_new rfl _ _ rfl w.heap.size _ acc rfl HR.out wr.heap.size 1 [z] rfl rfl HX.out (by omega) (by rw [List.length_singleton]; omega) (by rw [hsz]; omega) ?_; intro v2 w2 hr2 hb2; have HR2 := Lib.hid hr2; have HB2 := Lib.hid (HB.out.trans hb2); clear hr2 hb2))
      go_roundw
      case rel => exact ⟨j + 1, by omega, by go_num, by rw [HD.out]; exact congrArg (Value.int .u64) (by omega), by rw [HS.out]; exact HR2.out, HB2.out⟩
      case measure => simp [intOf]; omega
    · obtain rfl : j = c := by omega
      obtain ⟨A, k, rfl, hst⟩ := hr.str
      have hst2 := hst 9 Tryd.underlying9
      have HB := Lib.hid hb
      rw [← HRr.out] at hst2
      obtain ⟨m, hm⟩ : ∃ m, m = (bytN j x).length := ⟨_, rfl⟩
      rw [← hm] at hst2 ⊢
      clear hr hb hst hm
      by_cases h8 : (j : Int) < n
      · have d1 : decide ((j : Int) < n) = true := decide_eq_true h8
        have d8 : ¬ (j : Int) < 8 := by omega
        go_wp2
        go_ret
        exact ⟨rfl, HB.out⟩
      · have d1 : decide ((j : Int) < n) = false := decide_eq_false h8
        go_wp2
        go_ret
        exact ⟨rfl, HB.out⟩
end Go.Proofs.YtakklljpngeocaaDoor

/- creelref20: Do. -/
namespace Go.Proofs.YtakklljpngeocaaDoor
open Go.RowKit
set_option linter.unusedVariables false
set_option maxRecDepth 100000

abbrev valV (t n : Int) : Value := .agg #[.int .u8 t, .int .u64 n]
set_option maxHeartbeats 1000000 in
theorem do0 (x : Nat) (w : World) (hx : x < 18446744073709551616) : Calls Tryd.prog 8 #[.int .i64 167, .int .u64 x] w fun e w' => e = .returned (.tuple #[valV 127 (x % 2 ^ 32 : Nat), .bool true]) ∧ Below w.heap.size w w' := by
  obtain ⟨R, hR⟩ : ∃ R : Nat, R = x % 2 ^ 32 := ⟨_, rfl⟩
  rw [← hR]
  have HL := Lib.hid (fun W => show Calls Tryd.prog 20 #[.int .u64 x, .int .i64 32] W (fun e w' => e = .returned (.int .u64 (R : Int)) ∧ W = w') from by rw [hR]; exact low_any x 32 W hx (by omega))
  clear hR
  go_enter Tryd.func8, Tryd.ntmps8
  go_wp2_with (go_at_call 20; (with_reducible refine (HL.out _).mono ?_); rintro e w1 ⟨rfl, rfl⟩)
  have p2 := Whole.made w 25 #[.int .u8 127, .int .u64 R]
  have q0 := p2.cell 0
  have q1 := p2.cell 1
  simp only [List.getElem?_toArray, List.getElem?_cons_zero, List.getElem?_cons_succ] at q0 q1
  exact bodyPost_ret (v := .tuple #[valV 127 R, .bool true]) (by simp [results, Tryd.results8, go_sem, q0, q1]) rfl ⟨rfl, below_box _ _⟩
set_option maxHeartbeats 1000000 in
theorem do1 (x : Nat) (w : World) (hx : x < 18446744073709551616) : Calls Tryd.prog 8 #[.int .i64 172, .int .u64 x] w fun e w' => e = .returned (.tuple #[valV 126 (extN x 4 : Nat), .bool true]) ∧ Below w.heap.size w w' := by
  obtain ⟨R, hR⟩ : ∃ R : Nat, R = extN x 4 := ⟨_, rfl⟩
  rw [← hR]
  have HL := Lib.hid (fun W => show Calls Tryd.prog 11 #[.int .u64 x, .int .i64 4] W (fun e w' => e = .returned (.int .u64 (R : Int)) ∧ W = w') from by rw [hR]; exact ext_in x 4 W hx (by omega) (by omega))
  clear hR
  go_enter Tryd.func8, Tryd.ntmps8
  go_wp2_with (go_at_call 11; (with_reducible refine (HL.out _).mono ?_); rintro e w1 ⟨rfl, rfl⟩)
  have p2 := Whole.made w 25 #[.int .u8 126, .int .u64 R]
  have q0 := p2.cell 0
  have q1 := p2.cell 1
  simp only [List.getElem?_toArray, List.getElem?_cons_zero, List.getElem?_cons_succ] at q0 q1
  exact bodyPost_ret (v := .tuple #[valV 126 R, .bool true]) (by simp [results, Tryd.results8, go_sem, q0, q1]) rfl ⟨rfl, below_box _ _⟩
set_option maxHeartbeats 1000000 in
theorem do2 (x : Nat) (w : World) (hx : x < 18446744073709551616) : Calls Tryd.prog 8 #[.int .i64 173, .int .u64 x] w fun e w' => e = .returned (.tuple #[valV 126 (x % 2 ^ 32 : Nat), .bool true]) ∧ Below w.heap.size w w' := by
  obtain ⟨R, hR⟩ : ∃ R : Nat, R = x % 2 ^ 32 := ⟨_, rfl⟩
  rw [← hR]
  have HL := Lib.hid (fun W => show Calls Tryd.prog 20 #[.int .u64 x, .int .i64 32] W (fun e w' => e = .returned (.int .u64 (R : Int)) ∧ W = w') from by rw [hR]; exact low_any x 32 W hx (by omega))
  clear hR
  go_enter Tryd.func8, Tryd.ntmps8
  go_wp2_with (go_at_call 20; (with_reducible refine (HL.out _).mono ?_); rintro e w1 ⟨rfl, rfl⟩)
  have p2 := Whole.made w 25 #[.int .u8 126, .int .u64 R]
  have q0 := p2.cell 0
  have q1 := p2.cell 1
  simp only [List.getElem?_toArray, List.getElem?_cons_zero, List.getElem?_cons_succ] at q0 q1
  exact bodyPost_ret (v := .tuple #[valV 126 R, .bool true]) (by simp [results, Tryd.results8, go_sem, q0, q1]) rfl ⟨rfl, below_box _ _⟩
set_option maxHeartbeats 1000000 in
theorem doNo (op : Int) (x : Nat) (w : World) (h0 : op ≠ 167) (h1 : op ≠ 172) (h2 : op ≠ 173) : Calls Tryd.prog 8 #[.int .i64 op, .int .u64 x] w fun e w' => e = .returned (.tuple #[valV 0 0, .bool false]) ∧ Below w.heap.size w w' := by
  have d0 : (op == 167) = false := by simpa using h0
  have d1 : (op == 172) = false := by simpa using h1
  have d2 : (op == 173) = false := by simpa using h2
  clear h0 h1 h2
  go_enter Tryd.func8, Tryd.ntmps8
  go_wp2
  have p2 := Whole.made w 25 #[.int .u8 0, .int .u64 0]
  have q0 := p2.cell 0
  have q1 := p2.cell 1
  simp only [List.getElem?_toArray, List.getElem?_cons_zero, List.getElem?_cons_succ] at q0 q1
  exact bodyPost_ret (v := .tuple #[valV 0 0, .bool false]) (by simp [results, Tryd.results8, go_sem, q0, q1]) rfl ⟨rfl, below_box _ _⟩
end Go.Proofs.YtakklljpngeocaaDoor

/- The program's low, Extend, Bytes, Number, as plain functions. -/
namespace Go.Proofs.YtakklljpngeocaaDoor
open Go.RowKit
set_option linter.unusedVariables false
set_option maxRecDepth 100000

/-- Extend by two shifts: the number is moved up by k = 64 - 8 n places and down again, its sign with it. -/
theorem ext_shift (x n k : Nat) (h1 : 1 ≤ n) (h8 : n ≤ 8) (hk : k = 64 - 8 * n) :
    ((wrap64 ((x * 2 ^ k % 18446744073709551616 : Nat) : Int)) / 2 ^ k) % 18446744073709551616 = ((extN x n : Nat) : Int) := by
  have e1 : 2 ^ (8 * n) * 2 ^ k = 18446744073709551616 := by rw [← Nat.pow_add, show 8 * n + k = 64 by omega]
  have e2 : 2 ^ (8 * n) = 2 * 2 ^ (8 * n - 1) := by rw [← Nat.pow_succ']; congr 1; omega
  have e3 : ((2 ^ k : Nat) : Int) = (2 : Int) ^ k := by norm_cast
  have pk := Nat.two_pow_pos k
  have pm := Nat.two_pow_pos (8 * n - 1)
  have hr : x * 2 ^ k % 18446744073709551616 = x % 2 ^ (8 * n) * 2 ^ k := by rw [← e1, Nat.mul_mod_mul_right]
  have hm : x % 2 ^ (8 * n - 1) = x % 2 ^ (8 * n) % 2 ^ (8 * n - 1) := by rw [e2, Nat.mul_comm 2]; exact (Nat.mod_mul_right_mod _ _ _).symm
  have hlt : x % 2 ^ (8 * n) < 2 ^ (8 * n) := Nat.mod_lt _ (Nat.two_pow_pos _)
  have e64 : (2 : Nat) ^ 64 = 18446744073709551616 := by decide
  unfold extN
  rw [hr, hm, ← e3, e64]
  generalize x % 2 ^ (8 * n) = r at *
  rw [e2] at hlt e1 ⊢
  generalize 2 ^ (8 * n - 1) = m at *
  generalize 2 ^ k = K at *
  clear hr hm e2 e3 e64
  have hmK : m * K = 9223372036854775808 := by rw [Nat.mul_assoc] at e1; omega
  by_cases hc : r < m
  · have h2 : r * K < 9223372036854775808 := by rw [← hmK]; exact Nat.mul_lt_mul_of_pos_right hc pk
    have w1 : wrap64 ((r * K : Nat) : Int) = ((r * K : Nat) : Int) := by unfold wrap64; omega
    rw [w1, ← Int.natCast_ediv, Nat.mul_div_cancel _ pk, Nat.mod_eq_of_lt hc, if_pos rfl]
    have : m ≤ m * K := Nat.le_mul_of_pos_right _ pk
    omega
  · have h2 : 9223372036854775808 ≤ r * K := by rw [← hmK]; exact Nat.mul_le_mul_right _ (by omega)
    have h3 : r * K < 18446744073709551616 := by rw [← e1]; exact Nat.mul_lt_mul_of_pos_right hlt pk
    have w1 : wrap64 ((r * K : Nat) : Int) = ((r * K : Nat) : Int) - 18446744073709551616 := by unfold wrap64; omega
    have w2 : ((r * K : Nat) : Int) - 18446744073709551616 = ((r : Int) - ((2 * m : Nat) : Int)) * (K : Int) := by
      rw [Int.sub_mul, ← Int.natCast_mul, ← Int.natCast_mul, e1]; rfl
    have h4 : ¬ r = r % m := by
      intro h
      have := Nat.mod_lt r pm
      omega
    have : 2 * m ≤ 2 * m * K := Nat.le_mul_of_pos_right _ pk
    rw [w1, w2, Int.mul_ediv_cancel _ (by omega), if_neg h4]
    omega
theorem lowP (x : Nat) (w : World) (hx : x < 18446744073709551616) : Calls Tryd.prog 19 #[.int .u64 x] w fun e w' => e = .returned (.int .u64 ((x % 2 ^ 32 : Nat) : Int)) ∧ w = w' := by
  obtain ⟨r, hr⟩ : ∃ r : Nat, r = x % 2 ^ 32 := ⟨_, rfl⟩
  have e1 : (x : Int) % 4294967296 = (r : Int) := by rw [hr]; omega
  have e2 : r < 4294967296 := by rw [hr]; exact Nat.mod_lt _ (by decide)
  rw [← hr]
  clear hr
  go_enter Tryd.func19, Tryd.ntmps19
  go_wp2
  go_ret
  exact ⟨rfl, rfl⟩
/-- What stands for the lowest bytes of a number, whatever n. -/
def extP (x : Nat) (n : Int) : Nat := if 1 ≤ n ∧ n ≤ 8 then extN x n.toNat else x
theorem extendP (x : Nat) (n : Int) (w : World) (hx : x < 18446744073709551616) : Calls Tryd.prog 10 #[.int .u64 x, .int .i64 n] w fun e w' => e = .returned (.int .u64 (extP x n)) ∧ w = w' := by
  by_cases h1 : n < 1
  · have e : extP x n = x := by unfold extP; rw [if_neg (by omega)]
    have d1 : decide (n < 1) = true := decide_eq_true h1
    rw [e]
    clear e
    go_enter Tryd.func10, Tryd.ntmps10
    go_wp2
    go_ret
    exact ⟨rfl, rfl⟩
  by_cases h8 : 8 < n
  · have e : extP x n = x := by unfold extP; rw [if_neg (by omega)]
    have d1 : decide (n < 1) = false := decide_eq_false h1
    have d2 : decide (8 < n) = true := decide_eq_true h8
    rw [e]
    clear e
    go_enter Tryd.func10, Tryd.ntmps10
    go_wp2
    go_ret
    exact ⟨rfl, rfl⟩
  · have e : extP x n = extN x n.toNat := by unfold extP; rw [if_pos (by omega)]
    have d1 : decide (n < 1) = false := decide_eq_false h1
    have d2 : decide (8 < n) = false := decide_eq_false h8
    obtain ⟨m, hm⟩ : ∃ m : Nat, m = n.toNat := ⟨_, rfl⟩
    obtain rfl : n = (m : Int) := by omega
    obtain ⟨k, hk⟩ : ∃ k, k = 64 - 8 * m := ⟨_, rfl⟩
    have hm8 : 1 ≤ m ∧ m ≤ 8 := by omega
    have e0 : wrap64 (8 - (m : Int)) = 8 - (m : Int) := by clear hx hk; unfold wrap64; omega
    have e1 : wrap64 (8 * wrap64 (8 - (m : Int))) = (k : Int) := by rw [e0]; clear hx; unfold wrap64; omega
    have e1' : (8 : Int) * (8 - (m : Int)) = (k : Int) := by omega
    have hk2 : k < 64 := by omega
    have hs := ext_shift x m k hm8.1 hm8.2 hk
    obtain ⟨y, hy⟩ : ∃ y : Nat, y = x * 2 ^ k % 18446744073709551616 := ⟨_, rfl⟩
    have e2 : IntKind.u64.wrap ((x : Int) * 2 ^ k) = (y : Int) := by rw [IntKind.wrap_u64, hy, show ((2 : Int) ^ k) = ((2 ^ k : Nat) : Int) by norm_cast, ← Int.natCast_mul]; generalize x * 2 ^ k = q; omega
    rw [← hy] at hs
    rw [e, ← hm]
    generalize extN x m = z at *
    obtain ⟨s, hss⟩ : ∃ s, s = wrap64 (y : Int) := ⟨_, rfl⟩
    rw [← hss] at hs
    have e3 : wrap64 (y : Int) = s := hss.symm
    have e4 : IntKind.u64.wrap (s / 2 ^ k) = (z : Int) := by rw [IntKind.wrap_u64]; exact hs
    clear hs hy hss e hm hk
    go_enter Tryd.func10, Tryd.ntmps10
    go_wp2
    go_ret
    exact ⟨rfl, rfl⟩
end Go.Proofs.YtakklljpngeocaaDoor

/- A block of bytes that is made and filled one by one (as in scan/XVtypes, for seats without a scanner). -/
namespace Go.Proofs.YtakklljpngeocaaDoor
set_option maxRecDepth 100000
open Go.RowKit
set_option linter.unusedVariables false

/-- Cells that are made, of one kind. -/
theorem made1B (v : Value) (n : Nat) : madeCells #[v] n = Array.replicate n v := by
  apply Array.ext
  · simp [madeCells]
  · intro i h1 h2
    simp [madeCells, Nat.mod_one]
theorem makeB_n (n : Nat) (hn : n ≤ 100000) (w : World) : (Instr.makeSlice 29 (.int .i64 (n : Int)) (.int .i64 (n : Int))).run Tryd.prog w = .ok (.slice (some ⟨w.heap.size, 0, none⟩) n n) (w.alloc (.cells (List.replicate n (.int .u8 0)).toArray 5)) := by
  obtain ⟨i0, hi0, hz0, hz1, hz2⟩ := info_parts infoB
  have hr := run_make (P := Tryd.prog) w 29 5 i0 _ Tryd.underlying29 hi0 hz0 .i64 .i64 (n : Int) (n : Int) (by omega) (Int.le_refl _) (by rw [hz2]; omega) (by omega)
  rw [hr, hz1]
  have e : (Value.int IntKind.u8 0).cells = #[.int .u8 0] := rfl
  rw [e, made1B]
  simp
/-- A block of n bytes, of which the first are written. -/
def PrtB (w : World) (g n : Nat) (acc : List UInt8) : Prop := Whole w g 5 (cells (nums acc) ++ List.replicate (n - acc.length) (Value.int .u8 0)).toArray ∧ acc.length ≤ n
theorem PrtB.start (w : World) (n : Nat) : PrtB (w.alloc (.cells (List.replicate n (.int .u8 0)).toArray 5)) w.heap.size n [] := ⟨Whole.made _ _ _, Nat.zero_le _⟩
theorem PrtB.put {w : World} {g n : Nat} {acc : List UInt8} (h : PrtB w g n acc) (c : UInt8) (hlt : acc.length < n) : PrtB (w.setCell ⟨g, acc.length, none⟩ (.int .u8 c.toNat)) g n (acc ++ [c]) := by
  refine ⟨?_, by simp; omega⟩
  have h1 := h.1.put acc.length (.int .u8 c.toNat)
  have e : ((cells (nums acc) ++ List.replicate (n - acc.length) (Value.int .u8 0)).toArray.setIfInBounds acc.length (.int .u8 c.toNat)) = (cells (nums (acc ++ [c])) ++ List.replicate (n - (acc ++ [c]).length) (Value.int .u8 0)).toArray := by
    have hl : (cells (nums acc)).length = acc.length := by rw [cells_length, nums_length]
    have hr : List.replicate (n - acc.length) (Value.int .u8 0) = .int .u8 0 :: List.replicate (n - (acc.length + 1)) (.int .u8 0) := by
      rw [show n - acc.length = n - (acc.length + 1) + 1 by omega]; rfl
    rw [hr, List.setIfInBounds_toArray, List.set_append_right _ _ (by omega), hl, Nat.sub_self, List.set_cons_zero, nums_append]
    simp [cells, nums]
  rw [e] at h1
  exact h1
theorem PrtB.row {w : World} {g n : Nat} {acc : List UInt8} (h : PrtB w g n acc) (hn : acc.length = n) (base : Nat) (hb : base ≤ g) (hm : n ≤ 100000) : Row w base (.slice (some ⟨g, 0, none⟩) n n) acc := by
  subst hn
  have h1 := h.1
  rw [Nat.sub_self, List.replicate_zero, List.append_nil] at h1
  have hl : (cells (nums acc)).length = acc.length := by rw [cells_length, nums_length]
  exact ⟨by omega, .inr ⟨g, acc.length, (cells (nums acc)).toArray, rfl, hb, h1, Nat.le_refl _, by unfold maxLen; omega, by simp [hl], by rw [List.take_of_length_le (by simp [hl])]⟩⟩
theorem PrtB.cell {w : World} {g n : Nat} {acc : List UInt8} (h : PrtB w g n acc) (hlt : acc.length < n) : ∃ u, w.cell? ⟨g, acc.length, none⟩ = some u := by
  have hl : (cells (nums acc)).length = acc.length := by rw [cells_length, nums_length]
  exact ⟨_, (h.1.cell acc.length).trans (Array.getElem?_eq_getElem (by simp [hl]; omega))⟩
end Go.Proofs.YtakklljpngeocaaDoor

/- The program's Bytes, Number, as plain functions. -/
namespace Go.Proofs.YtakklljpngeocaaDoor
open Go.RowKit
set_option linter.unusedVariables false
set_option maxRecDepth 100000

theorem pow256 (j : Nat) : 256 ^ j = 2 ^ (8 * j) := by rw [show 256 = 2 ^ 8 by decide, ← Nat.pow_mul]
set_option maxHeartbeats 2000000 in
theorem bytesP (x : Nat) (n : Int) (w : World) (hx : x < 18446744073709551616) : Calls Tryd.prog 9 #[.int .u64 x, .int .i64 n] w (BytesL (bytN (min n 8).toNat x) w) := by
  obtain ⟨c, hc⟩ : ∃ c, c = (min n 8).toNat := ⟨_, rfl⟩
  obtain ⟨m, hm⟩ : ∃ m : Int, (if n < 0 then 0 else n) = m := ⟨_, rfl⟩
  have hv : (if (8 : Int) < m then (8 : Int) else m) = (c : Int) := by rw [← hm]; split <;> split at * <;> omega
  have hc8 : c ≤ 8 := by omega
  rw [← hc]
  obtain ⟨R, hR⟩ : ∃ R, R = bytN c x := ⟨_, rfl⟩
  rw [← hR]
  have HRr := Lib.hid hR
  clear hc hR
  have hmk := makeB_n c (by omega)
  unfold BytesL
  go_enter Tryd.func9, Tryd.ntmps9
  go_wp2
  clear hmk hv hm
  go_loopw [13] (fun i wr => ∃ j : Nat, j ≤ c ∧ i = .int .i64 j ∧ PrtB wr w.heap.size c (bytN j x) ∧ Below w.heap.size w wr) (fun i _ => c - (intOf i).toNat)
  case atStart => exact ⟨0, Nat.zero_le _, rfl, PrtB.start _ _, (Below.refl _ _).alloc (Nat.le_refl _) _⟩
  case round =>
    obtain ⟨j, hj, rfl, hp, hb⟩ := hrel
    have hz := hb.size
    by_cases hlt : j < c
    · have HS := Lib.hid (show bytN (j + 1) x = bytN j x ++ [UInt8.ofNat (x / 256 ^ j)] from rfl)
      have hl := bytN_len j x
      obtain ⟨s, hs⟩ : ∃ s, s = 8 * j := ⟨_, rfl⟩
      obtain ⟨y, hyy⟩ : ∃ y, y = x / 2 ^ s := ⟨_, rfl⟩
      rw [pow256, ← hs, ← hyy] at HS
      have e2 : (x : Int) / 2 ^ s = (y : Int) := by rw [hyy, show ((2 : Int) ^ s) = ((2 ^ s : Nat) : Int) by norm_cast, Int.natCast_ediv]
      have e3 : wrap64 (8 * (j : Int)) = (s : Int) := by rw [hs]; unfold wrap64; omega
      have e3' : 8 * (j : Int) = (s : Int) := by omega
      obtain ⟨z, hzz⟩ : ∃ z, z = UInt8.ofNat y := ⟨_, rfl⟩
      rw [← hzz] at HS
      have hzn : z.toNat = y % 256 := by rw [hzz, UInt8.toNat_ofNat']
      have e1 : (y : Int) % 256 = (z.toNat : Int) := by rw [hzn]; omega
      have hs64 : s < 64 := by omega
      obtain ⟨u, hu⟩ := hp.cell (by omega)
      have hf := hp.1.frozen j
      have HP := Lib.hid (hp.put z (by omega))
      rw [hl] at hu HP
      have HB := Lib.hid hb
      clear hp hb hyy hzz hzn hs
      go_wp2
      go_roundw
      case rel => exact ⟨j + 1, by omega, by go_num, by rw [HS.out]; exact HP.out, HB.out.setCell (Nat.le_refl _) _⟩
      case measure => simp [intOf]; omega
    · obtain rfl : j = c := by omega
      have HR := Lib.hid (hp.row (bytN_len _ _) w.heap.size (Nat.le_refl _) (by omega))
      rw [← HRr.out] at HR
      have HB := Lib.hid hb
      clear hp hb
      go_wp2
      go_ret
      exact ⟨_, rfl, HR.out, HB.out⟩
/-- s[:m]. -/
theorem cutH (A : Option Addr) (len cap m : Nat) (h1 : m ≤ len) (h2 : len ≤ cap) :
    ∃ A', (∀ w, (Instr.slice 29 (.slice A len cap) none (some (.int .i64 (m : Int))) none).run Tryd.prog w = .ok (.slice A' m cap) w) ∧
      (∀ w B (l : List Int), Lies w B A (cells l) → Lies w B A' (cells (l.take m))) := by
  have ht : Tryd.prog.underlying 29 = some (.slice (Tryd.prog.elem 29)) := by simp [Program.elem, Tryd.underlying29]
  have hr : ∀ w, _ := fun w => run_slice_h (P := Tryd.prog) w 29 A len cap ht .i64 (m : Int) (by omega) (by omega)
  have hz : ∀ w, (sizeOf (Tryd.prog.elem 29)).run Tryd.prog w = .ok 1 w := fun w => by kernel_rfl
  have e1 : (m : Int).toNat = m := by omega
  by_cases hk : cap = 0
  · refine ⟨A, fun w => ?_, fun w B l _ => ?_⟩
    · rw [hr w, hz w, e1]
      simp [Result.andThen, sliced, hk]
    · have : m = 0 := by omega
      subst this
      simp [cells]
      exact Lies.nil
  · refine ⟨A.map (·.add 0), fun w => ?_, fun w B l hl => ?_⟩
    · rw [hr w, hz w, e1]
      simp [Result.andThen, sliced, hk]
    · have hc := hl.take m
      have e : A.map (·.add 0) = A ∨ (cells l).length = 0 := by
        by_cases h0 : (cells l).length = 0
        · exact .inr h0
        · obtain ⟨b, off, rfl, _⟩ := hl.at_ (i := 0) (by omega)
          left
          simp [Go.WideShapes.add_plain]
      have ec : cells (l.take m) = (cells l).take m := by simp [cells, List.map_take]
      rw [ec]
      rcases e with e | e
      · rw [e]; exact hc
      · have : cells l = [] := List.eq_nil_of_length_eq_zero e
        rw [this]; simp
        exact Lies.nil
set_option maxHeartbeats 2000000 in
theorem numberP (l : List UInt8) (A : Option Addr) (c B : Nat) (w : World) (hlc : l.length ≤ c) (hl : (l.length : Int) ≤ 9223372036854775807) (hL : Lies w B A (cells (nums l))) : Calls Tryd.prog 13 #[.slice A l.length c] w fun e w' => e = .returned (.int .u64 (numB (l.take 8))) ∧ Below w.heap.size w w' := by
  obtain ⟨m, hm⟩ : ∃ m, m = min l.length 8 := ⟨_, rfl⟩
  have hv : (if (8 : Int) < (l.length : Int) then (8 : Int) else (l.length : Int)) = (m : Int) := by split <;> omega
  obtain ⟨A2, hcut, hL2⟩ := cutH A l.length c m (by omega) hlc
  have hm8 : m ≤ 8 ∧ m ≤ l.length := by omega
  have HL := Lib.hid (fun W (h : Lies W B A (cells (nums l))) => hL2 W B (nums l) h)
  have HL0 := Lib.hid hL
  have HT := Lib.hid (show l.take 8 = l.take m by
    rw [hm]
    by_cases h : l.length ≤ 8
    · rw [Nat.min_eq_left h, List.take_of_length_le h, List.take_length]
    · rw [Nat.min_eq_right (by omega)])
  clear hL hL2 hm
  go_enter Tryd.func13, Tryd.ntmps13
  go_wp2
  clear hcut hv
  go_loopw [3, 12] (fun v i wr => ∃ j : Nat, j ≤ m ∧ i = .int .i64 j ∧ v = .int .u64 (numB (l.take j)) ∧ ∃ d, wr = w.drewN d) (fun _ i _ => m - (intOf i).toNat)
  case atStart => exact ⟨0, Nat.zero_le _, rfl, rfl, 0, rfl⟩
  case round =>
    obtain ⟨j, hj, rfl, rfl, d, rfl⟩ := hrel
    by_cases h1 : j < m
    · obtain ⟨x, hx⟩ : ∃ x, l[j]? = some x := ⟨_, List.getElem?_eq_getElem (by omega)⟩
      have HS := Lib.hid (numB_snoc hx)
      obtain ⟨bl, off, rfl, _, hc1⟩ := (HL.out w HL0.out).byte (i := j) (c := x.toNat) (by simp [nums, List.getElem?_take, h1, hx])
      have hlt := numB_lt (l.take j)
      rw [List.length_take, Nat.min_eq_left (by omega), pow256] at hlt
      obtain ⟨s, hs⟩ : ∃ s, s = 8 * j := ⟨_, rfl⟩
      have e3 : wrap64 (8 * (j : Int)) = (s : Int) := by rw [hs]; unfold wrap64; omega
      have e3' : 8 * (j : Int) = (s : Int) := by omega
      have hs64 : s ≤ 56 := by omega
      rw [pow256, ← hs] at HS
      rw [← hs] at hlt
      have hb := x.toNat_lt
      have hp : 2 ^ s ≤ 2 ^ 56 := Nat.pow_le_pow_right (by decide) hs64
      obtain ⟨v, hv⟩ : ∃ v, v = numB (l.take j) := ⟨_, rfl⟩
      rw [← hv] at HS hlt ⊢
      obtain ⟨t, ht⟩ : ∃ t, t = x.toNat * 2 ^ s := ⟨_, rfl⟩
      have ht2 : t ≤ 255 * 2 ^ s := by rw [ht]; exact Nat.mul_le_mul_right _ (by omega)
      have e56 : (2 : Nat) ^ 56 = 72057594037927936 := by decide
      have ht3 : t < 18446744073709551616 := by omega
      have htm : t % 2 ^ s = 0 := by rw [ht]; exact Nat.mul_mod_left _ _
      have hor : v ||| t = v + t := by rw [Nat.or_comm, nat_join s t v htm hlt]; omega
      rw [← ht] at HS
      have q1 : IntKind.u64.wrap ((x.toNat : Int) * 2 ^ s) = (t : Int) := by
        rw [show ((2 : Int) ^ s) = ((2 ^ s : Nat) : Int) by norm_cast, ← Int.natCast_mul, ← ht, IntKind.wrap_u64]
        clear HS hor htm ht ht2 hlt hp e56
        omega
      have q2 : bits .or .u64 (v : Int) (t : Int) = ((v + t : Nat) : Int) := by rw [u64_or_nat _ _ (by omega) ht3, hor]
      obtain ⟨u, hu⟩ : ∃ u, u = v + t := ⟨_, rfl⟩
      rw [← hu] at HS q2
      have q4 : IntKind.u64.wrap (x.toNat : Int) = x.toNat := by rw [IntKind.wrap_u64]; omega
      have hc2 : (w.drewN d).cell? ⟨bl, off + j, none⟩ = some (.int .u8 x.toNat) := hc1
      clear hx hv ht hor htm ht2 hlt hp e56 hs hu hc1 ht3
      go_wp2
      go_roundw
      case rel => exact ⟨j + 1, by omega, by go_num, by rw [HS.out], d, rfl⟩
      case measure => simp [intOf]; omega
    · obtain rfl : j = m := by omega
      go_wp2
      go_ret
      exact ⟨by rw [HT.out]; rfl, below_drewN (Below.refl _ _) _⟩
end Go.Proofs.YtakklljpngeocaaDoor

/- The instructions as lists, and what the functions of package ops and of its reference make of them. No program here. -/
namespace Go.Proofs.YtakklljpngeocaaDoor
set_option linter.unusedVariables false

/-- An access: bytes, type, writes, signed. -/
structure AccR where
  n : Nat
  t : Nat
  wr : Bool
  sg : Bool
  deriving DecidableEq
/-- A row of the reference. -/
structure RowR where
  op : Nat
  name : List UInt8
  imm : Nat
  takes : List UInt8
  has : List UInt8
  free : Bool
  deriving DecidableEq
-- LISTS
/-- What accesses holds. -/
def tabA : List AccR := [⟨4, 127, false, false⟩, ⟨8, 126, false, false⟩, ⟨0, 0, false, false⟩, ⟨0, 0, false, false⟩, ⟨1, 127, false, true⟩, ⟨1, 127, false, false⟩, ⟨2, 127, false, true⟩, ⟨2, 127, false, false⟩, ⟨1, 126, false, true⟩, ⟨1, 126, false, false⟩, ⟨2, 126, false, true⟩, ⟨2, 126, false, false⟩, ⟨4, 126, false, true⟩, ⟨4, 126, false, false⟩, ⟨4, 127, true, false⟩, ⟨8, 126, true, false⟩, ⟨0, 0, false, false⟩, ⟨0, 0, false, false⟩, ⟨1, 127, true, false⟩, ⟨2, 127, true, false⟩, ⟨1, 126, true, false⟩, ⟨2, 126, true, false⟩, ⟨4, 126, true, false⟩]
/-- The reference's groups. -/
def groupsL : List RowR := [⟨0, [32, 117, 110, 114, 101, 97, 99, 104, 97, 98, 108, 101], 0, [], [], true⟩, ⟨1, [32, 110, 111, 112], 0, [], [], false⟩, ⟨2, [32, 98, 108, 111, 99, 107, 32, 108, 111, 111, 112, 32, 105, 102], 1, [], [], true⟩, ⟨5, [32, 101, 108, 115, 101], 0, [], [], true⟩, ⟨11, [32, 101, 110, 100], 0, [], [], true⟩, ⟨12, [32, 98, 114, 32, 98, 114, 95, 105, 102], 2, [], [], true⟩, ⟨14, [32, 98, 114, 95, 116, 97, 98, 108, 101], 3, [], [], true⟩, ⟨15, [32, 114, 101, 116, 117, 114, 110], 0, [], [], true⟩, ⟨16, [32, 99, 97, 108, 108], 4, [], [], true⟩, ⟨17, [32, 99, 97, 108, 108, 95, 105, 110, 100, 105, 114, 101, 99, 116], 5, [], [], true⟩, ⟨26, [32, 100, 114, 111, 112, 32, 115, 101, 108, 101, 99, 116], 0, [], [], true⟩, ⟨32, [108, 111, 99, 97, 108, 46, 32, 103, 101, 116, 32, 115, 101, 116, 32, 116, 101, 101], 6, [], [], true⟩, ⟨35, [103, 108, 111, 98, 97, 108, 46, 32, 103, 101, 116, 32, 115, 101, 116], 7, [], [], true⟩, ⟨40, [105, 51, 50, 46, 32, 108, 111, 97, 100], 8, [119], [119], false⟩, ⟨41, [105, 54, 52, 46, 32, 108, 111, 97, 100], 8, [119], [108], false⟩, ⟨44, [105, 51, 50, 46, 32, 108, 111, 97, 100, 56, 95, 115, 32, 108, 111, 97, 100, 56, 95, 117, 32, 108, 111, 97, 100, 49, 54, 95, 115, 32, 108, 111, 97, 100, 49, 54, 95, 117], 8, [119], [119], false⟩, ⟨48, [105, 54, 52, 46, 32, 108, 111, 97, 100, 56, 95, 115, 32, 108, 111, 97, 100, 56, 95, 117, 32, 108, 111, 97, 100, 49, 54, 95, 115, 32, 108, 111, 97, 100, 49, 54, 95, 117, 32, 108, 111, 97, 100, 51, 50, 95, 115, 32, 108, 111, 97, 100, 51, 50, 95, 117], 8, [119], [108], false⟩, ⟨54, [105, 51, 50, 46, 32, 115, 116, 111, 114, 101], 8, [119, 119], [], false⟩, ⟨55, [105, 54, 52, 46, 32, 115, 116, 111, 114, 101], 8, [119, 108], [], false⟩, ⟨58, [105, 51, 50, 46, 32, 115, 116, 111, 114, 101, 56, 32, 115, 116, 111, 114, 101, 49, 54], 8, [119, 119], [], false⟩, ⟨60, [105, 54, 52, 46, 32, 115, 116, 111, 114, 101, 56, 32, 115, 116, 111, 114, 101, 49, 54, 32, 115, 116, 111, 114, 101, 51, 50], 8, [119, 108], [], false⟩, ⟨63, [109, 101, 109, 111, 114, 121, 46, 32, 115, 105, 122, 101], 9, [], [119], false⟩, ⟨64, [109, 101, 109, 111, 114, 121, 46, 32, 103, 114, 111, 119], 9, [119], [119], false⟩, ⟨65, [105, 51, 50, 46, 32, 99, 111, 110, 115, 116], 10, [], [119], false⟩, ⟨66, [105, 54, 52, 46, 32, 99, 111, 110, 115, 116], 11, [], [108], false⟩, ⟨69, [105, 51, 50, 46, 32, 101, 113, 122], 0, [119], [119], false⟩, ⟨70, [105, 51, 50, 46, 32, 101, 113, 32, 110, 101, 32, 108, 116, 95, 115, 32, 108, 116, 95, 117, 32, 103, 116, 95, 115, 32, 103, 116, 95, 117, 32, 108, 101, 95, 115, 32, 108, 101, 95, 117, 32, 103, 101, 95, 115, 32, 103, 101, 95, 117], 0, [119, 119], [119], false⟩, ⟨80, [105, 54, 52, 46, 32, 101, 113, 122], 0, [108], [119], false⟩, ⟨81, [105, 54, 52, 46, 32, 101, 113, 32, 110, 101, 32, 108, 116, 95, 115, 32, 108, 116, 95, 117, 32, 103, 116, 95, 115, 32, 103, 116, 95, 117, 32, 108, 101, 95, 115, 32, 108, 101, 95, 117, 32, 103, 101, 95, 115, 32, 103, 101, 95, 117], 0, [108, 108], [119], false⟩, ⟨103, [105, 51, 50, 46, 32, 99, 108, 122, 32, 99, 116, 122, 32, 112, 111, 112, 99, 110, 116], 0, [119], [119], false⟩, ⟨106, [105, 51, 50, 46, 32, 97, 100, 100, 32, 115, 117, 98, 32, 109, 117, 108, 32, 100, 105, 118, 95, 115, 32, 100, 105, 118, 95, 117, 32, 114, 101, 109, 95, 115, 32, 114, 101, 109, 95, 117, 32, 97, 110, 100, 32, 111, 114, 32, 120, 111, 114, 32, 115, 104, 108, 32, 115, 104, 114, 95, 115, 32, 115, 104, 114, 95, 117, 32, 114, 111, 116, 108, 32, 114, 111, 116, 114], 0, [119, 119], [119], false⟩, ⟨121, [105, 54, 52, 46, 32, 99, 108, 122, 32, 99, 116, 122, 32, 112, 111, 112, 99, 110, 116], 0, [108], [108], false⟩, ⟨124, [105, 54, 52, 46, 32, 97, 100, 100, 32, 115, 117, 98, 32, 109, 117, 108, 32, 100, 105, 118, 95, 115, 32, 100, 105, 118, 95, 117, 32, 114, 101, 109, 95, 115, 32, 114, 101, 109, 95, 117, 32, 97, 110, 100, 32, 111, 114, 32, 120, 111, 114, 32, 115, 104, 108, 32, 115, 104, 114, 95, 115, 32, 115, 104, 114, 95, 117, 32, 114, 111, 116, 108, 32, 114, 111, 116, 114], 0, [108, 108], [108], false⟩, ⟨167, [105, 51, 50, 46, 32, 119, 114, 97, 112, 95, 105, 54, 52], 0, [108], [119], false⟩, ⟨172, [105, 54, 52, 46, 32, 101, 120, 116, 101, 110, 100, 95, 105, 51, 50, 95, 115, 32, 101, 120, 116, 101, 110, 100, 95, 105, 51, 50, 95, 117], 0, [119], [108], false⟩]
-- END LISTS

def acc0 : AccR := ⟨0, 0, false, false⟩
def accR (n : Nat) : AccR := if n < 40 then acc0 else tabA.getD (n - 40) acc0
def isAcc (n : Nat) : Bool := decide (0 < (accR n).n)
/-- The reference's word: what is still to come; f rounds are left. -/
def wordGo (s : List UInt8) : Nat → Nat → Int → Nat → Int → Option (List UInt8)
  | 0, _, _, _, _ => none
  | f + 1, i, head, frm, n =>
    if i < s.length ∧ s.getD i 0 ≠ 32 then wordGo s f (i + 1) head frm n
    else if head < 0 then wordGo s f (i + 1) i (i + 1) n
    else if n = 0 then some (s.take head.toNat ++ (s.drop frm).take (i - frm))
    else wordGo s f (i + 1) head (i + 1) (n - 1)
def wordR (s : List UInt8) (n : Int) : Option (List UInt8) := wordGo s (s.length + 1) 0 (-1) 0 n
def row0 : RowR := ⟨0, [], 0, [], [], false⟩
/-- The reference's Of, k rows are left. -/
def ofGo (n : Nat) : Nat → Option RowR
  | 0 => none
  | k + 1 =>
    let r := groupsL.getD k row0
    if r.op ≤ n then (match wordR r.name ((n : Int) - r.op) with | some s => some ⟨n, s, r.imm, r.takes, r.has, r.free⟩ | none => none) else ofGo n k
def refR (n : Nat) : Option RowR := ofGo n 35
def accStep (s : List UInt8) (n : Nat) (i : Nat) : Nat :=
  if i < 3 then n else if s.getD i 0 = 56 then 1 else if (s.drop i).take 2 = [49, 54] then 2 else if (s.drop i).take 2 = [51, 50] then 4 else n
def accLong (s : List UInt8) : Bool := s.take 3 == [105, 54, 52]
def accBytes (s : List UInt8) : Nat :=
  let n := (List.range (s.length - 1)).foldl (accStep s) (if accLong s = true then 8 else 4)
  if s.getD (s.length - 1) 0 = 56 then 1 else n
/-- The reference's Access: bytes, long, writes, signed. -/
def refAcc (n : Nat) : Option (Nat × Bool × Bool × Bool) :=
  match refR n with
  | some r => if r.imm = 8 then some (accBytes r.name, accLong r.name, decide (r.takes.length = 2), r.name.drop (r.name.length - 2) == [95, 115]) else none
  | none => none

def sameAcc (n : Nat) : Bool :=
  match refAcc n with
  | some (b, long, w, g) => isAcc n && accR n == ⟨b, if long then 126 else 127, w, g⟩
  | none => !isAcc n && accR n == acc0
theorem acc_all : ∀ n, n < 256 → sameAcc n = true := by decide +kernel
end Go.Proofs.YtakklljpngeocaaDoor
