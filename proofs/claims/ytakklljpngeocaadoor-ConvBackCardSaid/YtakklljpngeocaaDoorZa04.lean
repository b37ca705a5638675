/- creelref20: Read. (By gen/genCvE.py.) -/
import Derived.Test.YtakklljpngeocaaDoorZa02
import Derived.Test.YtakklljpngeocaaDoorZa03
import Derived.RegionTactic
import Derived.ChangeAlike
namespace Go.Proofs.YtakklljpngeocaaDoor
open Go.RowKit
set_option linter.unusedVariables false
set_option maxRecDepth 100000

/-- What an instruction reads of bytes: the type and the number; none. -/
def readN (long sg : Bool) (b : Nat) (l : List UInt8) : Nat :=
  if long then (if sg then extN (numB l) b else numB l) else (if sg then extN (numB l) b else numB l) % 2 ^ 32
def readZ (n : Nat) (l : List UInt8) : Option (Nat × Nat) :=
  match refAcc n with
  | some (b, long, wr, sg) => if wr = false ∧ l.length = b then some (if long then 126 else 127, readN long sg b l) else none
  | none => none
def readV (o : Option (Nat × Nat)) : Value := match o with
  | some (t, v) => .tuple #[valV t v, .bool true]
  | none => .tuple #[valV 0 0, .bool false]
/-- How many bytes an access has. -/
theorem acc_bytes : ∀ n, n < 256 → (match refAcc n with | some (b, _, _, _) => decide (1 ≤ b ∧ b ≤ 8) | none => true) = true := by decide +kernel
theorem extN_lt (x n : Nat) (hx : x < 18446744073709551616) (h1 : 1 ≤ n) (h8 : n ≤ 8) : extN x n < 18446744073709551616 := by
  have h : 2 ^ (8 * n) ≤ 2 ^ 64 := Nat.pow_le_pow_right (by decide) (by omega)
  have hp := Nat.two_pow_pos (8 * n)
  have hm := Nat.mod_lt x hp
  have e : (2 : Nat) ^ 64 = 18446744073709551616 := by decide
  unfold extN
  split <;> omega
theorem numB_lt8 (l : List UInt8) (h : l.length ≤ 8) : numB l < 18446744073709551616 := by
  have h1 := numB_lt l
  have h2 : 256 ^ l.length ≤ 256 ^ 8 := Nat.pow_le_pow_right (by decide) h
  exact Nat.lt_of_lt_of_le h1 h2
/-- A value laid into the result's block. -/
theorem valput_cv {w : World} {g : Nat} (hW : Whole w g 25 #[.int .u8 0, .int .u64 0]) (t v : Int) : Whole ((w.setCell ⟨g, 0, none⟩ (.int .u8 t)).setCell ⟨g, 1, none⟩ (.int .u64 v)) g 25 #[.int .u8 t, .int .u64 v] := by
  have h := (hW.put 0 (.int .u8 t)).put 1 (.int .u64 v)
  simpa using h
theorem readBA {w : World} (op : Int) (b : Nat) (long wr sg : Bool) (l : List UInt8) 
    (hA : ∀ W, Calls Tryd.prog 18 #[.int .i64 op] W fun e w' => e = .returned (.tuple #[.int .i64 b, .bool long, .bool wr, .bool sg, .bool false]) ∧ Below W.heap.size W w') :
    Calls Tryd.prog 16 #[.int .i64 op, .string (S l)] w fun e w' => e = .returned (.tuple #[valV 0 0, .bool false]) ∧ Below w.heap.size w w' := by
  have HA := Lib.hid hA
  clear hA
  have HV := Lib.hid (Whole.made w 25 #[.int .u8 0, .int .u64 0])
  go_enter Tryd.func16, Tryd.ntmps16
  go_wp2_with (go_at_call 18; (with_reducible refine (HA.out _).mono ?_); rintro e w1 ⟨rfl, hb1⟩; have HW := Lib.hid (HV.out.below hb1); have c0 := HW.out.cell 0; have c1 := HW.out.cell 1; simp only [List.getElem?_toArray, List.getElem?_cons_zero, List.getElem?_cons_succ] at c0 c1; have f0 := HW.out.frozen 0; have f1 := HW.out.frozen 1; have HB1 := Lib.hid (((Below.refl w.heap.size w).alloc (Nat.le_refl _) _).trans (hb1.mono (by simp))); clear hb1)
  have p2 := valput_cv HW.out 0 0
  have q0 := p2.cell 0
  have q1 := p2.cell 1
  simp only [List.getElem?_toArray, List.getElem?_cons_zero, List.getElem?_cons_succ] at q0 q1
  exact bodyPost_ret (v := .tuple #[valV 0 0, .bool false]) (by simp [results, Tryd.results16, go_sem, q0, q1]) rfl ⟨rfl, (HB1.out.setCell (Nat.le_refl _) _).setCell (Nat.le_refl _) _⟩
theorem readBB {w : World} (op : Int) (b : Nat) (long sg : Bool) (l : List UInt8) 
    (hA : ∀ W, Calls Tryd.prog 18 #[.int .i64 op] W fun e w' => e = .returned (.tuple #[.int .i64 b, .bool long, .bool true, .bool sg, .bool true]) ∧ Below W.heap.size W w') :
    Calls Tryd.prog 16 #[.int .i64 op, .string (S l)] w fun e w' => e = .returned (.tuple #[valV 0 0, .bool false]) ∧ Below w.heap.size w w' := by
  have HA := Lib.hid hA
  clear hA
  have HV := Lib.hid (Whole.made w 25 #[.int .u8 0, .int .u64 0])
  go_enter Tryd.func16, Tryd.ntmps16
  go_wp2_with (go_at_call 18; (with_reducible refine (HA.out _).mono ?_); rintro e w1 ⟨rfl, hb1⟩; have HW := Lib.hid (HV.out.below hb1); have c0 := HW.out.cell 0; have c1 := HW.out.cell 1; simp only [List.getElem?_toArray, List.getElem?_cons_zero, List.getElem?_cons_succ] at c0 c1; have f0 := HW.out.frozen 0; have f1 := HW.out.frozen 1; have HB1 := Lib.hid (((Below.refl w.heap.size w).alloc (Nat.le_refl _) _).trans (hb1.mono (by simp))); clear hb1)
  have p2 := valput_cv HW.out 0 0
  have q0 := p2.cell 0
  have q1 := p2.cell 1
  simp only [List.getElem?_toArray, List.getElem?_cons_zero, List.getElem?_cons_succ] at q0 q1
  exact bodyPost_ret (v := .tuple #[valV 0 0, .bool false]) (by simp [results, Tryd.results16, go_sem, q0, q1]) rfl ⟨rfl, (HB1.out.setCell (Nat.le_refl _) _).setCell (Nat.le_refl _) _⟩
theorem readBC {w : World} (op : Int) (b : Nat) (long sg : Bool) (l : List UInt8) (hl : l.length ≠ b)
    (hA : ∀ W, Calls Tryd.prog 18 #[.int .i64 op] W fun e w' => e = .returned (.tuple #[.int .i64 b, .bool long, .bool false, .bool sg, .bool true]) ∧ Below W.heap.size W w') :
    Calls Tryd.prog 16 #[.int .i64 op, .string (S l)] w fun e w' => e = .returned (.tuple #[valV 0 0, .bool false]) ∧ Below w.heap.size w w' := by
  have HA := Lib.hid hA
  clear hA
  have HV := Lib.hid (Whole.made w 25 #[.int .u8 0, .int .u64 0])
  have dl : (((S l).size : Int) != (b : Int)) = true := by rw [S_size]; simp; omega
  go_enter Tryd.func16, Tryd.ntmps16
  go_wp2_with (go_at_call 18; (with_reducible refine (HA.out _).mono ?_); rintro e w1 ⟨rfl, hb1⟩; have HW := Lib.hid (HV.out.below hb1); have c0 := HW.out.cell 0; have c1 := HW.out.cell 1; simp only [List.getElem?_toArray, List.getElem?_cons_zero, List.getElem?_cons_succ] at c0 c1; have f0 := HW.out.frozen 0; have f1 := HW.out.frozen 1; have HB1 := Lib.hid (((Below.refl w.heap.size w).alloc (Nat.le_refl _) _).trans (hb1.mono (by simp))); clear hb1)
  have p2 := valput_cv HW.out 0 0
  have q0 := p2.cell 0
  have q1 := p2.cell 1
  simp only [List.getElem?_toArray, List.getElem?_cons_zero, List.getElem?_cons_succ] at q0 q1
  exact bodyPost_ret (v := .tuple #[valV 0 0, .bool false]) (by simp [results, Tryd.results16, go_sem, q0, q1]) rfl ⟨rfl, (HB1.out.setCell (Nat.le_refl _) _).setCell (Nat.le_refl _) _⟩
theorem readY_true_true {w : World} (op : Int) (b : Nat) (l : List UInt8) (hl : l.length = b) (h1 : 1 ≤ b) (h8 : b ≤ 8)
    (hA : ∀ W, Calls Tryd.prog 18 #[.int .i64 op] W fun e w' => e = .returned (.tuple #[.int .i64 b, .bool true, .bool false, .bool true, .bool true]) ∧ Below W.heap.size W w') :
    Calls Tryd.prog 16 #[.int .i64 op, .string (S l)] w fun e w' => e = .returned (.tuple #[valV 126 (readN true true b l : Nat), .bool true]) ∧ Below w.heap.size w w' := by
  have HA := Lib.hid hA
  clear hA
  have HV := Lib.hid (Whole.made w 25 #[.int .u8 0, .int .u64 0])
  have dl : (((S l).size : Int) != (b : Int)) = false := by rw [S_size]; simp; omega
  have HN := Lib.hid (fun W => numberB l W (by omega))
  rw [List.take_of_length_le (by omega)] at HN
  have hn := numB_lt8 l (by omega)
  have he := extN_lt (numB l) b hn h1 h8
  have HE := Lib.hid (fun W => ext_in (numB l) b W hn h1 h8)
  have HL := Lib.hid (fun W => show Calls Tryd.prog 20 #[.int .u64 ((extN (numB l) b) : Nat), .int .i64 32] W (fun e w' => e = .returned (.int .u64 (((extN (numB l) b) % 2 ^ 32 : Nat) : Int)) ∧ W = w') from low_any (extN (numB l) b) 32 W he (by omega))
  unfold readN
  generalize extN (numB l) b = x at *
  generalize numB l = v at *
  try simp only [if_true, if_false, Bool.false_eq_true]
  go_enter Tryd.func16, Tryd.ntmps16
  go_wp2_with (first | (go_at_call 18; (with_reducible refine (HA.out _).mono ?_); rintro e w1 ⟨rfl, hb1⟩; have HW := Lib.hid (HV.out.below hb1); have c0 := HW.out.cell 0; have c1 := HW.out.cell 1; simp only [List.getElem?_toArray, List.getElem?_cons_zero, List.getElem?_cons_succ] at c0 c1; have f0 := HW.out.frozen 0; have f1 := HW.out.frozen 1; have HB1 := Lib.hid (((Below.refl w.heap.size w).alloc (Nat.le_refl _) _).trans (hb1.mono (by simp))); clear hb1) | (go_at_call 14; (with_reducible refine (HN.out _).mono ?_); rintro e w2 ⟨rfl, rfl⟩) | (go_at_call 11; (with_reducible refine (HE.out _).mono ?_); rintro e w2 ⟨rfl, rfl⟩) | (go_at_call 20; (with_reducible refine (HL.out _).mono ?_); rintro e w2 ⟨rfl, rfl⟩))
  have p2 := valput_cv HW.out 126 x
  have q0 := p2.cell 0
  have q1 := p2.cell 1
  simp only [List.getElem?_toArray, List.getElem?_cons_zero, List.getElem?_cons_succ] at q0 q1
  exact bodyPost_ret (v := .tuple #[valV 126 x, .bool true]) (by simp [results, Tryd.results16, go_sem, q0, q1]) rfl ⟨rfl, (HB1.out.setCell (Nat.le_refl _) _).setCell (Nat.le_refl _) _⟩
theorem readY_true_false {w : World} (op : Int) (b : Nat) (l : List UInt8) (hl : l.length = b) (h1 : 1 ≤ b) (h8 : b ≤ 8)
    (hA : ∀ W, Calls Tryd.prog 18 #[.int .i64 op] W fun e w' => e = .returned (.tuple #[.int .i64 b, .bool true, .bool false, .bool false, .bool true]) ∧ Below W.heap.size W w') :
    Calls Tryd.prog 16 #[.int .i64 op, .string (S l)] w fun e w' => e = .returned (.tuple #[valV 126 (readN true false b l : Nat), .bool true]) ∧ Below w.heap.size w w' := by
  have HA := Lib.hid hA
  clear hA
  have HV := Lib.hid (Whole.made w 25 #[.int .u8 0, .int .u64 0])
  have dl : (((S l).size : Int) != (b : Int)) = false := by rw [S_size]; simp; omega
  have HN := Lib.hid (fun W => numberB l W (by omega))
  rw [List.take_of_length_le (by omega)] at HN
  have hn := numB_lt8 l (by omega)
  have he := extN_lt (numB l) b hn h1 h8
  have HE := Lib.hid (fun W => ext_in (numB l) b W hn h1 h8)
  have HL := Lib.hid (fun W => show Calls Tryd.prog 20 #[.int .u64 ((numB l) : Nat), .int .i64 32] W (fun e w' => e = .returned (.int .u64 (((numB l) % 2 ^ 32 : Nat) : Int)) ∧ W = w') from low_any (numB l) 32 W hn (by omega))
  unfold readN
  generalize extN (numB l) b = x at *
  generalize numB l = v at *
  try simp only [if_true, if_false, Bool.false_eq_true]
  go_enter Tryd.func16, Tryd.ntmps16
  go_wp2_with (first | (go_at_call 18; (with_reducible refine (HA.out _).mono ?_); rintro e w1 ⟨rfl, hb1⟩; have HW := Lib.hid (HV.out.below hb1); have c0 := HW.out.cell 0; have c1 := HW.out.cell 1; simp only [List.getElem?_toArray, List.getElem?_cons_zero, List.getElem?_cons_succ] at c0 c1; have f0 := HW.out.frozen 0; have f1 := HW.out.frozen 1; have HB1 := Lib.hid (((Below.refl w.heap.size w).alloc (Nat.le_refl _) _).trans (hb1.mono (by simp))); clear hb1) | (go_at_call 14; (with_reducible refine (HN.out _).mono ?_); rintro e w2 ⟨rfl, rfl⟩) | (go_at_call 11; (with_reducible refine (HE.out _).mono ?_); rintro e w2 ⟨rfl, rfl⟩) | (go_at_call 20; (with_reducible refine (HL.out _).mono ?_); rintro e w2 ⟨rfl, rfl⟩))
  have p2 := valput_cv HW.out 126 v
  have q0 := p2.cell 0
  have q1 := p2.cell 1
  simp only [List.getElem?_toArray, List.getElem?_cons_zero, List.getElem?_cons_succ] at q0 q1
  exact bodyPost_ret (v := .tuple #[valV 126 v, .bool true]) (by simp [results, Tryd.results16, go_sem, q0, q1]) rfl ⟨rfl, (HB1.out.setCell (Nat.le_refl _) _).setCell (Nat.le_refl _) _⟩
theorem readY_false_true {w : World} (op : Int) (b : Nat) (l : List UInt8) (hl : l.length = b) (h1 : 1 ≤ b) (h8 : b ≤ 8)
    (hA : ∀ W, Calls Tryd.prog 18 #[.int .i64 op] W fun e w' => e = .returned (.tuple #[.int .i64 b, .bool false, .bool false, .bool true, .bool true]) ∧ Below W.heap.size W w') :
    Calls Tryd.prog 16 #[.int .i64 op, .string (S l)] w fun e w' => e = .returned (.tuple #[valV 127 (readN false true b l : Nat), .bool true]) ∧ Below w.heap.size w w' := by
  have HA := Lib.hid hA
  clear hA
  have HV := Lib.hid (Whole.made w 25 #[.int .u8 0, .int .u64 0])
  have dl : (((S l).size : Int) != (b : Int)) = false := by rw [S_size]; simp; omega
  have HN := Lib.hid (fun W => numberB l W (by omega))
  rw [List.take_of_length_le (by omega)] at HN
  have hn := numB_lt8 l (by omega)
  have he := extN_lt (numB l) b hn h1 h8
  have HE := Lib.hid (fun W => ext_in (numB l) b W hn h1 h8)
  have HL := Lib.hid (fun W => show Calls Tryd.prog 20 #[.int .u64 ((extN (numB l) b) : Nat), .int .i64 32] W (fun e w' => e = .returned (.int .u64 (((extN (numB l) b) % 2 ^ 32 : Nat) : Int)) ∧ W = w') from low_any (extN (numB l) b) 32 W he (by omega))
  unfold readN
  generalize extN (numB l) b = x at *
  generalize numB l = v at *
  try simp only [if_true, if_false, Bool.false_eq_true]
  generalize x % 2 ^ 32 = z at *
  go_enter Tryd.func16, Tryd.ntmps16
  go_wp2_with (first | (go_at_call 18; (with_reducible refine (HA.out _).mono ?_); rintro e w1 ⟨rfl, hb1⟩; have HW := Lib.hid (HV.out.below hb1); have c0 := HW.out.cell 0; have c1 := HW.out.cell 1; simp only [List.getElem?_toArray, List.getElem?_cons_zero, List.getElem?_cons_succ] at c0 c1; have f0 := HW.out.frozen 0; have f1 := HW.out.frozen 1; have HB1 := Lib.hid (((Below.refl w.heap.size w).alloc (Nat.le_refl _) _).trans (hb1.mono (by simp))); clear hb1) | (go_at_call 14; (with_reducible refine (HN.out _).mono ?_); rintro e w2 ⟨rfl, rfl⟩) | (go_at_call 11; (with_reducible refine (HE.out _).mono ?_); rintro e w2 ⟨rfl, rfl⟩) | (go_at_call 20; (with_reducible refine (HL.out _).mono ?_); rintro e w2 ⟨rfl, rfl⟩))
  have p2 := valput_cv HW.out 127 z
  have q0 := p2.cell 0
  have q1 := p2.cell 1
  simp only [List.getElem?_toArray, List.getElem?_cons_zero, List.getElem?_cons_succ] at q0 q1
  exact bodyPost_ret (v := .tuple #[valV 127 z, .bool true]) (by simp [results, Tryd.results16, go_sem, q0, q1]) rfl ⟨rfl, (HB1.out.setCell (Nat.le_refl _) _).setCell (Nat.le_refl _) _⟩
theorem readY_false_false {w : World} (op : Int) (b : Nat) (l : List UInt8) (hl : l.length = b) (h1 : 1 ≤ b) (h8 : b ≤ 8)
    (hA : ∀ W, Calls Tryd.prog 18 #[.int .i64 op] W fun e w' => e = .returned (.tuple #[.int .i64 b, .bool false, .bool false, .bool false, .bool true]) ∧ Below W.heap.size W w') :
    Calls Tryd.prog 16 #[.int .i64 op, .string (S l)] w fun e w' => e = .returned (.tuple #[valV 127 (readN false false b l : Nat), .bool true]) ∧ Below w.heap.size w w' := by
  have HA := Lib.hid hA
  clear hA
  have HV := Lib.hid (Whole.made w 25 #[.int .u8 0, .int .u64 0])
  have dl : (((S l).size : Int) != (b : Int)) = false := by rw [S_size]; simp; omega
  have HN := Lib.hid (fun W => numberB l W (by omega))
  rw [List.take_of_length_le (by omega)] at HN
  have hn := numB_lt8 l (by omega)
  have he := extN_lt (numB l) b hn h1 h8
  have HE := Lib.hid (fun W => ext_in (numB l) b W hn h1 h8)
  have HL := Lib.hid (fun W => show Calls Tryd.prog 20 #[.int .u64 ((numB l) : Nat), .int .i64 32] W (fun e w' => e = .returned (.int .u64 (((numB l) % 2 ^ 32 : Nat) : Int)) ∧ W = w') from low_any (numB l) 32 W hn (by omega))
  unfold readN
  generalize extN (numB l) b = x at *
  generalize numB l = v at *
  try simp only [if_true, if_false, Bool.false_eq_true]
  generalize v % 2 ^ 32 = z at *
  go_enter Tryd.func16, Tryd.ntmps16
  go_wp2_with (first | (go_at_call 18; (with_reducible refine (HA.out _).mono ?_); rintro e w1 ⟨rfl, hb1⟩; have HW := Lib.hid (HV.out.below hb1); have c0 := HW.out.cell 0; have c1 := HW.out.cell 1; simp only [List.getElem?_toArray, List.getElem?_cons_zero, List.getElem?_cons_succ] at c0 c1; have f0 := HW.out.frozen 0; have f1 := HW.out.frozen 1; have HB1 := Lib.hid (((Below.refl w.heap.size w).alloc (Nat.le_refl _) _).trans (hb1.mono (by simp))); clear hb1) | (go_at_call 14; (with_reducible refine (HN.out _).mono ?_); rintro e w2 ⟨rfl, rfl⟩) | (go_at_call 11; (with_reducible refine (HE.out _).mono ?_); rintro e w2 ⟨rfl, rfl⟩) | (go_at_call 20; (with_reducible refine (HL.out _).mono ?_); rintro e w2 ⟨rfl, rfl⟩))
  have p2 := valput_cv HW.out 127 z
  have q0 := p2.cell 0
  have q1 := p2.cell 1
  simp only [List.getElem?_toArray, List.getElem?_cons_zero, List.getElem?_cons_succ] at q0 q1
  exact bodyPost_ret (v := .tuple #[valV 127 z, .bool true]) (by simp [results, Tryd.results16, go_sem, q0, q1]) rfl ⟨rfl, (HB1.out.setCell (Nat.le_refl _) _).setCell (Nat.le_refl _) _⟩
theorem refRead_any (n : Nat) (l : List UInt8) (w : World) (hn : n ≤ 255) (hl : l.length ≤ 9223372036854775807) : Calls Tryd.prog 16 #[.int .i64 n, .string (S l)] w fun e w' => e = .returned (readV (readZ n l)) ∧ Below w.heap.size w w' := by
  have hA := fun W => refAccess_any n W hn
  have hb := acc_bytes n (by omega)
  unfold readZ
  cases h : refAcc n with
  | none =>
    rw [h] at hA
    exact readBA (n : Int) 0 false false false l hA
  | some x =>
    obtain ⟨b, long, wr, sg⟩ := x
    rw [h] at hA hb
    simp only [decide_eq_true_eq] at hb
    show Calls _ _ _ _ fun e w' => e = .returned (readV (if wr = false ∧ l.length = b then _ else _)) ∧ _
    by_cases hc : wr = false ∧ l.length = b
    · rw [if_pos hc]
      obtain ⟨rfl, hlb⟩ := hc
      cases long <;> cases sg
      · exact readY_false_false (n : Int) b l hlb hb.1 hb.2 hA
      · exact readY_false_true (n : Int) b l hlb hb.1 hb.2 hA
      · exact readY_true_false (n : Int) b l hlb hb.1 hb.2 hA
      · exact readY_true_true (n : Int) b l hlb hb.1 hb.2 hA
    · rw [if_neg hc]
      cases wr with
      | true => exact readBB (n : Int) b long sg l hA
      | false => exact readBC (n : Int) b long sg l (fun h => hc ⟨rfl, h⟩) hA
end Go.Proofs.YtakklljpngeocaaDoor

/- AccessOf, immOf, Opens, accessTypes, typesOf, float, Check, Of. -/
namespace Go.Proofs.YtakklljpngeocaaDoor
set_option linter.unusedVariables false
open Go.RowKit

theorem acc_get (l : List AccR) (i : Nat) (h : i < l.length) : (accCells l)[i * 4]? = some (.int .i64 (l.getD i acc0).n) ∧ (accCells l)[i * 4 + 1]? = some (.int .u8 (l.getD i acc0).t) ∧ (accCells l)[i * 4 + 2]? = some (.bool (l.getD i acc0).wr) ∧ (accCells l)[i * 4 + 3]? = some (.bool (l.getD i acc0).sg) := by
  unfold accCells
  simp only [List.getElem?_toArray]
  induction l generalizing i with
  | nil => simp at h
  | cons x r ih =>
    cases i with
    | zero => exact ⟨rfl, rfl, rfl, rfl⟩
    | succ i =>
      have := ih i (by simpa using h)
      have e : (i + 1) * 4 = i * 4 + 1 + 1 + 1 + 1 := by omega
      rw [e]
      exact this
theorem acc_cell {w : World} (h : ∃ t fr, w.heap[0]? = some (.cells (accCells tabA) t fr)) (i : Nat) (hi : i < 23) :
    w.cell? ⟨0, i * 4, none⟩ = some (.int .i64 (tabA.getD i acc0).n) ∧ w.cell? ⟨0, i * 4 + 1, none⟩ = some (.int .u8 (tabA.getD i acc0).t) ∧
    w.cell? ⟨0, i * 4 + 2, none⟩ = some (.bool (tabA.getD i acc0).wr) ∧ w.cell? ⟨0, i * 4 + 3, none⟩ = some (.bool (tabA.getD i acc0).sg) := by
  obtain ⟨t, fr, h⟩ := h
  obtain ⟨a, b, c, d⟩ := acc_get tabA i hi
  refine ⟨?_, ?_, ?_, ?_⟩ <;> rw [cell_of_row w _ _ _ t fr h] <;> assumption
/-- What AccessOf hands back. -/
abbrev accV (n : Nat) : Value := .tuple #[.agg #[.int .i64 (accR n).n, .int .u8 (accR n).t, .bool (accR n).wr, .bool (accR n).sg], .bool (isAcc n)]
theorem access_no (n : Nat) (w : World) (hn : n ≤ 255) (h : n < 40 ∨ 63 ≤ n) : Calls Tryd.prog 21 #[.int .u8 n] w fun e w' => e = .returned (accV n) ∧ Below w.heap.size w w' := by
  have e0 : accR n = acc0 := by
    unfold accR
    split
    · rfl
    · rw [List.getD, List.getElem?_eq_none (by show 23 ≤ _; omega)]; rfl
  have e1 : isAcc n = false := by unfold isAcc; rw [e0]; rfl
  have HE := Lib.hid (show accV n = .tuple #[.agg #[.int .i64 0, .int .u8 0, .bool false, .bool false], .bool false] by unfold accV; rw [e0, e1]; rfl)
  clear e0 e1
  rcases h with h | h
  · have d0 : decide ((n : Int) - 40 < 0) = true := by simp; omega
    go_enter Tryd.func21, Tryd.ntmps21
    go_wp2
    exact bodyPost_ret (v := .tuple #[.agg #[.int .i64 0, .int .u8 0, .bool false, .bool false], .bool false]) (by simp [results, Tryd.results21, go_sem]) rfl ⟨by rw [HE.out], (Below.refl _ _).alloc (Nat.le_refl _) _⟩
  · have d0 : decide ((n : Int) - 40 < 0) = false := by simp; omega
    go_enter Tryd.func21, Tryd.ntmps21
    go_wp2
    exact bodyPost_ret (v := .tuple #[.agg #[.int .i64 0, .int .u8 0, .bool false, .bool false], .bool false]) (by simp [results, Tryd.results21, go_sem]) rfl ⟨by rw [HE.out], (Below.refl _ _).alloc (Nat.le_refl _) _⟩
/-- The table of accesses alone. -/
def TabA (w : World) : Prop := ∃ t fr, w.heap[0]? = some (.cells (accCells tabA) t fr)
theorem TabA.below {w w' : World} (h : TabA w) (hb : Below w.heap.size w w') : TabA w' := tab_below h hb
theorem accessA_yes (n : Nat) (w : World) (hT : TabA w) (h1 : 40 ≤ n) (h2 : n < 63) : Calls Tryd.prog 21 #[.int .u8 n] w fun e w' => e = .returned (accV n) ∧ Below w.heap.size w w' := by
  obtain ⟨c0, c1, c2, c3⟩ := acc_cell hT (n - 40) (by omega)
  have e0 : accR n = tabA.getD (n - 40) acc0 := by unfold accR; rw [if_neg (by omega)]
  rw [← e0] at c0 c1 c2 c3
  have HE := Lib.hid (show isAcc n = decide (0 < (accR n).n) from rfl)
  have HV := Lib.hid (show accV n = .tuple #[.agg #[.int .i64 (accR n).n, .int .u8 (accR n).t, .bool (accR n).wr, .bool (accR n).sg], .bool (isAcc n)] from rfl)
  clear e0
  obtain ⟨a, ha⟩ : ∃ a, a = accR n := ⟨_, rfl⟩
  rw [← ha] at c0 c1 c2 c3 HE HV
  clear ha
  have hz : 0 < w.heap.size := by obtain ⟨t, fr, h⟩ := hT; exact (Array.getElem?_eq_some_iff.1 h).1
  clear hT
  have d0 : decide ((n : Int) - 40 < 0) = false := by simp; omega
  have d1 : decide (23 ≤ (n : Int) - 40) = false := by simp; omega
  go_enter Tryd.func21, Tryd.ntmps21
  go_wp2
  go_region
  all_goals
    go_wp2
    exact bodyPost_ret (v := .tuple #[.agg #[.int .i64 a.n, .int .u8 a.t, .bool a.wr, .bool a.sg], .bool (decide (0 < a.n))]) (by simp [results, Tryd.results21, go_sem]) rfl ⟨by rw [HV.out, HE.out], (((Below.refl _ _).alloc (Nat.le_refl _) _).alloc (by simp) _).drew⟩
theorem accessA_any (n : Nat) (w : World) (hT : TabA w) (hn : n ≤ 255) : Calls Tryd.prog 21 #[.int .u8 n] w fun e w' => e = .returned (accV n) ∧ Below w.heap.size w w' := by
  by_cases h : n < 40 ∨ 63 ≤ n
  · exact access_no n w hn h
  · exact accessA_yes n w hT (by omega) (by omega)
end Go.Proofs.YtakklljpngeocaaDoor

/- The program's Do, Read, Write, as plain functions. (By gen/genCpC.py.) -/
namespace Go.Proofs.YtakklljpngeocaaDoor
open Go.RowKit
set_option linter.unusedVariables false
set_option maxRecDepth 100000

/-- What a conversion makes: the type and the number; none. -/
def doZ (op x : Nat) : Option (Nat × Nat) := if op = 167 then some (127, x % 2 ^ 32) else if op = 172 then some (126, extN x 4) else if op = 173 then some (126, x % 2 ^ 32) else none
theorem refDo_any (op x : Nat) (w : World) (hx : x < 18446744073709551616) : Calls Tryd.prog 8 #[.int .i64 op, .int .u64 x] w fun e w' => e = .returned (readV (doZ op x)) ∧ Below w.heap.size w w' := by
  unfold doZ
  by_cases h0 : op = 167
  · subst h0; exact do0 x w hx
  by_cases h1 : op = 172
  · subst h1; exact do1 x w hx
  by_cases h2 : op = 173
  · subst h2; exact do2 x w hx
  · rw [if_neg h0, if_neg h1, if_neg h2]
    exact doNo (op : Int) x w (by omega) (by omega) (by omega)
set_option maxHeartbeats 1000000 in
theorem doP0 (x : Nat) (w : World) (hx : x < 18446744073709551616) : Calls Tryd.prog 7 #[.int .u8 167, .int .u64 x] w fun e w' => e = .returned (.tuple #[valV 127 (x % 2 ^ 32 : Nat), .bool true]) ∧ Below w.heap.size w w' := by
  obtain ⟨R, hR⟩ : ∃ R : Nat, R = x % 2 ^ 32 := ⟨_, rfl⟩
  rw [← hR]
  have HL := Lib.hid (fun W => show Calls Tryd.prog 19 #[.int .u64 x] W (fun e w' => e = .returned (.int .u64 (R : Int)) ∧ W = w') from by rw [hR]; exact lowP x W hx)
  clear hR
  go_enter Tryd.func7, Tryd.ntmps7
  go_wp2_with (go_at_call 19; (with_reducible refine (HL.out _).mono ?_); rintro e w1 ⟨rfl, rfl⟩)
  have p2 := Whole.made w 25 #[.int .u8 127, .int .u64 R]
  have q0 := p2.cell 0
  have q1 := p2.cell 1
  simp only [List.getElem?_toArray, List.getElem?_cons_zero, List.getElem?_cons_succ] at q0 q1
  exact bodyPost_ret (v := .tuple #[valV 127 R, .bool true]) (by simp [results, Tryd.results7, go_sem, q0, q1]) rfl ⟨rfl, below_box _ _⟩
set_option maxHeartbeats 1000000 in
theorem doP1 (x : Nat) (w : World) (hx : x < 18446744073709551616) : Calls Tryd.prog 7 #[.int .u8 172, .int .u64 x] w fun e w' => e = .returned (.tuple #[valV 126 (extN x 4 : Nat), .bool true]) ∧ Below w.heap.size w w' := by
  obtain ⟨R, hR⟩ : ∃ R : Nat, R = extN x 4 := ⟨_, rfl⟩
  rw [← hR]
  have HL := Lib.hid (fun W => show Calls Tryd.prog 10 #[.int .u64 x, .int .i64 4] W (fun e w' => e = .returned (.int .u64 (R : Int)) ∧ W = w') from by rw [hR]; exact extendP x 4 W hx)
  clear hR
  go_enter Tryd.func7, Tryd.ntmps7
  go_wp2_with (go_at_call 10; (with_reducible refine (HL.out _).mono ?_); rintro e w1 ⟨rfl, rfl⟩)
  have p2 := Whole.made w 25 #[.int .u8 126, .int .u64 R]
  have q0 := p2.cell 0
  have q1 := p2.cell 1
  simp only [List.getElem?_toArray, List.getElem?_cons_zero, List.getElem?_cons_succ] at q0 q1
  exact bodyPost_ret (v := .tuple #[valV 126 R, .bool true]) (by simp [results, Tryd.results7, go_sem, q0, q1]) rfl ⟨rfl, below_box _ _⟩
set_option maxHeartbeats 1000000 in
theorem doP2 (x : Nat) (w : World) (hx : x < 18446744073709551616) : Calls Tryd.prog 7 #[.int .u8 173, .int .u64 x] w fun e w' => e = .returned (.tuple #[valV 126 (x % 2 ^ 32 : Nat), .bool true]) ∧ Below w.heap.size w w' := by
  obtain ⟨R, hR⟩ : ∃ R : Nat, R = x % 2 ^ 32 := ⟨_, rfl⟩
  rw [← hR]
  have HL := Lib.hid (fun W => show Calls Tryd.prog 19 #[.int .u64 x] W (fun e w' => e = .returned (.int .u64 (R : Int)) ∧ W = w') from by rw [hR]; exact lowP x W hx)
  clear hR
  go_enter Tryd.func7, Tryd.ntmps7
  go_wp2_with (go_at_call 19; (with_reducible refine (HL.out _).mono ?_); rintro e w1 ⟨rfl, rfl⟩)
  have p2 := Whole.made w 25 #[.int .u8 126, .int .u64 R]
  have q0 := p2.cell 0
  have q1 := p2.cell 1
  simp only [List.getElem?_toArray, List.getElem?_cons_zero, List.getElem?_cons_succ] at q0 q1
  exact bodyPost_ret (v := .tuple #[valV 126 R, .bool true]) (by simp [results, Tryd.results7, go_sem, q0, q1]) rfl ⟨rfl, below_box _ _⟩
theorem doPNo (op x : Nat) (w : World) (h0 : op ≠ 167) (h1 : op ≠ 172) (h2 : op ≠ 173) : Calls Tryd.prog 7 #[.int .u8 op, .int .u64 x] w fun e w' => e = .returned (.tuple #[valV 0 0, .bool false]) ∧ Below w.heap.size w w' := by
  have d0 : ((op : Int) == 167) = false := by simp; omega
  have d1 : ((op : Int) == 172) = false := by simp; omega
  have d2 : ((op : Int) == 173) = false := by simp; omega
  clear h0 h1 h2
  go_enter Tryd.func7, Tryd.ntmps7
  go_wp2
  have p2 := Whole.made w 25 #[.int .u8 0, .int .u64 0]
  have q0 := p2.cell 0
  have q1 := p2.cell 1
  simp only [List.getElem?_toArray, List.getElem?_cons_zero, List.getElem?_cons_succ] at q0 q1
  exact bodyPost_ret (v := .tuple #[valV 0 0, .bool false]) (by simp [results, Tryd.results7, go_sem, q0, q1]) rfl ⟨rfl, below_box _ _⟩
theorem doP_any (op x : Nat) (w : World) (hx : x < 18446744073709551616) : Calls Tryd.prog 7 #[.int .u8 op, .int .u64 x] w fun e w' => e = .returned (readV (doZ op x)) ∧ Below w.heap.size w w' := by
  unfold doZ
  by_cases h0 : op = 167
  · subst h0; exact doP0 x w hx
  by_cases h1 : op = 172
  · subst h1; exact doP1 x w hx
  by_cases h2 : op = 173
  · subst h2; exact doP2 x w hx
  · rw [if_neg h0, if_neg h1, if_neg h2]
    exact doPNo op x w h0 h1 h2
theorem TabA.alloc {w : World} (h : TabA w) (o : Obj) : TabA (w.alloc o) := h.below ((Below.refl _ _).alloc (Nat.le_refl _) _)
theorem readPA {w : World} (op : Int) (b t : Nat) (wr sg : Bool) (l : List UInt8)  (A : Option Addr) (c B : Nat) (hL : Lies w B A (cells (nums l))) (hB : B ≤ w.heap.size) (hT : TabA w)
    (hA : ∀ W, TabA W → Calls Tryd.prog 21 #[.int .u8 op] W fun e w' => e = .returned (.tuple #[.agg #[.int .i64 b, .int .u8 t, .bool wr, .bool sg], .bool false]) ∧ Below W.heap.size W w') :
    Calls Tryd.prog 15 #[.int .u8 op, .slice A l.length c] w fun e w' => e = .returned (.tuple #[valV 0 0, .bool false]) ∧ Below w.heap.size w w' := by
  have HA := Lib.hid hA
  have HT := Lib.hid hT
  have HV := Lib.hid (Whole.made w 25 #[.int .u8 0, .int .u64 0])
  clear hA hT
  go_enter Tryd.func15, Tryd.ntmps15
  go_wp2_with (go_at_call 21; (with_reducible refine (HA.out _ (HT.out.alloc _)).mono ?_); rintro e w1 ⟨rfl, hb1⟩; have HW := Lib.hid ((HV.out.below hb1).alloc (.cells #[.int .i64 b, .int .u8 t, .bool wr, .bool sg] 47)); have HX := Lib.hid (Whole.made w1 47 #[.int .i64 b, .int .u8 t, .bool wr, .bool sg]); have c0 := HW.out.cell 0; have c1 := HW.out.cell 1; have x0 := HX.out.cell 0; have x1 := HX.out.cell 1; have x2 := HX.out.cell 2; have x3 := HX.out.cell 3; simp only [List.getElem?_toArray, List.getElem?_cons_zero, List.getElem?_cons_succ] at c0 c1 x0 x1 x2 x3; have f0 := HW.out.frozen 0; have f1 := HW.out.frozen 1; have HB1 := Lib.hid ((((Below.refl w.heap.size w).alloc (Nat.le_refl _) _).trans (hb1.mono (by simp))).alloc (by have := hb1.size; simp at this; omega) (.cells #[.int .i64 b, .int .u8 t, .bool wr, .bool sg] 47)); clear hb1)
  have p2 := valput_cv HW.out 0 0
  have q0 := p2.cell 0
  have q1 := p2.cell 1
  simp only [List.getElem?_toArray, List.getElem?_cons_zero, List.getElem?_cons_succ] at q0 q1
  exact bodyPost_ret (v := .tuple #[valV 0 0, .bool false]) (by simp [results, Tryd.results15, go_sem, q0, q1]) rfl ⟨rfl, (HB1.out.setCell (Nat.le_refl _) _).setCell (Nat.le_refl _) _⟩
theorem readPB {w : World} (op : Int) (b t : Nat) (wr sg : Bool) (l : List UInt8)  (A : Option Addr) (c B : Nat) (hL : Lies w B A (cells (nums l))) (hB : B ≤ w.heap.size) (hT : TabA w)
    (hA : ∀ W, TabA W → Calls Tryd.prog 21 #[.int .u8 op] W fun e w' => e = .returned (.tuple #[.agg #[.int .i64 b, .int .u8 t, .bool true, .bool sg], .bool true]) ∧ Below W.heap.size W w') :
    Calls Tryd.prog 15 #[.int .u8 op, .slice A l.length c] w fun e w' => e = .returned (.tuple #[valV 0 0, .bool false]) ∧ Below w.heap.size w w' := by
  have HA := Lib.hid hA
  have HT := Lib.hid hT
  have HV := Lib.hid (Whole.made w 25 #[.int .u8 0, .int .u64 0])
  clear hA hT
  go_enter Tryd.func15, Tryd.ntmps15
  go_wp2_with (go_at_call 21; (with_reducible refine (HA.out _ (HT.out.alloc _)).mono ?_); rintro e w1 ⟨rfl, hb1⟩; have HW := Lib.hid ((HV.out.below hb1).alloc (.cells #[.int .i64 b, .int .u8 t, .bool true, .bool sg] 47)); have HX := Lib.hid (Whole.made w1 47 #[.int .i64 b, .int .u8 t, .bool true, .bool sg]); have c0 := HW.out.cell 0; have c1 := HW.out.cell 1; have x0 := HX.out.cell 0; have x1 := HX.out.cell 1; have x2 := HX.out.cell 2; have x3 := HX.out.cell 3; simp only [List.getElem?_toArray, List.getElem?_cons_zero, List.getElem?_cons_succ] at c0 c1 x0 x1 x2 x3; have f0 := HW.out.frozen 0; have f1 := HW.out.frozen 1; have HB1 := Lib.hid ((((Below.refl w.heap.size w).alloc (Nat.le_refl _) _).trans (hb1.mono (by simp))).alloc (by have := hb1.size; simp at this; omega) (.cells #[.int .i64 b, .int .u8 t, .bool true, .bool sg] 47)); clear hb1)
  have p2 := valput_cv HW.out 0 0
  have q0 := p2.cell 0
  have q1 := p2.cell 1
  simp only [List.getElem?_toArray, List.getElem?_cons_zero, List.getElem?_cons_succ] at q0 q1
  exact bodyPost_ret (v := .tuple #[valV 0 0, .bool false]) (by simp [results, Tryd.results15, go_sem, q0, q1]) rfl ⟨rfl, (HB1.out.setCell (Nat.le_refl _) _).setCell (Nat.le_refl _) _⟩
theorem readPC {w : World} (op : Int) (b t : Nat) (wr sg : Bool) (l : List UInt8) (hl : l.length ≠ b) (A : Option Addr) (c B : Nat) (hL : Lies w B A (cells (nums l))) (hB : B ≤ w.heap.size) (hT : TabA w)
    (hA : ∀ W, TabA W → Calls Tryd.prog 21 #[.int .u8 op] W fun e w' => e = .returned (.tuple #[.agg #[.int .i64 b, .int .u8 t, .bool false, .bool sg], .bool true]) ∧ Below W.heap.size W w') :
    Calls Tryd.prog 15 #[.int .u8 op, .slice A l.length c] w fun e w' => e = .returned (.tuple #[valV 0 0, .bool false]) ∧ Below w.heap.size w w' := by
  have HA := Lib.hid hA
  have HT := Lib.hid hT
  have HV := Lib.hid (Whole.made w 25 #[.int .u8 0, .int .u64 0])
  clear hA hT
  have dl : ((l.length : Int) != (b : Int)) = true := by simp; omega
  go_enter Tryd.func15, Tryd.ntmps15
  go_wp2_with (go_at_call 21; (with_reducible refine (HA.out _ (HT.out.alloc _)).mono ?_); rintro e w1 ⟨rfl, hb1⟩; have HW := Lib.hid ((HV.out.below hb1).alloc (.cells #[.int .i64 b, .int .u8 t, .bool false, .bool sg] 47)); have HX := Lib.hid (Whole.made w1 47 #[.int .i64 b, .int .u8 t, .bool false, .bool sg]); have c0 := HW.out.cell 0; have c1 := HW.out.cell 1; have x0 := HX.out.cell 0; have x1 := HX.out.cell 1; have x2 := HX.out.cell 2; have x3 := HX.out.cell 3; simp only [List.getElem?_toArray, List.getElem?_cons_zero, List.getElem?_cons_succ] at c0 c1 x0 x1 x2 x3; have f0 := HW.out.frozen 0; have f1 := HW.out.frozen 1; have HB1 := Lib.hid ((((Below.refl w.heap.size w).alloc (Nat.le_refl _) _).trans (hb1.mono (by simp))).alloc (by have := hb1.size; simp at this; omega) (.cells #[.int .i64 b, .int .u8 t, .bool false, .bool sg] 47)); clear hb1)
  have p2 := valput_cv HW.out 0 0
  have q0 := p2.cell 0
  have q1 := p2.cell 1
  simp only [List.getElem?_toArray, List.getElem?_cons_zero, List.getElem?_cons_succ] at q0 q1
  exact bodyPost_ret (v := .tuple #[valV 0 0, .bool false]) (by simp [results, Tryd.results15, go_sem, q0, q1]) rfl ⟨rfl, (HB1.out.setCell (Nat.le_refl _) _).setCell (Nat.le_refl _) _⟩
set_option maxHeartbeats 1000000 in
theorem readPY_true_true {w : World} (op : Int) (b : Nat) (l : List UInt8) (hl : l.length = b) (h1 : 1 ≤ b) (h8 : b ≤ 8) (A : Option Addr) (c B : Nat) (hlc : l.length ≤ c) (hL : Lies w B A (cells (nums l))) (hB : B ≤ w.heap.size) (hT : TabA w)
    (hA : ∀ W, TabA W → Calls Tryd.prog 21 #[.int .u8 op] W fun e w' => e = .returned (.tuple #[.agg #[.int .i64 b, .int .u8 126, .bool false, .bool true], .bool true]) ∧ Below W.heap.size W w') :
    Calls Tryd.prog 15 #[.int .u8 op, .slice A l.length c] w fun e w' => e = .returned (.tuple #[valV 126 (readN true true b l : Nat), .bool true]) ∧ Below w.heap.size w w' := by
  have HA := Lib.hid hA
  have HT := Lib.hid hT
  have HV := Lib.hid (Whole.made w 25 #[.int .u8 0, .int .u64 0])
  clear hA hT
  have dl : ((l.length : Int) != (b : Int)) = false := by simp; omega
  have HS := Lib.hid (fun W (hb : Below w.heap.size w W) => hL.below hb hB)
  have HN := Lib.hid (fun W (h : Lies W B A (cells (nums l))) => numberP l A c B W hlc (by omega) h)
  rw [List.take_of_length_le (by omega), hl] at HN
  have hn := numB_lt8 l (by omega)
  have he := extN_lt (numB l) b hn h1 h8
  have HE := Lib.hid (fun W => extendP (numB l) (b : Int) W hn)
  rw [show extP (numB l) (b : Int) = extN (numB l) b by unfold extP; rw [if_pos (by omega), Int.toNat_natCast]] at HE
  have HL := Lib.hid (fun W => lowP (extN (numB l) b) W he)
  unfold readN
  generalize extN (numB l) b = x at *
  generalize numB l = v at *
  try simp only [if_true, if_false, Bool.false_eq_true]
  go_enter Tryd.func15, Tryd.ntmps15
  go_wp2_with (first | (go_at_call 21; (with_reducible refine (HA.out _ (HT.out.alloc _)).mono ?_); rintro e w1 ⟨rfl, hb1⟩; have HW := Lib.hid ((HV.out.below hb1).alloc (.cells #[.int .i64 b, .int .u8 126, .bool false, .bool true] 47)); have HX := Lib.hid (Whole.made w1 47 #[.int .i64 b, .int .u8 126, .bool false, .bool true]); have c0 := HW.out.cell 0; have c1 := HW.out.cell 1; have x0 := HX.out.cell 0; have x1 := HX.out.cell 1; have x2 := HX.out.cell 2; have x3 := HX.out.cell 3; simp only [List.getElem?_toArray, List.getElem?_cons_zero, List.getElem?_cons_succ] at c0 c1 x0 x1 x2 x3; have f0 := HW.out.frozen 0; have f1 := HW.out.frozen 1; have HB1 := Lib.hid ((((Below.refl w.heap.size w).alloc (Nat.le_refl _) _).trans (hb1.mono (by simp))).alloc (by have := hb1.size; simp at this; omega) (.cells #[.int .i64 b, .int .u8 126, .bool false, .bool true] 47)); clear hb1) | (go_at_call 13; (with_reducible refine (HN.out _ (HS.out _ HB1.out)).mono ?_); rintro e w2 ⟨rfl, hb2⟩; have HW2 := Lib.hid (HW.out.below hb2); have HX2 := Lib.hid (HX.out.below hb2); have k0 := HW2.out.cell 0; have k1 := HW2.out.cell 1; have y0 := HX2.out.cell 0; have y1 := HX2.out.cell 1; have y3 := HX2.out.cell 3; simp only [List.getElem?_toArray, List.getElem?_cons_zero, List.getElem?_cons_succ] at k0 k1 y0 y1 y3; have g0 := HW2.out.frozen 0; have g1 := HW2.out.frozen 1; have HB2 := Lib.hid (HB1.out.trans (hb2.mono HB1.out.size)); clear hb2) | (go_at_call 10; (with_reducible refine (HE.out _).mono ?_); rintro e w2 ⟨rfl, rfl⟩) | (go_at_call 19; (with_reducible refine (HL.out _).mono ?_); rintro e w2 ⟨rfl, rfl⟩))
  have p2 := valput_cv HW2.out 126 x
  have q0 := p2.cell 0
  have q1 := p2.cell 1
  simp only [List.getElem?_toArray, List.getElem?_cons_zero, List.getElem?_cons_succ] at q0 q1
  exact bodyPost_ret (v := .tuple #[valV 126 x, .bool true]) (by simp [results, Tryd.results15, go_sem, q0, q1]) rfl ⟨rfl, (HB2.out.setCell (Nat.le_refl _) _).setCell (Nat.le_refl _) _⟩
set_option maxHeartbeats 1000000 in
theorem readPY_true_false {w : World} (op : Int) (b : Nat) (l : List UInt8) (hl : l.length = b) (h1 : 1 ≤ b) (h8 : b ≤ 8) (A : Option Addr) (c B : Nat) (hlc : l.length ≤ c) (hL : Lies w B A (cells (nums l))) (hB : B ≤ w.heap.size) (hT : TabA w)
    (hA : ∀ W, TabA W → Calls Tryd.prog 21 #[.int .u8 op] W fun e w' => e = .returned (.tuple #[.agg #[.int .i64 b, .int .u8 126, .bool false, .bool false], .bool true]) ∧ Below W.heap.size W w') :
    Calls Tryd.prog 15 #[.int .u8 op, .slice A l.length c] w fun e w' => e = .returned (.tuple #[valV 126 (readN true false b l : Nat), .bool true]) ∧ Below w.heap.size w w' := by
  have HA := Lib.hid hA
  have HT := Lib.hid hT
  have HV := Lib.hid (Whole.made w 25 #[.int .u8 0, .int .u64 0])
  clear hA hT
  have dl : ((l.length : Int) != (b : Int)) = false := by simp; omega
  have HS := Lib.hid (fun W (hb : Below w.heap.size w W) => hL.below hb hB)
  have HN := Lib.hid (fun W (h : Lies W B A (cells (nums l))) => numberP l A c B W hlc (by omega) h)
  rw [List.take_of_length_le (by omega), hl] at HN
  have hn := numB_lt8 l (by omega)
  have he := extN_lt (numB l) b hn h1 h8
  have HE := Lib.hid (fun W => extendP (numB l) (b : Int) W hn)
  rw [show extP (numB l) (b : Int) = extN (numB l) b by unfold extP; rw [if_pos (by omega), Int.toNat_natCast]] at HE
  have HL := Lib.hid (fun W => lowP (numB l) W hn)
  unfold readN
  generalize extN (numB l) b = x at *
  generalize numB l = v at *
  try simp only [if_true, if_false, Bool.false_eq_true]
  go_enter Tryd.func15, Tryd.ntmps15
  go_wp2_with (first | (go_at_call 21; (with_reducible refine (HA.out _ (HT.out.alloc _)).mono ?_); rintro e w1 ⟨rfl, hb1⟩; have HW := Lib.hid ((HV.out.below hb1).alloc (.cells #[.int .i64 b, .int .u8 126, .bool false, .bool false] 47)); have HX := Lib.hid (Whole.made w1 47 #[.int .i64 b, .int .u8 126, .bool false, .bool false]); have c0 := HW.out.cell 0; have c1 := HW.out.cell 1; have x0 := HX.out.cell 0; have x1 := HX.out.cell 1; have x2 := HX.out.cell 2; have x3 := HX.out.cell 3; simp only [List.getElem?_toArray, List.getElem?_cons_zero, List.getElem?_cons_succ] at c0 c1 x0 x1 x2 x3; have f0 := HW.out.frozen 0; have f1 := HW.out.frozen 1; have HB1 := Lib.hid ((((Below.refl w.heap.size w).alloc (Nat.le_refl _) _).trans (hb1.mono (by simp))).alloc (by have := hb1.size; simp at this; omega) (.cells #[.int .i64 b, .int .u8 126, .bool false, .bool false] 47)); clear hb1) | (go_at_call 13; (with_reducible refine (HN.out _ (HS.out _ HB1.out)).mono ?_); rintro e w2 ⟨rfl, hb2⟩; have HW2 := Lib.hid (HW.out.below hb2); have HX2 := Lib.hid (HX.out.below hb2); have k0 := HW2.out.cell 0; have k1 := HW2.out.cell 1; have y0 := HX2.out.cell 0; have y1 := HX2.out.cell 1; have y3 := HX2.out.cell 3; simp only [List.getElem?_toArray, List.getElem?_cons_zero, List.getElem?_cons_succ] at k0 k1 y0 y1 y3; have g0 := HW2.out.frozen 0; have g1 := HW2.out.frozen 1; have HB2 := Lib.hid (HB1.out.trans (hb2.mono HB1.out.size)); clear hb2) | (go_at_call 10; (with_reducible refine (HE.out _).mono ?_); rintro e w2 ⟨rfl, rfl⟩) | (go_at_call 19; (with_reducible refine (HL.out _).mono ?_); rintro e w2 ⟨rfl, rfl⟩))
  have p2 := valput_cv HW2.out 126 v
  have q0 := p2.cell 0
  have q1 := p2.cell 1
  simp only [List.getElem?_toArray, List.getElem?_cons_zero, List.getElem?_cons_succ] at q0 q1
  exact bodyPost_ret (v := .tuple #[valV 126 v, .bool true]) (by simp [results, Tryd.results15, go_sem, q0, q1]) rfl ⟨rfl, (HB2.out.setCell (Nat.le_refl _) _).setCell (Nat.le_refl _) _⟩
set_option maxHeartbeats 1000000 in
theorem readPY_false_true {w : World} (op : Int) (b : Nat) (l : List UInt8) (hl : l.length = b) (h1 : 1 ≤ b) (h8 : b ≤ 8) (A : Option Addr) (c B : Nat) (hlc : l.length ≤ c) (hL : Lies w B A (cells (nums l))) (hB : B ≤ w.heap.size) (hT : TabA w)
    (hA : ∀ W, TabA W → Calls Tryd.prog 21 #[.int .u8 op] W fun e w' => e = .returned (.tuple #[.agg #[.int .i64 b, .int .u8 127, .bool false, .bool true], .bool true]) ∧ Below W.heap.size W w') :
    Calls Tryd.prog 15 #[.int .u8 op, .slice A l.length c] w fun e w' => e = .returned (.tuple #[valV 127 (readN false true b l : Nat), .bool true]) ∧ Below w.heap.size w w' := by
  have HA := Lib.hid hA
  have HT := Lib.hid hT
  have HV := Lib.hid (Whole.made w 25 #[.int .u8 0, .int .u64 0])
  clear hA hT
  have dl : ((l.length : Int) != (b : Int)) = false := by simp; omega
  have HS := Lib.hid (fun W (hb : Below w.heap.size w W) => hL.below hb hB)
  have HN := Lib.hid (fun W (h : Lies W B A (cells (nums l))) => numberP l A c B W hlc (by omega) h)
  rw [List.take_of_length_le (by omega), hl] at HN
  have hn := numB_lt8 l (by omega)
  have he := extN_lt (numB l) b hn h1 h8
  have HE := Lib.hid (fun W => extendP (numB l) (b : Int) W hn)
  rw [show extP (numB l) (b : Int) = extN (numB l) b by unfold extP; rw [if_pos (by omega), Int.toNat_natCast]] at HE
  have HL := Lib.hid (fun W => lowP (extN (numB l) b) W he)
  unfold readN
  generalize extN (numB l) b = x at *
  generalize numB l = v at *
  try simp only [if_true, if_false, Bool.false_eq_true]
  generalize x % 2 ^ 32 = z at *
  go_enter Tryd.func15, Tryd.ntmps15
  go_wp2_with (first | (go_at_call 21; (with_reducible refine (HA.out _ (HT.out.alloc _)).mono ?_); rintro e w1 ⟨rfl, hb1⟩; have HW := Lib.hid ((HV.out.below hb1).alloc (.cells #[.int .i64 b, .int .u8 127, .bool false, .bool true] 47)); have HX := Lib.hid (Whole.made w1 47 #[.int .i64 b, .int .u8 127, .bool false, .bool true]); have c0 := HW.out.cell 0; have c1 := HW.out.cell 1; have x0 := HX.out.cell 0; have x1 := HX.out.cell 1; have x2 := HX.out.cell 2; have x3 := HX.out.cell 3; simp only [List.getElem?_toArray, List.getElem?_cons_zero, List.getElem?_cons_succ] at c0 c1 x0 x1 x2 x3; have f0 := HW.out.frozen 0; have f1 := HW.out.frozen 1; have HB1 := Lib.hid ((((Below.refl w.heap.size w).alloc (Nat.le_refl _) _).trans (hb1.mono (by simp))).alloc (by have := hb1.size; simp at this; omega) (.cells #[.int .i64 b, .int .u8 127, .bool false, .bool true] 47)); clear hb1) | (go_at_call 13; (with_reducible refine (HN.out _ (HS.out _ HB1.out)).mono ?_); rintro e w2 ⟨rfl, hb2⟩; have HW2 := Lib.hid (HW.out.below hb2); have HX2 := Lib.hid (HX.out.below hb2); have k0 := HW2.out.cell 0; have k1 := HW2.out.cell 1; have y0 := HX2.out.cell 0; have y1 := HX2.out.cell 1; have y3 := HX2.out.cell 3; simp only [List.getElem?_toArray, List.getElem?_cons_zero, List.getElem?_cons_succ] at k0 k1 y0 y1 y3; have g0 := HW2.out.frozen 0; have g1 := HW2.out.frozen 1; have HB2 := Lib.hid (HB1.out.trans (hb2.mono HB1.out.size)); clear hb2) | (go_at_call 10; (with_reducible refine (HE.out _).mono ?_); rintro e w2 ⟨rfl, rfl⟩) | (go_at_call 19; (with_reducible refine (HL.out _).mono ?_); rintro e w2 ⟨rfl, rfl⟩))
  have p2 := valput_cv HW2.out 127 z
  have q0 := p2.cell 0
  have q1 := p2.cell 1
  simp only [List.getElem?_toArray, List.getElem?_cons_zero, List.getElem?_cons_succ] at q0 q1
  exact bodyPost_ret (v := .tuple #[valV 127 z, .bool true]) (by simp [results, Tryd.results15, go_sem, q0, q1]) rfl ⟨rfl, (HB2.out.setCell (Nat.le_refl _) _).setCell (Nat.le_refl _) _⟩
set_option maxHeartbeats 1000000 in
theorem readPY_false_false {w : World} (op : Int) (b : Nat) (l : List UInt8) (hl : l.length = b) (h1 : 1 ≤ b) (h8 : b ≤ 8) (A : Option Addr) (c B : Nat) (hlc : l.length ≤ c) (hL : Lies w B A (cells (nums l))) (hB : B ≤ w.heap.size) (hT : TabA w)
    (hA : ∀ W, TabA W → Calls Tryd.prog 21 #[.int .u8 op] W fun e w' => e = .returned (.tuple #[.agg #[.int .i64 b, .int .u8 127, .bool false, .bool false], .bool true]) ∧ Below W.heap.size W w') :
    Calls Tryd.prog 15 #[.int .u8 op, .slice A l.length c] w fun e w' => e = .returned (.tuple #[valV 127 (readN false false b l : Nat), .bool true]) ∧ Below w.heap.size w w' := by
  have HA := Lib.hid hA
  have HT := Lib.hid hT
  have HV := Lib.hid (Whole.made w 25 #[.int .u8 0, .int .u64 0])
  clear hA hT
  have dl : ((l.length : Int) != (b : Int)) = false := by simp; omega
  have HS := Lib.hid (fun W (hb : Below w.heap.size w W) => hL.below hb hB)
  have HN := Lib.hid (fun W (h : Lies W B A (cells (nums l))) => numberP l A c B W hlc (by omega) h)
  rw [List.take_of_length_le (by omega), hl] at HN
  have hn := numB_lt8 l (by omega)
  have he := extN_lt (numB l) b hn h1 h8
  have HE := Lib.hid (fun W => extendP (numB l) (b : Int) W hn)
  rw [show extP (numB l) (b : Int) = extN (numB l) b by unfold extP; rw [if_pos (by omega), Int.toNat_natCast]] at HE
  have HL := Lib.hid (fun W => lowP (numB l) W hn)
  unfold readN
  generalize extN (numB l) b = x at *
  generalize numB l = v at *
  try simp only [if_true, if_false, Bool.false_eq_true]
  generalize v % 2 ^ 32 = z at *
  go_enter Tryd.func15, Tryd.ntmps15
  go_wp2_with (first | (go_at_call 21; (with_reducible refine (HA.out _ (HT.out.alloc _)).mono ?_); rintro e w1 ⟨rfl, hb1⟩; have HW := Lib.hid ((HV.out.below hb1).alloc (.cells #[.int .i64 b, .int .u8 127, .bool false, .bool false] 47)); have HX := Lib.hid (Whole.made w1 47 #[.int .i64 b, .int .u8 127, .bool false, .bool false]); have c0 := HW.out.cell 0; have c1 := HW.out.cell 1; have x0 := HX.out.cell 0; have x1 := HX.out.cell 1; have x2 := HX.out.cell 2; have x3 := HX.out.cell 3; simp only [List.getElem?_toArray, List.getElem?_cons_zero, List.getElem?_cons_succ] at c0 c1 x0 x1 x2 x3; have f0 := HW.out.frozen 0; have f1 := HW.out.frozen 1; have HB1 := Lib.hid ((((Below.refl w.heap.size w).alloc (Nat.le_refl _) _).trans (hb1.mono (by simp))).alloc (by have := hb1.size; simp at this; omega) (.cells #[.int .i64 b, .int .u8 127, .bool false, .bool false] 47)); clear hb1) | (go_at_call 13; (with_reducible refine (HN.out _ (HS.out _ HB1.out)).mono ?_); rintro e w2 ⟨rfl, hb2⟩; have HW2 := Lib.hid (HW.out.below hb2); have HX2 := Lib.hid (HX.out.below hb2); have k0 := HW2.out.cell 0; have k1 := HW2.out.cell 1; have y0 := HX2.out.cell 0; have y1 := HX2.out.cell 1; have y3 := HX2.out.cell 3; simp only [List.getElem?_toArray, List.getElem?_cons_zero, List.getElem?_cons_succ] at k0 k1 y0 y1 y3; have g0 := HW2.out.frozen 0; have g1 := HW2.out.frozen 1; have HB2 := Lib.hid (HB1.out.trans (hb2.mono HB1.out.size)); clear hb2) | (go_at_call 10; (with_reducible refine (HE.out _).mono ?_); rintro e w2 ⟨rfl, rfl⟩) | (go_at_call 19; (with_reducible refine (HL.out _).mono ?_); rintro e w2 ⟨rfl, rfl⟩))
  have p2 := valput_cv HW2.out 127 z
  have q0 := p2.cell 0
  have q1 := p2.cell 1
  simp only [List.getElem?_toArray, List.getElem?_cons_zero, List.getElem?_cons_succ] at q0 q1
  exact bodyPost_ret (v := .tuple #[valV 127 z, .bool true]) (by simp [results, Tryd.results15, go_sem, q0, q1]) rfl ⟨rfl, (HB2.out.setCell (Nat.le_refl _) _).setCell (Nat.le_refl _) _⟩
end Go.Proofs.YtakklljpngeocaaDoor
