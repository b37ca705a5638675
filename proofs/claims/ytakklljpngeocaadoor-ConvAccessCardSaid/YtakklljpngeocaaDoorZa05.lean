/- The program's Read and Write of any instruction. (By gen/genCpD.py.) -/
import Derived.Test.YtakklljpngeocaaDoorZa04
import Derived.Laws.StructEq
namespace Go.Proofs.YtakklljpngeocaaDoor
open Go.RowKit
set_option linter.unusedVariables false
set_option maxRecDepth 100000

theorem acc_of_none {n : Nat} (hn : n ≤ 255) (h : refAcc n = none) : accV n = .tuple #[.agg #[.int .i64 (0 : Nat), .int .u8 (0 : Nat), .bool false, .bool false], .bool false] := by
  have hs := acc_all n (by omega)
  unfold sameAcc at hs
  rw [h] at hs
  simp only [Bool.and_eq_true, Bool.not_eq_true', beq_iff_eq] at hs
  unfold accV
  rw [hs.1, hs.2]
  rfl
theorem acc_of_some {n b : Nat} {long wr sg : Bool} (hn : n ≤ 255) (h : refAcc n = some (b, long, wr, sg)) : accV n = .tuple #[.agg #[.int .i64 b, .int .u8 ((if long then 126 else 127 : Nat) : Int), .bool wr, .bool sg], .bool true] := by
  have hs := acc_all n (by omega)
  unfold sameAcc at hs
  rw [h] at hs
  simp only [Bool.and_eq_true, beq_iff_eq] at hs
  unfold accV
  rw [hs.1, hs.2]
theorem readP_any (n : Nat) (l : List UInt8) (A : Option Addr) (c B : Nat) (w : World) (hlc : l.length ≤ c) (hL : Lies w B A (cells (nums l))) (hB : B ≤ w.heap.size) (hT : TabA w) (hn : n ≤ 255) : Calls Tryd.prog 15 #[.int .u8 n, .slice A l.length c] w fun e w' => e = .returned (readV (readZ n l)) ∧ Below w.heap.size w w' := by
  have hA := fun W (h : TabA W) => accessA_any n W h hn
  have hb := acc_bytes n (by omega)
  unfold readZ
  cases h : refAcc n with
  | none =>
    rw [acc_of_none hn h] at hA
    exact readPA (n : Int) 0 0 false false l A c B hL hB hT hA
  | some x =>
    obtain ⟨b, long, wr, sg⟩ := x
    rw [acc_of_some hn h] at hA
    rw [h] at hb
    simp only [decide_eq_true_eq] at hb
    show Calls _ _ _ _ fun e w' => e = .returned (readV (if wr = false ∧ l.length = b then _ else _)) ∧ _
    by_cases hc : wr = false ∧ l.length = b
    · rw [if_pos hc]
      obtain ⟨rfl, hlb⟩ := hc
      cases long <;> cases sg
      · exact readPY_false_false (n : Int) b l hlb hb.1 hb.2 A c B hlc hL hB hT hA
      · exact readPY_false_true (n : Int) b l hlb hb.1 hb.2 A c B hlc hL hB hT hA
      · exact readPY_true_false (n : Int) b l hlb hb.1 hb.2 A c B hlc hL hB hT hA
      · exact readPY_true_true (n : Int) b l hlb hb.1 hb.2 A c B hlc hL hB hT hA
    · rw [if_neg hc]
      cases wr with
      | true => exact readPB (n : Int) b _ true sg l A c B hL hB hT hA
      | false => exact readPC (n : Int) b _ false sg l (fun h => hc ⟨rfl, h⟩) A c B hL hB hT hA
/-- What an instruction writes of a number. -/
def writeZ (n x : Nat) : Option (List UInt8) :=
  match refAcc n with
  | some (b, _, true, _) => some (bytN b x)
  | _ => none
def WritesP (o : Option (List UInt8)) (w : World) (e : Ending) (w' : World) : Prop := ∃ v, e = .returned (.tuple #[v, .bool o.isSome]) ∧ Row w' w.heap.size v (o.getD []) ∧ Below w.heap.size w w'
theorem writePA {w : World} (op : Int) (b t x : Nat) (wr sg : Bool) (hT : TabA w)
    (hA : ∀ W, TabA W → Calls Tryd.prog 21 #[.int .u8 op] W fun e w' => e = .returned (.tuple #[.agg #[.int .i64 b, .int .u8 t, .bool wr, .bool sg], .bool false]) ∧ Below W.heap.size W w') :
    Calls Tryd.prog 17 #[.int .u8 op, .int .u64 x] w (WritesP none w) := by
  have HA := Lib.hid hA
  have HT := Lib.hid hT
  clear hA hT
  go_enter Tryd.func17, Tryd.ntmps17
  go_wp2_with (go_at_call 21; (with_reducible refine (HA.out _ HT.out).mono ?_); rintro e w1 ⟨rfl, hb1⟩; have HX := Lib.hid (Whole.made w1 47 #[.int .i64 b, .int .u8 t, .bool wr, .bool sg]); have x0 := HX.out.cell 0; have x2 := HX.out.cell 2; simp only [List.getElem?_toArray, List.getElem?_cons_zero, List.getElem?_cons_succ] at x0 x2; have HB1 := Lib.hid (hb1.alloc hb1.size (.cells #[.int .i64 b, .int .u8 t, .bool wr, .bool sg] 47)); clear hb1)
  go_ret2
  exact ⟨_, rfl, Row.nil _ _, HB1.out⟩
theorem writePB {w : World} (op : Int) (b t x : Nat) (wr sg : Bool) (hT : TabA w)
    (hA : ∀ W, TabA W → Calls Tryd.prog 21 #[.int .u8 op] W fun e w' => e = .returned (.tuple #[.agg #[.int .i64 b, .int .u8 t, .bool false, .bool sg], .bool true]) ∧ Below W.heap.size W w') :
    Calls Tryd.prog 17 #[.int .u8 op, .int .u64 x] w (WritesP none w) := by
  have HA := Lib.hid hA
  have HT := Lib.hid hT
  clear hA hT
  go_enter Tryd.func17, Tryd.ntmps17
  go_wp2_with (go_at_call 21; (with_reducible refine (HA.out _ HT.out).mono ?_); rintro e w1 ⟨rfl, hb1⟩; have HX := Lib.hid (Whole.made w1 47 #[.int .i64 b, .int .u8 t, .bool false, .bool sg]); have x0 := HX.out.cell 0; have x2 := HX.out.cell 2; simp only [List.getElem?_toArray, List.getElem?_cons_zero, List.getElem?_cons_succ] at x0 x2; have HB1 := Lib.hid (hb1.alloc hb1.size (.cells #[.int .i64 b, .int .u8 t, .bool false, .bool sg] 47)); clear hb1)
  go_ret2
  exact ⟨_, rfl, Row.nil _ _, HB1.out⟩
theorem writePY {w : World} (op : Int) (b t x : Nat) (sg : Bool) (hx : x < 18446744073709551616) (hb8 : b ≤ 8) (hT : TabA w)
    (hA : ∀ W, TabA W → Calls Tryd.prog 21 #[.int .u8 op] W fun e w' => e = .returned (.tuple #[.agg #[.int .i64 b, .int .u8 t, .bool true, .bool sg], .bool true]) ∧ Below W.heap.size W w') :
    Calls Tryd.prog 17 #[.int .u8 op, .int .u64 x] w (WritesP (some (bytN b x)) w) := by
  have HA := Lib.hid hA
  have HT := Lib.hid hT
  clear hA hT
  have HB := Lib.hid (fun W => bytesP x (b : Int) W hx)
  rw [show (min (b : Int) 8).toNat = b by omega] at HB
  unfold BytesL at HB
  generalize bytN b x = l at *
  go_enter Tryd.func17, Tryd.ntmps17
  go_wp2_with (first | (go_at_call 21; (with_reducible refine (HA.out _ HT.out).mono ?_); rintro e w1 ⟨rfl, hb1⟩; have HX := Lib.hid (Whole.made w1 47 #[.int .i64 b, .int .u8 t, .bool true, .bool sg]); have x0 := HX.out.cell 0; have x2 := HX.out.cell 2; simp only [List.getElem?_toArray, List.getElem?_cons_zero, List.getElem?_cons_succ] at x0 x2; have HB1 := Lib.hid (hb1.alloc hb1.size (.cells #[.int .i64 b, .int .u8 t, .bool true, .bool sg] 47)); clear hb1) | (go_at_call 9; (with_reducible refine (HB.out _).mono ?_); rintro e w2 ⟨v, rfl, hr, hb2⟩; have HR := Lib.hid (hr.mono HB1.out.size); have HB2 := Lib.hid (HB1.out.trans (hb2.mono HB1.out.size)); clear hr hb2))
  go_ret2
  exact ⟨_, rfl, HR.out, HB2.out⟩
theorem writeP_any (n x : Nat) (w : World) (hx : x < 18446744073709551616) (hT : TabA w) (hn : n ≤ 255) : Calls Tryd.prog 17 #[.int .u8 n, .int .u64 x] w (WritesP (writeZ n x) w) := by
  have hA := fun W (h : TabA W) => accessA_any n W h hn
  have hb := acc_bytes n (by omega)
  unfold writeZ
  cases h : refAcc n with
  | none =>
    rw [acc_of_none hn h] at hA
    exact writePA (n : Int) 0 0 x false false hT hA
  | some y =>
    obtain ⟨b, long, wr, sg⟩ := y
    rw [acc_of_some hn h] at hA
    rw [h] at hb
    simp only [decide_eq_true_eq] at hb
    cases wr with
    | true => exact writePY (n : Int) b _ x sg hx hb.2 hT hA
    | false => exact writePB (n : Int) b _ x false sg hT hA
end Go.Proofs.YtakklljpngeocaaDoor

/- The page's example; the law ConvDoes. -/
namespace Go.Proofs.YtakklljpngeocaaDoor
open Go.RowKit
set_option linter.unusedVariables false
set_option maxRecDepth 100000

theorem readZ_ff : readZ 44 [255] = some (127, 4294967295) := by decide +kernel
theorem convAwake (w : World) (hT : TabA w) : Calls Tryd.prog 6 #[] w fun e w' => e = .returned (.bool true) ∧ Below w.heap.size w w' := by
  have HR := Lib.hid (fun (W : World) (A : Option Addr) (c B : Nat) (hlc : 1 ≤ c) (hL : Lies W B A (cells (nums [255]))) (hB : B ≤ W.heap.size) (h : TabA W) => show Calls Tryd.prog 15 #[.int .u8 44, .slice A 1 c] W fun e w' => e = .returned (.tuple #[valV 127 4294967295, .bool true]) ∧ Below W.heap.size W w' by have := readP_any 44 [255] A c B W hlc hL hB h (by decide); rw [readZ_ff] at this; exact this)
  have HT := Lib.hid hT
  have HW := Whole.made w 5 #[.int .u8 255]
  have HL := Lib.hid (show Lies (w.alloc (.cells #[.int .u8 255] 5)) (w.heap.size + 1) (some ⟨w.heap.size, 0, none⟩) (cells (nums [255])) from by
    intro i v hv
    match i, hv with
    | 0, hv =>
      simp [cells, nums] at hv
      subst hv
      exact ⟨w.heap.size, 0, rfl, by omega, HW.cell 0⟩
    | i + 1, hv => simp [cells, nums] at hv)
  clear hT HW
  go_enter Tryd.func6, Tryd.ntmps6
  go_wp2_with (go_at_call 15; (with_reducible refine (HR.out _ _ _ _ (Nat.le_refl _) HL.out (by simp) (HT.out.alloc _)).mono ?_); rintro e w1 ⟨rfl, hb1⟩; have HB1 := Lib.hid (((Below.refl w.heap.size w).alloc (Nat.le_refl _) _).trans (hb1.mono (by simp))); clear hb1)
  go_ret
  exact ⟨rfl, HB1.out.alloc HB1.out.size _⟩
theorem refExt_any (x : Nat) (n : Int) (w : World) (hx : x < 18446744073709551616) : Calls Tryd.prog 11 #[.int .u64 x, .int .i64 n] w fun e w' => e = .returned (.int .u64 (extP x n)) ∧ w = w' := by
  unfold extP
  by_cases h : 1 ≤ n ∧ n ≤ 8
  · rw [if_pos h]
    obtain ⟨m, rfl⟩ : ∃ m : Nat, n = m := ⟨n.toNat, by omega⟩
    rw [Int.toNat_natCast]
    exact ext_in x m w hx (by omega) (by omega)
  · rw [if_neg h]
    exact ext_out x n w (by omega)
/-- string(b) of whatever lies. -/
theorem strcv_any {w : World} {B : Nat} {A : Option Addr} {o : List UInt8} (h : Lies w B A (cells (nums o))) (c : Nat) :
    ∀ dst, Tryd.prog.underlying dst = some .string → (convert 29 dst (.slice A o.length c)).run Tryd.prog w = .ok (.string (S o)) w := by
  by_cases h0 : 0 < (nums o).length
  · have := str_lies h h0 c Tryd.underlying29 Tryd.underlying5
    rw [strOfNums_nums, nums_length] at this
    exact this
  · have ho : o = [] := List.eq_nil_of_length_eq_zero (by rw [nums_length] at h0; omega)
    subst ho
    intro dst hd
    rw [run_convert_bytes_string w _ dst 5 _ _ c Tryd.underlying29 Tryd.underlying5 hd]
    have e : S [] = ByteArray.empty := rfl
    rw [e]
    cases A <;> simp [Conv.bytesToString, loadCells]
    all_goals rfl
/-- What is held while both values, and the bytes, are compared. -/
theorem kp_on {w2 w3 w4 W W' : World} {tt vv : Int} {A4 : Option Addr} {c4 B4 : Nat} {l : List UInt8} (hB : B4 ≤ w4.heap.size) (hL : Lies w4 B4 A4 (cells (nums l))) (h2 : w2.heap.size < w4.heap.size) (h3 : w3.heap.size < w4.heap.size)
    (h : (Below w4.heap.size w4 W ∧ W.cell? ⟨w2.heap.size, 0, none⟩ = some (.int .u8 tt) ∧ W.cell? ⟨w2.heap.size, 1, none⟩ = some (.int .u64 vv) ∧ W.cell? ⟨w3.heap.size, 0, none⟩ = some (.int .u8 tt) ∧ W.cell? ⟨w3.heap.size, 1, none⟩ = some (.int .u64 vv) ∧ ∀ dst, Tryd.prog.underlying dst = some .string → (convert 29 dst (.slice A4 l.length c4)).run Tryd.prog W = .ok (.string (S l)) W)) (hb : Below W.heap.size W W') : (Below w4.heap.size w4 W' ∧ W'.cell? ⟨w2.heap.size, 0, none⟩ = some (.int .u8 tt) ∧ W'.cell? ⟨w2.heap.size, 1, none⟩ = some (.int .u64 vv) ∧ W'.cell? ⟨w3.heap.size, 0, none⟩ = some (.int .u8 tt) ∧ W'.cell? ⟨w3.heap.size, 1, none⟩ = some (.int .u64 vv) ∧ ∀ dst, Tryd.prog.underlying dst = some .string → (convert 29 dst (.slice A4 l.length c4)).run Tryd.prog W' = .ok (.string (S l)) W') := by
  have hh := h.1.trans (hb.mono h.1.size)
  exact ⟨hh, (hb.cell (by show w2.heap.size < _; have := h.1.size; omega)).trans h.2.1, (hb.cell (by show w2.heap.size < _; have := h.1.size; omega)).trans h.2.2.1, (hb.cell (by show w3.heap.size < _; have := h.1.size; omega)).trans h.2.2.2.1, (hb.cell (by show w3.heap.size < _; have := h.1.size; omega)).trans h.2.2.2.2.1, strcv_any (hL.below hh hB) c4⟩
set_option maxHeartbeats 4000000 in
theorem convDoes_both {w : World} (op x n8 : Nat) (n tt vv : Int) (b : Bool) (z u : Nat) (l : List UInt8) (hx : x < 18446744073709551616) (hop : op ≤ 255) (hl : l.length ≤ 8) (hT : TabA w)
    (hD : ∀ W, Calls Tryd.prog 7 #[.int .u8 op, .int .u64 x] W fun e w' => e = .returned (.tuple #[valV tt vv, .bool b]) ∧ Below W.heap.size W w')
    (hR : ∀ W, Calls Tryd.prog 8 #[.int .i64 op, .int .u64 x] W fun e w' => e = .returned (.tuple #[valV tt vv, .bool b]) ∧ Below W.heap.size W w')
    (hE : ∀ W, Calls Tryd.prog 10 #[.int .u64 x, .int .i64 n] W fun e w' => e = .returned (.int .u64 z) ∧ W = w')
    (hF : ∀ W, Calls Tryd.prog 11 #[.int .u64 x, .int .i64 n] W fun e w' => e = .returned (.int .u64 z) ∧ W = w')
    (hB : ∀ W, Calls Tryd.prog 9 #[.int .u64 x, .int .i64 n] W (BytesL l W))
    (hC : ∀ W, Calls Tryd.prog 12 #[.int .u64 x, .int .i64 n] W fun e w' => e = .returned (.string (S l)) ∧ Below W.heap.size W w')
    (hN : ∀ W A c B, l.length ≤ c → Lies W B A (cells (nums l)) → Calls Tryd.prog 13 #[.slice A l.length c] W fun e w' => e = .returned (.int .u64 u) ∧ Below W.heap.size W w')
    (hM : ∀ W, Calls Tryd.prog 14 #[.string (S l)] W fun e w' => e = .returned (.int .u64 u) ∧ W = w') :
    Calls Tryd.prog 3 #[.int .u8 op, .int .u64 x, .int .i64 n] w fun e w' => e = .returned (.bool true) ∧ Below w.heap.size w w' := by
  have HT := Lib.hid hT
  have HD := Lib.hid hD
  have HR := Lib.hid hR
  have HE := Lib.hid hE
  have HF := Lib.hid hF
  have HY := Lib.hid hB
  have HC := Lib.hid hC
  have HN := Lib.hid hN
  have HM := Lib.hid hM
  unfold BytesL at HY
  clear hT hD hR hE hF hB hC hN hM
  go_enter Tryd.func3, Tryd.ntmps3
  go_wp2_with (first
    | (go_at_call 6; (with_reducible refine (convAwake _ HT.out).mono ?_); rintro e w1 ⟨rfl, hb1⟩; have HB1 := Lib.hid hb1; clear hb1)
    | (go_at_call 7; (with_reducible refine (HD.out _).mono ?_); rintro e w2 ⟨rfl, hb2⟩; have HV2 := Lib.hid (Whole.made w2 25 #[.int .u8 tt, .int .u64 vv]); have HB2 := Lib.hid ((HB1.out.trans (hb2.mono HB1.out.size)).alloc (HB1.out.trans (hb2.mono HB1.out.size)).size (.cells #[.int .u8 tt, .int .u64 vv] 25)); clear hb2)
    | (go_at_call 8; (with_reducible refine (HR.out _).mono ?_); rintro e w3 ⟨rfl, hb3⟩; have HV3 := Lib.hid (Whole.made w3 25 #[.int .u8 tt, .int .u64 vv]); have HU3 := Lib.hid ((HV2.out.below hb3).alloc (.cells #[.int .u8 tt, .int .u64 vv] 25)); have HB3 := Lib.hid ((HB2.out.trans (hb3.mono HB2.out.size)).alloc (HB2.out.trans (hb3.mono HB2.out.size)).size (.cells #[.int .u8 tt, .int .u64 vv] 25)); clear hb3)
    | (go_at_call 9; (with_reducible refine (HY.out _).mono ?_); rintro e w4 ⟨v4, rfl, hr4, hb4⟩; obtain ⟨A4, c4, rfl, hc4, hl4⟩ := hr4.liesC; have HL4 := Lib.hid hl4; have HC4 := Lib.hid hc4; clear hc4; have HV4 := Lib.hid (HV3.out.below hb4); have HU4 := Lib.hid (HU3.out.below hb4); have a0 := HV4.out.cell 0; have a1 := HV4.out.cell 1; have b0 := HU4.out.cell 0; have b1 := HU4.out.cell 1; simp only [List.getElem?_toArray, List.getElem?_cons_zero, List.getElem?_cons_succ] at a0 a1 b0 b1; have HB4 := Lib.hid (HB3.out.trans (hb4.mono HB3.out.size)); clear hr4 hl4 hb4))
  have HK := Lib.hid (fun W W' h hb => kp_on (w2 := w2) (w3 := w3) (W := W) (W' := W') (tt := tt) (vv := vv) (c4 := c4) (Nat.le_refl _) HL4.out HU4.out.lt HV4.out.lt h hb)
  refine wp_region_noPanic ?_
  refine wp_region_held_drew (S := fun W => (Below w4.heap.size w4 W ∧ W.cell? ⟨w2.heap.size, 0, none⟩ = some (.int .u8 tt) ∧ W.cell? ⟨w2.heap.size, 1, none⟩ = some (.int .u64 vv) ∧ W.cell? ⟨w3.heap.size, 0, none⟩ = some (.int .u8 tt) ∧ W.cell? ⟨w3.heap.size, 1, none⟩ = some (.int .u64 vv) ∧ ∀ dst, Tryd.prog.underlying dst = some .string → (convert 29 dst (.slice A4 l.length c4)).run Tryd.prog W = .ok (.string (S l)) W)) (by kernel_rfl) ⟨(Below.refl _ _).drew, b0, b1, a0, a1, strcv_any (HL4.out.below (Below.refl _ _).drew (Nat.le_refl _)) c4⟩ (fun hHeld => ?_)
  clear a0 a1 b0 b1
  (refine heldTake (i := 0) (oi := { dst := some 30, op := Op.load 25 (Operand.tmp 7), type := 25, pos := "law.go:25", after := #[], guard := none }) (v := ?_) rfl (by kernel_rfl) (by kernel_rfl) (by kernel_rfl) (by assumption) ?_ ?_; rotate_left; focus (refine .inl ⟨by kernel_rfl, ?_⟩; intro w hSw; (try dsimp only at hSw); go_simp; (try with_reducible rfl)); (try simp only [Act.put, List.setIfInBounds_toArray, List.set_cons_zero, List.set_cons_succ]))
  (try (dsimp only; simp only [Act.put, List.setIfInBounds_toArray, List.set_cons_zero, List.set_cons_succ]))
  (refine heldTake (i := 1) (oi := { dst := some 31, op := Op.load 25 (Operand.tmp 9), type := 25, pos := "law.go:25", after := #[], guard := none }) (v := ?_) rfl (by kernel_rfl) (by kernel_rfl) (by kernel_rfl) (by assumption) ?_ ?_; rotate_left; focus (refine .inl ⟨by kernel_rfl, ?_⟩; intro w hSw; (try dsimp only at hSw); go_simp; (try with_reducible rfl)); (try simp only [Act.put, List.setIfInBounds_toArray, List.set_cons_zero, List.set_cons_succ]))
  (try (dsimp only; simp only [Act.put, List.setIfInBounds_toArray, List.set_cons_zero, List.set_cons_succ]))
  (refine heldTake (i := 2) (oi := { dst := some 32, op := Op.binOp BinOp.eql 25 (Operand.tmp 30) (Operand.tmp 31) 25, type := 4, pos := "law.go:25", after := #[{ on := 0, ground := Ground.data }, { on := 1, ground := Ground.data }], guard := none }) (v := ?_) rfl (by kernel_rfl) (by kernel_rfl) (by kernel_rfl) (by assumption) ?_ ?_; rotate_left; focus (refine .inl ⟨by kernel_rfl, ?_⟩; intro w hSw; (try dsimp only at hSw); go_simp; (try with_reducible rfl)); (try simp only [Act.put, List.setIfInBounds_toArray, List.set_cons_zero, List.set_cons_succ]))
  (try (dsimp only; simp only [Act.put, List.setIfInBounds_toArray, List.set_cons_zero, List.set_cons_succ]))
  (refine heldTake (i := 3) (oi := { dst := some 33, op := Op.move (Operand.tmp 32), type := 4, pos := "law.go:25", after := #[{ on := 2, ground := Ground.data }], guard := none }) (v := ?_) rfl (by kernel_rfl) (by kernel_rfl) (by kernel_rfl) (by assumption) ?_ ?_; rotate_left; focus (refine .inl ⟨by kernel_rfl, ?_⟩; intro w hSw; (try dsimp only at hSw); go_simp; (try with_reducible rfl)); (try simp only [Act.put, List.setIfInBounds_toArray, List.set_cons_zero, List.set_cons_succ]))
  (try (dsimp only; simp only [Act.put, List.setIfInBounds_toArray, List.set_cons_zero, List.set_cons_succ]))
  (refine heldTake (i := 4) (oi := { dst := some 34, op := Op.move (Operand.tmp 8), type := 4, pos := "law.go:25", after := #[{ on := 3, ground := Ground.guard }], guard := some (3, true) }) (v := ?_) rfl (by kernel_rfl) (by kernel_rfl) (by kernel_rfl) (by assumption) ?_ ?_; rotate_left; focus (refine .inl ⟨by kernel_rfl, ?_⟩; intro w hSw; (try dsimp only at hSw); go_simp; (try with_reducible rfl)); (try simp only [Act.put, List.setIfInBounds_toArray, List.set_cons_zero, List.set_cons_succ]))
  (try (dsimp only; simp only [Act.put, List.setIfInBounds_toArray, List.set_cons_zero, List.set_cons_succ]))
  (refine heldTake (i := 5) (oi := { dst := some 35, op := Op.move (Operand.tmp 10), type := 4, pos := "law.go:25", after := #[{ on := 3, ground := Ground.guard }], guard := some (3, true) }) (v := ?_) rfl (by kernel_rfl) (by kernel_rfl) (by kernel_rfl) (by assumption) ?_ ?_; rotate_left; focus (refine .inl ⟨by kernel_rfl, ?_⟩; intro w hSw; (try dsimp only at hSw); go_simp; (try with_reducible rfl)); (try simp only [Act.put, List.setIfInBounds_toArray, List.set_cons_zero, List.set_cons_succ]))
  (try (dsimp only; simp only [Act.put, List.setIfInBounds_toArray, List.set_cons_zero, List.set_cons_succ]))
  (refine heldTake (i := 6) (oi := { dst := some 36, op := Op.binOp BinOp.eql 4 (Operand.tmp 34) (Operand.tmp 35) 4, type := 4, pos := "law.go:25", after := #[{ on := 4, ground := Ground.data }, { on := 5, ground := Ground.data }, { on := 3, ground := Ground.guard }], guard := some (3, true) }) (v := ?_) rfl (by kernel_rfl) (by kernel_rfl) (by kernel_rfl) (by assumption) ?_ ?_; rotate_left; focus (refine .inl ⟨by kernel_rfl, ?_⟩; intro w hSw; (try dsimp only at hSw); go_simp; (try with_reducible rfl)); (try simp only [Act.put, List.setIfInBounds_toArray, List.set_cons_zero, List.set_cons_succ]))
  (try (dsimp only; simp only [Act.put, List.setIfInBounds_toArray, List.set_cons_zero, List.set_cons_succ]))
  (refine heldTake (i := 7) (oi := { dst := some 37, op := Op.pick (Operand.tmp 33) (Operand.tmp 36) (Operand.const (Value.bool false)), type := 4, pos := "law.go:25", after := #[{ on := 3, ground := Ground.data }, { on := 6, ground := Ground.data }], guard := none }) (v := ?_) rfl (by kernel_rfl) (by kernel_rfl) (by kernel_rfl) (by assumption) ?_ ?_; rotate_left; focus (refine .inl ⟨by kernel_rfl, ?_⟩; intro w hSw; (try dsimp only at hSw); go_simp; (try with_reducible rfl)); (try simp only [Act.put, List.setIfInBounds_toArray, List.set_cons_zero, List.set_cons_succ]))
  (try (dsimp only; simp only [Act.put, List.setIfInBounds_toArray, List.set_cons_zero, List.set_cons_succ]))
  (refine heldTake (i := 8) (oi := { dst := some 38, op := Op.move (Operand.tmp 37), type := 4, pos := "law.go:25", after := #[{ on := 7, ground := Ground.data }, { on := 3, ground := Ground.chain }], guard := none }) (v := ?_) rfl (by kernel_rfl) (by kernel_rfl) (by kernel_rfl) (by assumption) ?_ ?_; rotate_left; focus (refine .inl ⟨by kernel_rfl, ?_⟩; intro w hSw; (try dsimp only at hSw); go_simp; (try with_reducible rfl)); (try simp only [Act.put, List.setIfInBounds_toArray, List.set_cons_zero, List.set_cons_succ]))
  (try (dsimp only; simp only [Act.put, List.setIfInBounds_toArray, List.set_cons_zero, List.set_cons_succ]))
  (refine heldTake (i := 9) (oi := { dst := some 39, op := Op.move (Operand.tmp 1), type := 22, pos := "law.go:25", after := #[{ on := 8, ground := Ground.guard }], guard := some (8, true) }) (v := ?_) rfl (by kernel_rfl) (by kernel_rfl) (by kernel_rfl) (by assumption) ?_ ?_; rotate_left; focus (refine .inl ⟨by kernel_rfl, ?_⟩; intro w hSw; (try dsimp only at hSw); go_simp; (try with_reducible rfl)); (try simp only [Act.put, List.setIfInBounds_toArray, List.set_cons_zero, List.set_cons_succ]))
  (try (dsimp only; simp only [Act.put, List.setIfInBounds_toArray, List.set_cons_zero, List.set_cons_succ]))
  (refine heldTake (i := 10) (oi := { dst := some 40, op := Op.move (Operand.tmp 2), type := 3, pos := "law.go:25", after := #[{ on := 8, ground := Ground.guard }], guard := some (8, true) }) (v := ?_) rfl (by kernel_rfl) (by kernel_rfl) (by kernel_rfl) (by assumption) ?_ ?_; rotate_left; focus (refine .inl ⟨by kernel_rfl, ?_⟩; intro w hSw; (try dsimp only at hSw); go_simp; (try with_reducible rfl)); (try simp only [Act.put, List.setIfInBounds_toArray, List.set_cons_zero, List.set_cons_succ]))
  (try (dsimp only; simp only [Act.put, List.setIfInBounds_toArray, List.set_cons_zero, List.set_cons_succ]))
  (refine heldTake (i := 12) (oi := { dst := some 42, op := Op.move (Operand.tmp 1), type := 22, pos := "law.go:25", after := #[{ on := 8, ground := Ground.guard }], guard := some (8, true) }) (v := ?_) rfl (by kernel_rfl) (by kernel_rfl) (by kernel_rfl) (by assumption) ?_ ?_; rotate_left; focus (refine .inl ⟨by kernel_rfl, ?_⟩; intro w hSw; (try dsimp only at hSw); go_simp; (try with_reducible rfl)); (try simp only [Act.put, List.setIfInBounds_toArray, List.set_cons_zero, List.set_cons_succ]))
  (try (dsimp only; simp only [Act.put, List.setIfInBounds_toArray, List.set_cons_zero, List.set_cons_succ]))
  (refine heldTake (i := 13) (oi := { dst := some 43, op := Op.move (Operand.tmp 2), type := 3, pos := "law.go:25", after := #[{ on := 8, ground := Ground.guard }], guard := some (8, true) }) (v := ?_) rfl (by kernel_rfl) (by kernel_rfl) (by kernel_rfl) (by assumption) ?_ ?_; rotate_left; focus (refine .inl ⟨by kernel_rfl, ?_⟩; intro w hSw; (try dsimp only at hSw); go_simp; (try with_reducible rfl)); (try simp only [Act.put, List.setIfInBounds_toArray, List.set_cons_zero, List.set_cons_succ]))
  (try (dsimp only; simp only [Act.put, List.setIfInBounds_toArray, List.set_cons_zero, List.set_cons_succ]))
  refine wpAnyH_ready (rs := [11]) (by kernel_rfl) (by simp) ?_
  refine AllReadyH.cons (o := { dst := some 41, op := Op.call { callee := Callee.value (Operand.func 10), args := #[Operand.tmp 39, Operand.tmp 40], argTypes := #[22, 3] }, type := 22, pos := "law.go:25", after := #[{ on := 9, ground := Ground.data }, { on := 10, ground := Ground.data }, { on := 8, ground := Ground.chain }, { on := 8, ground := Ground.guard }], guard := some (8, true) }) rfl (fun K hK => ?_) AllReadyH.nil
  go_simp
  (go_at_call 10; ((with_reducible refine (HE.out _).mono ?_); rintro e w' ⟨rfl, rfl⟩))
  refine hK.out _ _ hHeld (fun hHeld11 => ?_)
  clear hK K hHeld
  (try simp only [Act.put, List.setIfInBounds_toArray, List.set_cons_zero, List.set_cons_succ])
  refine wpAnyH_ready (rs := [14]) (by kernel_rfl) (by simp) ?_
  refine AllReadyH.cons (o := { dst := some 44, op := Op.call { callee := Callee.value (Operand.func 11), args := #[Operand.tmp 42, Operand.tmp 43], argTypes := #[22, 3] }, type := 22, pos := "law.go:25", after := #[{ on := 12, ground := Ground.data }, { on := 13, ground := Ground.data }, { on := 11, ground := Ground.chain }, { on := 8, ground := Ground.guard }], guard := some (8, true) }) rfl (fun K hK => ?_) AllReadyH.nil
  go_simp
  (go_at_call 11; ((with_reducible refine (HF.out _).mono ?_); rintro e w' ⟨rfl, rfl⟩))
  refine hK.out _ _ hHeld11 (fun hHeld14 => ?_)
  clear hK K hHeld11
  (try simp only [Act.put, List.setIfInBounds_toArray, List.set_cons_zero, List.set_cons_succ])
  (refine heldTake (i := 15) (oi := { dst := some 45, op := Op.binOp BinOp.eql 22 (Operand.tmp 41) (Operand.tmp 44) 22, type := 4, pos := "law.go:25", after := #[{ on := 11, ground := Ground.data }, { on := 14, ground := Ground.data }, { on := 8, ground := Ground.guard }], guard := some (8, true) }) (v := ?_) rfl (by kernel_rfl) (by kernel_rfl) (by kernel_rfl) (by assumption) ?_ ?_; rotate_left; focus (refine .inl ⟨by kernel_rfl, ?_⟩; intro w hSw; (try dsimp only at hSw); go_simp; (try with_reducible rfl)); (try simp only [Act.put, List.setIfInBounds_toArray, List.set_cons_zero, List.set_cons_succ]))
  (try (dsimp only; simp only [Act.put, List.setIfInBounds_toArray, List.set_cons_zero, List.set_cons_succ]))
  (refine heldTake (i := 16) (oi := { dst := some 46, op := Op.pick (Operand.tmp 38) (Operand.tmp 45) (Operand.const (Value.bool false)), type := 4, pos := "law.go:25", after := #[{ on := 8, ground := Ground.data }, { on := 15, ground := Ground.data }], guard := none }) (v := ?_) rfl (by kernel_rfl) (by kernel_rfl) (by kernel_rfl) (by assumption) ?_ ?_; rotate_left; focus (refine .inl ⟨by kernel_rfl, ?_⟩; intro w hSw; (try dsimp only at hSw); go_simp; (try with_reducible rfl)); (try simp only [Act.put, List.setIfInBounds_toArray, List.set_cons_zero, List.set_cons_succ]))
  (try (dsimp only; simp only [Act.put, List.setIfInBounds_toArray, List.set_cons_zero, List.set_cons_succ]))
  (refine heldTake (i := 17) (oi := { dst := some 47, op := Op.move (Operand.tmp 46), type := 4, pos := "law.go:25", after := #[{ on := 16, ground := Ground.data }, { on := 14, ground := Ground.chain }], guard := none }) (v := ?_) rfl (by kernel_rfl) (by kernel_rfl) (by kernel_rfl) (by assumption) ?_ ?_; rotate_left; focus (refine .inl ⟨by kernel_rfl, ?_⟩; intro w hSw; (try dsimp only at hSw); go_simp; (try with_reducible rfl)); (try simp only [Act.put, List.setIfInBounds_toArray, List.set_cons_zero, List.set_cons_succ]))
  (try (dsimp only; simp only [Act.put, List.setIfInBounds_toArray, List.set_cons_zero, List.set_cons_succ]))
  (refine heldTake (i := 18) (oi := { dst := some 48, op := Op.move (Operand.tmp 11), type := 29, pos := "law.go:25", after := #[{ on := 17, ground := Ground.guard }], guard := some (17, true) }) (v := ?_) rfl (by kernel_rfl) (by kernel_rfl) (by kernel_rfl) (by assumption) ?_ ?_; rotate_left; focus (refine .inl ⟨by kernel_rfl, ?_⟩; intro w hSw; (try dsimp only at hSw); go_simp; (try with_reducible rfl)); (try simp only [Act.put, List.setIfInBounds_toArray, List.set_cons_zero, List.set_cons_succ]))
  (try (dsimp only; simp only [Act.put, List.setIfInBounds_toArray, List.set_cons_zero, List.set_cons_succ]))
  (refine heldTake (i := 19) (oi := { dst := some 49, op := Op.convert 29 9 (Operand.tmp 48), type := 9, pos := "law.go:25", after := #[{ on := 18, ground := Ground.data }, { on := 17, ground := Ground.guard }], guard := some (17, true) }) (v := ?_) rfl (by kernel_rfl) (by kernel_rfl) (by kernel_rfl) (by assumption) ?_ ?_; rotate_left; focus (refine .inl ⟨by kernel_rfl, ?_⟩; intro w hSw; (try dsimp only at hSw); go_simp; (try with_reducible rfl)); (try simp only [Act.put, List.setIfInBounds_toArray, List.set_cons_zero, List.set_cons_succ]))
  (try (dsimp only; simp only [Act.put, List.setIfInBounds_toArray, List.set_cons_zero, List.set_cons_succ]))
  (refine heldTake (i := 20) (oi := { dst := some 50, op := Op.move (Operand.tmp 1), type := 22, pos := "law.go:25", after := #[{ on := 17, ground := Ground.guard }], guard := some (17, true) }) (v := ?_) rfl (by kernel_rfl) (by kernel_rfl) (by kernel_rfl) (by assumption) ?_ ?_; rotate_left; focus (refine .inl ⟨by kernel_rfl, ?_⟩; intro w hSw; (try dsimp only at hSw); go_simp; (try with_reducible rfl)); (try simp only [Act.put, List.setIfInBounds_toArray, List.set_cons_zero, List.set_cons_succ]))
  (try (dsimp only; simp only [Act.put, List.setIfInBounds_toArray, List.set_cons_zero, List.set_cons_succ]))
  (refine heldTake (i := 21) (oi := { dst := some 51, op := Op.move (Operand.tmp 2), type := 3, pos := "law.go:25", after := #[{ on := 17, ground := Ground.guard }], guard := some (17, true) }) (v := ?_) rfl (by kernel_rfl) (by kernel_rfl) (by kernel_rfl) (by assumption) ?_ ?_; rotate_left; focus (refine .inl ⟨by kernel_rfl, ?_⟩; intro w hSw; (try dsimp only at hSw); go_simp; (try with_reducible rfl)); (try simp only [Act.put, List.setIfInBounds_toArray, List.set_cons_zero, List.set_cons_succ]))
  (try (dsimp only; simp only [Act.put, List.setIfInBounds_toArray, List.set_cons_zero, List.set_cons_succ]))
  refine wpAnyH_ready (rs := [22]) (by kernel_rfl) (by simp) ?_
  refine AllReadyH.cons (o := { dst := some 52, op := Op.call { callee := Callee.value (Operand.func 12), args := #[Operand.tmp 50, Operand.tmp 51], argTypes := #[22, 3] }, type := 9, pos := "law.go:25", after := #[{ on := 20, ground := Ground.data }, { on := 21, ground := Ground.data }, { on := 17, ground := Ground.chain }, { on := 17, ground := Ground.guard }], guard := some (17, true) }) rfl (fun K hK => ?_) AllReadyH.nil
  go_simp
  (go_at_call 12; ((with_reducible refine (HC.out _).mono ?_); rintro e w' ⟨rfl, hk⟩))
  refine hK.out _ _ (HK.out _ _ hHeld14 hk) (fun hHeld22 => ?_)
  clear hK K hHeld14
  (try simp only [Act.put, List.setIfInBounds_toArray, List.set_cons_zero, List.set_cons_succ])
  (refine heldTake (i := 23) (oi := { dst := some 53, op := Op.binOp BinOp.eql 9 (Operand.tmp 49) (Operand.tmp 52) 9, type := 4, pos := "law.go:25", after := #[{ on := 19, ground := Ground.data }, { on := 22, ground := Ground.data }, { on := 17, ground := Ground.guard }], guard := some (17, true) }) (v := ?_) rfl (by kernel_rfl) (by kernel_rfl) (by kernel_rfl) (by assumption) ?_ ?_; rotate_left; focus (refine .inl ⟨by kernel_rfl, ?_⟩; intro w hSw; (try dsimp only at hSw); go_simp; (try with_reducible rfl)); (try simp only [Act.put, List.setIfInBounds_toArray, List.set_cons_zero, List.set_cons_succ]))
  (try (dsimp only; simp only [Act.put, List.setIfInBounds_toArray, List.set_cons_zero, List.set_cons_succ]))
  (refine heldTake (i := 24) (oi := { dst := some 54, op := Op.pick (Operand.tmp 47) (Operand.tmp 53) (Operand.const (Value.bool false)), type := 4, pos := "law.go:25", after := #[{ on := 17, ground := Ground.data }, { on := 23, ground := Ground.data }], guard := none }) (v := ?_) rfl (by kernel_rfl) (by kernel_rfl) (by kernel_rfl) (by assumption) ?_ ?_; rotate_left; focus (refine .inl ⟨by kernel_rfl, ?_⟩; intro w hSw; (try dsimp only at hSw); go_simp; (try with_reducible rfl)); (try simp only [Act.put, List.setIfInBounds_toArray, List.set_cons_zero, List.set_cons_succ]))
  (try (dsimp only; simp only [Act.put, List.setIfInBounds_toArray, List.set_cons_zero, List.set_cons_succ]))
  (refine heldTake (i := 25) (oi := { dst := some 55, op := Op.move (Operand.tmp 54), type := 4, pos := "law.go:25", after := #[{ on := 24, ground := Ground.data }, { on := 22, ground := Ground.chain }], guard := none }) (v := ?_) rfl (by kernel_rfl) (by kernel_rfl) (by kernel_rfl) (by assumption) ?_ ?_; rotate_left; focus (refine .inl ⟨by kernel_rfl, ?_⟩; intro w hSw; (try dsimp only at hSw); go_simp; (try with_reducible rfl)); (try simp only [Act.put, List.setIfInBounds_toArray, List.set_cons_zero, List.set_cons_succ]))
  (try (dsimp only; simp only [Act.put, List.setIfInBounds_toArray, List.set_cons_zero, List.set_cons_succ]))
  (refine heldTake (i := 26) (oi := { dst := some 56, op := Op.move (Operand.tmp 11), type := 29, pos := "law.go:25", after := #[{ on := 25, ground := Ground.guard }], guard := some (25, true) }) (v := ?_) rfl (by kernel_rfl) (by kernel_rfl) (by kernel_rfl) (by assumption) ?_ ?_; rotate_left; focus (refine .inl ⟨by kernel_rfl, ?_⟩; intro w hSw; (try dsimp only at hSw); go_simp; (try with_reducible rfl)); (try simp only [Act.put, List.setIfInBounds_toArray, List.set_cons_zero, List.set_cons_succ]))
  (try (dsimp only; simp only [Act.put, List.setIfInBounds_toArray, List.set_cons_zero, List.set_cons_succ]))
  (refine heldTake (i := 28) (oi := { dst := some 58, op := Op.move (Operand.tmp 11), type := 29, pos := "law.go:25", after := #[{ on := 25, ground := Ground.guard }], guard := some (25, true) }) (v := ?_) rfl (by kernel_rfl) (by kernel_rfl) (by kernel_rfl) (by assumption) ?_ ?_; rotate_left; focus (refine .inl ⟨by kernel_rfl, ?_⟩; intro w hSw; (try dsimp only at hSw); go_simp; (try with_reducible rfl)); (try simp only [Act.put, List.setIfInBounds_toArray, List.set_cons_zero, List.set_cons_succ]))
  (try (dsimp only; simp only [Act.put, List.setIfInBounds_toArray, List.set_cons_zero, List.set_cons_succ]))
  (refine heldTake (i := 29) (oi := { dst := some 59, op := Op.convert 29 9 (Operand.tmp 58), type := 9, pos := "law.go:25", after := #[{ on := 28, ground := Ground.data }, { on := 25, ground := Ground.guard }], guard := some (25, true) }) (v := ?_) rfl (by kernel_rfl) (by kernel_rfl) (by kernel_rfl) (by assumption) ?_ ?_; rotate_left; focus (refine .inl ⟨by kernel_rfl, ?_⟩; intro w hSw; (try dsimp only at hSw); go_simp; (try with_reducible rfl)); (try simp only [Act.put, List.setIfInBounds_toArray, List.set_cons_zero, List.set_cons_succ]))
  (try (dsimp only; simp only [Act.put, List.setIfInBounds_toArray, List.set_cons_zero, List.set_cons_succ]))
  refine wpAnyH_ready (rs := [27]) (by kernel_rfl) (by simp) ?_
  refine AllReadyH.cons (o := { dst := some 57, op := Op.call { callee := Callee.value (Operand.func 13), args := #[Operand.tmp 56], argTypes := #[29] }, type := 22, pos := "law.go:25", after := #[{ on := 26, ground := Ground.data }, { on := 25, ground := Ground.chain }, { on := 25, ground := Ground.guard }], guard := some (25, true) }) rfl (fun K hK => ?_) AllReadyH.nil
  go_simp
  (go_at_call 13; ((with_reducible refine (HN.out _ _ _ _ HC4.out (HL4.out.below hHeld22.1 (Nat.le_refl _))).mono ?_); rintro e w' ⟨rfl, hk⟩))
  refine hK.out _ _ (HK.out _ _ hHeld22 hk) (fun hHeld27 => ?_)
  clear hK K hHeld22
  (try simp only [Act.put, List.setIfInBounds_toArray, List.set_cons_zero, List.set_cons_succ])
  refine wpAnyH_ready (rs := [30]) (by kernel_rfl) (by simp) ?_
  refine AllReadyH.cons (o := { dst := some 60, op := Op.call { callee := Callee.value (Operand.func 14), args := #[Operand.tmp 59], argTypes := #[9] }, type := 22, pos := "law.go:25", after := #[{ on := 29, ground := Ground.data }, { on := 27, ground := Ground.chain }, { on := 25, ground := Ground.guard }], guard := some (25, true) }) rfl (fun K hK => ?_) AllReadyH.nil
  go_simp
  (go_at_call 14; ((with_reducible refine (HM.out _).mono ?_); rintro e w' ⟨rfl, rfl⟩))
  refine hK.out _ _ hHeld27 (fun hHeld30 => ?_)
  clear hK K hHeld27
  (try simp only [Act.put, List.setIfInBounds_toArray, List.set_cons_zero, List.set_cons_succ])
  (refine heldTake (i := 31) (oi := { dst := some 61, op := Op.binOp BinOp.eql 22 (Operand.tmp 57) (Operand.tmp 60) 22, type := 4, pos := "law.go:25", after := #[{ on := 27, ground := Ground.data }, { on := 30, ground := Ground.data }, { on := 25, ground := Ground.guard }], guard := some (25, true) }) (v := ?_) rfl (by kernel_rfl) (by kernel_rfl) (by kernel_rfl) (by assumption) ?_ ?_; rotate_left; focus (refine .inl ⟨by kernel_rfl, ?_⟩; intro w hSw; (try dsimp only at hSw); go_simp; (try with_reducible rfl)); (try simp only [Act.put, List.setIfInBounds_toArray, List.set_cons_zero, List.set_cons_succ]))
  (try (dsimp only; simp only [Act.put, List.setIfInBounds_toArray, List.set_cons_zero, List.set_cons_succ]))
  (refine heldTake (i := 32) (oi := { dst := some 62, op := Op.pick (Operand.tmp 55) (Operand.tmp 61) (Operand.const (Value.bool false)), type := 4, pos := "law.go:25", after := #[{ on := 25, ground := Ground.data }, { on := 31, ground := Ground.data }], guard := none }) (v := ?_) rfl (by kernel_rfl) (by kernel_rfl) (by kernel_rfl) (by assumption) ?_ ?_; rotate_left; focus (refine .inl ⟨by kernel_rfl, ?_⟩; intro w hSw; (try dsimp only at hSw); go_simp; (try with_reducible rfl)); (try simp only [Act.put, List.setIfInBounds_toArray, List.set_cons_zero, List.set_cons_succ]))
  (try (dsimp only; simp only [Act.put, List.setIfInBounds_toArray, List.set_cons_zero, List.set_cons_succ]))
  (refine heldTake (i := 33) (oi := { dst := some 6, op := Op.assign (Operand.tmp 62), type := 4, pos := "law.go:25", after := #[{ on := 32, ground := Ground.data }, { on := 30, ground := Ground.chain }, { on := 0, ground := Ground.phase }, { on := 1, ground := Ground.phase }, { on := 2, ground := Ground.phase }, { on := 3, ground := Ground.phase }, { on := 4, ground := Ground.phase }, { on := 5, ground := Ground.phase }, { on := 6, ground := Ground.phase }, { on := 7, ground := Ground.phase }, { on := 8, ground := Ground.phase }, { on := 9, ground := Ground.phase }, { on := 10, ground := Ground.phase }, { on := 11, ground := Ground.phase }, { on := 12, ground := Ground.phase }, { on := 13, ground := Ground.phase }, { on := 14, ground := Ground.phase }, { on := 15, ground := Ground.phase }, { on := 16, ground := Ground.phase }, { on := 17, ground := Ground.phase }, { on := 18, ground := Ground.phase }, { on := 19, ground := Ground.phase }, { on := 20, ground := Ground.phase }, { on := 21, ground := Ground.phase }, { on := 22, ground := Ground.phase }, { on := 23, ground := Ground.phase }, { on := 24, ground := Ground.phase }, { on := 25, ground := Ground.phase }, { on := 26, ground := Ground.phase }, { on := 27, ground := Ground.phase }, { on := 28, ground := Ground.phase }, { on := 29, ground := Ground.phase }, { on := 30, ground := Ground.phase }, { on := 31, ground := Ground.phase }, { on := 32, ground := Ground.phase }], guard := none }) (v := ?_) rfl (by kernel_rfl) (by kernel_rfl) (by kernel_rfl) (by assumption) ?_ ?_; rotate_left; focus (refine .inl ⟨by kernel_rfl, ?_⟩; intro w hSw; (try dsimp only at hSw); go_simp; (try with_reducible rfl)); (try simp only [Act.put, List.setIfInBounds_toArray, List.set_cons_zero, List.set_cons_succ]))
  (try (dsimp only; simp only [Act.put, List.setIfInBounds_toArray, List.set_cons_zero, List.set_cons_succ]))
  refine wpAnyH_done (by kernel_rfl) ?_ _
  refine NoPanic.normal ?_
  have hLast := hHeld30
  clear hHeld30
  go_wp2
  go_ret
  exact ⟨rfl, HB4.out.trans (hLast.1.mono HB4.out.size)⟩
theorem convDoes_law (op x : Nat) (n : Int) (w : World) (hx : x < 18446744073709551616) (hop : op ≤ 255) (hT : TabA w) : Calls Tryd.prog 3 #[.int .u8 op, .int .u64 x, .int .i64 n] w fun e w' => e = .returned (.bool true) ∧ Below w.heap.size w w' := by
  have hl := bytN_len (min n 8).toNat x
  have h8 : (bytN (min n 8).toNat x).length ≤ 8 := by omega
  have hN := fun W A c B (hlc : (bytN (min n 8).toNat x).length ≤ c) (h : Lies W B A (cells (nums (bytN (min n 8).toNat x)))) => numberP (bytN (min n 8).toNat x) A c B W hlc (by omega) h
  have hM := fun W => numberB (bytN (min n 8).toNat x) W (by omega)
  have hD := fun W => doP_any op x W hx
  have hR := fun W => refDo_any op x W hx
  cases h : doZ op x with
  | none =>
    rw [h] at hD hR
    exact convDoes_both op x 0 n 0 0 false _ _ _ hx hop h8 hT hD hR (fun W => extendP x n W hx) (fun W => refExt_any x n W hx) (fun W => bytesP x n W hx) (fun W => bytesB x n W hx) hN hM
  | some y =>
    obtain ⟨t, v⟩ := y
    rw [h] at hD hR
    exact convDoes_both op x 0 n t v true _ _ _ hx hop h8 hT hD hR (fun W => extendP x n W hx) (fun W => refExt_any x n W hx) (fun W => bytesP x n W hx) (fun W => bytesB x n W hx) hN hM
end Go.Proofs.YtakklljpngeocaaDoor
