/- instr.Put. -/
import Derived.Test.YtjjhgmmkapeifaaDoorKa08
import Derived.Test.YtjjhgmmkapeifaaDoorKa04
namespace Go.Proofs.YtjjhgmmkapeifaaDoor
open Go.RowKit
set_option linter.unusedVariables false
set_option maxRecDepth 100000

/-- A row of the call's own lies; where it lies nowhere it has no room. -/
theorem Row.liesN {w : World} {base : Nat} {v : Value} {xs : List UInt8} (h : Row w base v xs) : ∃ A c, v = .slice A xs.length c ∧ Lies w w.heap.size A (cells (nums xs)) ∧ (A = none → c = 0) ∧ xs.length ≤ c ∧ c ≤ maxLen := by
  have h' := h
  obtain ⟨h1, h2⟩ := h
  obtain ⟨A, c, e, h3, h4, h5, _⟩ := lies_own h'
  refine ⟨A, c, e, h5, fun hA => ?_, h3, h4⟩
  rcases h2 with ⟨e2, _⟩ | ⟨g, cap, cur, e2, _⟩
  · rw [e] at e2
    injection e2
  · rw [e] at e2
    injection e2 with e2
    rw [hA] at e2
    cases e2
/-- What Put hands back. -/
def PutPost (i : I) (w : World) (e : Ending) (w' : World) : Prop :=
  ∃ v, e = .returned (.tuple #[v, .int .i64 (rightZ i)]) ∧ Row w' w.heap.size v (if rightZ i = 0 then putL i else []) ∧ Below w.heap.size w w'
theorem put_no {i : I} {w w' : World} (h : rightZ i ≠ 0) (hb : Below w.heap.size w w') : PutPost i w (.returned (.tuple #[.slice none 0 0, .int .i64 (rightZ i)])) w' :=
  ⟨_, rfl, by rw [if_neg h]; exact Row.nil _ _, hb⟩
theorem immL_len {i : I} (h : i.Ok) (hr : rightZ i = 0) : (immL i).length ≤ 200000 := by
  obtain ⟨a0, a1, b0, b1, hl0⟩ := h
  obtain ⟨_, _, h10, _, _⟩ := right_zero hr
  have k1 := lebL_len i.a (by omega)
  have k2 := lebL_len i.b (by omega)
  have k3 := lebL_len (i.l.length : Int) (by omega)
  have k4 := labsL_take_len i.l hl0 i.l.length h10
  rw [List.take_length] at k4
  have k5 := sebL_len (s32 i.a) (by unfold s32; omega) (by unfold s32; omega)
  have k6 := sebL_len (s64 i.a) (by unfold s64; omega) (by unfold s64; omega)
  unfold immL immB labL
  repeat' split
  all_goals (try simp only [List.length_append, List.length_cons, List.length_nil])
  all_goals omega
theorem nums_one (c : UInt8) : cells (nums [c]) = [.int .u8 c.toNat] := rfl
theorem catenate {W : World} {op : UInt8} {g g1 : Nat} {A1 : Option Addr} {c1 : Nat} {l2 : List UInt8} (hg : Whole W g 29 #[.slice (some ⟨g1, 0, none⟩) 1 1, .slice A1 l2.length c1])
    (h1 : Whole W g1 5 #[.int .u8 op.toNat]) (h2 : Lies W W.heap.size A1 (cells (nums l2))) (hA : A1 = none → c1 = 0) (n2 : l2.length ≤ 200000) :
    Calls Tryd.prog 43 #[.slice (some ⟨g, 0, none⟩) 2 2] W (BytesL (op :: l2) W) := by
  refine concat_any (l1 := [op]) (c1 := 1) hg ?_ h2 hA (by simp) (by simp; omega)
  intro j v hv
  rw [nums_one] at hv
  refine ⟨g1, 0, rfl, h1.lt, ?_⟩
  rw [h1.cell]
  simpa using hv

theorem put_yes {i : I} {w w' : World} {x : List UInt8} {v : Value} (h : rightZ i = 0) (hp : putL i = i.op :: x) (hr : Row w' w.heap.size v (i.op :: x)) (hb : Below w.heap.size w w') : PutPost i w (.returned (.tuple #[v, .int .i64 0])) w' :=
  ⟨v, by rw [h], by rw [if_pos h, hp]; exact hr, hb⟩
theorem size_box (w : World) (o : Obj) : (w.alloc o).heap.size = w.heap.size + 1 := by simp
theorem lies_box {w : World} {A : Option Addr} {vs : List Value} (h : Lies w w.heap.size A vs) (o : Obj) : Lies (w.alloc o) (w.alloc o).heap.size A vs :=
  (h.below (below_box w o) (Nat.le_refl _)).more (below_box w o).size
theorem cat2 {W : World} {op : UInt8} {g1 H : Nat} {A2 : Option Addr} {k2 : Nat} {x : List UInt8} (hH : W.heap.size = H) (h1 : Whole W g1 5 #[.int .u8 op.toNat]) (hl : Lies W W.heap.size A2 (cells (nums x))) (hA : A2 = none → k2 = 0) (hn : x.length ≤ 200000) :
    Calls Tryd.prog 43 #[.slice (some ⟨H, 0, none⟩) 2 2] (W.alloc (.cells #[.slice (some ⟨g1, 0, none⟩) 1 1, .slice A2 x.length k2] 29)) (BytesL (op :: x) (W.alloc (.cells #[.slice (some ⟨g1, 0, none⟩) 1 1, .slice A2 x.length k2] 29))) := by
  subst hH
  exact catenate (op := op) (Whole.made _ _ _) (h1.alloc _) (lies_box hl _) hA hn
section
variable {w W W' : World} {i : I} {A : Option Addr} {c : Nat}
theorem held5 (h : BoxI w W i A c) : BoxI w W i A c ∧ W.cell? ⟨w.heap.size, 0, none⟩ = some (.int .u8 i.op.toNat) ∧ W.cell? ⟨w.heap.size, 1, none⟩ = some (.int .u64 i.a) ∧ W.cell? ⟨w.heap.size, 2, none⟩ = some (.int .u64 i.b) ∧ W.cell? ⟨w.heap.size, 3, none⟩ = some (.slice A i.l.length c) :=
  ⟨h, h.c0, h.c1, h.c2, h.c3⟩
theorem held_on (h : BoxI w W i A c ∧ W.cell? ⟨w.heap.size, 0, none⟩ = some (.int .u8 i.op.toNat) ∧ W.cell? ⟨w.heap.size, 1, none⟩ = some (.int .u64 i.a) ∧ W.cell? ⟨w.heap.size, 2, none⟩ = some (.int .u64 i.b) ∧ W.cell? ⟨w.heap.size, 3, none⟩ = some (.slice A i.l.length c)) (hb : Below W.heap.size W W') : BoxI w W' i A c ∧ W'.cell? ⟨w.heap.size, 0, none⟩ = some (.int .u8 i.op.toNat) ∧ W'.cell? ⟨w.heap.size, 1, none⟩ = some (.int .u64 i.a) ∧ W'.cell? ⟨w.heap.size, 2, none⟩ = some (.int .u64 i.b) ∧ W'.cell? ⟨w.heap.size, 3, none⟩ = some (.slice A i.l.length c) := held5 (h.1.on hb)
theorem held_bel (h : BoxI w W i A c ∧ W.cell? ⟨w.heap.size, 0, none⟩ = some (.int .u8 i.op.toNat) ∧ W.cell? ⟨w.heap.size, 1, none⟩ = some (.int .u64 i.a) ∧ W.cell? ⟨w.heap.size, 2, none⟩ = some (.int .u64 i.b) ∧ W.cell? ⟨w.heap.size, 3, none⟩ = some (.slice A i.l.length c)) : Below w.heap.size w W := h.1.2
end
set_option maxHeartbeats 1000000 in
theorem put_any (i : I) (A : Option Addr) (c : Nat) (w : World) (h : i.Ok) (hT : Tabs w) (hl : Lies w w.heap.size A (cells32 i.l)) (hl63 : (i.l.length : Int) ≤ 9223372036854775807) :
    Calls Tryd.prog 26 #[insV i A c] w (PutPost i w) := by
  have HB := Lib.hid (BoxI.start w i A c)
  have HT1 := Lib.hid (hT.below HB.out.2)
  have HR := Lib.hid (right_any i A c (w.alloc (.cells (insC i A c) 25)) h HT1.out hl63)
  by_cases hr : rightZ i = 0
  · have HIM := Lib.hid (fun W (hb : Below w.heap.size w W) => imm_bytes i A c W h (hT.below hb) hr ((hl.below hb (Nat.le_refl _)).more hb.size))
    have hlen := immL_len h hr
    have HP := Lib.hid (show putL i = i.op :: immL i from rfl)
    have HZ := Lib.hid hr
    rw [hr] at HR
    generalize immL i = x at *
    clear h hT hl hr
    go_enter Tryd.func26, Tryd.ntmps26
    go_wp2_with (go_at_call 27; go_must ((with_reducible refine HR.out.mono ?_); rintro e w1 ⟨rfl, hb1⟩; have HB1 := Lib.hid (HB.out.on hb1); have c0 := HB1.out.c0; have c1 := HB1.out.c1; have c2 := HB1.out.c2; have c3 := HB1.out.c3; clear hb1))
    clear c0 c1 c2 c3
    go_region_held3 (fun W => BoxI w W i A c ∧ W.cell? ⟨w.heap.size, 0, none⟩ = some (.int .u8 i.op.toNat) ∧ W.cell? ⟨w.heap.size, 1, none⟩ = some (.int .u64 i.a) ∧ W.cell? ⟨w.heap.size, 2, none⟩ = some (.int .u64 i.b) ∧ W.cell? ⟨w.heap.size, 3, none⟩ = some (.slice A i.l.length c))
      (first | assumption | exact held5 (HB1.out.drewN 1) | exact held5 ((HB1.out.on (below_box _ _)).drewN 1) | exact held_on HK2.out (below_box _ _) | exact held_on (held_on HK2.out (below_box _ _)) (below_box _ _) | exact held_on HK4.out (below_box _ _))
      (first
        | (go_at_call 44; ((with_reducible refine (HIM.out _ (held_bel ‹_›)).mono ?_); intro e w2 h; obtain ⟨v2, rfl, hr2, hb2⟩ := h; obtain ⟨A2, k2, rfl, hl2, hA2, _⟩ := hr2.liesN; have hk2 := held_on ‹_› hb2; have HL2 := Lib.hid hl2; have HA2 := Lib.hid hA2; have HB2 := Lib.hid hb2; have HK2 := Lib.hid hk2; clear hl2 hA2 hr2 hb2))
        | (go_at_call 43; first
            | ((with_reducible refine (cat2 (op := i.op) (g1 := w1.heap.size) (W := w2) rfl ((Whole.made w1 5 #[.int .u8 i.op.toNat]).drew.below HB2.out) HL2.out HA2.out hlen).mono ?_); intro e w4 h; obtain ⟨v4, rfl, hr4, hb4⟩ := h; have hk4 := held_on (held_on HK2.out (below_box _ _)) hb4; have HR4 := Lib.hid hr4; have HK4 := Lib.hid hk4; have hz4 := HK2.out.1.2.size; clear hr4 hb4)
            | ((with_reducible refine (cat2 (op := i.op) (g1 := w2.heap.size) (W := w2.alloc (.cells #[.int .u8 i.op.toNat] 5)) (size_box _ _) (Whole.made w2 5 #[.int .u8 i.op.toNat]) (lies_box HL2.out _) HA2.out hlen).mono ?_); intro e w4 h; obtain ⟨v4, rfl, hr4, hb4⟩ := h; have hk4 := held_on (held_on (held_on HK2.out (below_box _ _)) (below_box _ _)) hb4; have HR4 := Lib.hid hr4; have HK4 := Lib.hid hk4; have hz4 := HK2.out.1.2.size; clear hr4 hb4)))
    all_goals
      go_wp2
      go_ret2
      exact put_yes HZ.out HP.out (HR4.out.mono (by simp; omega)) HK4.out.1.2
  · have HZ := Lib.hid hr
    have dz : (rightZ i != 0) = true := by simpa using hr
    generalize hz : rightZ i = z at *
    clear h hT hl hr HT1
    go_enter Tryd.func26, Tryd.ntmps26
    go_wp2_with (go_at_call 27; go_must ((with_reducible refine HR.out.mono ?_); rintro e w1 ⟨rfl, hb1⟩; have HB1 := Lib.hid (HB.out.on hb1); clear hb1))
    subst hz
    go_ret2
    exact put_no HZ.out HB1.out.2
end Go.Proofs.YtjjhgmmkapeifaaDoor

/- consts.Right and the reference's Right. (By gen/genCRight.py.) -/
namespace Go.Proofs.YtjjhgmmkapeifaaDoor
open Go.RowKit
set_option linter.unusedVariables false
set_option maxRecDepth 100000

/-- May an instruction be a constant expression? -/
def IsC (n : Nat) : Prop := n = 35 ∨ n = 65 ∨ n = 66
instance (n : Nat) : Decidable (IsC n) := by unfold IsC; infer_instance
def crightZ (i : I) : Int := if rightZ i = 0 then (if IsC i.n then 0 else 12) else rightZ i
theorem cr_no {i : I} (h : ¬ rightZ i = 0) : crightZ i = rightZ i := by unfold crightZ; rw [if_neg h]
theorem cr_yes {i : I} (h : rightZ i = 0) (h2 : IsC i.n) : crightZ i = 0 := by unfold crightZ; rw [if_pos h, if_pos h2]
theorem cr_else {i : I} (h : rightZ i = 0) (h2 : ¬ IsC i.n) : crightZ i = 12 := by unfold crightZ; rw [if_pos h, if_neg h2]
theorem cr_zero {i : I} (h : crightZ i = 0) : rightZ i = 0 ∧ IsC i.n := by
  by_cases h1 : rightZ i = 0
  · by_cases h2 : IsC i.n
    · exact ⟨h1, h2⟩
    · rw [cr_else h1 h2] at h; omega
  · rw [cr_no h1] at h; exact absurd h h1

set_option maxHeartbeats 800000 in
theorem cright_any (i : I) (A : Option Addr) (c : Nat) (w : World) (h : i.Ok) (hT : Tabs w) (hl : (i.l.length : Int) ≤ 9223372036854775807) :
    Calls Tryd.prog 10 #[insV i A c] w (IntPost (crightZ i) w) := by
  have HB := Lib.hid (BoxI.start w i A c)
  have HR := Lib.hid (right_any i A c (w.alloc (.cells (insC i A c) 25)) h (hT.below HB.out.2) hl)
  by_cases h0 : rightZ i = 0
  · rw [h0] at HR
    have HE1 := Lib.hid (fun h2 => cr_yes (i := i) h0 h2)
    have HE2 := Lib.hid (fun h2 => cr_else (i := i) h0 h2)
    clear h hT hl h0
    by_cases h35 : i.n = 35
    · have d35 : ((i.op.toNat : Int) == 35) = true := beq_iff_eq.2 (by have : i.op.toNat = 35 := h35; omega)
      have HE := Lib.hid (HE1.out (by unfold IsC; omega))
      clear HE1 HE2 h35
      go_enter Tryd.func10, Tryd.ntmps10
      go_wp2_with (go_at_call 27; go_must ((with_reducible refine HR.out.mono ?_); rintro e w1 ⟨rfl, hb⟩; have HB1 := Lib.hid (HB.out.on hb); have c0 := HB1.out.c0; clear hb))
      go_ret
      exact ret_below HE.out.symm HB1.out.2
    have d35 : ((i.op.toNat : Int) == 35) = false := by have : ¬ i.op.toNat = 35 := h35; simp; omega
    by_cases h65 : i.n = 65
    · have d65 : ((i.op.toNat : Int) == 65) = true := beq_iff_eq.2 (by have : i.op.toNat = 65 := h65; omega)
      have HE := Lib.hid (HE1.out (by unfold IsC; omega))
      clear HE1 HE2 h35 h65
      go_enter Tryd.func10, Tryd.ntmps10
      go_wp2_with (go_at_call 27; go_must ((with_reducible refine HR.out.mono ?_); rintro e w1 ⟨rfl, hb⟩; have HB1 := Lib.hid (HB.out.on hb); have c0 := HB1.out.c0; clear hb))
      go_ret
      exact ret_below HE.out.symm HB1.out.2
    have d65 : ((i.op.toNat : Int) == 65) = false := by have : ¬ i.op.toNat = 65 := h65; simp; omega
    by_cases h66 : i.n = 66
    · have d66 : ((i.op.toNat : Int) == 66) = true := beq_iff_eq.2 (by have : i.op.toNat = 66 := h66; omega)
      have HE := Lib.hid (HE1.out (by unfold IsC; omega))
      clear HE1 HE2 h35 h65 h66
      go_enter Tryd.func10, Tryd.ntmps10
      go_wp2_with (go_at_call 27; go_must ((with_reducible refine HR.out.mono ?_); rintro e w1 ⟨rfl, hb⟩; have HB1 := Lib.hid (HB.out.on hb); have c0 := HB1.out.c0; clear hb))
      go_ret
      exact ret_below HE.out.symm HB1.out.2
    have d66 : ((i.op.toNat : Int) == 66) = false := by have : ¬ i.op.toNat = 66 := h66; simp; omega
    have HE := Lib.hid (HE2.out (by unfold IsC; omega))
    clear HE1 HE2 h35 h65 h66
    go_enter Tryd.func10, Tryd.ntmps10
    go_wp2_with (go_at_call 27; go_must ((with_reducible refine HR.out.mono ?_); rintro e w1 ⟨rfl, hb⟩; have HB1 := Lib.hid (HB.out.on hb); have c0 := HB1.out.c0; clear hb))
    go_ret
    exact ret_below HE.out.symm HB1.out.2
  · have HE := Lib.hid (cr_no h0)
    obtain ⟨z, hz⟩ : ∃ z, z = rightZ i := ⟨_, rfl⟩
    rw [← hz] at HR HE h0
    have dz : (z != 0) = true := by simpa using h0
    clear h hT hl h0 hz
    go_enter Tryd.func10, Tryd.ntmps10
    go_wp2_with (go_at_call 27; go_must ((with_reducible refine HR.out.mono ?_); rintro e w1 ⟨rfl, hb⟩; have HB1 := Lib.hid (HB.out.on hb); have c0 := HB1.out.c0; clear hb))
    go_ret
    exact ret_below HE.out.symm HB1.out.2
set_option maxHeartbeats 800000 in
theorem rcright_any (i : I) (A : Option Addr) (c : Nat) (w : World) (h : i.Ok) (hl : (i.l.length : Int) ≤ 9223372036854775807) :
    Calls Tryd.prog 7 #[insV i A c] w (IntPost (crightZ i) w) := by
  have HB := Lib.hid (BoxI.start w i A c)
  have HR := Lib.hid (refRight_any i A c (w.alloc (.cells (insC i A c) 25)) h hl)
  by_cases h0 : rightZ i = 0
  · rw [h0] at HR
    have HE1 := Lib.hid (fun h2 => cr_yes (i := i) h0 h2)
    have HE2 := Lib.hid (fun h2 => cr_else (i := i) h0 h2)
    clear h hl h0
    by_cases h35 : i.n = 35
    · have d35 : ((i.op.toNat : Int) == 35) = true := beq_iff_eq.2 (by have : i.op.toNat = 35 := h35; omega)
      have HE := Lib.hid (HE1.out (by unfold IsC; omega))
      clear HE1 HE2 h35
      go_enter Tryd.func7, Tryd.ntmps7
      go_wp2_with (go_at_call 25; go_must ((with_reducible refine HR.out.mono ?_); rintro e w1 ⟨rfl, hb⟩; have HB1 := Lib.hid (HB.out.on hb); have c0 := HB1.out.c0; clear hb))
      go_ret
      exact ret_below HE.out.symm HB1.out.2
    have d35 : ((i.op.toNat : Int) == 35) = false := by have : ¬ i.op.toNat = 35 := h35; simp; omega
    by_cases h65 : i.n = 65
    · have d65 : ((i.op.toNat : Int) == 65) = true := beq_iff_eq.2 (by have : i.op.toNat = 65 := h65; omega)
      have HE := Lib.hid (HE1.out (by unfold IsC; omega))
      clear HE1 HE2 h35 h65
      go_enter Tryd.func7, Tryd.ntmps7
      go_wp2_with (go_at_call 25; go_must ((with_reducible refine HR.out.mono ?_); rintro e w1 ⟨rfl, hb⟩; have HB1 := Lib.hid (HB.out.on hb); have c0 := HB1.out.c0; clear hb))
      go_ret
      exact ret_below HE.out.symm HB1.out.2
    have d65 : ((i.op.toNat : Int) == 65) = false := by have : ¬ i.op.toNat = 65 := h65; simp; omega
    by_cases h66 : i.n = 66
    · have d66 : ((i.op.toNat : Int) == 66) = true := beq_iff_eq.2 (by have : i.op.toNat = 66 := h66; omega)
      have HE := Lib.hid (HE1.out (by unfold IsC; omega))
      clear HE1 HE2 h35 h65 h66
      go_enter Tryd.func7, Tryd.ntmps7
      go_wp2_with (go_at_call 25; go_must ((with_reducible refine HR.out.mono ?_); rintro e w1 ⟨rfl, hb⟩; have HB1 := Lib.hid (HB.out.on hb); have c0 := HB1.out.c0; clear hb))
      go_ret
      exact ret_below HE.out.symm HB1.out.2
    have d66 : ((i.op.toNat : Int) == 66) = false := by have : ¬ i.op.toNat = 66 := h66; simp; omega
    have HE := Lib.hid (HE2.out (by unfold IsC; omega))
    clear HE1 HE2 h35 h65 h66
    go_enter Tryd.func7, Tryd.ntmps7
    go_wp2_with (go_at_call 25; go_must ((with_reducible refine HR.out.mono ?_); rintro e w1 ⟨rfl, hb⟩; have HB1 := Lib.hid (HB.out.on hb); have c0 := HB1.out.c0; clear hb))
    go_ret
    exact ret_below HE.out.symm HB1.out.2
  · have HE := Lib.hid (cr_no h0)
    obtain ⟨z, hz⟩ : ∃ z, z = rightZ i := ⟨_, rfl⟩
    rw [← hz] at HR HE h0
    have dz : (z != 0) = true := by simpa using h0
    clear h hl h0 hz
    go_enter Tryd.func7, Tryd.ntmps7
    go_wp2_with (go_at_call 25; go_must ((with_reducible refine HR.out.mono ?_); rintro e w1 ⟨rfl, hb⟩; have HB1 := Lib.hid (HB.out.on hb); have c0 := HB1.out.c0; clear hb))
    go_ret
    exact ret_below HE.out.symm HB1.out.2
end Go.Proofs.YtjjhgmmkapeifaaDoor

/- The reference's num, signed, Put. (By gen/genRefPut.py.) -/
namespace Go.Proofs.YtjjhgmmkapeifaaDoor
open Go.RowKit
set_option linter.unusedVariables false
set_option maxRecDepth 100000

def StrPost (l : List UInt8) (w : World) (e : Ending) (w' : World) : Prop := e = .returned (.string (S l)) ∧ Below w.heap.size w w'
theorem num_any (x : Int) (w : World) (h0 : 0 ≤ x) (h1 : x ≤ 18446744073709551615) : Calls Tryd.prog 48 #[.int .u64 x] w (StrPost (lebL x) w) := by
  have U := Lib.hid (fun W => refUintL x W h0 h1)
  have hl := (lebL_len x h1).1
  generalize lebL x = l at *
  go_enter Tryd.func48, Tryd.ntmps48
  go_wp2_with (go_at_call 79; go_must ((with_reducible refine (U.out _).mono ?_); intro e w1 h; obtain ⟨A, k, rfl, hl1, hb⟩ := h; have hs := str_lies' hl1 hl k; have HB := Lib.hid hb; clear hb hl1))
  go_ret
  exact ⟨rfl, HB.out⟩
theorem conv1 {W : World} {op : UInt8} {H : Nat} (hH : W.heap.size = H) : (convert 29 9 (.slice (some ⟨H, 0, none⟩) 1 1)).run Tryd.prog (W.alloc (.cells #[.int .u8 op.toNat] 5)) = .ok (.string (S [op])) (W.alloc (.cells #[.int .u8 op.toNat] 5)) := by
  obtain ⟨A, c, e, h⟩ := (Row.made W [op] 0 H hH (Nat.zero_le _) (by simp)).str
  injection e with e1 _ e2
  subst e1; subst e2
  exact h 9 Tryd.underlying9
theorem conv2 {W : World} {op H : Nat} (hH : W.heap.size = H) (x : Int) (h0 : 0 ≤ x) (h1 : x ≤ 255) : (convert 29 9 (.slice (some ⟨H, 0, none⟩) 1 1)).run Tryd.prog (W.alloc (.cells #[.int .u8 x] 5)) = .ok (.string (S [UInt8.ofNat x.toNat])) (W.alloc (.cells #[.int .u8 x] 5)) := by
  have := conv1 (op := UInt8.ofNat x.toNat) hH
  rwa [u8_of h0 h1] at this

theorem signed32_any (x : Int) (w : World) (h0 : 0 ≤ x) (h1 : x ≤ 18446744073709551615) : Calls Tryd.prog 49 #[.int .u64 x, .int .u64 32] w (StrPost (sebL (s32 x)) w) := by
  have hs : -9223372036854775808 ≤ s32 x ∧ s32 x ≤ 9223372036854775807 := by unfold s32; omega
  have U := Lib.hid (fun W => refIntL (s32 x) W hs.1 hs.2)
  have hl := (sebL_len (s32 x) hs.1 hs.2).1
  have hz : wrap64 (IntKind.u64.wrap (x * 4294967296)) / 4294967296 = s32 x := by unfold s32 wrap64; simp only [IntKind.wrap, IntKind.bits, IntKind.signed]; simp; omega
  generalize s32 x = z at *
  generalize sebL z = l at *
  go_enter Tryd.func49, Tryd.ntmps49
  go_wp2_with (go_at_call 80; go_must ((with_reducible refine (U.out _).mono ?_); intro e w1 h; obtain ⟨A, k, rfl, hl1, hb⟩ := h; have hs2 := str_lies' hl1 hl k; have HB := Lib.hid hb; clear hb hl1))
  go_ret
  exact ⟨rfl, HB.out⟩

theorem signed64_any (x : Int) (w : World) (h0 : 0 ≤ x) (h1 : x ≤ 18446744073709551615) : Calls Tryd.prog 49 #[.int .u64 x, .int .u64 64] w (StrPost (sebL (s64 x)) w) := by
  have hs : -9223372036854775808 ≤ s64 x ∧ s64 x ≤ 9223372036854775807 := by unfold s64; omega
  have U := Lib.hid (fun W => refIntL (s64 x) W hs.1 hs.2)
  have hl := (sebL_len (s64 x) hs.1 hs.2).1
  have hz : wrap64 x = s64 x := by unfold s64 wrap64; omega
  generalize s64 x = z at *
  generalize sebL z = l at *
  go_enter Tryd.func49, Tryd.ntmps49
  go_wp2_with (go_at_call 80; go_must ((with_reducible refine (U.out _).mono ?_); intro e w1 h; obtain ⟨A, k, rfl, hl1, hb⟩ := h; have hs2 := str_lies' hl1 hl k; have HB := Lib.hid hb; clear hb hl1))
  go_ret
  exact ⟨rfl, HB.out⟩

section
variable {w W W' : World} {i : I} {A : Option Addr} {c : Nat}
theorem BoxI.on3 (h : BoxI w W i A c) {O O' : Obj} (hb : Below ((W.alloc O).alloc O').heap.size ((W.alloc O).alloc O') W') : BoxI w W' i A c := ((h.on (below_box W O)).on (below_box _ O')).on hb
theorem BoxI.two3 (h : BoxI w W i A c) (O O' : Obj) : BoxI w ((W.alloc O).alloc O') i A c := (h.on (below_box W O)).on (below_box _ O')
theorem BoxI.three (h : BoxI w W i A c) : BoxI w W i A c ∧ W.cell? ⟨w.heap.size, 1, none⟩ = some (.int .u64 i.a) ∧ W.cell? ⟨w.heap.size, 2, none⟩ = some (.int .u64 i.b) := ⟨h, h.c1, h.c2⟩
theorem held_num {K : Nat} {args : Array Value} {l : List UInt8} (hN : ∀ W, Calls Tryd.prog K args W (StrPost l W)) (h : BoxI w W i A c ∧ W.cell? ⟨w.heap.size, 1, none⟩ = some (.int .u64 i.a) ∧ W.cell? ⟨w.heap.size, 2, none⟩ = some (.int .u64 i.b)) :
    Calls Tryd.prog K args W fun e w' => e = .returned (.string (S l)) ∧ BoxI w w' i A c ∧ w'.cell? ⟨w.heap.size, 1, none⟩ = some (.int .u64 i.a) ∧ w'.cell? ⟨w.heap.size, 2, none⟩ = some (.int .u64 i.b) :=
  (hN W).mono fun _ _ ⟨h1, h2⟩ => ⟨h1, BoxI.three (h.1.on h2)⟩
end
theorem str_put {i : I} {l : List UInt8} {s : ByteArray} {w W : World} (hp : putL i = l) (hs : s = S l) (hb : Below w.heap.size w W) : StrPost (putL i) w (.returned (.string s)) W := ⟨by rw [hs, hp], hb⟩
set_option maxHeartbeats 3000000 in
theorem refPut_any (i : I) (A : Option Addr) (c : Nat) (w : World) (h : i.Ok) (hr : rightZ i = 0) (hl : Lies w w.heap.size A (cells32 i.l)) :
    Calls Tryd.prog 28 #[insV i A c] w (StrPost (putL i) w) := by
  have hn := i.n_le
  have HT := Lib.hid (immL_len h hr)
  obtain ⟨a0, a1, b0, b1, hl0⟩ := h
  have hwb : IntKind.i64.wrap (i.op.toNat : Int) = i.op.toNat := by rw [IntKind.wrap_i64]; have := i.op.toNat_lt; omega
  obtain ⟨hc0, _, h10, _, hz0⟩ := right_zero hr
  obtain ⟨hz1, hz2, hz3⟩ := nums_zero hz0 a0
  have HL0 := Lib.hid hl0
  have HB := Lib.hid (BoxI.start w i A c)
  have HL := Lib.hid hl
  obtain ⟨m, hm⟩ : ∃ m, m = immR i.n := ⟨_, rfl⟩
  obtain ⟨r, hr2⟩ : ∃ r, r = refR i.n := ⟨_, rfl⟩
  have him : (r.getD row0).imm = m := by rw [hr2, hm]; exact (imm_same hn hc0).2
  have HI : Hid (∀ W, Calls Tryd.prog 41 #[.int .i64 i.op.toNat] W (RefPost r W)) := fun W => by rw [hr2]; exact ref_any i.n W hn
  have HIM := Lib.hid (show putL i = [i.op] ++ immB m i by unfold putL immL; rw [hm]; rfl)
  rw [← hm] at hz1 hz2 hz3
  have HZ1 := Lib.hid hz1
  have HZ2 := Lib.hid hz2
  have HZ3 := Lib.hid hz3
  have NA := Lib.hid (fun W => num_any i.a W a0 a1)
  have NB := Lib.hid (fun W => num_any i.b W b0 b1)
  have NL := Lib.hid (fun W => num_any (i.l.length : Int) W (by omega) (by omega))
  have ka := lebL_len i.a (by omega)
  have kb := lebL_len i.b (by omega)
  have kl := lebL_len (i.l.length : Int) (by omega)
  have wl : IntKind.u64.wrap (i.l.length : Int) = i.l.length := by simp [IntKind.wrap, IntKind.bits, IntKind.signed]; omega
  obtain ⟨xa, hxa⟩ : ∃ x, x = lebL i.a := ⟨_, rfl⟩
  obtain ⟨xb, hxb⟩ : ∃ x, x = lebL i.b := ⟨_, rfl⟩
  obtain ⟨xl, hxl⟩ : ∃ x, x = lebL (i.l.length : Int) := ⟨_, rfl⟩
  rw [← hxa] at NA ka
  rw [← hxb] at NB kb
  rw [← hxl] at NL kl
  have sa := S_size xa
  have sb := S_size xb
  have sl := S_size xl
  obtain ⟨o, ho⟩ : ∃ o, o = [i.op] := ⟨_, rfl⟩
  have so : (S o).size = 1 := by rw [S_size, ho]; rfl
  have HC1 := Lib.hid (fun (W : World) (H : Nat) (hH : W.heap.size = H) => (by rw [ho]; exact conv1 hH : (convert 29 9 (.slice (some ⟨H, 0, none⟩) 1 1)).run Tryd.prog (W.alloc (.cells #[.int .u8 i.op.toNat] 5)) = .ok (.string (S o)) (W.alloc (.cells #[.int .u8 i.op.toNat] 5))))
  have HO := Lib.hid ho
  have HXA := Lib.hid hxa
  have HXB := Lib.hid hxb
  have HXL := Lib.hid hxl
  generalize (r.getD row0).op = r1 at *
  clear hl hr hc0 hz0 hr2 hm hz1 hz2 hz3 hl0 hxa hxb hxl ho
  have below2 : ∀ W : World, Below w.heap.size w W → ∀ O O', Below w.heap.size w ((W.alloc O).alloc O') := fun W hb O O' => (hb.alloc hb.size _).alloc (Nat.le_trans hb.size (below_box _ _).size) _
  have HB3f := Lib.hid below2
  clear below2
  by_cases m0 : m = 0
  · subst m0
    have HE := Lib.hid (show putL i = o ++ ([]) by rw [HIM.out, HO.out]; unfold immB; rw [if_pos rfl])
    go_enter Tryd.func28, Tryd.ntmps28
    go_wp2_with (first
      | (go_at_call 41; go_must ((with_reducible refine (HI.out _).mono ?_); rintro e w2 ⟨rfl, hb⟩; have HB2 := Lib.hid (HB.out.on hb); have hlt := HB2.out.lt; have c0 := HB2.out.c0; have c1 := HB2.out.c1; have c2 := HB2.out.c2; have c3 := HB2.out.c3; have hcv := fun O => HC1.out (w2.alloc O) (w2.heap.size + 1) (size_box _ _); clear hb)))
    go_ret
    exact str_put HE.out (by simp) (HB3f.out _ HB2.out.2 _ _)
  have d0 : ((m : Int) == 0) = false := by simp; omega
  by_cases m1 : m = 1
  · subst m1
    have HE := Lib.hid (show putL i = o ++ ([UInt8.ofNat i.a.toNat]) by rw [HIM.out, HO.out]; unfold immB; rw [if_neg (by omega), if_pos rfl])
    have ha := (HZ1.out rfl).1
    have hw : IntKind.u8.wrap i.a = i.a := by simp [IntKind.wrap, IntKind.bits, IntKind.signed]; omega
    obtain ⟨y, hy⟩ : ∃ y, y = [UInt8.ofNat i.a.toNat] := ⟨_, rfl⟩
    have sy : (S y).size = 1 := by rw [S_size, hy]; rfl
    have HC2 := Lib.hid (fun (W : World) (H : Nat) (hH : W.heap.size = H) => (by rw [hy]; exact conv2 (op := 0) hH i.a a0 ha : (convert 29 9 (.slice (some ⟨H, 0, none⟩) 1 1)).run Tryd.prog (W.alloc (.cells #[.int .u8 i.a] 5)) = .ok (.string (S y)) (W.alloc (.cells #[.int .u8 i.a] 5))))
    rw [← hy] at HE
    have q : (S o).size + (S y).size ≤ 9223372036854775807 := by omega
    clear hy
    go_enter Tryd.func28, Tryd.ntmps28
    go_wp2_with (go_at_call 41; go_must ((with_reducible refine (HI.out _).mono ?_); rintro e w2 ⟨rfl, hb⟩; have HB2 := Lib.hid (HB.out.on hb); have hlt := HB2.out.lt; have c0 := HB2.out.c0; have c1 := HB2.out.c1; have c2 := HB2.out.c2; have c3 := HB2.out.c3; have hcv := fun O => HC1.out (w2.alloc O) (w2.heap.size + 1) (size_box _ _); have hcv2 := fun O O' => HC2.out ((w2.alloc O).alloc O') (w2.heap.size + 1 + 1) (by rw [size_box, size_box]); clear hb))
    go_ret
    exact str_put HE.out (by rw [S_append]) ((HB3f.out _ HB2.out.2 _ _).alloc (by have := HB2.out.2.size; rw [size_box, size_box]; omega) _)
  have d1 : ((m : Int) == 1) = false := by simp; omega
  by_cases m3 : m = 3
  · subst m3
    have HE := Lib.hid (show putL i = o ++ (labL i.l ++ xa) by rw [HIM.out, HXA.out, HO.out]; unfold immB; rw [if_neg (by omega), if_neg (by omega), if_pos rfl])
    have q1 : (S o).size + (S xl).size ≤ 9223372036854775807 := by omega
    go_enter Tryd.func28, Tryd.ntmps28
    go_wp2_with (first
      | (go_at_call 41; go_must ((with_reducible refine (HI.out _).mono ?_); rintro e w2 ⟨rfl, hb⟩; have HB2 := Lib.hid (HB.out.on hb); have hlt := HB2.out.lt; have c0 := HB2.out.c0; have c1 := HB2.out.c1; have c2 := HB2.out.c2; have c3 := HB2.out.c3; have hcv := fun O => HC1.out (w2.alloc O) (w2.heap.size + 1) (size_box _ _); clear hb))
      | (go_at_call 48; go_must ((with_reducible refine (NL.out _).mono ?_); rintro e w3 ⟨rfl, hb⟩; have HB3 := Lib.hid (HB2.out.on3 hb); clear hb)))
    rw [S_append]
    obtain ⟨t0, ht0⟩ : ∃ t, t = o ++ xl := ⟨_, rfl⟩
    rw [← ht0]
    have HT0 := Lib.hid ht0
    clear ht0
    go_loopw [5, 6] (fun s j wr => ∃ k : Nat, k ≤ i.l.length ∧ j = .int .i64 k ∧ s = .string (S (t0 ++ labsL (i.l.take k))) ∧ BoxI w wr i A c) (fun _ j _ => i.l.length - (intOf j).toNat)
    case atStart => exact ⟨0, Nat.zero_le _, rfl, by simp [labsL], HB3.out⟩
    case round =>
      obtain ⟨k, hk, rfl, rfl, hbx⟩ := hrel
      have d3 := hbx.c3
      have d1 := hbx.c1
      have HBX := Lib.hid hbx
      have hlen : (t0 ++ labsL (i.l.take k)).length ≤ 200000 := by rw [List.length_append, HT0.out, List.length_append, HO.out]; have := labsL_take_len i.l HL0.out k h10; simp; omega
      by_cases hlt : k < i.l.length
      · obtain ⟨d, hd⟩ : ∃ d, i.l[k]? = some d := ⟨_, List.getElem?_eq_getElem hlt⟩
        obtain ⟨b, off, rfl, hbl, hcell⟩ := HL.out k _ (cells32_get hd)
        have hcell2 := (hbx.2.cell (p := ⟨b, off + k, none⟩) hbl).trans hcell
        have hdb := HL0.out d (List.mem_of_getElem? hd)
        have wd : IntKind.u64.wrap d = d := by simp [IntKind.wrap, IntKind.bits, IntKind.signed]; omega
        have ND := Lib.hid (fun W => num_any d W hdb.1 (by omega))
        have m2 := lebL_len d (by omega)
        have HS := Lib.hid (labsL_snoc hd)
        obtain ⟨y, hy⟩ : ∃ y, y = lebL d := ⟨_, rfl⟩
        rw [← hy] at ND m2 HS
        obtain ⟨t, ht⟩ : ∃ t, t = t0 ++ labsL (i.l.take k) := ⟨_, rfl⟩
        rw [← ht] at hlen ⊢
        have HTT := Lib.hid ht
        have st := S_size t
        have sy := S_size y
        have q : (S t).size + (S y).size ≤ 9223372036854775807 := by omega
        clear hcell hd hy ht hbx
        go_wp2_with (go_at_call 48; go_must ((with_reducible refine (ND.out _).mono ?_); rintro e w4 ⟨rfl, hb⟩; have HB4 := Lib.hid (HBX.out.on hb); clear hb))
        go_roundw
        case rel => exact ⟨k + 1, by omega, by go_num, by rw [S_append, HS.out, ← List.append_assoc, ← HTT.out], HB4.out⟩
        case measure => simp [intOf]; omega
      · obtain rfl : k = i.l.length := by omega
        obtain ⟨t, ht⟩ : ∃ t, t = t0 ++ labsL (i.l.take i.l.length) := ⟨_, rfl⟩
        rw [← ht] at hlen ⊢
        have HTT := Lib.hid (show t = o ++ labL i.l by rw [ht, HT0.out, List.take_of_length_le (Nat.le_refl _)]; unfold labL; rw [List.append_assoc, HXL.out])
        have st := S_size t
        have q : (S t).size + (S xa).size ≤ 9223372036854775807 := by omega
        clear ht hbx
        go_wp2_with (go_at_call 48; go_must ((with_reducible refine (NA.out _).mono ?_); rintro e w4 ⟨rfl, hb⟩; have HB4 := Lib.hid (HBX.out.on hb); clear hb))
        go_ret
        exact str_put HE.out (by rw [S_append, HTT.out, List.append_assoc]) HB4.out.2
  have d3 : ((m : Int) == 3) = false := by simp; omega
  by_cases m5 : m = 5
  · subst m5
    have HE := Lib.hid (show putL i = o ++ (xa ++ [0]) by rw [HIM.out, HXA.out, HO.out]; unfold immB; rw [if_neg (by omega), if_neg (by omega), if_neg (by omega), if_pos rfl])
    have q1 : (S o).size + (S xa).size ≤ 9223372036854775807 := by omega
    have q2 : (S o).size + (S xa).size + 1 ≤ 9223372036854775807 := by omega
    go_enter Tryd.func28, Tryd.ntmps28
    go_wp2_with (first
      | (go_at_call 41; go_must ((with_reducible refine (HI.out _).mono ?_); rintro e w2 ⟨rfl, hb⟩; have HB2 := Lib.hid (HB.out.on hb); have hlt := HB2.out.lt; have c0 := HB2.out.c0; have c1 := HB2.out.c1; have c2 := HB2.out.c2; have c3 := HB2.out.c3; have hcv := fun O => HC1.out (w2.alloc O) (w2.heap.size + 1) (size_box _ _); clear hb))
      | (go_at_call 48; go_must ((with_reducible refine (NA.out _).mono ?_); rintro e w3 ⟨rfl, hb⟩; have HB3 := Lib.hid hb; clear hb)))
    go_ret
    exact str_put HE.out (by rw [show ({ data := #[0] } : ByteArray) = S [0] from rfl, S_append, S_append, List.append_assoc]) ((HB3f.out _ HB2.out.2 _ _).trans (HB3.out.mono (HB3f.out _ HB2.out.2 _ _).size))
  have d5 : ((m : Int) == 5) = false := by simp; omega
  by_cases m8 : m = 8
  · subst m8
    have HE := Lib.hid (show putL i = o ++ (xa ++ xb) by rw [HIM.out, HXA.out, HXB.out, HO.out]; unfold immB; rw [if_neg (by omega), if_neg (by omega), if_neg (by omega), if_neg (by omega), if_pos rfl])
    have q1 : (S o).size + (S xa).size ≤ 9223372036854775807 := by omega
    have q2 : (S o).size + (S xa).size + (S xb).size ≤ 9223372036854775807 := by omega
    have q3 : ¬ 9223372036854775807 < (S o).size + (S xa).size := by omega
    have q4 : ¬ 9223372036854775807 < (S o).size + (S xa).size + (S xb).size := by omega
    go_enter Tryd.func28, Tryd.ntmps28
    go_wp2_with (first
      | (go_at_call 41; go_must ((with_reducible refine (HI.out _).mono ?_); rintro e w2 ⟨rfl, hb⟩; have HB2 := Lib.hid (HB.out.on hb); have hlt := HB2.out.lt; have c0 := HB2.out.c0; have c1 := HB2.out.c1; have c2 := HB2.out.c2; have c3 := HB2.out.c3; have hcv := fun O => HC1.out (w2.alloc O) (w2.heap.size + 1) (size_box _ _); clear hb)))
    clear q1 q2 so sa sb sl
    have HS0 := Lib.hid (HB2.out.two3)
    go_region_held3 (fun W => BoxI w W i A c ∧ W.cell? ⟨w.heap.size, 1, none⟩ = some (.int .u64 i.a) ∧ W.cell? ⟨w.heap.size, 2, none⟩ = some (.int .u64 i.b))
      (first | assumption | exact BoxI.three (HS0.out _ _) | exact BoxI.three ((HS0.out _ _).drewN 1))
      (first | (go_at_call 48; first | ((with_reducible refine (held_num NA.out ‹_›).mono ?_); rintro e w3 ⟨rfl, hk3⟩) | ((with_reducible refine (held_num NB.out ‹_›).mono ?_); rintro e w4 ⟨rfl, hk4⟩)))
    go_wp2
    go_ret
    exact str_put HE.out (by rw [S_append, S_append, List.append_assoc]) (BoxI.bel hk4.1)
  have d8 : ((m : Int) == 8) = false := by simp; omega
  by_cases m9 : m = 9
  · subst m9
    have HE := Lib.hid (show putL i = o ++ ([0]) by rw [HIM.out, HO.out]; unfold immB; rw [if_neg (by omega), if_neg (by omega), if_neg (by omega), if_neg (by omega), if_neg (by omega), if_pos rfl])
    have q1 : (S o).size + 1 ≤ 9223372036854775807 := by omega
    go_enter Tryd.func28, Tryd.ntmps28
    go_wp2_with (first
      | (go_at_call 41; go_must ((with_reducible refine (HI.out _).mono ?_); rintro e w2 ⟨rfl, hb⟩; have HB2 := Lib.hid (HB.out.on hb); have hlt := HB2.out.lt; have c0 := HB2.out.c0; have c1 := HB2.out.c1; have c2 := HB2.out.c2; have c3 := HB2.out.c3; have hcv := fun O => HC1.out (w2.alloc O) (w2.heap.size + 1) (size_box _ _); clear hb)))
    go_ret
    exact str_put HE.out (by rw [show ({ data := #[0] } : ByteArray) = S [0] from rfl, S_append]) (HB3f.out _ HB2.out.2 _ _)
  have d9 : ((m : Int) == 9) = false := by simp; omega
  by_cases m10 : m = 10
  · subst m10
    have HE := Lib.hid (show putL i = o ++ (sebL (s32 i.a)) by rw [HIM.out, HO.out]; unfold immB; rw [if_neg (by omega), if_neg (by omega), if_neg (by omega), if_neg (by omega), if_neg (by omega), if_neg (by omega), if_pos rfl])
    have hs : -9223372036854775808 ≤ s32 i.a ∧ s32 i.a ≤ 9223372036854775807 := by unfold s32; omega
    have kz := sebL_len (s32 i.a) hs.1 hs.2
    have NZ := Lib.hid (fun W => signed32_any i.a W a0 a1)
    generalize sebL (s32 i.a) = z at *
    have sz := S_size z
    have q1 : (S o).size + (S z).size ≤ 9223372036854775807 := by omega
    go_enter Tryd.func28, Tryd.ntmps28
    go_wp2_with (first
      | (go_at_call 41; go_must ((with_reducible refine (HI.out _).mono ?_); rintro e w2 ⟨rfl, hb⟩; have HB2 := Lib.hid (HB.out.on hb); have hlt := HB2.out.lt; have c0 := HB2.out.c0; have c1 := HB2.out.c1; have c2 := HB2.out.c2; have c3 := HB2.out.c3; have hcv := fun O => HC1.out (w2.alloc O) (w2.heap.size + 1) (size_box _ _); clear hb))
      | (go_at_call 49; go_must ((with_reducible refine (NZ.out _).mono ?_); rintro e w3 ⟨rfl, hb⟩; have HB3 := Lib.hid hb; clear hb)))
    go_ret
    exact str_put HE.out (by rw [S_append]) ((HB3f.out _ HB2.out.2 _ _).trans (HB3.out.mono (HB3f.out _ HB2.out.2 _ _).size))
  have d10 : ((m : Int) == 10) = false := by simp; omega
  by_cases m11 : m = 11
  · subst m11
    have HE := Lib.hid (show putL i = o ++ (sebL (s64 i.a)) by rw [HIM.out, HO.out]; unfold immB; rw [if_neg (by omega), if_neg (by omega), if_neg (by omega), if_neg (by omega), if_neg (by omega), if_neg (by omega), if_neg (by omega), if_pos rfl])
    have hs : -9223372036854775808 ≤ s64 i.a ∧ s64 i.a ≤ 9223372036854775807 := by unfold s64; omega
    have kz := sebL_len (s64 i.a) hs.1 hs.2
    have NZ := Lib.hid (fun W => signed64_any i.a W a0 a1)
    generalize sebL (s64 i.a) = z at *
    have sz := S_size z
    have q1 : (S o).size + (S z).size ≤ 9223372036854775807 := by omega
    go_enter Tryd.func28, Tryd.ntmps28
    go_wp2_with (first
      | (go_at_call 41; go_must ((with_reducible refine (HI.out _).mono ?_); rintro e w2 ⟨rfl, hb⟩; have HB2 := Lib.hid (HB.out.on hb); have hlt := HB2.out.lt; have c0 := HB2.out.c0; have c1 := HB2.out.c1; have c2 := HB2.out.c2; have c3 := HB2.out.c3; have hcv := fun O => HC1.out (w2.alloc O) (w2.heap.size + 1) (size_box _ _); clear hb))
      | (go_at_call 49; go_must ((with_reducible refine (NZ.out _).mono ?_); rintro e w3 ⟨rfl, hb⟩; have HB3 := Lib.hid hb; clear hb)))
    go_ret
    exact str_put HE.out (by rw [S_append]) ((HB3f.out _ HB2.out.2 _ _).trans (HB3.out.mono (HB3f.out _ HB2.out.2 _ _).size))
  have d11 : ((m : Int) == 11) = false := by simp; omega
  have HE := Lib.hid (show putL i = o ++ xa by rw [HIM.out, HXA.out, HO.out]; unfold immB; rw [if_neg m0, if_neg m1, if_neg m3, if_neg m5, if_neg m8, if_neg m9, if_neg m10, if_neg m11])
  have q1 : (S o).size + (S xa).size ≤ 9223372036854775807 := by omega
  clear HIM
  go_enter Tryd.func28, Tryd.ntmps28
  go_wp2_with (first
    | (go_at_call 41; go_must ((with_reducible refine (HI.out _).mono ?_); rintro e w2 ⟨rfl, hb⟩; have HB2 := Lib.hid (HB.out.on hb); have hlt := HB2.out.lt; have c0 := HB2.out.c0; have c1 := HB2.out.c1; have c2 := HB2.out.c2; have c3 := HB2.out.c3; have hcv := fun O => HC1.out (w2.alloc O) (w2.heap.size + 1) (size_box _ _); clear hb))
    | (go_at_call 48; go_must ((with_reducible refine (NA.out _).mono ?_); rintro e w3 ⟨rfl, hb⟩; have HB3 := Lib.hid hb; clear hb)))
  go_ret
  exact str_put HE.out (by rw [S_append]) ((HB3f.out _ HB2.out.2 _ _).trans (HB3.out.mono (HB3f.out _ HB2.out.2 _ _).size))
end Go.Proofs.YtjjhgmmkapeifaaDoor

/- consts.Put, Global; the reference's Put; awake. -/
namespace Go.Proofs.YtjjhgmmkapeifaaDoor
open Go.RowKit
set_option linter.unusedVariables false
set_option maxRecDepth 100000

/-- What consts.Put hands back. -/
def CPutPost (i : I) (w : World) (e : Ending) (w' : World) : Prop :=
  ∃ v, e = .returned (.tuple #[v, .int .i64 (crightZ i)]) ∧ Row w' w.heap.size v (if crightZ i = 0 then putL i ++ [11] else []) ∧ Below w.heap.size w w'
theorem cput_no {i : I} {z : Int} {w w' : World} (h : z ≠ 0) (hz : z = crightZ i) (hb : Below w.heap.size w w') : CPutPost i w (.returned (.tuple #[.slice none 0 0, .int .i64 z])) w' := by
  subst hz
  exact ⟨_, rfl, by rw [if_neg h]; exact Row.nil _ _, hb⟩
theorem cput_yes {i : I} {x : List UInt8} {v : Value} {w w' : World} (h : crightZ i = 0) (hx : x = putL i) (hr : Row w' w.heap.size v (x ++ [11])) (hb : Below w.heap.size w w') : CPutPost i w (.returned (.tuple #[v, .int .i64 0])) w' :=
  ⟨v, by rw [h], by rw [if_pos h, ← hx]; exact hr, hb⟩
set_option maxHeartbeats 1000000 in
theorem cput_any (i : I) (A : Option Addr) (c : Nat) (w : World) (h : i.Ok) (hT : Tabs w) (hl : Lies w w.heap.size A (cells32 i.l)) (hl63 : (i.l.length : Int) ≤ 9223372036854775807) :
    Calls Tryd.prog 8 #[insV i A c] w (CPutPost i w) := by
  have HB := Lib.hid (BoxI.start w i A c)
  have HR := Lib.hid (cright_any i A c (w.alloc (.cells (insC i A c) 25)) h (hT.below HB.out.2) hl63)
  by_cases h0 : crightZ i = 0
  · rw [h0] at HR
    have hr := (cr_zero h0).1
    have hlen := immL_len h hr
    obtain ⟨x, hx⟩ : ∃ x, x = putL i := ⟨_, rfl⟩
    have hxl : x.length ≤ 200001 := by rw [hx]; show (i.op :: immL i).length ≤ _; simp; omega
    have HP := Lib.hid (fun W (hb : Below w.heap.size w W) => show Calls Tryd.prog 26 #[insV i A c] W fun e w' => ∃ v, e = .returned (.tuple #[v, .int .i64 0]) ∧ Row w' W.heap.size v x ∧ Below W.heap.size W w' from
      (put_any i A c W h (hT.below hb) ((hl.below hb (Nat.le_refl _)).more hb.size) hl63).mono fun e w' hq => by
        obtain ⟨v, h1, h2, h3⟩ := hq
        rw [hr] at h1
        rw [if_pos hr, ← hx] at h2
        exact ⟨v, h1, h2, h3⟩)
    have HX := Lib.hid hx
    have H0 := Lib.hid h0
    clear h hT hl hl63 h0 hr hlen hx
    go_enter Tryd.func8, Tryd.ntmps8
    go_wp2_with (first
      | (go_at_call 10; go_must ((with_reducible refine HR.out.mono ?_); rintro e w1 ⟨rfl, hb⟩; have HB1 := Lib.hid (HB.out.on hb); have c0 := HB1.out.c0; have c1 := HB1.out.c1; have c2 := HB1.out.c2; have c3 := HB1.out.c3; clear hb))
      | (go_at_call 26; go_must ((with_reducible refine (HP.out _ HB1.out.bel).mono ?_); intro e w2 hq; obtain ⟨v, rfl, hr, hb⟩ := hq; have HR2 := Lib.hid hr; have HB2 := Lib.hid (HB1.out.bel.trans (hb.mono HB1.out.bel.size)); have hz2 := hb.size; clear hr hb))
      | (at_builtin; (refine row_new rfl _ _ rfl w1.heap.size _ x rfl (HR2.out.alloc _) w2.heap.size 1 [11] rfl rfl (heap_alloc_new w2 _) (by omega) (by simp; omega) (by simp; omega) ?_; intro v3 w3 hr3 hb3; have HR3 := Lib.hid hr3; have HB3 := Lib.hid hb3; clear hr3 hb3)))
    go_ret2
    exact cput_yes H0.out HX.out (HR3.out.mono HB1.out.bel.size) ((HB2.out.alloc HB2.out.size _).trans (HB3.out.mono HB1.out.bel.size))
  · have HX := Lib.hid h0
    obtain ⟨z, hz⟩ : ∃ z, z = crightZ i := ⟨_, rfl⟩
    rw [← hz] at HR HX
    have dz : (z != 0) = true := by rw [hz]; simpa using h0
    have HZ := Lib.hid hz
    clear h hT hl hl63 h0 hz
    go_enter Tryd.func8, Tryd.ntmps8
    go_wp2_with (go_at_call 10; go_must ((with_reducible refine HR.out.mono ?_); rintro e w1 ⟨rfl, hb1⟩; have HB1 := Lib.hid (HB.out.on hb1); clear hb1))
    go_ret2
    exact cput_no HX.out HZ.out HB1.out.bel

theorem rcput_any (i : I) (A : Option Addr) (c : Nat) (w : World) (h : i.Ok) (hr : rightZ i = 0) (hl : Lies w w.heap.size A (cells32 i.l)) :
    Calls Tryd.prog 12 #[insV i A c] w (StrPost (putL i ++ [11]) w) := by
  have HB := Lib.hid (BoxI.start w i A c)
  have hlen := immL_len h hr
  have HP := Lib.hid (refPut_any i A c (w.alloc (.cells (insC i A c) 25)) h hr ((hl.below HB.out.2 (Nat.le_refl _)).more HB.out.2.size))
  obtain ⟨x, hx⟩ : ∃ x, x = putL i := ⟨_, rfl⟩
  have hxl : (S x).size + (⟨#[11]⟩ : ByteArray).size ≤ 9223372036854775807 := by
    rw [S_size, hx]
    show (i.op :: immL i).length + 1 ≤ _
    simp
    omega
  have hxl2 : (S x).size + 1 ≤ 9223372036854775807 := hxl
  have HS := Lib.hid (S_append x [11])
  rw [← hx] at HP ⊢
  clear h hr hl hlen hx
  go_enter Tryd.func12, Tryd.ntmps12
  go_wp2_with (go_at_call 28; go_must ((with_reducible refine HP.out.mono ?_); rintro e w1 ⟨rfl, hb⟩; have HB1 := Lib.hid (HB.out.on hb); clear hb))
  go_ret
  exact ⟨by rw [← HS.out]; rfl, HB1.out.bel⟩

/-- Global's instruction. -/
abbrev gIns (n : Int) : I := ⟨35, n, 0, []⟩
theorem cglobal_any (n : Int) (w : World) (h0 : 0 ≤ n) (h1 : n ≤ 4294967295) :
    Calls Tryd.prog 9 #[.int .u32 n] w fun e w' => e = .returned (.agg #[.int .u8 35, .int .u64 n, .int .u64 0, .slice none 0 0]) ∧ Below w.heap.size w w' := by
  have hw : IntKind.u64.wrap n = n := by simp [IntKind.wrap, IntKind.bits, IntKind.signed]; omega
  go_enter Tryd.func9, Tryd.ntmps9
  go_wp2
  exact bodyPost_ret (v := .agg #[.int .u8 35, .int .u64 n, .int .u64 0, .slice none 0 0]) (by simp [results, Tryd.results9, go_sem]) rfl ⟨rfl, below_box _ _⟩

/-- The page's example. -/
def cEg : I := ⟨65, 5, 0, []⟩
theorem cEg_ok : cEg.Ok := ⟨by decide, by decide, by decide, by decide, fun c h => by cases h⟩
theorem cEg_imm : immR cEg.n = 10 := by decide +kernel
theorem cEg_right : rightZ cEg = 0 := by decide +kernel
theorem cEg_zero : crightZ cEg = 0 := cr_yes cEg_right (by decide)
theorem cEg_put : putL cEg = [65, 5] := by
  have hm : sebN 5 = 1 := (sebN_least 5 (by omega) (by omega)).unique ⟨Nat.le_refl _, by unfold fitS; decide, fun m a b => by omega⟩
  have hs : s32 cEg.a = 5 := by decide +kernel
  unfold putL immL immB
  rw [cEg_imm, hs]
  show [65] ++ sebL 5 = _
  unfold sebL
  rw [hm]
  rfl
theorem cawake_any (w : World) (hT : Tabs w) : Calls Tryd.prog 6 #[] w fun e w' => e = .returned (.bool true) ∧ Below w.heap.size w w' := by
  have hp := cput_any cEg none 0 w cEg_ok hT (fun j v hv => by simp [cells32, cEg] at hv) (by decide)
  obtain ⟨l, hl⟩ : ∃ l : List UInt8, l = [65, 5, 11] := ⟨_, rfl⟩
  have HP := Lib.hid (show Calls Tryd.prog 8 #[.agg #[.int .u8 65, .int .u64 5, .int .u64 0, .slice none 0 0]] w fun e w' => ∃ v, e = .returned (.tuple #[v, .int .i64 0]) ∧ Row w' w.heap.size v l ∧ Below w.heap.size w w' from hp.mono fun e w' ⟨v, h1, h2, h3⟩ => ⟨v, by rw [cEg_zero] at h1; exact h1, by rw [if_pos cEg_zero, cEg_put] at h2; rw [hl]; exact h2, h3⟩)
  have hcmp : ((S l).toList == [65, 5, 11]) = true := by rw [S_toList, hl]; rfl
  clear hl
  clear hp hT
  go_enter Tryd.func6, Tryd.ntmps6
  go_wp2_with (go_at_call 8; go_must ((with_reducible refine HP.out.mono ?_); intro e w1 h; obtain ⟨v, rfl, hr, hb⟩ := h; obtain ⟨A, c, rfl, hcv⟩ := hr.str; have hcv2 := hcv 9 Tryd.underlying9; have HB := Lib.hid hb; clear hb hr hcv))
  go_ret
  exact ⟨rfl, HB.out⟩
end Go.Proofs.YtjjhgmmkapeifaaDoor
