/- instr.Put. -/
import Derived.Test.YtjjhgmmkapeifaaDoorKv08
import Derived.Test.YtjjhgmmkapeifaaDoorKv04
import Derived.Test.YtjjhgmmkapeifaaDoorKv01
import Derived.WalkLawsBesides
import Derived.Defers
import Derived.Recover
import Derived.Lib.Hide
import Derived.Test.YtjjhgmmkapeifaaDoorKv05
import Derived.Deep.QuietTactic
import Derived.BigQuiet
import Derived.StillTailTactics
import Derived.Deep.DeepMust
import Derived.Laws.AppendOwnNone
namespace Go.Proofs.YtjjhgmmkapeifaaDoor
open Go.RowKit
set_option linter.unusedVariables false
set_option maxRecDepth 100000

/-- A row of the call's own lies; where it lies nowhere it has no room. -/
theorem Row.liesN {w : World} {base : Nat} {v : Value} {xs : List UInt8} (h : Row w base v xs) : ∃ A c, v = .slice A xs.length c ∧ Lies w w.heap.size A (cells (nums xs)) ∧ (A = none → c = 0) ∧ xs.length ≤ c ∧ c ≤ maxLen := by
  have h' := h
  obtain ⟨h1, h2⟩ := h
  obtain ⟨A, c, e, h3, h4, h5, _⟩ := lies_own h'
  refine ⟨A, c, e, h5, fun hA => ?_, h3, h4⟩
  rcases h2 with ⟨e2, _⟩ | ⟨g, cap, cur, e2, _⟩
  · rw [e] at e2
    injection e2
  · rw [e] at e2
    injection e2 with e2
    rw [hA] at e2
    cases e2
/-- What Put hands back. -/
def PutPost (i : I) (w : World) (e : Ending) (w' : World) : Prop :=
  ∃ v, e = .returned (.tuple #[v, .int .i64 (rightZ i)]) ∧ Row w' w.heap.size v (if rightZ i = 0 then putL i else []) ∧ Below w.heap.size w w'
theorem put_no {i : I} {w w' : World} (h : rightZ i ≠ 0) (hb : Below w.heap.size w w') : PutPost i w (.returned (.tuple #[.slice none 0 0, .int .i64 (rightZ i)])) w' :=
  ⟨_, rfl, by rw [if_neg h]; exact Row.nil _ _, hb⟩
theorem immL_len {i : I} (h : i.Ok) (hr : rightZ i = 0) : (immL i).length ≤ 200000 := by
  obtain ⟨a0, a1, b0, b1, hl0⟩ := h
  obtain ⟨_, _, h10, _, _⟩ := right_zero hr
  have k1 := lebL_len i.a (by omega)
  have k2 := lebL_len i.b (by omega)
  have k3 := lebL_len (i.l.length : Int) (by omega)
  have k4 := labsL_take_len i.l hl0 i.l.length h10
  rw [List.take_length] at k4
  have k5 := sebL_len (s32 i.a) (by unfold s32; omega) (by unfold s32; omega)
  have k6 := sebL_len (s64 i.a) (by unfold s64; omega) (by unfold s64; omega)
  unfold immL immB labL
  repeat' split
  all_goals (try simp only [List.length_append, List.length_cons, List.length_nil])
  all_goals omega
theorem nums_one (c : UInt8) : cells (nums [c]) = [.int .u8 c.toNat] := rfl
theorem catenate {W : World} {op : UInt8} {g g1 : Nat} {A1 : Option Addr} {c1 : Nat} {l2 : List UInt8} (hg : Whole W g 29 #[.slice (some ⟨g1, 0, none⟩) 1 1, .slice A1 l2.length c1])
    (h1 : Whole W g1 5 #[.int .u8 op.toNat]) (h2 : Lies W W.heap.size A1 (cells (nums l2))) (hA : A1 = none → c1 = 0) (n2 : l2.length ≤ 200000) :
    Calls Tryd.prog 43 #[.slice (some ⟨g, 0, none⟩) 2 2] W (BytesL (op :: l2) W) := by
  refine concat_any (l1 := [op]) (c1 := 1) hg ?_ h2 hA (by simp) (by simp; omega)
  intro j v hv
  rw [nums_one] at hv
  refine ⟨g1, 0, rfl, h1.lt, ?_⟩
  rw [h1.cell]
  simpa using hv

theorem put_yes {i : I} {w w' : World} {x : List UInt8} {v : Value} (h : rightZ i = 0) (hp : putL i = i.op :: x) (hr : Row w' w.heap.size v (i.op :: x)) (hb : Below w.heap.size w w') : PutPost i w (.returned (.tuple #[v, .int .i64 0])) w' :=
  ⟨v, by rw [h], by rw [if_pos h, hp]; exact hr, hb⟩
theorem size_box (w : World) (o : Obj) : (w.alloc o).heap.size = w.heap.size + 1 := by simp
theorem lies_box {w : World} {A : Option Addr} {vs : List Value} (h : Lies w w.heap.size A vs) (o : Obj) : Lies (w.alloc o) (w.alloc o).heap.size A vs :=
  (h.below (below_box w o) (Nat.le_refl _)).more (below_box w o).size
theorem cat2 {W : World} {op : UInt8} {g1 H : Nat} {A2 : Option Addr} {k2 : Nat} {x : List UInt8} (hH : W.heap.size = H) (h1 : Whole W g1 5 #[.int .u8 op.toNat]) (hl : Lies W W.heap.size A2 (cells (nums x))) (hA : A2 = none → k2 = 0) (hn : x.length ≤ 200000) :
    Calls Tryd.prog 43 #[.slice (some ⟨H, 0, none⟩) 2 2] (W.alloc (.cells #[.slice (some ⟨g1, 0, none⟩) 1 1, .slice A2 x.length k2] 29)) (BytesL (op :: x) (W.alloc (.cells #[.slice (some ⟨g1, 0, none⟩) 1 1, .slice A2 x.length k2] 29))) := by
  subst hH
  exact catenate (op := op) (Whole.made _ _ _) (h1.alloc _) (lies_box hl _) hA hn
section
variable {w W W' : World} {i : I} {A : Option Addr} {c : Nat}
theorem held5 (h : BoxI w W i A c) : BoxI w W i A c ∧ W.cell? ⟨w.heap.size, 0, none⟩ = some (.int .u8 i.op.toNat) ∧ W.cell? ⟨w.heap.size, 1, none⟩ = some (.int .u64 i.a) ∧ W.cell? ⟨w.heap.size, 2, none⟩ = some (.int .u64 i.b) ∧ W.cell? ⟨w.heap.size, 3, none⟩ = some (.slice A i.l.length c) :=
  ⟨h, h.c0, h.c1, h.c2, h.c3⟩
theorem held_on (h : BoxI w W i A c ∧ W.cell? ⟨w.heap.size, 0, none⟩ = some (.int .u8 i.op.toNat) ∧ W.cell? ⟨w.heap.size, 1, none⟩ = some (.int .u64 i.a) ∧ W.cell? ⟨w.heap.size, 2, none⟩ = some (.int .u64 i.b) ∧ W.cell? ⟨w.heap.size, 3, none⟩ = some (.slice A i.l.length c)) (hb : Below W.heap.size W W') : BoxI w W' i A c ∧ W'.cell? ⟨w.heap.size, 0, none⟩ = some (.int .u8 i.op.toNat) ∧ W'.cell? ⟨w.heap.size, 1, none⟩ = some (.int .u64 i.a) ∧ W'.cell? ⟨w.heap.size, 2, none⟩ = some (.int .u64 i.b) ∧ W'.cell? ⟨w.heap.size, 3, none⟩ = some (.slice A i.l.length c) := held5 (h.1.on hb)
theorem held_bel (h : BoxI w W i A c ∧ W.cell? ⟨w.heap.size, 0, none⟩ = some (.int .u8 i.op.toNat) ∧ W.cell? ⟨w.heap.size, 1, none⟩ = some (.int .u64 i.a) ∧ W.cell? ⟨w.heap.size, 2, none⟩ = some (.int .u64 i.b) ∧ W.cell? ⟨w.heap.size, 3, none⟩ = some (.slice A i.l.length c)) : Below w.heap.size w W := h.1.2
end
set_option maxHeartbeats 1000000 in
theorem put_any (i : I) (A : Option Addr) (c : Nat) (w : World) (h : i.Ok) (hT : Tabs w) (hl : Lies w w.heap.size A (cells32 i.l)) (hl63 : (i.l.length : Int) ≤ 9223372036854775807) :
    Calls Tryd.prog 26 #[insV i A c] w (PutPost i w) := by
  have HB := Lib.hid (BoxI.start w i A c)
  have HT1 := Lib.hid (hT.below HB.out.2)
  have HR := Lib.hid (right_any i A c (w.alloc (.cells (insC i A c) 25)) h HT1.out hl63)
  by_cases hr : rightZ i = 0
  · have HIM := Lib.hid (fun W (hb : Below w.heap.size w W) => imm_bytes i A c W h (hT.below hb) hr ((hl.below hb (Nat.le_refl _)).more hb.size))
    have hlen := immL_len h hr
    have HP := Lib.hid (show putL i = i.op :: immL i from rfl)
    have HZ := Lib.hid hr
    rw [hr] at HR
    generalize immL i = x at *
    clear h hT hl hr
    go_enter Tryd.func26, Tryd.ntmps26
    go_wp2_with (go_at_call 27; go_must ((with_reducible refine HR.out.mono ?_); rintro e w1 ⟨rfl, hb1⟩; have HB1 := Lib.hid (HB.out.on hb1); have c0 := HB1.out.c0; have c1 := HB1.out.c1; have c2 := HB1.out.c2; have c3 := HB1.out.c3; clear hb1))
    clear c0 c1 c2 c3
    go_region_held3 (fun W => BoxI w W i A c ∧ W.cell? ⟨w.heap.size, 0, none⟩ = some (.int .u8 i.op.toNat) ∧ W.cell? ⟨w.heap.size, 1, none⟩ = some (.int .u64 i.a) ∧ W.cell? ⟨w.heap.size, 2, none⟩ = some (.int .u64 i.b) ∧ W.cell? ⟨w.heap.size, 3, none⟩ = some (.slice A i.l.length c))
      (first | assumption | exact held5 (HB1.out.drewN 1) | exact held5 ((HB1.out.on (below_box _ _)).drewN 1) | exact held_on HK2.out (below_box _ _) | exact held_on (held_on HK2.out (below_box _ _)) (below_box _ _) | exact held_on HK4.out (below_box _ _))
      (first
        | (go_at_call 44; ((with_reducible refine (HIM.out _ (held_bel ‹_›)).mono ?_); intro e w2 h; obtain ⟨v2, rfl, hr2, hb2⟩ := h; obtain ⟨A2, k2, rfl, hl2, hA2, _⟩ := hr2.liesN; have hk2 := held_on ‹_› hb2; have HL2 := Lib.hid hl2; have HA2 := Lib.hid hA2; have HB2 := Lib.hid hb2; have HK2 := Lib.hid hk2; clear hl2 hA2 hr2 hb2))
        | (go_at_call 43; first
            | ((with_reducible refine (cat2 (op := i.op) (g1 := w1.heap.size) (W := w2) rfl ((Whole.made w1 5 #[.int .u8 i.op.toNat]).drew.below HB2.out) HL2.out HA2.out hlen).mono ?_); intro e w4 h; obtain ⟨v4, rfl, hr4, hb4⟩ := h; have hk4 := held_on (held_on HK2.out (below_box _ _)) hb4; have HR4 := Lib.hid hr4; have HK4 := Lib.hid hk4; have hz4 := HK2.out.1.2.size; clear hr4 hb4)
            | ((with_reducible refine (cat2 (op := i.op) (g1 := w2.heap.size) (W := w2.alloc (.cells #[.int .u8 i.op.toNat] 5)) (size_box _ _) (Whole.made w2 5 #[.int .u8 i.op.toNat]) (lies_box HL2.out _) HA2.out hlen).mono ?_); intro e w4 h; obtain ⟨v4, rfl, hr4, hb4⟩ := h; have hk4 := held_on (held_on (held_on HK2.out (below_box _ _)) (below_box _ _)) hb4; have HR4 := Lib.hid hr4; have HK4 := Lib.hid hk4; have hz4 := HK2.out.1.2.size; clear hr4 hb4)))
    all_goals
      go_wp2
      go_ret2
      exact put_yes HZ.out HP.out (HR4.out.mono (by simp; omega)) HK4.out.1.2
  · have HZ := Lib.hid hr
    have dz : (rightZ i != 0) = true := by simpa using hr
    generalize hz : rightZ i = z at *
    clear h hT hl hr HT1
    go_enter Tryd.func26, Tryd.ntmps26
    go_wp2_with (go_at_call 27; go_must ((with_reducible refine HR.out.mono ?_); rintro e w1 ⟨rfl, hb1⟩; have HB1 := Lib.hid (HB.out.on hb1); clear hb1))
    subst hz
    go_ret2
    exact put_no HZ.out HB1.out.2
end Go.Proofs.YtjjhgmmkapeifaaDoor

/- consts.Right and the reference's Right. (By gen/genCRight.py.) -/
namespace Go.Proofs.YtjjhgmmkapeifaaDoor
open Go.RowKit
set_option linter.unusedVariables false
set_option maxRecDepth 100000

/-- May an instruction be a constant expression? -/
def IsC (n : Nat) : Prop := n = 35 ∨ n = 65 ∨ n = 66
instance (n : Nat) : Decidable (IsC n) := by unfold IsC; infer_instance
def crightZ (i : I) : Int := if rightZ i = 0 then (if IsC i.n then 0 else 12) else rightZ i
theorem cr_no {i : I} (h : ¬ rightZ i = 0) : crightZ i = rightZ i := by unfold crightZ; rw [if_neg h]
theorem cr_yes {i : I} (h : rightZ i = 0) (h2 : IsC i.n) : crightZ i = 0 := by unfold crightZ; rw [if_pos h, if_pos h2]
theorem cr_else {i : I} (h : rightZ i = 0) (h2 : ¬ IsC i.n) : crightZ i = 12 := by unfold crightZ; rw [if_pos h, if_neg h2]
theorem cr_zero {i : I} (h : crightZ i = 0) : rightZ i = 0 ∧ IsC i.n := by
  by_cases h1 : rightZ i = 0
  · by_cases h2 : IsC i.n
    · exact ⟨h1, h2⟩
    · rw [cr_else h1 h2] at h; omega
  · rw [cr_no h1] at h; exact absurd h h1

set_option maxHeartbeats 800000 in
theorem cright_any (i : I) (A : Option Addr) (c : Nat) (w : World) (h : i.Ok) (hT : Tabs w) (hl : (i.l.length : Int) ≤ 9223372036854775807) :
    Calls Tryd.prog 10 #[insV i A c] w (IntPost (crightZ i) w) := by
  have HB := Lib.hid (BoxI.start w i A c)
  have HR := Lib.hid (right_any i A c (w.alloc (.cells (insC i A c) 25)) h (hT.below HB.out.2) hl)
  by_cases h0 : rightZ i = 0
  · rw [h0] at HR
    have HE1 := Lib.hid (fun h2 => cr_yes (i := i) h0 h2)
    have HE2 := Lib.hid (fun h2 => cr_else (i := i) h0 h2)
    clear h hT hl h0
    by_cases h35 : i.n = 35
    · have d35 : ((i.op.toNat : Int) == 35) = true := beq_iff_eq.2 (by have : i.op.toNat = 35 := h35; omega)
      have HE := Lib.hid (HE1.out (by unfold IsC; omega))
      clear HE1 HE2 h35
      go_enter Tryd.func10, Tryd.ntmps10
      go_wp2_with (go_at_call 27; go_must ((with_reducible refine HR.out.mono ?_); rintro e w1 ⟨rfl, hb⟩; have HB1 := Lib.hid (HB.out.on hb); have c0 := HB1.out.c0; clear hb))
      go_ret
      exact ret_below HE.out.symm HB1.out.2
    have d35 : ((i.op.toNat : Int) == 35) = false := by have : ¬ i.op.toNat = 35 := h35; simp; omega
    by_cases h65 : i.n = 65
    · have d65 : ((i.op.toNat : Int) == 65) = true := beq_iff_eq.2 (by have : i.op.toNat = 65 := h65; omega)
      have HE := Lib.hid (HE1.out (by unfold IsC; omega))
      clear HE1 HE2 h35 h65
      go_enter Tryd.func10, Tryd.ntmps10
      go_wp2_with (go_at_call 27; go_must ((with_reducible refine HR.out.mono ?_); rintro e w1 ⟨rfl, hb⟩; have HB1 := Lib.hid (HB.out.on hb); have c0 := HB1.out.c0; clear hb))
      go_ret
      exact ret_below HE.out.symm HB1.out.2
    have d65 : ((i.op.toNat : Int) == 65) = false := by have : ¬ i.op.toNat = 65 := h65; simp; omega
    by_cases h66 : i.n = 66
    · have d66 : ((i.op.toNat : Int) == 66) = true := beq_iff_eq.2 (by have : i.op.toNat = 66 := h66; omega)
      have HE := Lib.hid (HE1.out (by unfold IsC; omega))
      clear HE1 HE2 h35 h65 h66
      go_enter Tryd.func10, Tryd.ntmps10
      go_wp2_with (go_at_call 27; go_must ((with_reducible refine HR.out.mono ?_); rintro e w1 ⟨rfl, hb⟩; have HB1 := Lib.hid (HB.out.on hb); have c0 := HB1.out.c0; clear hb))
      go_ret
      exact ret_below HE.out.symm HB1.out.2
    have d66 : ((i.op.toNat : Int) == 66) = false := by have : ¬ i.op.toNat = 66 := h66; simp; omega
    have HE := Lib.hid (HE2.out (by unfold IsC; omega))
    clear HE1 HE2 h35 h65 h66
    go_enter Tryd.func10, Tryd.ntmps10
    go_wp2_with (go_at_call 27; go_must ((with_reducible refine HR.out.mono ?_); rintro e w1 ⟨rfl, hb⟩; have HB1 := Lib.hid (HB.out.on hb); have c0 := HB1.out.c0; clear hb))
    go_ret
    exact ret_below HE.out.symm HB1.out.2
  · have HE := Lib.hid (cr_no h0)
    obtain ⟨z, hz⟩ : ∃ z, z = rightZ i := ⟨_, rfl⟩
    rw [← hz] at HR HE h0
    have dz : (z != 0) = true := by simpa using h0
    clear h hT hl h0 hz
    go_enter Tryd.func10, Tryd.ntmps10
    go_wp2_with (go_at_call 27; go_must ((with_reducible refine HR.out.mono ?_); rintro e w1 ⟨rfl, hb⟩; have HB1 := Lib.hid (HB.out.on hb); have c0 := HB1.out.c0; clear hb))
    go_ret
    exact ret_below HE.out.symm HB1.out.2
set_option maxHeartbeats 800000 in
theorem rcright_any (i : I) (A : Option Addr) (c : Nat) (w : World) (h : i.Ok) (hl : (i.l.length : Int) ≤ 9223372036854775807) :
    Calls Tryd.prog 7 #[insV i A c] w (IntPost (crightZ i) w) := by
  have HB := Lib.hid (BoxI.start w i A c)
  have HR := Lib.hid (refRight_any i A c (w.alloc (.cells (insC i A c) 25)) h hl)
  by_cases h0 : rightZ i = 0
  · rw [h0] at HR
    have HE1 := Lib.hid (fun h2 => cr_yes (i := i) h0 h2)
    have HE2 := Lib.hid (fun h2 => cr_else (i := i) h0 h2)
    clear h hl h0
    by_cases h35 : i.n = 35
    · have d35 : ((i.op.toNat : Int) == 35) = true := beq_iff_eq.2 (by have : i.op.toNat = 35 := h35; omega)
      have HE := Lib.hid (HE1.out (by unfold IsC; omega))
      clear HE1 HE2 h35
      go_enter Tryd.func7, Tryd.ntmps7
      go_wp2_with (go_at_call 25; go_must ((with_reducible refine HR.out.mono ?_); rintro e w1 ⟨rfl, hb⟩; have HB1 := Lib.hid (HB.out.on hb); have c0 := HB1.out.c0; clear hb))
      go_ret
      exact ret_below HE.out.symm HB1.out.2
    have d35 : ((i.op.toNat : Int) == 35) = false := by have : ¬ i.op.toNat = 35 := h35; simp; omega
    by_cases h65 : i.n = 65
    · have d65 : ((i.op.toNat : Int) == 65) = true := beq_iff_eq.2 (by have : i.op.toNat = 65 := h65; omega)
      have HE := Lib.hid (HE1.out (by unfold IsC; omega))
      clear HE1 HE2 h35 h65
      go_enter Tryd.func7, Tryd.ntmps7
      go_wp2_with (go_at_call 25; go_must ((with_reducible refine HR.out.mono ?_); rintro e w1 ⟨rfl, hb⟩; have HB1 := Lib.hid (HB.out.on hb); have c0 := HB1.out.c0; clear hb))
      go_ret
      exact ret_below HE.out.symm HB1.out.2
    have d65 : ((i.op.toNat : Int) == 65) = false := by have : ¬ i.op.toNat = 65 := h65; simp; omega
    by_cases h66 : i.n = 66
    · have d66 : ((i.op.toNat : Int) == 66) = true := beq_iff_eq.2 (by have : i.op.toNat = 66 := h66; omega)
      have HE := Lib.hid (HE1.out (by unfold IsC; omega))
      clear HE1 HE2 h35 h65 h66
      go_enter Tryd.func7, Tryd.ntmps7
      go_wp2_with (go_at_call 25; go_must ((with_reducible refine HR.out.mono ?_); rintro e w1 ⟨rfl, hb⟩; have HB1 := Lib.hid (HB.out.on hb); have c0 := HB1.out.c0; clear hb))
      go_ret
      exact ret_below HE.out.symm HB1.out.2
    have d66 : ((i.op.toNat : Int) == 66) = false := by have : ¬ i.op.toNat = 66 := h66; simp; omega
    have HE := Lib.hid (HE2.out (by unfold IsC; omega))
    clear HE1 HE2 h35 h65 h66
    go_enter Tryd.func7, Tryd.ntmps7
    go_wp2_with (go_at_call 25; go_must ((with_reducible refine HR.out.mono ?_); rintro e w1 ⟨rfl, hb⟩; have HB1 := Lib.hid (HB.out.on hb); have c0 := HB1.out.c0; clear hb))
    go_ret
    exact ret_below HE.out.symm HB1.out.2
  · have HE := Lib.hid (cr_no h0)
    obtain ⟨z, hz⟩ : ∃ z, z = rightZ i := ⟨_, rfl⟩
    rw [← hz] at HR HE h0
    have dz : (z != 0) = true := by simpa using h0
    clear h hl h0 hz
    go_enter Tryd.func7, Tryd.ntmps7
    go_wp2_with (go_at_call 25; go_must ((with_reducible refine HR.out.mono ?_); rintro e w1 ⟨rfl, hb⟩; have HB1 := Lib.hid (HB.out.on hb); have c0 := HB1.out.c0; clear hb))
    go_ret
    exact ret_below HE.out.symm HB1.out.2
end Go.Proofs.YtjjhgmmkapeifaaDoor

/- The contracts of package abort: Now, Unless, stopOf, call, Out. -/
namespace Go.Proofs.YtjjhgmmkapeifaaDoor
set_option linter.unusedVariables false
open Go.RowKit

/-- The panic with which a Stop aborts. -/
def stopP (c a : Int) : List PanicEntry := [{ v := .iface 44 (.agg #[.int .i64 c, .int .i64 a]), recovered := false }]

/-- How a step ends: with code 0 it returns, else it panics with its Stop. -/
def Ended (c a : Int) (e : Ending) : Prop := (c = 0 ∧ a = 0 ∧ e = .returned (.tuple #[])) ∨ (¬ c = 0 ∧ e = .panicked (stopP c a))

theorem now_any (c a : Int) (w : World) :
    Calls Tryd.prog 59 #[.int .i64 c, .int .i64 a] w fun e w' => e = .panicked (stopP c a) ∧ w' = w := by
  go_enter Tryd.func59, Tryd.ntmps59
  go_wp2
  exact ⟨rfl, rfl, rfl⟩

theorem unless_true (c a : Int) (w : World) :
    Calls Tryd.prog 33 #[.bool true, .int .i64 c, .int .i64 a] w fun e w' => e = .returned (.tuple #[]) ∧ w' = w := by
  go_enter Tryd.func33, Tryd.ntmps33
  go_wp2_with fail
  go_end0
  exact ⟨rfl, rfl⟩

theorem unless_false (c a : Int) (w : World) :
    Calls Tryd.prog 33 #[.bool false, .int .i64 c, .int .i64 a] w fun e w' => e = .panicked (stopP c a) ∧ w' = w := by
  go_enter Tryd.func33, Tryd.ntmps33
  go_wp2_with (go_at_call 59; refine (now_any _ _ _).mono ?_; rintro e w' ⟨rfl, rfl⟩)
  exact ⟨rfl, rfl, rfl⟩

theorem stopOf_any (c a : Int) (w : World) :
    Calls Tryd.prog 51 #[.iface 44 (.agg #[.int .i64 c, .int .i64 a])] w fun e w' => e = .returned (.agg #[.int .i64 c, .int .i64 a]) ∧ Below w.heap.size w w' := by
  have hta : ∀ w : World, (Instr.typeAssert (Value.iface 44 (Value.agg #[Value.int IntKind.i64 c, Value.int IntKind.i64 a])) 20 44 true).run Tryd.prog w = .ok (.tuple #[.agg #[Value.int IntKind.i64 c, Value.int IntKind.i64 a], .bool true]) w := fun _ => by kernel_rfl
  go_enter Tryd.func51, Tryd.ntmps51
  go_wp2
  exact bodyPost_ret (v := .agg #[.int .i64 c, .int .i64 a]) (by simp [results, Tryd.results51, go_sem]) rfl ⟨rfl, ((Below.refl _ _).alloc (Nat.le_refl _) _).alloc (by simp) _⟩

theorem call_any (g : FuncId) (cap : Array Value) (w : World) (R : Ending → World → Prop) (hcf : ∀ w : World, (callFunc g cap).run Tryd.prog w = .ok (.enter g cap) w) (h : Calls Tryd.prog g cap w R)
    (hR : ∀ v w', R (.returned v) w' → R (.returned (.tuple #[])) w') (hO : ∀ w', R .outgrown w' → False) :
    Calls Tryd.prog 52 #[.func (.func g) #[] cap] w R := by
  have hnil : ∀ w : World, (binOp BinOp.neq 1 (.func (.func g) #[] cap) .nilFunc).run Tryd.prog w = .ok (.bool true) w := fun _ => by kernel_rfl
  go_enter Tryd.func52, Tryd.ntmps52
  go_wp2_with fail
  refine h.mono ?_
  intro e w' hr
  cases e with
  | returned v =>
    have hr2 := hR v w' hr
    clear hr hR h
    go_wp2_with fail
    exact bodyPost_ret (v := .tuple #[]) (by simp [results, Tryd.results52, go_sem]) rfl hr2
  | panicked ch => exact ⟨rfl, hr⟩
  | outgrown => exact (hO _ hr).elim

theorem catch_panicking (b : Nat) (c a x y : Int) (older : List PanicEntry) (w : World) (hb : Whole w b 44 #[.int .i64 x, .int .i64 y]) :
    CallsD Tryd.prog 50 #[.pointer (some ⟨b, 0, none⟩)] (.panicking ({ v := .iface 44 (.agg #[.int .i64 c, .int .i64 a]), recovered := false } :: older)) w fun e u' w' =>
      e = .returned (.tuple #[]) ∧ u' = .panicking ({ v := .iface 44 (.agg #[.int .i64 c, .int .i64 a]), recovered := true } :: older) ∧ Whole w' b 44 #[.int .i64 c, .int .i64 a] ∧ w.grownBy w' (some b) := by
  refine callsD_of_wpS Tryd.func50 rfl fun c₀ cs hu => ?_
  apply wpS_seq
  apply wpS_region
  simp [wpOpsS, go_sem, recoverD, hu, Tryd.ntmps50, Exit.thenS]
  apply wpS_seq
  apply wpS_region
  simp [wpOpsS, go_sem, Exit.thenS]
  refine wpS_cond (t := true) (by simp [Act.eval, Array.replicate]) ?_
  simp only [if_true]
  apply wpS_region
  simp [wpOpsS, go_sem]
  refine (stopOf_any c a w).mono ?_
  rintro e w1 ⟨rfl, hb1⟩
  have hw1 := hb.below hb1
  have h0 := hw1.cell 0
  have h1 := hw1.cell 1
  have f0 := hw1.frozen 0
  have f1 := hw1.frozen 1
  simp [go_sem, h0, h1, f0, f1]
  obtain ⟨hW, hG⟩ := two_put (u := .int .i64 c) (v := .int .i64 a) hb hb1
  clear h0 h1 f0 f1 hw1 hb1 hb
  refine ⟨rfl, .panicking ({ v := .iface 44 (.agg #[.int .i64 c, .int .i64 a]), recovered := true } :: older), rfl, .tuple #[], ?_, rfl, rfl, hW, hG⟩
  simp [results, Tryd.results50]

theorem catch_idle (p : Addr) (w : World) :
    CallsD Tryd.prog 50 #[.pointer (some p)] .returning w fun e u' w' => e = .returned (.tuple #[]) ∧ u' = .returning ∧ w' = w := by
  refine callsD_of_wpS Tryd.func50 rfl fun c₀ cs hu => ?_
  apply wpS_seq
  apply wpS_region
  simp [wpOpsS, go_sem, recoverD, hu, Tryd.ntmps50, Exit.thenS]
  apply wpS_seq
  apply wpS_region
  simp [wpOpsS, go_sem, Exit.thenS]
  refine wpS_cond (t := false) (by simp [Act.eval, Array.replicate]) ?_
  simp only [Bool.false_eq_true, if_false]
  refine wpS_of_wp (wp_skip ?_)
  cases c₀
  simp_all [bodyPostS, results, Tryd.results50]

set_option maxHeartbeats 400000 in
/-- Out of a function that ends by returning, or with a Stop. -/
theorem out_any (g : FuncId) (cap : Array Value) (c a : Int) (w : World) (S : World → Prop) (hcf : ∀ w : World, (callFunc g cap).run Tryd.prog w = .ok (.enter g cap) w)
    (h : Calls Tryd.prog g cap (w.alloc (.cells #[.int .i64 0, .int .i64 0] 44)) (fun e w' => Ended c a e ∧ S w'))
    (hS : ∀ w', S w' → Whole w' w.heap.size 44 #[.int .i64 0, .int .i64 0]) :
    Calls Tryd.prog 30 #[.func (.func g) #[] cap] w fun e w' => e = .returned (.agg #[.int .i64 c, .int .i64 a]) ∧ ∃ w1, S w1 ∧ w1.grownBy w' (some w.heap.size) := by
  have hmf : ∀ (fn : Fn) (first cap : Array Value) (w : World), (Instr.makeFunc fn first cap).run Tryd.prog w = .ok (.func fn first cap) w := fun _ _ _ _ => rfl
  go_enter_defers Tryd.func30, Tryd.ntmps30
  go_wp2_with (go_at_call 52; refine (call_any g cap _ _ hcf h ?_ ?_).mono ?_)
  · rintro v w' ⟨he, hs⟩
    rcases he with ⟨h0, h1, _⟩ | ⟨_, h1⟩
    · exact ⟨.inl ⟨h0, h1, rfl⟩, hs⟩
    · cases h1
  · rintro w' ⟨he, _⟩
    rcases he with ⟨_, _, h1⟩ | ⟨_, h1⟩ <;> cases h1
  · rintro e w1 ⟨he, hs⟩
    have hw1 := hS _ hs
    have h0 := hw1.cell 0
    have h1 := hw1.cell 1
    have f0 := hw1.frozen 0
    have f1 := hw1.frozen 1
    clear h hS
    rcases he with ⟨rfl, rfl, rfl⟩ | ⟨hc, rfl⟩
    · simp at h0 h1
      go_wp2_with fail
      refine leaves_cons (f := 50) (args := #[.pointer (some ⟨w.heap.size, 0, none⟩)]) (by simp) (by simp [go_sem]) ?_
      refine (catch_idle ⟨w.heap.size, 0, none⟩ _).mono ?_
      rintro e u' w2 ⟨rfl, rfl, rfl⟩
      simp [Leaves, settle, results, Tryd.results30, go_sem, h0, h1]
      have g1 : w1.grownBy (w1.setCell ⟨w.heap.size, 0, none⟩ (.int .i64 0)) (some w.heap.size) := gb_put (p := ⟨w.heap.size, 0, none⟩) (gb_refl w1 _) (.inl rfl) _
      exact ⟨w1, hs, gb_put (p := ⟨w.heap.size, 1, none⟩) g1 (.inl rfl) _⟩
    · have H := Lib.hid hc
      clear hc
      simp at h0 h1
      go_wp2_with fail
      refine leaves_cons (f := 50) (args := #[.pointer (some ⟨w.heap.size, 0, none⟩)]) (by simp) (by simp [go_sem]) ?_
      refine (catch_panicking w.heap.size c a 0 0 [] _ hw1).mono ?_
      rintro e u' w2 ⟨rfl, rfl, hw2, hg2⟩
      have k0 := hw2.cell 0
      have k1 := hw2.cell 1
      simp at k0 k1
      simp [Leaves, settle, results, Tryd.results30, go_sem, k0, k1]
      exact ⟨w1, hs, hg2⟩

end Go.Proofs.YtjjhgmmkapeifaaDoor

/- A scanner: what it holds; what a reading is. Left, Done. -/
namespace Go.Proofs.YtjjhgmmkapeifaaDoor
set_option maxRecDepth 100000
open Go.RowKit
set_option linter.unusedVariables false

/-- What is read of bytes from a place on: a value and the next place, or an error and its place. -/
inductive Res (α : Type) where
  | ok (v : α) (k : Nat)
  | err (c a : Int)
def Res.bind {α β : Type} (r : Res α) (f : α → Nat → Res β) : Res β := match r with
  | .ok v k => f v k
  | .err c a => .err c a

/-- A scanner at block p: it reads the bytes l, k of them are read. -/
def Sc (w : World) (p : Nat) (l : List UInt8) (k : Nat) : Prop :=
  ∃ A cap, Whole w p 72 #[.slice A l.length cap, .int .i64 k] ∧ Lies w p A (cells (nums l)) ∧ l.length ≤ cap ∧ cap ≤ maxLen ∧ k ≤ l.length
theorem Sc.grown {w w' : World} {p : Nat} {l : List UInt8} {k : Nat} {row : Option Nat} (h : Sc w p l k) (hg : w.grownBy w' row) (hr : some p ≠ row) (hr2 : ∀ g, row = some g → p ≤ g) : Sc w' p l k := by
  obtain ⟨A, cap, h1, h2, h3⟩ := h
  exact ⟨A, cap, h1.grown hg hr, h2.grown hg (Nat.le_of_lt h1.lt) hr2, h3⟩
theorem Sc.below {w w' : World} {p : Nat} {l : List UInt8} {k : Nat} (h : Sc w p l k) (hb : Below w.heap.size w w') : Sc w' p l k :=
  h.grown (gb_of_below none hb) (by simp) (fun g e => by cases e)
theorem Sc.drewN {w : World} {p : Nat} {l : List UInt8} {k : Nat} (h : Sc w p l k) (n : Nat) : Sc (w.drewN n) p l k := h
theorem Sc.alloc {w : World} {p : Nat} {l : List UInt8} {k : Nat} (h : Sc w p l k) (o : Obj) : Sc (w.alloc o) p l k := h.below ((Below.refl _ _).alloc (Nat.le_refl _) _)
theorem Sc.lt {w : World} {p : Nat} {l : List UInt8} {k : Nat} (h : Sc w p l k) : p < w.heap.size := by
  obtain ⟨A, cap, h1, _⟩ := h
  exact h1.lt
theorem Sc.le {w : World} {p : Nat} {l : List UInt8} {k : Nat} (h : Sc w p l k) : k ≤ l.length ∧ (l.length : Int) ≤ 9223372036854775807 := by
  obtain ⟨A, cap, _, _, h3, h4, h5⟩ := h
  unfold maxLen at h4
  omega
theorem Sc.at {w : World} {p : Nat} {l : List UInt8} {k : Nat} (h : Sc w p l k) : w.cell? ⟨p, 1, none⟩ = some (.int .i64 k) := by
  obtain ⟨A, cap, h1, _⟩ := h
  exact h1.cell 1
theorem gb_drewN {w w1 : World} {row : Option Nat} (h : w.grownBy w1 row) (n : Nat) : w.grownBy (w1.drewN n) row := ⟨h.os, h.tape, h.output, h.size, h.block⟩
/-- What a reading leaves behind. -/
def Did {α : Type} (enc : α → Value) (p : Nat) (l : List UInt8) (w : World) (r : Res α) (e : Ending) (w' : World) : Prop := match r with
  | .ok v k => e = .returned (enc v) ∧ Sc w' p l k ∧ w.grownBy w' (some p)
  | .err c a => e = .panicked (stopP c a) ∧ w.grownBy w' (some p)

/-- The place is written. -/
theorem Sc.moved {w : World} {p : Nat} {l : List UInt8} {k : Nat} (h : Sc w p l k) (n : Nat) (v : Int) (k' : Nat) (hv : v = k') (hk : k' ≤ l.length) :
    Sc ((w.drewN n).setCell ⟨p, 1, none⟩ (.int .i64 v)) p l k' ∧ w.grownBy ((w.drewN n).setCell ⟨p, 1, none⟩ (.int .i64 v)) (some p) := by
  subst hv
  have hlt := h.lt
  obtain ⟨A, cap, h1, h2, h3, h4, _⟩ := h
  have hg : w.grownBy ((w.drewN n).setCell ⟨p, 1, none⟩ (.int .i64 k')) (some p) := gb_put (p := ⟨p, 1, none⟩) (gb_drewN (gb_refl w _) n) (.inl rfl) _
  have hw : Whole (w.drewN n) p 72 #[.slice A l.length cap, .int .i64 k] := h1
  exact ⟨⟨A, cap, by simpa using hw.put 1 (.int .i64 k'), h2.grown hg (Nat.le_of_lt hlt) (fun g e => by injection e with e; omega), h3, h4, hk⟩, hg⟩
theorem Sc.data {w : World} {p : Nat} {l : List UInt8} {k : Nat} (h : Sc w p l k) : ∃ A cap, w.cell? ⟨p, 0, none⟩ = some (.slice A l.length cap) ∧ Lies w p A (cells (nums l)) ∧ l.length ≤ cap ∧ cap ≤ maxLen := by
  obtain ⟨A, cap, h1, h2, h3, h4, _⟩ := h
  exact ⟨A, cap, h1.cell 0, h2, h3, h4⟩
theorem Sc.free {w : World} {p : Nat} {l : List UInt8} {k : Nat} (h : Sc w p l k) : w.frozen? ⟨p, 1, none⟩ = false := by
  obtain ⟨A, cap, h1, _⟩ := h
  exact h1.frozen 1
/-- abort.Unless: nothing is wrong. -/
theorem unlessT (c a : Int) (w : World) : Calls Tryd.prog 33 #[.bool true, .int .i64 c, .int .i64 a] w fun e w' => e = .returned (.tuple #[]) ∧ w = w' :=
  (unless_true c a w).mono fun _ _ h => ⟨h.1, h.2.symm⟩
theorem unlessF (c a : Int) (w : World) : Calls Tryd.prog 33 #[.bool false, .int .i64 c, .int .i64 a] w fun e w' => e = .panicked (stopP c a) ∧ w = w' :=
  (unless_false c a w).mono fun _ _ h => ⟨h.1, h.2.symm⟩

/-- A scanner's own block alone: it has n bytes, k of them are read. -/
def Hd (w : World) (p n k : Nat) : Prop := ∃ A cap, Whole w p 72 #[.slice A n cap, .int .i64 k] ∧ n ≤ cap ∧ cap ≤ maxLen ∧ k ≤ n
theorem Sc.hd {w : World} {p : Nat} {l : List UInt8} {k : Nat} (h : Sc w p l k) : Hd w p l.length k := by
  obtain ⟨A, cap, h1, _, h3, h4, h5⟩ := h
  exact ⟨A, cap, h1, h3, h4, h5⟩
theorem Hd.grown {w w' : World} {p n k : Nat} {row : Option Nat} (h : Hd w p n k) (hg : w.grownBy w' row) (hr : some p ≠ row) : Hd w' p n k := by
  obtain ⟨A, cap, h1, h2⟩ := h
  exact ⟨A, cap, h1.grown hg hr, h2⟩
theorem Hd.drewN {w : World} {p n k : Nat} (h : Hd w p n k) (m : Nat) : Hd (w.drewN m) p n k := h
theorem left_hd {w : World} {p n k : Nat} (h : Hd w p n k) :
    Calls Tryd.prog 85 #[.pointer (some ⟨p, 0, none⟩)] w fun e w' => e = .returned (.int .i64 ((n : Int) - k)) ∧ ∃ m, w' = w.drewN m := by
  obtain ⟨A, cap, h1, h2, h3, h4⟩ := h
  unfold maxLen at h3
  have c0 := h1.cell 0
  have c1 := h1.cell 1
  simp only [List.getElem?_toArray, List.getElem?_cons_zero, List.getElem?_cons_succ] at c0 c1
  clear h1
  go_enter Tryd.func85, Tryd.ntmps85
  go_wp2
  go_quiet (fail)
  go_wp2
  go_ret
  exact ⟨rfl, _, rfl⟩
theorem left_any {w : World} {p : Nat} {l : List UInt8} {k : Nat} (h : Sc w p l k) :
    Calls Tryd.prog 85 #[.pointer (some ⟨p, 0, none⟩)] w fun e w' => e = .returned (.int .i64 ((l.length : Int) - k)) ∧ ∃ m, w' = w.drewN m := left_hd h.hd
end Go.Proofs.YtjjhgmmkapeifaaDoor

/- take. -/
namespace Go.Proofs.YtjjhgmmkapeifaaDoor
set_option maxRecDepth 100000
open Go.RowKit
set_option linter.unusedVariables false

/-- s[k:k+n]. -/
theorem cut_run (A : Option Addr) (len cap k n : Nat) (h1 : k + n ≤ len) (h2 : len ≤ cap) :
    ∃ A', (∀ w, (Instr.slice 29 (.slice A len cap) (some (.int .i64 (k : Int))) (some (.int .i64 ((k : Int) + n))) none).run Tryd.prog w = .ok (.slice A' n (cap - k)) w) ∧
      (∀ w B (l : List Int), Lies w B A (cells l) → Lies w B A' (cells ((l.drop k).take n))) := by
  have hr : ∀ w, _ := fun w => run_slice_lh (P := Tryd.prog) w 29 A len cap Tryd.underlying29 .i64 .i64 (k : Int) ((k : Int) + n) (by omega) (by omega) (by omega)
  have hz : ∀ w, (sizeOf (Tryd.prog.elem 29)).run Tryd.prog w = .ok 1 w := fun w => by kernel_rfl
  have e1 : (k : Int).toNat = k := by omega
  have e2 : ((k : Int) + n).toNat = k + n := by omega
  have e3 : k + n - k = n := by omega
  by_cases hk : cap = k
  · refine ⟨A, fun w => ?_, fun w B l _ => ?_⟩
    · rw [hr w, hz w, e1, e2]
      simp [Result.andThen, sliced, e3, hk]
    · have : n = 0 := by omega
      subst this
      simp [cells]
      exact Lies.nil
  · refine ⟨A.map (·.add k), fun w => ?_, fun w B l hl => ?_⟩
    · rw [hr w, hz w, e1, e2]
      simp [Result.andThen, sliced, e3, hk]
    · have hc := (hl.cut k).take n
      have e : A.map (·.add k) = A.map (fun a => ⟨a.block, a.off + k, none⟩) ∨ (cells l).length = 0 := by
        by_cases h0 : (cells l).length = 0
        · exact .inr h0
        · obtain ⟨b, off, rfl, _⟩ := hl.at_ (i := 0) (by omega)
          left
          simp [Go.WideShapes.add_plain]
      have ec : cells ((l.drop k).take n) = ((cells l).drop k).take n := by simp [cells, List.map_drop, List.map_take]
      rw [ec]
      rcases e with e | e
      · rw [e]; exact hc
      · have : cells l = [] := List.eq_nil_of_length_eq_zero e
        rw [this]; simp
        exact Lies.nil

/-- What take hands back: n bytes that lie below the scanner. -/
def Took (p : Nat) (l : List UInt8) (k n : Nat) (w : World) (e : Ending) (w' : World) : Prop :=
  ∃ A c, e = .returned (.slice A n c) ∧ n ≤ c ∧ c ≤ maxLen ∧ Lies w' p A (cells (nums ((l.drop k).take n))) ∧ Sc w' p l (k + n) ∧ w.grownBy w' (some p)

set_option maxHeartbeats 800000 in
theorem take_ok {w : World} {p : Nat} {l : List UInt8} {k : Nat} (h : Sc w p l k) (n : Nat) (hn : k + n ≤ l.length) :
    Calls Tryd.prog 60 #[.pointer (some ⟨p, 0, none⟩), .int .i64 n] w (Took p l k n w) := by
  have hle := h.le
  have HL := Lib.hid (fun m => left_any (h.drewN m))
  have HS := Lib.hid h
  have c1 := h.at
  have f1 := h.free
  clear h
  have d1 : (0 : Int) ≤ n := by omega
  have d2 : (n : Int) ≤ (l.length : Int) - k := by omega
  have d3 : (k : Int) + n ≤ 9223372036854775807 := by omega
  go_enter Tryd.func60, Tryd.ntmps60
  go_wp2_with (go_at_call 33; go_must ((with_reducible refine (unlessT _ _ _).mono ?_); rintro e w' ⟨rfl, rfl⟩))
  go_quiet (first
    | (go_at_call 85; exact Calls.quiet_of (HL.out _))
    | (go_at_call 33; exact (unlessT _ _ _).mono fun _ _ h => ⟨h.1, _, h.2.symm⟩))
  go_wp2
  obtain ⟨hs2, hg2⟩ := HS.out.moved nq ((k : Int) + n) (k + n) (by omega) hn
  generalize (w.drewN nq).setCell ⟨p, 1, none⟩ (.int .i64 ((k : Int) + n)) = W at *
  obtain ⟨A, cap, c0', hlies, hc, hm⟩ := hs2.data
  have c1' := hs2.at
  rw [show ((k + n : Nat) : Int) = (k : Int) + n by omega] at c1'
  obtain ⟨A', hcut, hcl⟩ := cut_run A l.length cap k n hn hc
  have HLI := Lib.hid (hcl W p (nums l) hlies)
  have HS2 := Lib.hid hs2
  have HG2 := Lib.hid hg2
  clear hlies hs2 hg2 c1 f1 hcl
  go_quiet (fail)
  go_wp2
  go_ret
  exact ⟨A', cap - k, rfl, by omega, by omega, by have := HLI.out; unfold nums at *; rw [List.map_take, List.map_drop]; exact this, HS2.out.drewN _, gb_drewN HG2.out _⟩
/-- An error that take tells. -/
def Failed (p : Nat) (c : Int) (k : Nat) (w : World) (e : Ending) (w' : World) : Prop := e = .panicked (stopP c k) ∧ w.grownBy w' (some p)
theorem take_neg {w : World} {p : Nat} {l : List UInt8} {k : Nat} (h : Sc w p l k) (n : Int) (hn : n < 0) :
    Calls Tryd.prog 60 #[.pointer (some ⟨p, 0, none⟩), .int .i64 n] w (Failed p 1 k w) := by
  have c1 := h.at
  have d1 : ¬ 0 ≤ n := by omega
  have d2 : decide (0 ≤ n) = false := by simpa using hn
  clear h
  go_enter Tryd.func60, Tryd.ntmps60
  go_wp2_with (go_at_call 33; go_must ((with_reducible refine (unlessF _ _ _).mono ?_); rintro e w' ⟨rfl, rfl⟩))
  exact ⟨rfl, rfl, gb_refl _ _⟩
theorem left_held {w W : World} {p : Nat} {l : List UInt8} {k : Nat} (h : (Sc W p l k ∧ w.grownBy W (some p)) ∧ W.cell? ⟨p, 1, none⟩ = some (.int .i64 k)) :
    Calls Tryd.prog 85 #[.pointer (some ⟨p, 0, none⟩)] W fun e w' => e = .returned (.int .i64 ((l.length : Int) - k)) ∧ (Sc w' p l k ∧ w.grownBy w' (some p)) ∧ w'.cell? ⟨p, 1, none⟩ = some (.int .i64 k) :=
  (left_any h.1.1).mono fun _ _ ⟨h1, m, h2⟩ => ⟨h1, by subst h2; exact ⟨⟨h.1.1.drewN m, gb_drewN h.1.2 m⟩, h.2⟩⟩
set_option maxHeartbeats 800000 in
theorem take_short {w : World} {p : Nat} {l : List UInt8} {k : Nat} (h : Sc w p l k) (n : Nat) (hn : l.length < k + n) :
    Calls Tryd.prog 60 #[.pointer (some ⟨p, 0, none⟩), .int .i64 n] w (Failed p 2 k w) := by
  have hle := h.le
  have HS := Lib.hid h
  have c1 := h.at
  clear h
  have d1 : (0 : Int) ≤ n := by omega
  have d2 : ¬ (n : Int) ≤ (l.length : Int) - k := by omega
  have d3 : decide ((n : Int) ≤ (l.length : Int) - k) = false := by simpa using d2
  go_enter Tryd.func60, Tryd.ntmps60
  go_wp2_with (go_at_call 33; go_must ((with_reducible refine (unlessT _ _ _).mono ?_); rintro e w' ⟨rfl, rfl⟩))
  refine wp_region_held_drew (S := fun W => (Sc W p l k ∧ w.grownBy W (some p)) ∧ W.cell? ⟨p, 1, none⟩ = some (.int .i64 k)) (by kernel_rfl) ⟨⟨HS.out, gb_drew (gb_refl _ _)⟩, c1⟩ (fun hHeld => ?_)
  (refine wpAnyH_take (i := 0) (oi := { dst := some 13, op := Op.move (Operand.tmp 1), type := 3, pos := "scan.go:44", after := #[], guard := none }) (v := ?_) rfl (by kernel_rfl) (by kernel_rfl) (by kernel_rfl) (fun _ _ _ h => h) ?_ (by assumption) ?_; rotate_left; focus (refine .inl ⟨by kernel_rfl, ?_⟩; intro w hSw; (try dsimp only at hSw); go_simp; (try with_reducible rfl)); (try simp only [Act.put, List.setIfInBounds_toArray, List.set_cons_zero, List.set_cons_succ]))
  (refine wpAnyH_take (i := 1) (oi := { dst := some 14, op := Op.move (Operand.tmp 0), type := 38, pos := "scan.go:44", after := #[], guard := none }) (v := ?_) rfl (by kernel_rfl) (by kernel_rfl) (by kernel_rfl) (fun _ _ _ h => h) ?_ (by assumption) ?_; rotate_left; focus (refine .inl ⟨by kernel_rfl, ?_⟩; intro w hSw; (try dsimp only at hSw); go_simp; (try with_reducible rfl)); (try simp only [Act.put, List.setIfInBounds_toArray, List.set_cons_zero, List.set_cons_succ]))
  (refine wpAnyH_take (i := 4) (oi := { dst := some 17, op := Op.move (Operand.tmp 0), type := 38, pos := "scan.go:44", after := #[], guard := none }) (v := ?_) rfl (by kernel_rfl) (by kernel_rfl) (by kernel_rfl) (fun _ _ _ h => h) ?_ (by assumption) ?_; rotate_left; focus (refine .inl ⟨by kernel_rfl, ?_⟩; intro w hSw; (try dsimp only at hSw); go_simp; (try with_reducible rfl)); (try simp only [Act.put, List.setIfInBounds_toArray, List.set_cons_zero, List.set_cons_succ]))
  (refine wpAnyH_take (i := 5) (oi := { dst := some 18, op := Op.nilCheck (Operand.tmp 17), type := 0, pos := "scan.go:44", after := #[{ on := 4, ground := Ground.data }], guard := none }) (v := ?_) rfl (by kernel_rfl) (by kernel_rfl) (by kernel_rfl) (fun _ _ _ h => h) ?_ (by assumption) ?_; rotate_left; focus (refine .inl ⟨by kernel_rfl, ?_⟩; intro w hSw; (try dsimp only at hSw); go_simp; (try with_reducible rfl)); (try simp only [Act.put, List.setIfInBounds_toArray, List.set_cons_zero, List.set_cons_succ]))
  (refine wpAnyH_take (i := 6) (oi := { dst := some 19, op := Op.fieldAddr 72 (Operand.tmp 18) 1, type := 0, pos := "scan.go:44", after := #[{ on := 5, ground := Ground.data }], guard := none }) (v := ?_) rfl (by kernel_rfl) (by kernel_rfl) (by kernel_rfl) (fun _ _ _ h => h) ?_ (by assumption) ?_; rotate_left; focus (refine .inl ⟨by kernel_rfl, ?_⟩; intro w hSw; (try dsimp only at hSw); go_simp; (try with_reducible rfl)); (try simp only [Act.put, List.setIfInBounds_toArray, List.set_cons_zero, List.set_cons_succ]))
  (refine wpAnyH_take (i := 7) (oi := { dst := some 20, op := Op.load 3 (Operand.tmp 19), type := 3, pos := "scan.go:44", after := #[{ on := 6, ground := Ground.data }], guard := none }) (v := ?_) rfl (by kernel_rfl) (by kernel_rfl) (by kernel_rfl) (fun _ _ _ h => h) ?_ (by assumption) ?_; rotate_left; focus (refine .inl ⟨by kernel_rfl, ?_⟩; intro w hSw; (try dsimp only at hSw); go_simp; (try with_reducible rfl)); (try simp only [Act.put, List.setIfInBounds_toArray, List.set_cons_zero, List.set_cons_succ]))
  refine wpAnyH_ready (rs := [2]) (by kernel_rfl) (by simp) ?_
  refine AllReadyH.cons (o := { dst := some 15, op := Op.call { callee := Callee.value (Operand.func 85), args := #[Operand.tmp 14], argTypes := #[38] }, type := 3, pos := "scan.go:44", after := #[{ on := 1, ground := Ground.data }], guard := none }) rfl (fun K hK => ?_) AllReadyH.nil
  go_simp
  (go_at_call 85; (with_reducible refine (left_held hHeld).mono ?_); rintro e w' ⟨rfl, hk⟩)
  refine hK.out _ _ hk (fun hHeld2 => ?_)
  clear hK K hHeld
  (try simp only [Act.put, List.setIfInBounds_toArray, List.set_cons_zero, List.set_cons_succ])
  (refine wpAnyH_take (i := 3) (oi := { dst := some 16, op := Op.binOp BinOp.leq 3 (Operand.tmp 13) (Operand.tmp 15) 3, type := 4, pos := "scan.go:44", after := #[{ on := 0, ground := Ground.data }, { on := 2, ground := Ground.data }], guard := none }) (v := ?_) rfl (by kernel_rfl) (by kernel_rfl) (by kernel_rfl) (fun _ _ _ h => h) ?_ (by assumption) ?_; rotate_left; focus (refine .inl ⟨by kernel_rfl, ?_⟩; intro w hSw; (try dsimp only at hSw); go_simp; (try with_reducible rfl)); (try simp only [Act.put, List.setIfInBounds_toArray, List.set_cons_zero, List.set_cons_succ]))
  refine wpAnyH_ready (rs := [8]) (by kernel_rfl) (by simp) ?_
  refine AllReadyH.cons (o := { dst := some 21, op := Op.call { callee := Callee.value (Operand.func 33), args := #[Operand.tmp 16, Operand.const (Value.int IntKind.i64 2), Operand.tmp 20], argTypes := #[4, 30, 3] }, type := 0, pos := "scan.go:44", after := #[{ on := 3, ground := Ground.data }, { on := 7, ground := Ground.data }, { on := 2, ground := Ground.chain }], guard := none }) rfl (fun K hK => ?_) AllReadyH.nil
  go_simp
  (go_at_call 33; (with_reducible refine (unlessF _ _ _).mono ?_); rintro e w' ⟨rfl, rfl⟩; exact ⟨rfl, rfl, hHeld2.1.2⟩)
end Go.Proofs.YtjjhgmmkapeifaaDoor

/- Byte, Sub, End, bytes.Clone, Over. -/
namespace Go.Proofs.YtjjhgmmkapeifaaDoor
set_option maxRecDepth 100000
open Go.RowKit
set_option linter.unusedVariables false

/-- The next byte. -/
def byteR (l : List UInt8) (k : Nat) : Res UInt8 := match l[k]? with
  | some c => .ok c (k + 1)
  | none => .err 2 k
abbrev encB (c : UInt8) : Value := .int .u8 c.toNat

theorem byte_any {w : World} {p : Nat} {l : List UInt8} {k : Nat} (h : Sc w p l k) :
    Calls Tryd.prog 34 #[.pointer (some ⟨p, 0, none⟩)] w (Did encB p l w (byteR l k)) := by
  unfold byteR
  by_cases hk : k < l.length
  · have hc : l[k]? = some l[k] := List.getElem?_eq_getElem hk
    rw [hc]
    have HT := Lib.hid (show Calls Tryd.prog 60 #[.pointer (some ⟨p, 0, none⟩), .int .i64 1] w (Took p l k 1 w) from take_ok h 1 (by omega))
    have HE := Lib.hid (show nums ((l.drop k).take 1) = [(l[k].toNat : Int)] by rw [List.drop_eq_getElem_cons hk]; rfl)
    obtain ⟨c, hcc⟩ : ∃ c, c = l[k] := ⟨_, rfl⟩
    rw [← hcc] at HE ⊢
    clear hc hcc h hk
    go_enter Tryd.func34, Tryd.ntmps34
    go_wp2_with (go_at_call 60; go_must ((with_reducible refine HT.out.mono ?_); rintro e w1 ⟨A, cc, rfl, h1, h2, hl, hs, hg⟩; rw [HE.out] at hl; obtain ⟨b, off, rfl, hb, hcell⟩ := hl.byte (i := 0) rfl; rw [Nat.add_zero] at hcell; have HS := Lib.hid hs; have HG := Lib.hid hg; clear hs hg hl))
    go_ret
    exact ⟨rfl, HS.out, HG.out⟩
  · have hc : l[k]? = none := List.getElem?_eq_none (by omega)
    rw [hc]
    have HT := Lib.hid (show Calls Tryd.prog 60 #[.pointer (some ⟨p, 0, none⟩), .int .i64 1] w (Failed p 2 k w) from take_short h 1 (by omega))
    clear hc h hk
    go_enter Tryd.func34, Tryd.ntmps34
    go_wp2_with (go_at_call 60; go_must ((with_reducible refine HT.out.mono ?_); rintro e w1 ⟨rfl, hg⟩; have HG := Lib.hid hg; clear hg))
    exact ⟨rfl, rfl, HG.out⟩

/-- A scanner of the next n bytes, at a new block. -/
def Subbed (p : Nat) (l : List UInt8) (k n : Nat) (w : World) (e : Ending) (w' : World) : Prop :=
  ∃ q, e = .returned (.pointer (some ⟨q, 0, none⟩)) ∧ w.heap.size ≤ q ∧ Sc w' q ((l.drop k).take n) 0 ∧ Sc w' p l (k + n) ∧ w.grownBy w' (some p)
/-- bytes.Clone of bytes that lie somewhere, one at least. -/
theorem clone_ok {w : World} {A : Option Addr} {cap : Nat} {l : List UInt8} (hl : Lies w w.heap.size A (cells (nums l))) (h0 : 0 < l.length) (hc : l.length ≤ 1000000) :
    Calls Tryd.prog 29 #[.slice A l.length cap] w (BytesL l w) := by
  have hA : ∃ b off, A = some ⟨b, off, none⟩ := by
    obtain ⟨b, off, e, _⟩ := hl.byte (i := 0) (c := ((nums l)[0]'(by rw [nums_length]; exact h0))) (List.getElem?_eq_getElem _)
    exact ⟨b, off, e⟩
  obtain ⟨b, off, rfl⟩ := hA
  have hnil : ∀ w : World, (binOp BinOp.eql 29 (.slice (some ⟨b, off, none⟩) l.length cap) (.slice none 0 0)).run Tryd.prog w = .ok (.bool false) w := fun w => by
    simp only [binOp]
    simp [run_equal_slice_nil w 29 5 _ _ _ Tryd.underlying29]
  have R0 := Lib.hid (Row.made w [] w.heap.size w.heap.size rfl (Nat.le_refl _) (by simp))
  have HL := Lib.hid (hl.below (below_box w (.cells #[] 5)) (Nat.le_refl _))
  clear hl
  go_enter Tryd.func29, Tryd.ntmps29
  go_wp2_with (at_builtin; (refine row_lies rfl _ _ rfl w.heap.size _ _ rfl R0.out _ _ _ _ l rfl rfl HL.out h0 (by simp; omega) (by simp) ?_; intro v2 w2 hr2 hb2; have HR2 := Lib.hid hr2; have HB2 := Lib.hid hb2; clear hr2 hb2))
  go_ret
  exact ⟨_, rfl, HR2.out, (below_box w _).trans HB2.out⟩
/-- A new scanner of bytes that lie somewhere, one at least. -/
def Overs (l : List UInt8) (w : World) (e : Ending) (w' : World) : Prop :=
  ∃ q, e = .returned (.pointer (some ⟨q, 0, none⟩)) ∧ w.heap.size ≤ q ∧ Sc w' q l 0 ∧ Below w.heap.size w w'
theorem over_ok {w : World} {A : Option Addr} {cap : Nat} {l : List UInt8} (hl : Lies w w.heap.size A (cells (nums l))) (h0 : 0 < l.length) (hc : l.length ≤ 1000000) :
    Calls Tryd.prog 13 #[.slice A l.length cap] w (Overs l w) := by
  have HC := Lib.hid (clone_ok (cap := cap) hl h0 hc)
  clear hl
  go_enter Tryd.func13, Tryd.ntmps13
  go_wp2_with (go_at_call 29; go_must ((with_reducible refine HC.out.mono ?_); intro e w1 h; obtain ⟨v, rfl, hr, hb⟩ := h; obtain ⟨A1, c1, rfl, h1, h2, hl1, _⟩ := lies_own hr; have HL := Lib.hid hl1; have H1 := Lib.hid h1; have H2 := Lib.hid h2; have HB := Lib.hid hb; clear hl1 hr h1 h2 hb))
  go_ret
  exact ⟨w1.heap.size, rfl, HB.out.size, ⟨A1, c1, Whole.made _ _ _, HL.out.below (below_box w1 _) (Nat.le_refl _), H1.out, H2.out, by simp⟩, HB.out.trans ((below_box w1 _).mono HB.out.size)⟩

end Go.Proofs.YtjjhgmmkapeifaaDoor
