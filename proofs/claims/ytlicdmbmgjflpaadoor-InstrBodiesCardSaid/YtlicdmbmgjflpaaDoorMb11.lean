/- instr.Put. -/
import Derived.Test.YtlicdmbmgjflpaaDoorMb10
import Derived.Test.YtlicdmbmgjflpaaDoorMb06
namespace Go.Proofs.YtlicdmbmgjflpaaDoor
open Go.RowKit
set_option linter.unusedVariables false
set_option maxRecDepth 100000

/-- A row of the call's own lies; where it lies nowhere it has no room. -/
theorem Row.liesN {w : World} {base : Nat} {v : Value} {xs : List UInt8} (h : Row w base v xs) : ∃ A c, v = .slice A xs.length c ∧ Lies w w.heap.size A (cells (nums xs)) ∧ (A = none → c = 0) ∧ xs.length ≤ c ∧ c ≤ maxLen := by
  have h' := h
  obtain ⟨h1, h2⟩ := h
  obtain ⟨A, c, e, h3, h4, h5, _⟩ := lies_own h'
  refine ⟨A, c, e, h5, fun hA => ?_, h3, h4⟩
  rcases h2 with ⟨e2, _⟩ | ⟨g, cap, cur, e2, _⟩
  · rw [e] at e2
    injection e2
  · rw [e] at e2
    injection e2 with e2
    rw [hA] at e2
    cases e2
/-- What Put hands back. -/
def PutPost (i : I) (w : World) (e : Ending) (w' : World) : Prop :=
  ∃ v, e = .returned (.tuple #[v, .int .i64 (rightZ i)]) ∧ Row w' w.heap.size v (if rightZ i = 0 then putL i else []) ∧ Below w.heap.size w w'
theorem put_no {i : I} {w w' : World} (h : rightZ i ≠ 0) (hb : Below w.heap.size w w') : PutPost i w (.returned (.tuple #[.slice none 0 0, .int .i64 (rightZ i)])) w' :=
  ⟨_, rfl, by rw [if_neg h]; exact Row.nil _ _, hb⟩
theorem immL_len {i : I} (h : i.Ok) (hr : rightZ i = 0) : (immL i).length ≤ 200000 := by
  obtain ⟨a0, a1, b0, b1, hl0⟩ := h
  obtain ⟨_, _, h10, _, _⟩ := right_zero hr
  have k1 := lebL_len i.a (by omega)
  have k2 := lebL_len i.b (by omega)
  have k3 := lebL_len (i.l.length : Int) (by omega)
  have k4 := labsL_take_len i.l hl0 i.l.length h10
  rw [List.take_length] at k4
  have k5 := sebL_len (s32 i.a) (by unfold s32; omega) (by unfold s32; omega)
  have k6 := sebL_len (s64 i.a) (by unfold s64; omega) (by unfold s64; omega)
  unfold immL immB labL
  repeat' split
  all_goals (try simp only [List.length_append, List.length_cons, List.length_nil])
  all_goals omega
theorem nums_one (c : UInt8) : cells (nums [c]) = [.int .u8 c.toNat] := rfl
theorem catenate {W : World} {op : UInt8} {g g1 : Nat} {A1 : Option Addr} {c1 : Nat} {l2 : List UInt8} (hg : Whole W g 26 #[.slice (some ⟨g1, 0, none⟩) 1 1, .slice A1 l2.length c1])
    (h1 : Whole W g1 5 #[.int .u8 op.toNat]) (h2 : Lies W W.heap.size A1 (cells (nums l2))) (hA : A1 = none → c1 = 0) (n2 : l2.length ≤ 200000) :
    Calls Tryd.prog 21 #[.slice (some ⟨g, 0, none⟩) 2 2] W (BytesL (op :: l2) W) := by
  refine concat_any (l1 := [op]) (c1 := 1) hg ?_ h2 hA (by simp) (by simp; omega)
  intro j v hv
  rw [nums_one] at hv
  refine ⟨g1, 0, rfl, h1.lt, ?_⟩
  rw [h1.cell]
  simpa using hv

theorem put_yes {i : I} {w w' : World} {x : List UInt8} {v : Value} (h : rightZ i = 0) (hp : putL i = i.op :: x) (hr : Row w' w.heap.size v (i.op :: x)) (hb : Below w.heap.size w w') : PutPost i w (.returned (.tuple #[v, .int .i64 0])) w' :=
  ⟨v, by rw [h], by rw [if_pos h, hp]; exact hr, hb⟩
theorem size_box (w : World) (o : Obj) : (w.alloc o).heap.size = w.heap.size + 1 := by simp
theorem lies_box {w : World} {A : Option Addr} {vs : List Value} (h : Lies w w.heap.size A vs) (o : Obj) : Lies (w.alloc o) (w.alloc o).heap.size A vs :=
  (h.below (below_box w o) (Nat.le_refl _)).more (below_box w o).size
theorem cat2 {W : World} {op : UInt8} {g1 H : Nat} {A2 : Option Addr} {k2 : Nat} {x : List UInt8} (hH : W.heap.size = H) (h1 : Whole W g1 5 #[.int .u8 op.toNat]) (hl : Lies W W.heap.size A2 (cells (nums x))) (hA : A2 = none → k2 = 0) (hn : x.length ≤ 200000) :
    Calls Tryd.prog 21 #[.slice (some ⟨H, 0, none⟩) 2 2] (W.alloc (.cells #[.slice (some ⟨g1, 0, none⟩) 1 1, .slice A2 x.length k2] 26)) (BytesL (op :: x) (W.alloc (.cells #[.slice (some ⟨g1, 0, none⟩) 1 1, .slice A2 x.length k2] 26))) := by
  subst hH
  exact catenate (op := op) (Whole.made _ _ _) (h1.alloc _) (lies_box hl _) hA hn
section
variable {w W W' : World} {i : I} {A : Option Addr} {c : Nat}
theorem held5 (h : BoxI w W i A c) : BoxI w W i A c ∧ W.cell? ⟨w.heap.size, 0, none⟩ = some (.int .u8 i.op.toNat) ∧ W.cell? ⟨w.heap.size, 1, none⟩ = some (.int .u64 i.a) ∧ W.cell? ⟨w.heap.size, 2, none⟩ = some (.int .u64 i.b) ∧ W.cell? ⟨w.heap.size, 3, none⟩ = some (.slice A i.l.length c) :=
  ⟨h, h.c0, h.c1, h.c2, h.c3⟩
theorem held_on (h : BoxI w W i A c ∧ W.cell? ⟨w.heap.size, 0, none⟩ = some (.int .u8 i.op.toNat) ∧ W.cell? ⟨w.heap.size, 1, none⟩ = some (.int .u64 i.a) ∧ W.cell? ⟨w.heap.size, 2, none⟩ = some (.int .u64 i.b) ∧ W.cell? ⟨w.heap.size, 3, none⟩ = some (.slice A i.l.length c)) (hb : Below W.heap.size W W') : BoxI w W' i A c ∧ W'.cell? ⟨w.heap.size, 0, none⟩ = some (.int .u8 i.op.toNat) ∧ W'.cell? ⟨w.heap.size, 1, none⟩ = some (.int .u64 i.a) ∧ W'.cell? ⟨w.heap.size, 2, none⟩ = some (.int .u64 i.b) ∧ W'.cell? ⟨w.heap.size, 3, none⟩ = some (.slice A i.l.length c) := held5 (h.1.on hb)
theorem held_bel (h : BoxI w W i A c ∧ W.cell? ⟨w.heap.size, 0, none⟩ = some (.int .u8 i.op.toNat) ∧ W.cell? ⟨w.heap.size, 1, none⟩ = some (.int .u64 i.a) ∧ W.cell? ⟨w.heap.size, 2, none⟩ = some (.int .u64 i.b) ∧ W.cell? ⟨w.heap.size, 3, none⟩ = some (.slice A i.l.length c)) : Below w.heap.size w W := h.1.2
end
set_option maxHeartbeats 1000000 in
theorem put_any (i : I) (A : Option Addr) (c : Nat) (w : World) (h : i.Ok) (hT : Tabs w) (hl : Lies w w.heap.size A (cells32 i.l)) (hl63 : (i.l.length : Int) ≤ 9223372036854775807) :
    Calls Tryd.prog 7 #[insV i A c] w (PutPost i w) := by
  have HB := Lib.hid (BoxI.start w i A c)
  have HT1 := Lib.hid (hT.below HB.out.2)
  have HR := Lib.hid (right_any i A c (w.alloc (.cells (insC i A c) 25)) h HT1.out hl63)
  by_cases hr : rightZ i = 0
  · have HIM := Lib.hid (fun W (hb : Below w.heap.size w W) => imm_bytes i A c W h (hT.below hb) hr ((hl.below hb (Nat.le_refl _)).more hb.size))
    have hlen := immL_len h hr
    have HP := Lib.hid (show putL i = i.op :: immL i from rfl)
    have HZ := Lib.hid hr
    rw [hr] at HR
    generalize immL i = x at *
    clear h hT hl hr
    go_enter Tryd.func7, Tryd.ntmps7
    go_wp2_with (go_at_call 8; go_must ((with_reducible refine HR.out.mono ?_); rintro e w1 ⟨rfl, hb1⟩; have HB1 := Lib.hid (HB.out.on hb1); have c0 := HB1.out.c0; have c1 := HB1.out.c1; have c2 := HB1.out.c2; have c3 := HB1.out.c3; clear hb1))
    clear c0 c1 c2 c3
    go_region_held3 (fun W => BoxI w W i A c ∧ W.cell? ⟨w.heap.size, 0, none⟩ = some (.int .u8 i.op.toNat) ∧ W.cell? ⟨w.heap.size, 1, none⟩ = some (.int .u64 i.a) ∧ W.cell? ⟨w.heap.size, 2, none⟩ = some (.int .u64 i.b) ∧ W.cell? ⟨w.heap.size, 3, none⟩ = some (.slice A i.l.length c))
      (first | assumption | exact held5 (HB1.out.drewN 1) | exact held5 ((HB1.out.on (below_box _ _)).drewN 1) | exact held_on HK2.out (below_box _ _) | exact held_on (held_on HK2.out (below_box _ _)) (below_box _ _) | exact held_on HK4.out (below_box _ _))
      (first
        | (go_at_call 22; ((with_reducible refine (HIM.out _ (held_bel ‹_›)).mono ?_); intro e w2 h; obtain ⟨v2, rfl, hr2, hb2⟩ := h; obtain ⟨A2, k2, rfl, hl2, hA2, _⟩ := hr2.liesN; have hk2 := held_on ‹_› hb2; have HL2 := Lib.hid hl2; have HA2 := Lib.hid hA2; have HB2 := Lib.hid hb2; have HK2 := Lib.hid hk2; clear hl2 hA2 hr2 hb2))
        | (go_at_call 21; first
            | ((with_reducible refine (cat2 (op := i.op) (g1 := w1.heap.size) (W := w2) rfl ((Whole.made w1 5 #[.int .u8 i.op.toNat]).drew.below HB2.out) HL2.out HA2.out hlen).mono ?_); intro e w4 h; obtain ⟨v4, rfl, hr4, hb4⟩ := h; have hk4 := held_on (held_on HK2.out (below_box _ _)) hb4; have HR4 := Lib.hid hr4; have HK4 := Lib.hid hk4; have hz4 := HK2.out.1.2.size; clear hr4 hb4)
            | ((with_reducible refine (cat2 (op := i.op) (g1 := w2.heap.size) (W := w2.alloc (.cells #[.int .u8 i.op.toNat] 5)) (size_box _ _) (Whole.made w2 5 #[.int .u8 i.op.toNat]) (lies_box HL2.out _) HA2.out hlen).mono ?_); intro e w4 h; obtain ⟨v4, rfl, hr4, hb4⟩ := h; have hk4 := held_on (held_on (held_on HK2.out (below_box _ _)) (below_box _ _)) hb4; have HR4 := Lib.hid hr4; have HK4 := Lib.hid hk4; have hz4 := HK2.out.1.2.size; clear hr4 hb4)))
    all_goals
      go_wp2
      go_ret2
      exact put_yes HZ.out HP.out (HR4.out.mono (by simp; omega)) HK4.out.1.2
  · have HZ := Lib.hid hr
    have dz : (rightZ i != 0) = true := by simpa using hr
    generalize hz : rightZ i = z at *
    clear h hT hl hr HT1
    go_enter Tryd.func7, Tryd.ntmps7
    go_wp2_with (go_at_call 8; go_must ((with_reducible refine HR.out.mono ?_); rintro e w1 ⟨rfl, hb1⟩; have HB1 := Lib.hid (HB.out.on hb1); clear hb1))
    subst hz
    go_ret2
    exact put_no HZ.out HB1.out.2
end Go.Proofs.YtlicdmbmgjflpaaDoor

/- The scanner's At and Int; getOp, getBlock, getNumber, getNought, getLabels of bytes that are right. -/
namespace Go.Proofs.YtlicdmbmgjflpaaDoor
open Go.RowKit
set_option linter.unusedVariables false
set_option maxRecDepth 100000

/-- The tables lie below p, and nothing there has turned. -/
def TbP (p : Nat) (w : World) : Prop := ∃ W0, Tabs W0 ∧ W0.heap.size ≤ p ∧ Below W0.heap.size W0 w
theorem TbP.tabs {p : Nat} {w : World} (h : TbP p w) : Tabs w := by
  obtain ⟨W0, h1, _, h3⟩ := h
  exact h1.below h3
theorem TbP.of {p : Nat} {w : World} (h : Tabs w) (hp : w.heap.size ≤ p) : TbP p w := ⟨w, h, hp, Below.refl _ _⟩
theorem TbP.grown {p : Nat} {w w' : World} {row : Option Nat} (h : TbP p w) (hg : w.grownBy w' row) (hr : ∀ g, row = some g → p ≤ g) : TbP p w' := by
  obtain ⟨W0, h1, h2, h3⟩ := h
  exact ⟨W0, h1, h2, Below.grown h3 hg h3.size (fun g e => Nat.le_trans h2 (hr g e))⟩
theorem TbP.below {p B : Nat} {w w' : World} (h : TbP p w) (hb : Below B w w') (hB : p ≤ B) : TbP p w' := by
  obtain ⟨W0, h1, h2, h3⟩ := h
  exact ⟨W0, h1, h2, h3.trans (hb.mono (Nat.le_trans h2 hB))⟩
theorem TbP.self {p : Nat} {w w' : World} (h : TbP p w) (hg : w.grownBy w' (some p)) : TbP p w' := h.grown hg (fun g e => by injection e with e; omega)

theorem at_any {w : World} {p : Nat} {l : List UInt8} {k : Nat} (h : Sc w p l k) : Calls Tryd.prog 52 #[.pointer (some ⟨p, 0, none⟩)] w fun e w' => e = .returned (.int .i64 k) ∧ w = w' := by
  have c1 := h.at
  clear h
  go_enter Tryd.func52, Tryd.ntmps52
  go_wp2
  go_ret
  exact ⟨rfl, rfl⟩
abbrev encS64 (v : Int) : Value := .int .i64 v
theorem readI_at {w : World} {B : Nat} {A : Option Addr} {cap : Nat} {l r : List UInt8} {k n : Nat} {x : Int} (hl : Lies w B A (cells (nums l))) (hc : l.length ≤ cap) (hm : cap ≤ maxLen) (h : l.drop k = sebL x ++ r)
    (h0 : -2 ^ (n - 1) ≤ x) (h1 : x < 2 ^ (n - 1)) (n1 : 1 ≤ n) (n2 : n ≤ 64) (hk : k ≤ l.length) :
    Calls Tryd.prog 79 #[.slice A l.length cap, .int .i64 k, .int .i64 n] w fun e w' => e = .returned (.tuple #[.int .i64 x, .int .i64 ((k + (sebL x).length : Nat) : Int), .int .i64 0]) ∧ w = w' := by
  have m63 : (2 : Int) ^ (n - 1) ≤ 2 ^ 63 := mono2 (by omega)
  have e63 : (2 : Int) ^ 63 = 9223372036854775808 := rfl
  have hna := sebN_least x (by omega) (by omega)
  have hlen := sebL_length x
  have hnl := nums_sebL x
  obtain ⟨p, c, he, hg, hx, c0, c1, hf, hp⟩ := least_s h0 h1 n1 n2 hna
  rw [he] at hlen hnl
  have hd : (nums l).drop k = grps x p ++ c :: nums r := by
    have : (nums l).drop k = nums (l.drop k) := by unfold nums; rw [List.map_drop]
    rw [this, h, nums_append, hnl, ← he, hg]
    simp
  have hS : Stop ((n + 6) / 7) ((nums l).drop k) p := by rw [hd]; exact grps_stop x p _ c _ c1 (by omega)
  have hpc : ((nums l).drop k)[p]? = some c := by rw [hd]; exact grps_at x p c _
  have hN := nums_length l
  rw [← hN] at hc hk ⊢
  refine (ri_ok (nums l) A cap B k n p c w hl (nums_wf l) hc hm hk n1 n2 hS hp hpc hf).mono ?_
  rintro e w' ⟨rfl, rfl⟩
  refine ⟨?_, rfl⟩
  have e1 : numS (((nums l).drop k).take p) c = x := by
    rw [hd, grps_take]
    unfold numS
    rw [low_grps, grps_length]
    exact hx
  rw [e1, hlen]
  simp
set_option maxHeartbeats 800000 in
theorem numberI_scan {w : World} {p : Nat} {l r : List UInt8} {k n : Nat} {x : Int} (hs : Sc w p l k) (h : l.drop k = sebL x ++ r) (h0 : -2 ^ (n - 1) ≤ x) (h1 : x < 2 ^ (n - 1)) (n1 : 1 ≤ n) (n2 : n ≤ 64) :
    Calls Tryd.prog 78 #[.pointer (some ⟨p, 0, none⟩), .int .i64 n, .func (.func 79) #[] #[]] w (Did encS64 p l w (.ok x (k + (sebL x).length))) := by
  have c1 := hs.at
  obtain ⟨A, cap, c0, hl, hc, hm⟩ := hs.data
  have hU : ∀ m, _ := fun m => readI_at (w := w.drewN m) (n := n) hl hc hm h h0 h1 n1 n2 hs.le.1
  have HK : Hid (k + (sebL x).length ≤ l.length) := by
    have := congrArg List.length h
    have hk := hs.le.1
    rw [List.length_drop, List.length_append] at this
    show _ ≤ _
    omega
  have HU := Lib.hid hU
  have HS := Lib.hid hs
  have f1 := hs.free
  obtain ⟨k', hk'⟩ : ∃ k', k' = k + (sebL x).length := ⟨_, rfl⟩
  rw [← hk'] at HU HK ⊢
  clear hU hl hs h hk'
  go_enter Tryd.func78, Tryd.ntmps78
  go_wp2
  go_quiet (first
    | (go_at_call 79; exact (HU.out _).mono fun _ _ h => ⟨h.1, _, h.2.symm⟩))
  go_wp2_with (go_at_call 66; go_must ((with_reducible refine (unlessT _ _ _).mono ?_); rintro e w' ⟨rfl, rfl⟩))
  go_ret
  exact ⟨rfl, HS.out.moved nq k' k' rfl HK.out⟩
theorem int_scan {w : World} {p : Nat} {l r : List UInt8} {k n : Nat} {x : Int} (hs : Sc w p l k) (h : l.drop k = sebL x ++ r) (h0 : -2 ^ (n - 1) ≤ x) (h1 : x < 2 ^ (n - 1)) (n1 : 1 ≤ n) (n2 : n ≤ 64) :
    Calls Tryd.prog 58 #[.pointer (some ⟨p, 0, none⟩), .int .i64 n] w (Did encS64 p l w (.ok x (k + (sebL x).length))) := by
  have HN := Lib.hid (numberI_scan hs h h0 h1 n1 n2)
  clear hs h h0 h1
  generalize k + (sebL x).length = k' at *
  go_enter Tryd.func58, Tryd.ntmps58
  go_wp2_with (go_at_call 78; go_must ((with_reducible refine HN.out.mono ?_); rintro e w1 ⟨rfl, hs, hg⟩; have HS := Lib.hid hs; have HG := Lib.hid hg; clear hs hg))
  go_ret
  exact ⟨rfl, HS.out, HG.out⟩

theorem getOp_ok {w : World} {p : Nat} {l r : List UInt8} {k : Nat} {c : UInt8} (hs : Sc w p l k) (hT : TbP p w) (h : l.drop k = c :: r) (hc : checkR c.toNat = 0) :
    Calls Tryd.prog 53 #[.pointer (some ⟨p, 0, none⟩)] w (Did encB p l w (.ok c (k + 1))) := by
  have hB := byte_any hs
  rw [byteR_at h] at hB
  have HB := Lib.hid hB
  have HA := Lib.hid (at_any hs)
  have HT := Lib.hid hT
  have HC := Lib.hid (fun W (h : Tabs W) => by have := check_any c.toNat W h (by have := c.toNat_lt; omega); rw [hc] at this; exact this)
  clear hs hT h hB hc
  go_enter Tryd.func53, Tryd.ntmps53
  go_wp2_with (first
    | (go_at_call 52; go_must ((with_reducible refine HA.out.mono ?_); rintro e w' ⟨rfl, rfl⟩))
    | (go_at_call 75; go_must ((with_reducible refine HB.out.mono ?_); rintro e w1 ⟨rfl, hs, hg⟩; have HS := Lib.hid hs; have HG := Lib.hid hg; clear hs hg))
    | (go_at_call 23; go_must ((with_reducible refine (HC.out _ (HT.out.self HG.out).tabs).mono ?_); rintro e w' ⟨rfl, rfl⟩))
    | (go_at_call 66; go_must ((with_reducible refine (unlessT _ _ _).mono ?_); rintro e w' ⟨rfl, rfl⟩)))
  go_ret
  exact ⟨rfl, HS.out, HG.out⟩
theorem getBlock_ok {w : World} {p : Nat} {l r : List UInt8} {k : Nat} {c : UInt8} (hs : Sc w p l k) (h : l.drop k = c :: r) (hc : blockZ c.toNat = 0) :
    Calls Tryd.prog 54 #[.pointer (some ⟨p, 0, none⟩)] w (Did enc64 p l w (.ok c.toNat (k + 1))) := by
  have hB := byte_any hs
  rw [byteR_at h] at hB
  have HB := Lib.hid hB
  have HA := Lib.hid (at_any hs)
  have hw : IntKind.u64.wrap (c.toNat : Int) = c.toNat := by have := c.toNat_lt; simp [IntKind.wrap, IntKind.bits, IntKind.signed]; omega
  have HC := Lib.hid (fun W => by have := block_any c.toNat W (by omega); rw [hc] at this; exact this)
  clear hs h hB hc
  go_enter Tryd.func54, Tryd.ntmps54
  go_wp2_with (first
    | (go_at_call 52; go_must ((with_reducible refine HA.out.mono ?_); rintro e w' ⟨rfl, rfl⟩))
    | (go_at_call 75; go_must ((with_reducible refine HB.out.mono ?_); rintro e w1 ⟨rfl, hs, hg⟩; have HS := Lib.hid hs; have HG := Lib.hid hg; clear hs hg))
    | (go_at_call 47; go_must ((with_reducible refine (HC.out _).mono ?_); rintro e w' ⟨rfl, rfl⟩))
    | (go_at_call 66; go_must ((with_reducible refine (unlessT _ _ _).mono ?_); rintro e w' ⟨rfl, rfl⟩)))
  go_ret
  exact ⟨rfl, HS.out, HG.out⟩
theorem getNumber_ok {w : World} {p : Nat} {l r : List UInt8} {k : Nat} {x : Int} (hs : Sc w p l k) (h : l.drop k = lebL x ++ r) (h0 : 0 ≤ x) (h1 : x ≤ 4294967295) :
    Calls Tryd.prog 56 #[.pointer (some ⟨p, 0, none⟩)] w (Did enc64 p l w (.ok x (k + (lebL x).length))) := by
  have hN := index_scan hs
  rw [indexR_at h h0 h1] at hN
  have HN := Lib.hid hN
  have hw : IntKind.u64.wrap x = x := by simp [IntKind.wrap, IntKind.bits, IntKind.signed]; omega
  generalize k + (lebL x).length = k' at *
  clear hs h hN
  go_enter Tryd.func56, Tryd.ntmps56
  go_wp2_with (go_at_call 77; go_must ((with_reducible refine HN.out.mono ?_); rintro e w1 ⟨rfl, hs, hg⟩; have HS := Lib.hid hs; have HG := Lib.hid hg; clear hs hg))
  go_ret
  exact ⟨rfl, HS.out, HG.out⟩
theorem getNought_ok {w : World} {p : Nat} {l r : List UInt8} {k : Nat} (hs : Sc w p l k) (h : l.drop k = 0 :: r) :
    Calls Tryd.prog 57 #[.pointer (some ⟨p, 0, none⟩)] w (Did encU p l w (.ok () (k + 1))) := by
  have hB := byte_any hs
  rw [byteR_at h] at hB
  have HB := Lib.hid hB
  have HA := Lib.hid (at_any hs)
  clear hs h hB
  go_enter Tryd.func57, Tryd.ntmps57
  go_wp2_with (first
    | (go_at_call 52; go_must ((with_reducible refine HA.out.mono ?_); rintro e w' ⟨rfl, rfl⟩))
    | (go_at_call 75; go_must ((with_reducible refine HB.out.mono ?_); rintro e w1 ⟨rfl, hs, hg⟩; have HS := Lib.hid hs; have HG := Lib.hid hg; clear hs hg))
    | (go_at_call 66; go_must ((with_reducible refine (unlessT _ _ _).mono ?_); rintro e w' ⟨rfl, rfl⟩)))
  go_end0
  exact ⟨rfl, HS.out, HG.out⟩

/-- Numbers of 32 bits that are made, the first of them written. -/
theorem info32 : (Tryd.prog.info? 62).map (fun i => (i.zero, i.size, i.bytes)) = some (some (.int .u32 0), 1, 4) := by kernel_rfl
theorem make_u32 (n : Nat) (hn : n ≤ 100000) (w : World) : (Instr.makeSlice 23 (.int .i64 (n : Int)) (.int .i64 (n : Int))).run Tryd.prog w = .ok (.slice (some ⟨w.heap.size, 0, none⟩) n n) (w.alloc (.cells (List.replicate n (.int .u32 0)).toArray 62)) := by
  obtain ⟨i0, hi0, hz0, hz1, hz2⟩ := info_parts info32
  have hr := run_make (P := Tryd.prog) w 23 62 i0 _ Tryd.underlying23 hi0 hz0 .i64 .i64 (n : Int) (n : Int) (by omega) (Int.le_refl _) (by rw [hz2]; omega) (by omega)
  rw [hr, hz1]
  have e : (Value.int IntKind.u32 0).cells = #[.int .u32 0] := rfl
  rw [e, made_one]
  simp
def Part32 (w : World) (g n : Nat) (acc : List Int) : Prop := Whole w g 62 (cells32 acc ++ List.replicate (n - acc.length) (Value.int .u32 0)).toArray ∧ acc.length ≤ n
theorem Part32.start (w : World) (n : Nat) : Part32 (w.alloc (.cells (List.replicate n (.int .u32 0)).toArray 62)) w.heap.size n [] := ⟨Whole.made _ _ _, Nat.zero_le _⟩
theorem Part32.put {w : World} {g n : Nat} {acc : List Int} (h : Part32 w g n acc) (c : Int) (hlt : acc.length < n) : Part32 (w.setCell ⟨g, acc.length, none⟩ (.int .u32 c)) g n (acc ++ [c]) := by
  refine ⟨?_, by simp; omega⟩
  have h1 := h.1.put acc.length (.int .u32 c)
  have e : ((cells32 acc ++ List.replicate (n - acc.length) (Value.int .u32 0)).toArray.setIfInBounds acc.length (.int .u32 c)) = (cells32 (acc ++ [c]) ++ List.replicate (n - (acc ++ [c]).length) (Value.int .u32 0)).toArray := by
    have hl : (cells32 acc).length = acc.length := cells32_length _
    have hr : List.replicate (n - acc.length) (Value.int .u32 0) = .int .u32 0 :: List.replicate (n - (acc.length + 1)) (.int .u32 0) := by
      rw [show n - acc.length = n - (acc.length + 1) + 1 by omega]; rfl
    rw [hr, List.setIfInBounds_toArray, List.set_append_right _ _ (by omega), hl, Nat.sub_self, List.set_cons_zero]
    simp [cells32]
  rw [e] at h1
  exact h1
theorem Part32.lies {w : World} {g n : Nat} {acc : List Int} (h : Part32 w g n acc) (hn : acc.length = n) : Lies w w.heap.size (some ⟨g, 0, none⟩) (cells32 acc) := by
  subst hn
  have h1 := h.1
  rw [Nat.sub_self, List.replicate_zero, List.append_nil] at h1
  intro j v hv
  refine ⟨g, 0, rfl, h1.lt, ?_⟩
  rw [h1.cell]
  simpa using hv
theorem Part32.cell {w : World} {g n : Nat} {acc : List Int} (h : Part32 w g n acc) (hlt : acc.length < n) : ∃ u, w.cell? ⟨g, acc.length, none⟩ = some u := by
  exact ⟨_, (h.1.cell acc.length).trans (Array.getElem?_eq_getElem (by simp [cells32_length]; omega))⟩
theorem Part32.whole {w : World} {g n : Nat} {acc : List Int} (h : Part32 w g n acc) (hn : acc.length = n) : Whole w g 62 (cells32 acc).toArray := by
  subst hn
  have h1 := h.1
  rwa [Nat.sub_self, List.replicate_zero, List.append_nil] at h1
/-- Labels: none, or a block of their own. -/
def LabT (W : World) (A : Option Addr) (ls : List Int) : Prop := (A = none ∧ ls = []) ∨ ∃ g, A = some ⟨g, 0, none⟩ ∧ Whole W g 62 (cells32 ls).toArray
theorem LabT.keep {W W' : World} {A : Option Addr} {ls : List Int} {row : Option Nat} (h : LabT W A ls) (hg : W.grownBy W' row) (hq : ∀ a, A = some a → some a.block ≠ row) : LabT W' A ls := by
  rcases h with h | ⟨g, rfl, h⟩
  · exact .inl h
  · exact .inr ⟨g, rfl, h.grown hg (hq _ rfl)⟩
theorem LabT.lies {W : World} {A : Option Addr} {ls : List Int} (h : LabT W A ls) : Lies W W.heap.size A (cells32 ls) := by
  rcases h with ⟨rfl, rfl⟩ | ⟨g, rfl, h⟩
  · intro j v hv; simp [cells32] at hv
  · intro j v hv
    refine ⟨g, 0, rfl, h.lt, ?_⟩
    rw [h.cell]
    simpa using hv
theorem LabT.apart {W : World} {A : Option Addr} {ls : List Int} (h : LabT W A ls) {q : Nat} {t : TypeId} {cs : Array Value} (hw : Whole W q t cs) (ht : t ≠ 62) : ∀ a, A = some a → some a.block ≠ some q := by
  rcases h with ⟨rfl, rfl⟩ | ⟨g, rfl, h⟩
  · intro a e; cases e
  · intro a e
    injection e with e
    subst e
    simp only [ne_eq, Option.some.injEq]
    exact fun e => hw.apart h ht e.symm
/-- Labels that were read lie in a block of their own. -/
def Labs (p : Nat) (l : List UInt8) (ls : List Int) (k : Nat) (w : World) (e : Ending) (w' : World) : Prop :=
  ∃ g, e = .returned (.slice (some ⟨g, 0, none⟩) ls.length ls.length) ∧ w.heap.size ≤ g ∧ Lies w' w'.heap.size (some ⟨g, 0, none⟩) (cells32 ls) ∧ Sc w' p l k ∧ w.grownBy w' (some p) ∧ Whole w' g 62 (cells32 ls).toArray
set_option maxHeartbeats 1000000 in
theorem getLabels_ok {w : World} {p : Nat} {l r : List UInt8} {k : Nat} {ls : List Int} (hs : Sc w p l k) (h : l.drop k = labL ls ++ r) (hl : ls.length ≤ 10000) (hc : ∀ c ∈ ls, 0 ≤ c ∧ c ≤ 4294967295) :
    Calls Tryd.prog 55 #[.pointer (some ⟨p, 0, none⟩)] w (Labs p l ls (k + (labL ls).length) w) := by
  unfold labL at h ⊢
  rw [List.append_assoc] at h
  have hN := count_scan hs
  rw [countR_at h (by omega) (by omega)] at hN
  have hd := drop_past h
  rw [List.length_append, ← Nat.add_assoc]
  obtain ⟨k1, hk1⟩ : ∃ k1, k1 = k + (lebL (ls.length : Int)).length := ⟨_, rfl⟩
  rw [← hk1] at hN hd ⊢
  obtain ⟨n, hn⟩ : ∃ n, n = ls.length := ⟨_, rfl⟩
  rw [← hn] at hN hl
  have hmk := make_u32 n (by omega)
  have hp := hs.lt
  have HN := Lib.hid hN
  have HD := Lib.hid hd
  have HC := Lib.hid hc
  have HLN := Lib.hid hn
  clear hs h hN hd hk1 hc hn
  go_enter Tryd.func55, Tryd.ntmps55
  go_wp2_with (go_at_call 76; go_must ((with_reducible refine HN.out.mono ?_); rintro e w1 ⟨rfl, hs, hg⟩; have HS := Lib.hid hs; have HG := Lib.hid hg; have hz := hg.size; clear hs hg))
  clear hmk
  go_loopw [10] (fun i wr => ∃ j : Nat, j ≤ n ∧ i = .int .i64 j ∧ Sc wr p l (k1 + (labsL (ls.take j)).length) ∧ Part32 wr w1.heap.size n (ls.take j) ∧ w.grownBy wr (some p)) (fun i _ => n - (intOf i).toNat)
  case atStart => exact ⟨0, Nat.zero_le _, rfl, HS.out.alloc _, Part32.start _ _, gb_alloc HG.out _⟩
  case round =>
    obtain ⟨j, hj, rfl, hs, hpt, hg⟩ := hrel
    by_cases hlt : j < n
    · obtain ⟨d, hd⟩ : ∃ d, ls[j]? = some d := ⟨_, List.getElem?_eq_getElem (by rw [← HLN.out]; exact hlt)⟩
      have hdb := HC.out d (List.mem_of_getElem? hd)
      have hdr : l.drop (k1 + (labsL (ls.take j)).length) = lebL d ++ (labsL (ls.drop (j + 1)) ++ r) := by
        refine drop_past (a := labsL (ls.take j)) ?_
        rw [HD.out]
        have e1 : ls = ls.take j ++ d :: ls.drop (j + 1) := by
          have hj2 := (List.getElem?_eq_some_iff.1 hd)
          obtain ⟨hj3, hj4⟩ := hj2
          rw [← hj4, ← List.drop_eq_getElem_cons hj3, List.take_append_drop]
        conv => lhs; rw [e1]
        unfold labsL
        rw [List.flatMap_append, List.flatMap_cons]
        simp [List.append_assoc]
      have hI := index_scan hs
      rw [indexR_at hdr hdb.1 hdb.2] at hI
      have hlen : (ls.take j).length = j := by rw [List.length_take, ← HLN.out]; omega
      have HI := Lib.hid hI
      have HP2 := Lib.hid hpt
      have HG2 := Lib.hid hg
      have HJ := Lib.hid hlen
      have HTK := Lib.hid (take_snoc hd)
      have HLS := Lib.hid (labsL_snoc hd)
      have hz2 := hg.size
      clear hI hs hpt hg hdr hlen hd
      go_wp2_with (go_at_call 77; go_must ((with_reducible refine HI.out.mono ?_); rintro e w2 ⟨rfl, hs, hg⟩; have HP3 := Lib.hid (show Part32 w2 w1.heap.size n (ls.take j) from ⟨HP2.out.1.grown hg (by simp only [ne_eq, Option.some.injEq]; omega), HP2.out.2⟩); obtain ⟨u, hu⟩ := HP3.out.cell (by have := HJ.out; omega); rw [HJ.out] at hu; have hf := HP3.out.1.frozen j; have HS3 := Lib.hid hs; have HG3 := Lib.hid hg; clear hs hg))
      have HE : Hid (Part32 (w2.setCell ⟨w1.heap.size, j, none⟩ (.int .u32 d)) w1.heap.size n (ls.take (j + 1))) := by
        have := HP3.out.put d (by have := HJ.out; omega)
        rw [HJ.out, ← HTK.out] at this
        exact this
      go_roundw
      case rel => exact ⟨j + 1, by omega, by go_num, by rw [HLS.out, List.length_append, ← Nat.add_assoc]; exact HS3.out.grown (gb_put (p := ⟨w1.heap.size, j, none⟩) (gb_refl w2 _) (.inl rfl) _) (by simp only [ne_eq, Option.some.injEq]; omega) (fun g e => by injection e with e; have e2 : w1.heap.size = g := e; omega), HE.out, gb_put (p := ⟨w1.heap.size, j, none⟩) (gb_trans HG2.out HG3.out) (.inr hz) _⟩
      case measure => simp [intOf]; omega
    · obtain rfl : j = n := by omega
      have HS2 := Lib.hid hs
      have HP2 := Lib.hid hpt
      have HG2 := Lib.hid hg
      clear hs hpt hg
      go_wp2
      go_ret
      have ht : ls.take j = ls := List.take_of_length_le (by rw [← HLN.out]; exact Nat.le_refl _)
      have h1 := HS2.out
      have h2 := HP2.out
      rw [ht] at h1 h2
      refine ⟨w1.heap.size, ?_, hz, h2.lies HLN.out.symm, h1, HG2.out, h2.whole HLN.out.symm⟩
      rw [← HLN.out]
      rfl
end Go.Proofs.YtlicdmbmgjflpaaDoor

/- instr.Get of an instruction's bytes. (By gen/genGet.py.) -/
namespace Go.Proofs.YtlicdmbmgjflpaaDoor
open Go.RowKit
set_option linter.unusedVariables false
set_option maxRecDepth 100000

theorem Lies.keep {W W' : World} {A : Option Addr} {vs : List Value} {q : Nat} (h : Lies W W.heap.size A vs) (hg : W.grownBy W' (some q)) (hq : ∀ a, A = some a → a.block ≠ q) : Lies W' W'.heap.size A vs := fun j v hv => by
  obtain ⟨b, off, rfl, hb, hc⟩ := h j v hv
  refine ⟨b, off, rfl, Nat.lt_of_lt_of_le hb hg.size, ?_⟩
  have hne : b ≠ q := hq _ rfl
  rw [← hc]
  unfold World.cell?
  rw [hg.block b hb (by simpa using hne)]
/-- How far Get has come: its result's block, the instruction's box, the scanner. -/
structure GSt (w : World) (p : Nat) (l : List UInt8) (H2 : Nat) (A : Option Addr) (ls : List Int) (k : Nat) (v0 v1 v2 v3 : Value) (W : World) : Prop where
  res : Whole W w.heap.size 25 #[.int .u8 0, .int .u64 0, .int .u64 0, .slice none 0 0]
  box : Whole W H2 25 #[v0, v1, v2, v3]
  sc : Sc W p l k
  gr : w.grownBy W (some p)
  hp : p < w.heap.size
  h2 : w.heap.size < H2
  tb : TbP p W
  lab : Lies W W.heap.size A (cells32 ls)
  far : ∀ a, A = some a → H2 < a.block
  ty : LabT W A ls
section
variable {w : World} {p : Nat} {l : List UInt8} {H2 : Nat} {A : Option Addr} {ls : List Int} {k k' : Nat} {v0 v1 v2 v3 : Value} {W W' : World}
theorem GSt.call (h : GSt w p l H2 A ls k v0 v1 v2 v3 W) (hs : Sc W' p l k') (hg : W.grownBy W' (some p)) : GSt w p l H2 A ls k' v0 v1 v2 v3 W' := by
  have a := h.hp
  have b := h.h2
  exact ⟨h.res.grown hg (by simp only [ne_eq, Option.some.injEq]; omega), h.box.grown hg (by simp only [ne_eq, Option.some.injEq]; omega), hs, gb_trans h.gr hg, h.hp, h.h2, h.tb.self hg, h.lab.keep hg (fun x hx => by have := h.far x hx; omega), h.far, h.ty.keep hg (fun x hx => by have := h.far x hx; simp only [ne_eq, Option.some.injEq]; omega)⟩
theorem GSt.below (h : GSt w p l H2 A ls k v0 v1 v2 v3 W) (hb : Below W.heap.size W W') : GSt w p l H2 A ls k v0 v1 v2 v3 W' :=
  h.call (h.sc.below hb) (gb_of_below _ hb)
theorem GSt.put (h : GSt w p l H2 A ls k v0 v1 v2 v3 W) (i : Nat) (x : Value) {u0 u1 u2 u3 : Value} (he : #[v0, v1, v2, v3].setIfInBounds i x = #[u0, u1, u2, u3]) : GSt w p l H2 A ls k u0 u1 u2 u3 (W.setCell ⟨H2, i, none⟩ x) := by
  have a := h.hp
  have b := h.h2
  have hg : W.grownBy (W.setCell ⟨H2, i, none⟩ x) (some H2) := gb_put (p := ⟨H2, i, none⟩) (gb_refl W _) (.inl rfl) x
  have hb := h.box.put i x
  rw [he] at hb
  exact ⟨h.res.grown hg (by simp only [ne_eq, Option.some.injEq]; omega), hb, h.sc.grown hg (by simp only [ne_eq, Option.some.injEq]; omega) (fun g e => by injection e with e; omega), gb_before h.gr hg (fun g e => .inr (by injection e with e; omega)), h.hp, h.h2,
    h.tb.grown hg (fun g e => by injection e with e; omega), h.lab.keep hg (fun x hx => by have := h.far x hx; omega), h.far, h.ty.keep hg (fun x hx => by have := h.far x hx; simp only [ne_eq, Option.some.injEq]; omega)⟩
theorem GSt.labs (h : GSt w p l H2 none [] k v0 v1 v2 v3 W) {g : Nat} (hl : Lies W W.heap.size (some ⟨g, 0, none⟩) (cells32 ls)) (hty : Whole W g 62 (cells32 ls).toArray) (hg : H2 < g) : GSt w p l H2 (some ⟨g, 0, none⟩) ls k v0 v1 v2 v3 W :=
  ⟨h.res, h.box, h.sc, h.gr, h.hp, h.h2, h.tb, hl, fun a e => by injection e with e; subst e; exact hg, .inr ⟨g, rfl, hty⟩⟩
/-- The result is written. -/
theorem GSt.fin (h : GSt w p l H2 A ls k v0 v1 v2 v3 W) (x0 x1 x2 x3 : Value) (W4 : World) (hW : W4 = (((W.setCell ⟨w.heap.size, 0, none⟩ x0).setCell ⟨w.heap.size, 1, none⟩ x1).setCell ⟨w.heap.size, 2, none⟩ x2).setCell ⟨w.heap.size, 3, none⟩ x3) :
    Whole W4 w.heap.size 25 #[x0, x1, x2, x3] ∧ Sc W4 p l k ∧ w.grownBy W4 (some p) ∧ Lies W4 W4.heap.size A (cells32 ls) ∧ LabT W4 A ls := by
  subst hW
  have a := h.hp
  have b := h.h2
  have hg := gb_put (p := ⟨w.heap.size, 3, none⟩) (gb_put (p := ⟨w.heap.size, 2, none⟩) (gb_put (p := ⟨w.heap.size, 1, none⟩) (gb_put (p := ⟨w.heap.size, 0, none⟩) (gb_refl W (some w.heap.size)) (.inl rfl) x0) (.inl rfl) x1) (.inl rfl) x2) (.inl rfl) x3
  exact ⟨(((h.res.put 0 x0).put 1 x1).put 2 x2).put 3 x3, h.sc.grown hg (by simp only [ne_eq, Option.some.injEq]; omega) (fun g e => by injection e with e; omega), gb_before h.gr hg (fun g e => .inr (by injection e with e; omega)), h.lab.keep hg (fun x hx => by have := h.far x hx; omega), h.ty.keep hg (fun x hx => by have := h.far x hx; simp only [ne_eq, Option.some.injEq]; omega)⟩
end
/-- What Get hands back of an instruction's bytes. -/
def Gets (p : Nat) (l : List UInt8) (i : I) (k : Nat) (w : World) (e : Ending) (w' : World) : Prop :=
  ∃ A c, e = .returned (insV i A c) ∧ Lies w' w'.heap.size A (cells32 i.l) ∧ (∀ a, A = some a → w.heap.size ≤ a.block) ∧ Sc w' p l k ∧ w.grownBy w' (some p) ∧ LabT w' A i.l
theorem gets_end {w : World} {p : Nat} {l : List UInt8} {i : I} {H2 : Nat} {A : Option Addr} {c k k' : Nat} {v0 v1 v2 v3 : Value} {W W4 : World} {v : Value} (h : GSt w p l H2 A i.l k v0 v1 v2 v3 W) (hf : Sc W4 p l k ∧ w.grownBy W4 (some p) ∧ Lies W4 W4.heap.size A (cells32 i.l) ∧ LabT W4 A i.l) (he : v = insV i A c) (hk : k = k') :
    Gets p l i k' w (.returned v) W4 := by
  subst hk
  exact ⟨A, c, by rw [he], hf.2.2.1, fun a ha => by have := h.far a ha; have := h.h2; omega, hf.1, hf.2.1, hf.2.2.2⟩
theorem ins_eq {i : I} {a b : Int} {v : Value} (hb : i.b = b) (ha : i.a = a) (hl : i.l = []) (hv : v = .slice none 0 0) : Value.agg #[.int .u8 i.op.toNat, .int .u64 a, .int .u64 b, v] = insV i none 0 := by
  subst hv; subst ha; subst hb
  show _ = Value.agg #[.int .u8 i.op.toNat, .int .u64 i.a, .int .u64 i.b, .slice none i.l.length 0]
  rw [hl]
  rfl

set_option maxHeartbeats 3000000 in
theorem get_ok {w : World} {p : Nat} {l r : List UInt8} {k : Nat} {i : I} (h : i.Ok) (hr : rightZ i = 0) (hs : Sc w p l k) (hT : TbP p w) (hd : l.drop k = putL i ++ r) :
    Calls Tryd.prog 28 #[.pointer (some ⟨p, 0, none⟩)] w (Gets p l i (k + (putL i).length) w) := by
  have hn := i.n_le
  obtain ⟨a0, a1, b0, b1, hl0⟩ := h
  obtain ⟨hc0, hl3, h10, hb8, hz0⟩ := right_zero hr
  obtain ⟨hz1, hz2, hz3⟩ := nums_zero hz0 a0
  have hlt := hs.lt
  obtain ⟨m, hm⟩ : ∃ m, m = immR i.n := ⟨_, rfl⟩
  obtain ⟨inf, hinf⟩ : ∃ inf, inf = infR i.n := ⟨_, rfl⟩
  have him : inf.imm = m := by rw [hinf, hm]; exact (imm_same hn hc0).1
  have HI : Hid (∀ W, Tabs W → Calls Tryd.prog 24 #[.int .u8 i.op.toNat] W fun e w' => e = .returned (infV inf) ∧ Below W.heap.size W w') := fun W hW => by rw [hinf]; exact of_any i.n W hW hn
  have hfield := fun z wx => field_imm (S inf.name) (S inf.ps) (S inf.rs) z inf.free wx
  rw [← hm] at hz1 hz2 hz3 hl3 hb8
  have hp1 : putL i = i.op :: immB m i := by unfold putL immL; rw [hm]
  rw [hp1, List.cons_append] at hd
  have HPL := Lib.hid (show (putL i).length = 1 + (immB m i).length by rw [hp1, List.length_cons]; omega)
  have hd1 : l.drop (k + 1) = immB m i ++ r := drop_past (a := [i.op]) hd
  have HZ : Hid (Sc (w.alloc (.cells #[.int .u8 0, .int .u64 0, .int .u64 0, .slice none 0 0] 25)) p l k ∧ TbP p (w.alloc (.cells #[.int .u8 0, .int .u64 0, .int .u64 0, .slice none 0 0] 25))) := ⟨hs.alloc _, hT.below (below_box w _) (by omega)⟩
  have HOP := Lib.hid (getOp_ok HZ.out.1 HZ.out.2 hd hc0)
  have HWM := Lib.hid (Whole.made w 25 #[.int .u8 0, .int .u64 0, .int .u64 0, .slice none 0 0])
  have HL0 := Lib.hid hl0
  have hstart : ∀ w1, Sc w1 p l (k + 1) → (w.alloc (.cells #[.int .u8 0, .int .u64 0, .int .u64 0, .slice none 0 0] 25)).grownBy w1 (some p) → GSt w p l w1.heap.size none [] (k + 1) (.int .u8 i.op.toNat) (.int .u64 0) (.int .u64 0) (.slice none 0 0) (w1.alloc (.cells #[.int .u8 i.op.toNat, .int .u64 0, .int .u64 0, .slice none 0 0] 25)) := fun w1 hs1 hg1 => by
    have hz := hg1.size
    rw [size_box] at hz
    exact ⟨(HWM.out.grown hg1 (by simp only [ne_eq, Option.some.injEq]; omega)).alloc _, Whole.made _ _ _, hs1.alloc _, gb_alloc (gb_trans (gb_alloc (gb_refl w _) _) hg1) _, hlt, by omega, (HZ.out.2.self hg1).below (below_box w1 _) (by omega), (fun j v hv => by simp [cells32] at hv), (fun a e => by cases e), .inl ⟨rfl, rfl⟩⟩
  have HST := Lib.hid hstart
  clear hs hT hr hc0 hz0 hinf hm hp1 hd hstart hl0
  by_cases m0 : m = 0
  · subst m0
    have himm : immB 0 i = [] := by unfold immB; rw [if_pos rfl]
    rw [himm] at HPL hd1
    have hl : i.l = [] := List.eq_nil_of_length_eq_zero (by omega)
    have hb : i.b = 0 := by omega
    have HB := Lib.hid hb
    have HL := Lib.hid hl
    have HA := Lib.hid (hz2 (by omega))
    clear hd1 himm hb8 hl3 hb hl
    go_enter Tryd.func28, Tryd.ntmps28
    go_wp2_with (first
      | (go_at_call 53; go_must ((with_reducible refine HOP.out.mono ?_); rintro e w1 ⟨rfl, hs, hg⟩; have HG1 := Lib.hid (HST.out w1 hs hg); have hh := HG1.out.h2; have n1 : ¬ w1.heap.size = w.heap.size := (by omega); have n2 : ¬ w.heap.size = w1.heap.size := (by omega); clear hs hg hh))
      | (go_at_call 24; go_must ((with_reducible refine (HI.out _ HG1.out.tb.tabs).mono ?_); rintro e w2 ⟨rfl, hb⟩; unfold infV; have HG2 := Lib.hid (HG1.out.below hb); have c0 := HG2.out.box.cell 0; have c1 := HG2.out.box.cell 1; have c2 := HG2.out.box.cell 2; have c3 := HG2.out.box.cell 3; have f1 := HG2.out.box.frozen 1; have f2 := HG2.out.box.frozen 2; have f3 := HG2.out.box.frozen 3; have r0 := HG2.out.res.cell 0; have r1 := HG2.out.res.cell 1; have r2 := HG2.out.res.cell 2; have r3 := HG2.out.res.cell 3; have z0 := HG2.out.res.frozen 0; have z1 := HG2.out.res.frozen 1; have z2 := HG2.out.res.frozen 2; have z3 := HG2.out.res.frozen 3; simp only [List.getElem?_toArray, List.getElem?_cons_zero, List.getElem?_cons_succ] at c0 c1 c2 c3 r0 r1 r2 r3; clear hb)))
    obtain ⟨q, hf⟩ := GSt.fin (show GSt w p l w1.heap.size none i.l _ _ _ _ _ _ from by rw [HL.out]; exact HG2.out) (.int .u8 i.op.toNat) (.int .u64 0) (.int .u64 0) (.slice none 0 0) _ rfl
    have q0 := q.cell 0
    have q1 := q.cell 1
    have q2 := q.cell 2
    have q3 := q.cell 3
    simp only [List.getElem?_toArray, List.getElem?_cons_zero, List.getElem?_cons_succ] at q0 q1 q2 q3
    exact bodyPost_ret (v := .agg #[.int .u8 i.op.toNat, .int .u64 0, .int .u64 0, .slice none 0 0]) (by simp [results, Tryd.results28, go_sem, q0, q1, q2, q3]) rfl (gets_end (show GSt w p l w1.heap.size none i.l _ _ _ _ _ _ from by rw [HL.out]; exact HG2.out) hf (ins_eq HB.out HA.out HL.out rfl) (by rw [HPL.out]; rfl))
  have d0 : ((m : Int) == 0) = false := by simp; omega
  by_cases m1 : m = 1
  · subst m1
    have himm : immB 1 i = [UInt8.ofNat i.a.toNat] := by unfold immB; rw [if_neg (by omega), if_pos rfl]
    rw [himm] at HPL hd1
    have hl : i.l = [] := List.eq_nil_of_length_eq_zero (by omega)
    have hb : i.b = 0 := by omega
    have HB := Lib.hid hb
    have HL := Lib.hid hl
    obtain ⟨ha, hab⟩ := hz1 rfl
    have hx := u8_of a0 ha
    have HX := Lib.hid (fun W (h : Sc W p l (k + 1)) => by have := getBlock_ok h hd1 (by rw [hx]; exact hab); rw [hx] at this; exact this)
    clear hd1 hx himm hb8 hl3 hb hl
    go_enter Tryd.func28, Tryd.ntmps28
    go_wp2_with (first
      | (go_at_call 53; go_must ((with_reducible refine HOP.out.mono ?_); rintro e w1 ⟨rfl, hs, hg⟩; have HG1 := Lib.hid (HST.out w1 hs hg); have hh := HG1.out.h2; have n1 : ¬ w1.heap.size = w.heap.size := (by omega); have n2 : ¬ w.heap.size = w1.heap.size := (by omega); clear hs hg hh))
      | (go_at_call 24; go_must ((with_reducible refine (HI.out _ HG1.out.tb.tabs).mono ?_); rintro e w2 ⟨rfl, hb⟩; unfold infV; have HG2 := Lib.hid (HG1.out.below hb); have c0 := HG2.out.box.cell 0; have c1 := HG2.out.box.cell 1; have c2 := HG2.out.box.cell 2; have c3 := HG2.out.box.cell 3; have f1 := HG2.out.box.frozen 1; have f2 := HG2.out.box.frozen 2; have f3 := HG2.out.box.frozen 3; have r0 := HG2.out.res.cell 0; have r1 := HG2.out.res.cell 1; have r2 := HG2.out.res.cell 2; have r3 := HG2.out.res.cell 3; have z0 := HG2.out.res.frozen 0; have z1 := HG2.out.res.frozen 1; have z2 := HG2.out.res.frozen 2; have z3 := HG2.out.res.frozen 3; simp only [List.getElem?_toArray, List.getElem?_cons_zero, List.getElem?_cons_succ] at c0 c1 c2 c3 r0 r1 r2 r3; clear hb))
      | (go_at_call 54; go_must ((with_reducible refine (HX.out _ HG2.out.sc).mono ?_); rintro e w3 ⟨rfl, hs, hg⟩; clear c0 c1 c2 c3 f1 f2 f3 r0 r1 r2 r3 z0 z1 z2 z3; have HG3 := Lib.hid (HG2.out.call hs hg); have c0 := HG3.out.box.cell 0; have c1 := HG3.out.box.cell 1; have c2 := HG3.out.box.cell 2; have c3 := HG3.out.box.cell 3; have f1 := HG3.out.box.frozen 1; have f2 := HG3.out.box.frozen 2; have f3 := HG3.out.box.frozen 3; have r0 := HG3.out.res.cell 0; have r1 := HG3.out.res.cell 1; have r2 := HG3.out.res.cell 2; have r3 := HG3.out.res.cell 3; have z0 := HG3.out.res.frozen 0; have z1 := HG3.out.res.frozen 1; have z2 := HG3.out.res.frozen 2; have z3 := HG3.out.res.frozen 3; simp only [List.getElem?_toArray, List.getElem?_cons_zero, List.getElem?_cons_succ] at c0 c1 c2 c3 r0 r1 r2 r3; clear hs hg)))
    obtain ⟨q, hf⟩ := GSt.fin (show GSt w p l w1.heap.size none i.l _ _ _ _ _ _ from by rw [HL.out]; exact HG3.out.put 1 (.int .u64 i.a) rfl) (.int .u8 i.op.toNat) (.int .u64 i.a) (.int .u64 0) (.slice none 0 0) _ rfl
    have q0 := q.cell 0
    have q1 := q.cell 1
    have q2 := q.cell 2
    have q3 := q.cell 3
    simp only [List.getElem?_toArray, List.getElem?_cons_zero, List.getElem?_cons_succ] at q0 q1 q2 q3
    exact bodyPost_ret (v := .agg #[.int .u8 i.op.toNat, .int .u64 i.a, .int .u64 0, .slice none 0 0]) (by simp [results, Tryd.results28, go_sem, q0, q1, q2, q3]) rfl (gets_end (show GSt w p l w1.heap.size none i.l _ _ _ _ _ _ from by rw [HL.out]; exact HG3.out.put 1 (.int .u64 i.a) rfl) hf (ins_eq HB.out rfl HL.out rfl) (by rw [HPL.out]; rfl))
  have d1 : ((m : Int) == 1) = false := by simp; omega
  by_cases m3 : m = 3
  · subst m3
    have himm : immB 3 i = labL i.l ++ lebL i.a := by unfold immB; rw [if_neg (by omega), if_neg (by omega), if_pos rfl]
    rw [himm] at HPL hd1
    have hb : i.b = 0 := by omega
    have HB := Lib.hid hb
    obtain ⟨ha, _⟩ := hz3 (by omega)
    rw [List.append_assoc] at hd1
    have hd2 := drop_past hd1
    have HX := Lib.hid (fun W (h : Sc W p l (k + 1)) => getLabels_ok h hd1 h10 HL0.out)
    have HY := Lib.hid (fun W (h : Sc W p l (k + 1 + (labL i.l).length)) => getNumber_ok h hd2 a0 ha)
    clear hd1 hd2 himm hb8 hl3 hb
    go_enter Tryd.func28, Tryd.ntmps28
    go_wp2_with (first
      | (go_at_call 53; go_must ((with_reducible refine HOP.out.mono ?_); rintro e w1 ⟨rfl, hs, hg⟩; have HG1 := Lib.hid (HST.out w1 hs hg); have hh := HG1.out.h2; have n1 : ¬ w1.heap.size = w.heap.size := (by omega); have n2 : ¬ w.heap.size = w1.heap.size := (by omega); clear hs hg hh))
      | (go_at_call 24; go_must ((with_reducible refine (HI.out _ HG1.out.tb.tabs).mono ?_); rintro e w2 ⟨rfl, hb⟩; unfold infV; have HG2 := Lib.hid (HG1.out.below hb); have c0 := HG2.out.box.cell 0; have c1 := HG2.out.box.cell 1; have c2 := HG2.out.box.cell 2; have c3 := HG2.out.box.cell 3; have f1 := HG2.out.box.frozen 1; have f2 := HG2.out.box.frozen 2; have f3 := HG2.out.box.frozen 3; have r0 := HG2.out.res.cell 0; have r1 := HG2.out.res.cell 1; have r2 := HG2.out.res.cell 2; have r3 := HG2.out.res.cell 3; have z0 := HG2.out.res.frozen 0; have z1 := HG2.out.res.frozen 1; have z2 := HG2.out.res.frozen 2; have z3 := HG2.out.res.frozen 3; simp only [List.getElem?_toArray, List.getElem?_cons_zero, List.getElem?_cons_succ] at c0 c1 c2 c3 r0 r1 r2 r3; clear hb))
      | (go_at_call 55; go_must ((with_reducible refine (HX.out _ HG2.out.sc).mono ?_); intro e w3 hq; obtain ⟨g, rfl, hge, hla, hs, hg, hty⟩ := hq; clear c0 c1 c2 c3 f1 f2 f3 r0 r1 r2 r3 z0 z1 z2 z3; have HG3 := Lib.hid ((HG2.out.call hs hg).labs hla hty (Nat.lt_of_lt_of_le HG2.out.box.lt hge)); have c0 := HG3.out.box.cell 0; have c1 := HG3.out.box.cell 1; have c2 := HG3.out.box.cell 2; have c3 := HG3.out.box.cell 3; have f1 := HG3.out.box.frozen 1; have f2 := HG3.out.box.frozen 2; have f3 := HG3.out.box.frozen 3; have r0 := HG3.out.res.cell 0; have r1 := HG3.out.res.cell 1; have r2 := HG3.out.res.cell 2; have r3 := HG3.out.res.cell 3; have z0 := HG3.out.res.frozen 0; have z1 := HG3.out.res.frozen 1; have z2 := HG3.out.res.frozen 2; have z3 := HG3.out.res.frozen 3; simp only [List.getElem?_toArray, List.getElem?_cons_zero, List.getElem?_cons_succ] at c0 c1 c2 c3 r0 r1 r2 r3; clear hs hg hla hge hty))
      | (go_at_call 56; go_must ((with_reducible refine (HY.out _ (HG3.out.put 3 (.slice (some ⟨g, 0, none⟩) i.l.length i.l.length) rfl).sc).mono ?_); rintro e w4 ⟨rfl, hs, hg⟩; clear c0 c1 c2 c3 f1 f2 f3 r0 r1 r2 r3 z0 z1 z2 z3; have HG4 := Lib.hid ((HG3.out.put 3 (.slice (some ⟨g, 0, none⟩) i.l.length i.l.length) rfl).call hs hg); have c0 := HG4.out.box.cell 0; have c1 := HG4.out.box.cell 1; have c2 := HG4.out.box.cell 2; have c3 := HG4.out.box.cell 3; have f1 := HG4.out.box.frozen 1; have f2 := HG4.out.box.frozen 2; have f3 := HG4.out.box.frozen 3; have r0 := HG4.out.res.cell 0; have r1 := HG4.out.res.cell 1; have r2 := HG4.out.res.cell 2; have r3 := HG4.out.res.cell 3; have z0 := HG4.out.res.frozen 0; have z1 := HG4.out.res.frozen 1; have z2 := HG4.out.res.frozen 2; have z3 := HG4.out.res.frozen 3; simp only [List.getElem?_toArray, List.getElem?_cons_zero, List.getElem?_cons_succ] at c0 c1 c2 c3 r0 r1 r2 r3; clear hs hg)))
    obtain ⟨q, hf⟩ := GSt.fin (HG4.out.put 1 (.int .u64 i.a) rfl) (.int .u8 i.op.toNat) (.int .u64 i.a) (.int .u64 0) (.slice (some ⟨g, 0, none⟩) i.l.length i.l.length) _ rfl
    have q0 := q.cell 0
    have q1 := q.cell 1
    have q2 := q.cell 2
    have q3 := q.cell 3
    simp only [List.getElem?_toArray, List.getElem?_cons_zero, List.getElem?_cons_succ] at q0 q1 q2 q3
    exact bodyPost_ret (v := .agg #[.int .u8 i.op.toNat, .int .u64 i.a, .int .u64 0, .slice (some ⟨g, 0, none⟩) i.l.length i.l.length]) (by simp [results, Tryd.results28, go_sem, q0, q1, q2, q3]) rfl (gets_end (HG4.out.put 1 (.int .u64 i.a) rfl) hf (show _ = insV i (some ⟨g, 0, none⟩) i.l.length by rw [show insV i (some ⟨g, 0, none⟩) i.l.length = Value.agg #[.int .u8 i.op.toNat, .int .u64 i.a, .int .u64 i.b, .slice (some ⟨g, 0, none⟩) i.l.length i.l.length] from rfl, HB.out]) (by rw [HPL.out, List.length_append]; omega))
  have d3 : ((m : Int) == 3) = false := by simp; omega
  by_cases m5 : m = 5
  · subst m5
    have himm : immB 5 i = lebL i.a ++ [0] := by unfold immB; rw [if_neg (by omega), if_neg (by omega), if_neg (by omega), if_pos rfl]
    rw [himm] at HPL hd1
    have hl : i.l = [] := List.eq_nil_of_length_eq_zero (by omega)
    have hb : i.b = 0 := by omega
    have HB := Lib.hid hb
    have HL := Lib.hid hl
    obtain ⟨ha, _⟩ := hz3 (by omega)
    rw [List.append_assoc] at hd1
    have hd2 := drop_past hd1
    have HX := Lib.hid (fun W (h : Sc W p l (k + 1)) => getNumber_ok h hd1 a0 ha)
    have HY := Lib.hid (fun W (h : Sc W p l (k + 1 + (lebL i.a).length)) => getNought_ok h hd2)
    clear hd1 hd2 himm hb8 hl3 hb hl
    go_enter Tryd.func28, Tryd.ntmps28
    go_wp2_with (first
      | (go_at_call 53; go_must ((with_reducible refine HOP.out.mono ?_); rintro e w1 ⟨rfl, hs, hg⟩; have HG1 := Lib.hid (HST.out w1 hs hg); have hh := HG1.out.h2; have n1 : ¬ w1.heap.size = w.heap.size := (by omega); have n2 : ¬ w.heap.size = w1.heap.size := (by omega); clear hs hg hh))
      | (go_at_call 24; go_must ((with_reducible refine (HI.out _ HG1.out.tb.tabs).mono ?_); rintro e w2 ⟨rfl, hb⟩; unfold infV; have HG2 := Lib.hid (HG1.out.below hb); have c0 := HG2.out.box.cell 0; have c1 := HG2.out.box.cell 1; have c2 := HG2.out.box.cell 2; have c3 := HG2.out.box.cell 3; have f1 := HG2.out.box.frozen 1; have f2 := HG2.out.box.frozen 2; have f3 := HG2.out.box.frozen 3; have r0 := HG2.out.res.cell 0; have r1 := HG2.out.res.cell 1; have r2 := HG2.out.res.cell 2; have r3 := HG2.out.res.cell 3; have z0 := HG2.out.res.frozen 0; have z1 := HG2.out.res.frozen 1; have z2 := HG2.out.res.frozen 2; have z3 := HG2.out.res.frozen 3; simp only [List.getElem?_toArray, List.getElem?_cons_zero, List.getElem?_cons_succ] at c0 c1 c2 c3 r0 r1 r2 r3; clear hb))
      | (go_at_call 56; go_must ((with_reducible refine (HX.out _ HG2.out.sc).mono ?_); rintro e w3 ⟨rfl, hs, hg⟩; clear c0 c1 c2 c3 f1 f2 f3 r0 r1 r2 r3 z0 z1 z2 z3; have HG3 := Lib.hid (HG2.out.call hs hg); have c0 := HG3.out.box.cell 0; have c1 := HG3.out.box.cell 1; have c2 := HG3.out.box.cell 2; have c3 := HG3.out.box.cell 3; have f1 := HG3.out.box.frozen 1; have f2 := HG3.out.box.frozen 2; have f3 := HG3.out.box.frozen 3; have r0 := HG3.out.res.cell 0; have r1 := HG3.out.res.cell 1; have r2 := HG3.out.res.cell 2; have r3 := HG3.out.res.cell 3; have z0 := HG3.out.res.frozen 0; have z1 := HG3.out.res.frozen 1; have z2 := HG3.out.res.frozen 2; have z3 := HG3.out.res.frozen 3; simp only [List.getElem?_toArray, List.getElem?_cons_zero, List.getElem?_cons_succ] at c0 c1 c2 c3 r0 r1 r2 r3; clear hs hg))
      | (go_at_call 57; go_must ((with_reducible refine (HY.out _ (HG3.out.put 1 (.int .u64 i.a) rfl).sc).mono ?_); rintro e w4 ⟨rfl, hs, hg⟩; clear c0 c1 c2 c3 f1 f2 f3 r0 r1 r2 r3 z0 z1 z2 z3; have HG4 := Lib.hid ((HG3.out.put 1 (.int .u64 i.a) rfl).call hs hg); have c0 := HG4.out.box.cell 0; have c1 := HG4.out.box.cell 1; have c2 := HG4.out.box.cell 2; have c3 := HG4.out.box.cell 3; have f1 := HG4.out.box.frozen 1; have f2 := HG4.out.box.frozen 2; have f3 := HG4.out.box.frozen 3; have r0 := HG4.out.res.cell 0; have r1 := HG4.out.res.cell 1; have r2 := HG4.out.res.cell 2; have r3 := HG4.out.res.cell 3; have z0 := HG4.out.res.frozen 0; have z1 := HG4.out.res.frozen 1; have z2 := HG4.out.res.frozen 2; have z3 := HG4.out.res.frozen 3; simp only [List.getElem?_toArray, List.getElem?_cons_zero, List.getElem?_cons_succ] at c0 c1 c2 c3 r0 r1 r2 r3; clear hs hg)))
    obtain ⟨q, hf⟩ := GSt.fin (show GSt w p l w1.heap.size none i.l _ _ _ _ _ _ from by rw [HL.out]; exact HG4.out) (.int .u8 i.op.toNat) (.int .u64 i.a) (.int .u64 0) (.slice none 0 0) _ rfl
    have q0 := q.cell 0
    have q1 := q.cell 1
    have q2 := q.cell 2
    have q3 := q.cell 3
    simp only [List.getElem?_toArray, List.getElem?_cons_zero, List.getElem?_cons_succ] at q0 q1 q2 q3
    exact bodyPost_ret (v := .agg #[.int .u8 i.op.toNat, .int .u64 i.a, .int .u64 0, .slice none 0 0]) (by simp [results, Tryd.results28, go_sem, q0, q1, q2, q3]) rfl (gets_end (show GSt w p l w1.heap.size none i.l _ _ _ _ _ _ from by rw [HL.out]; exact HG4.out) hf (ins_eq HB.out rfl HL.out rfl) (by rw [HPL.out, List.length_append, List.length_singleton]; omega))
  have d5 : ((m : Int) == 5) = false := by simp; omega
  by_cases m8 : m = 8
  · subst m8
    have himm : immB 8 i = lebL i.a ++ lebL i.b := by unfold immB; rw [if_neg (by omega), if_neg (by omega), if_neg (by omega), if_neg (by omega), if_pos rfl]
    rw [himm] at HPL hd1
    have hl : i.l = [] := List.eq_nil_of_length_eq_zero (by omega)
    have HL := Lib.hid hl
    obtain ⟨ha, hbb⟩ := hz3 (by omega)
    rw [List.append_assoc] at hd1
    have hd2 := drop_past hd1
    have HX := Lib.hid (fun W (h : Sc W p l (k + 1)) => getNumber_ok h hd1 a0 ha)
    have HY := Lib.hid (fun W (h : Sc W p l (k + 1 + (lebL i.a).length)) => getNumber_ok h hd2 b0 hbb)
    clear hd1 hd2 himm hb8 hl3 hl
    go_enter Tryd.func28, Tryd.ntmps28
    go_wp2_with (first
      | (go_at_call 53; go_must ((with_reducible refine HOP.out.mono ?_); rintro e w1 ⟨rfl, hs, hg⟩; have HG1 := Lib.hid (HST.out w1 hs hg); have hh := HG1.out.h2; have n1 : ¬ w1.heap.size = w.heap.size := (by omega); have n2 : ¬ w.heap.size = w1.heap.size := (by omega); clear hs hg hh))
      | (go_at_call 24; go_must ((with_reducible refine (HI.out _ HG1.out.tb.tabs).mono ?_); rintro e w2 ⟨rfl, hb⟩; unfold infV; have HG2 := Lib.hid (HG1.out.below hb); have c0 := HG2.out.box.cell 0; have c1 := HG2.out.box.cell 1; have c2 := HG2.out.box.cell 2; have c3 := HG2.out.box.cell 3; have f1 := HG2.out.box.frozen 1; have f2 := HG2.out.box.frozen 2; have f3 := HG2.out.box.frozen 3; have r0 := HG2.out.res.cell 0; have r1 := HG2.out.res.cell 1; have r2 := HG2.out.res.cell 2; have r3 := HG2.out.res.cell 3; have z0 := HG2.out.res.frozen 0; have z1 := HG2.out.res.frozen 1; have z2 := HG2.out.res.frozen 2; have z3 := HG2.out.res.frozen 3; simp only [List.getElem?_toArray, List.getElem?_cons_zero, List.getElem?_cons_succ] at c0 c1 c2 c3 r0 r1 r2 r3; clear hb))
      | (have tok := HG3; go_at_call 56; go_must ((with_reducible refine (HY.out _ (HG3.out.put 1 (.int .u64 i.a) rfl).sc).mono ?_); rintro e w4 ⟨rfl, hs, hg⟩; clear c0 c1 c2 c3 f1 f2 f3 r0 r1 r2 r3 z0 z1 z2 z3; have HG4 := Lib.hid ((HG3.out.put 1 (.int .u64 i.a) rfl).call hs hg); have c0 := HG4.out.box.cell 0; have c1 := HG4.out.box.cell 1; have c2 := HG4.out.box.cell 2; have c3 := HG4.out.box.cell 3; have f1 := HG4.out.box.frozen 1; have f2 := HG4.out.box.frozen 2; have f3 := HG4.out.box.frozen 3; have r0 := HG4.out.res.cell 0; have r1 := HG4.out.res.cell 1; have r2 := HG4.out.res.cell 2; have r3 := HG4.out.res.cell 3; have z0 := HG4.out.res.frozen 0; have z1 := HG4.out.res.frozen 1; have z2 := HG4.out.res.frozen 2; have z3 := HG4.out.res.frozen 3; simp only [List.getElem?_toArray, List.getElem?_cons_zero, List.getElem?_cons_succ] at c0 c1 c2 c3 r0 r1 r2 r3; clear hs hg))
      | (go_at_call 56; go_must ((with_reducible refine (HX.out _ HG2.out.sc).mono ?_); rintro e w3 ⟨rfl, hs, hg⟩; clear c0 c1 c2 c3 f1 f2 f3 r0 r1 r2 r3 z0 z1 z2 z3; have HG3 := Lib.hid (HG2.out.call hs hg); have c0 := HG3.out.box.cell 0; have c1 := HG3.out.box.cell 1; have c2 := HG3.out.box.cell 2; have c3 := HG3.out.box.cell 3; have f1 := HG3.out.box.frozen 1; have f2 := HG3.out.box.frozen 2; have f3 := HG3.out.box.frozen 3; have r0 := HG3.out.res.cell 0; have r1 := HG3.out.res.cell 1; have r2 := HG3.out.res.cell 2; have r3 := HG3.out.res.cell 3; have z0 := HG3.out.res.frozen 0; have z1 := HG3.out.res.frozen 1; have z2 := HG3.out.res.frozen 2; have z3 := HG3.out.res.frozen 3; simp only [List.getElem?_toArray, List.getElem?_cons_zero, List.getElem?_cons_succ] at c0 c1 c2 c3 r0 r1 r2 r3; clear hs hg)))
    obtain ⟨q, hf⟩ := GSt.fin (show GSt w p l w1.heap.size none i.l _ _ _ _ _ _ from by rw [HL.out]; exact HG4.out.put 2 (.int .u64 i.b) rfl) (.int .u8 i.op.toNat) (.int .u64 i.a) (.int .u64 i.b) (.slice none 0 0) _ rfl
    have q0 := q.cell 0
    have q1 := q.cell 1
    have q2 := q.cell 2
    have q3 := q.cell 3
    simp only [List.getElem?_toArray, List.getElem?_cons_zero, List.getElem?_cons_succ] at q0 q1 q2 q3
    exact bodyPost_ret (v := .agg #[.int .u8 i.op.toNat, .int .u64 i.a, .int .u64 i.b, .slice none 0 0]) (by simp [results, Tryd.results28, go_sem, q0, q1, q2, q3]) rfl (gets_end (show GSt w p l w1.heap.size none i.l _ _ _ _ _ _ from by rw [HL.out]; exact HG4.out.put 2 (.int .u64 i.b) rfl) hf (ins_eq rfl rfl HL.out rfl) (by rw [HPL.out, List.length_append]; omega))
  have d8 : ((m : Int) == 8) = false := by simp; omega
  by_cases m9 : m = 9
  · subst m9
    have himm : immB 9 i = [0] := by unfold immB; rw [if_neg (by omega), if_neg (by omega), if_neg (by omega), if_neg (by omega), if_neg (by omega), if_pos rfl]
    rw [himm] at HPL hd1
    have hl : i.l = [] := List.eq_nil_of_length_eq_zero (by omega)
    have hb : i.b = 0 := by omega
    have HB := Lib.hid hb
    have HL := Lib.hid hl
    have HA := Lib.hid (hz2 (by omega))
    have HX := Lib.hid (fun W (h : Sc W p l (k + 1)) => getNought_ok h hd1)
    clear hd1 himm hb8 hl3 hb hl
    go_enter Tryd.func28, Tryd.ntmps28
    go_wp2_with (first
      | (go_at_call 53; go_must ((with_reducible refine HOP.out.mono ?_); rintro e w1 ⟨rfl, hs, hg⟩; have HG1 := Lib.hid (HST.out w1 hs hg); have hh := HG1.out.h2; have n1 : ¬ w1.heap.size = w.heap.size := (by omega); have n2 : ¬ w.heap.size = w1.heap.size := (by omega); clear hs hg hh))
      | (go_at_call 24; go_must ((with_reducible refine (HI.out _ HG1.out.tb.tabs).mono ?_); rintro e w2 ⟨rfl, hb⟩; unfold infV; have HG2 := Lib.hid (HG1.out.below hb); have c0 := HG2.out.box.cell 0; have c1 := HG2.out.box.cell 1; have c2 := HG2.out.box.cell 2; have c3 := HG2.out.box.cell 3; have f1 := HG2.out.box.frozen 1; have f2 := HG2.out.box.frozen 2; have f3 := HG2.out.box.frozen 3; have r0 := HG2.out.res.cell 0; have r1 := HG2.out.res.cell 1; have r2 := HG2.out.res.cell 2; have r3 := HG2.out.res.cell 3; have z0 := HG2.out.res.frozen 0; have z1 := HG2.out.res.frozen 1; have z2 := HG2.out.res.frozen 2; have z3 := HG2.out.res.frozen 3; simp only [List.getElem?_toArray, List.getElem?_cons_zero, List.getElem?_cons_succ] at c0 c1 c2 c3 r0 r1 r2 r3; clear hb))
      | (go_at_call 57; go_must ((with_reducible refine (HX.out _ HG2.out.sc).mono ?_); rintro e w3 ⟨rfl, hs, hg⟩; clear c0 c1 c2 c3 f1 f2 f3 r0 r1 r2 r3 z0 z1 z2 z3; have HG3 := Lib.hid (HG2.out.call hs hg); have c0 := HG3.out.box.cell 0; have c1 := HG3.out.box.cell 1; have c2 := HG3.out.box.cell 2; have c3 := HG3.out.box.cell 3; have f1 := HG3.out.box.frozen 1; have f2 := HG3.out.box.frozen 2; have f3 := HG3.out.box.frozen 3; have r0 := HG3.out.res.cell 0; have r1 := HG3.out.res.cell 1; have r2 := HG3.out.res.cell 2; have r3 := HG3.out.res.cell 3; have z0 := HG3.out.res.frozen 0; have z1 := HG3.out.res.frozen 1; have z2 := HG3.out.res.frozen 2; have z3 := HG3.out.res.frozen 3; simp only [List.getElem?_toArray, List.getElem?_cons_zero, List.getElem?_cons_succ] at c0 c1 c2 c3 r0 r1 r2 r3; clear hs hg)))
    obtain ⟨q, hf⟩ := GSt.fin (show GSt w p l w1.heap.size none i.l _ _ _ _ _ _ from by rw [HL.out]; exact HG3.out) (.int .u8 i.op.toNat) (.int .u64 0) (.int .u64 0) (.slice none 0 0) _ rfl
    have q0 := q.cell 0
    have q1 := q.cell 1
    have q2 := q.cell 2
    have q3 := q.cell 3
    simp only [List.getElem?_toArray, List.getElem?_cons_zero, List.getElem?_cons_succ] at q0 q1 q2 q3
    exact bodyPost_ret (v := .agg #[.int .u8 i.op.toNat, .int .u64 0, .int .u64 0, .slice none 0 0]) (by simp [results, Tryd.results28, go_sem, q0, q1, q2, q3]) rfl (gets_end (show GSt w p l w1.heap.size none i.l _ _ _ _ _ _ from by rw [HL.out]; exact HG3.out) hf (ins_eq HB.out HA.out HL.out rfl) (by rw [HPL.out]; rfl))
  have d9 : ((m : Int) == 9) = false := by simp; omega
  by_cases m10 : m = 10
  · subst m10
    have himm : immB 10 i = sebL (s32 i.a) := by unfold immB; rw [if_neg (by omega), if_neg (by omega), if_neg (by omega), if_neg (by omega), if_neg (by omega), if_neg (by omega), if_pos rfl]
    rw [himm] at HPL hd1
    have hl : i.l = [] := List.eq_nil_of_length_eq_zero (by omega)
    have hb : i.b = 0 := by omega
    have HB := Lib.hid hb
    have HL := Lib.hid hl
    obtain ⟨ha, _⟩ := hz3 (by omega)
    have HX := Lib.hid (fun W (h : Sc W p l (k + 1)) => show Calls Tryd.prog 58 #[.pointer (some ⟨p, 0, none⟩), .int .i64 32] W (Did encS64 p l W (.ok (s32 i.a) (k + 1 + (sebL (s32 i.a)).length))) from int_scan (n := 32) h hd1 (show -2147483648 ≤ s32 i.a by unfold s32; omega) (show s32 i.a < 2147483648 by unfold s32; omega) (by omega) (by omega))
    have hw : IntKind.u32.wrap (s32 i.a) = i.a := by unfold s32; simp [IntKind.wrap, IntKind.bits, IntKind.signed]; omega
    have hw2 : IntKind.u64.wrap i.a = i.a := by simp [IntKind.wrap, IntKind.bits, IntKind.signed]; omega
    generalize s32 i.a = sx at *
    clear hd1 hb8 hl3 hb hl himm
    go_enter Tryd.func28, Tryd.ntmps28
    go_wp2_with (first
      | (go_at_call 53; go_must ((with_reducible refine HOP.out.mono ?_); rintro e w1 ⟨rfl, hs, hg⟩; have HG1 := Lib.hid (HST.out w1 hs hg); have hh := HG1.out.h2; have n1 : ¬ w1.heap.size = w.heap.size := (by omega); have n2 : ¬ w.heap.size = w1.heap.size := (by omega); clear hs hg hh))
      | (go_at_call 24; go_must ((with_reducible refine (HI.out _ HG1.out.tb.tabs).mono ?_); rintro e w2 ⟨rfl, hb⟩; unfold infV; have HG2 := Lib.hid (HG1.out.below hb); have c0 := HG2.out.box.cell 0; have c1 := HG2.out.box.cell 1; have c2 := HG2.out.box.cell 2; have c3 := HG2.out.box.cell 3; have f1 := HG2.out.box.frozen 1; have f2 := HG2.out.box.frozen 2; have f3 := HG2.out.box.frozen 3; have r0 := HG2.out.res.cell 0; have r1 := HG2.out.res.cell 1; have r2 := HG2.out.res.cell 2; have r3 := HG2.out.res.cell 3; have z0 := HG2.out.res.frozen 0; have z1 := HG2.out.res.frozen 1; have z2 := HG2.out.res.frozen 2; have z3 := HG2.out.res.frozen 3; simp only [List.getElem?_toArray, List.getElem?_cons_zero, List.getElem?_cons_succ] at c0 c1 c2 c3 r0 r1 r2 r3; clear hb))
      | (go_at_call 58; go_must ((with_reducible refine (HX.out _ HG2.out.sc).mono ?_); rintro e w3 ⟨rfl, hs, hg⟩; clear c0 c1 c2 c3 f1 f2 f3 r0 r1 r2 r3 z0 z1 z2 z3; have HG3 := Lib.hid (HG2.out.call hs hg); have c0 := HG3.out.box.cell 0; have c1 := HG3.out.box.cell 1; have c2 := HG3.out.box.cell 2; have c3 := HG3.out.box.cell 3; have f1 := HG3.out.box.frozen 1; have f2 := HG3.out.box.frozen 2; have f3 := HG3.out.box.frozen 3; have r0 := HG3.out.res.cell 0; have r1 := HG3.out.res.cell 1; have r2 := HG3.out.res.cell 2; have r3 := HG3.out.res.cell 3; have z0 := HG3.out.res.frozen 0; have z1 := HG3.out.res.frozen 1; have z2 := HG3.out.res.frozen 2; have z3 := HG3.out.res.frozen 3; simp only [List.getElem?_toArray, List.getElem?_cons_zero, List.getElem?_cons_succ] at c0 c1 c2 c3 r0 r1 r2 r3; clear hs hg)))
    obtain ⟨q, hf⟩ := GSt.fin (show GSt w p l w1.heap.size none i.l _ _ _ _ _ _ from by rw [HL.out]; exact HG3.out.put 1 (.int .u64 i.a) rfl) (.int .u8 i.op.toNat) (.int .u64 i.a) (.int .u64 0) (.slice none 0 0) _ rfl
    have q0 := q.cell 0
    have q1 := q.cell 1
    have q2 := q.cell 2
    have q3 := q.cell 3
    simp only [List.getElem?_toArray, List.getElem?_cons_zero, List.getElem?_cons_succ] at q0 q1 q2 q3
    exact bodyPost_ret (v := .agg #[.int .u8 i.op.toNat, .int .u64 i.a, .int .u64 0, .slice none 0 0]) (by simp [results, Tryd.results28, go_sem, q0, q1, q2, q3]) rfl (gets_end (show GSt w p l w1.heap.size none i.l _ _ _ _ _ _ from by rw [HL.out]; exact HG3.out.put 1 (.int .u64 i.a) rfl) hf (ins_eq HB.out rfl HL.out rfl) (by rw [HPL.out]; omega))
  have d10 : ((m : Int) == 10) = false := by simp; omega
  by_cases m11 : m = 11
  · subst m11
    have himm : immB 11 i = sebL (s64 i.a) := by unfold immB; rw [if_neg (by omega), if_neg (by omega), if_neg (by omega), if_neg (by omega), if_neg (by omega), if_neg (by omega), if_neg (by omega), if_pos rfl]
    rw [himm] at HPL hd1
    have hl : i.l = [] := List.eq_nil_of_length_eq_zero (by omega)
    have hb : i.b = 0 := by omega
    have HB := Lib.hid hb
    have HL := Lib.hid hl
    have HX := Lib.hid (fun W (h : Sc W p l (k + 1)) => show Calls Tryd.prog 58 #[.pointer (some ⟨p, 0, none⟩), .int .i64 64] W (Did encS64 p l W (.ok (s64 i.a) (k + 1 + (sebL (s64 i.a)).length))) from int_scan (n := 64) h hd1 (show -9223372036854775808 ≤ s64 i.a by unfold s64; omega) (show s64 i.a < 9223372036854775808 by unfold s64; omega) (by omega) (by omega))
    have hw : IntKind.u64.wrap (s64 i.a) = i.a := by unfold s64; simp [IntKind.wrap, IntKind.bits, IntKind.signed]; omega
    generalize s64 i.a = sx at *
    clear hd1 hb8 hl3 hb hl himm
    go_enter Tryd.func28, Tryd.ntmps28
    go_wp2_with (first
      | (go_at_call 53; go_must ((with_reducible refine HOP.out.mono ?_); rintro e w1 ⟨rfl, hs, hg⟩; have HG1 := Lib.hid (HST.out w1 hs hg); have hh := HG1.out.h2; have n1 : ¬ w1.heap.size = w.heap.size := (by omega); have n2 : ¬ w.heap.size = w1.heap.size := (by omega); clear hs hg hh))
      | (go_at_call 24; go_must ((with_reducible refine (HI.out _ HG1.out.tb.tabs).mono ?_); rintro e w2 ⟨rfl, hb⟩; unfold infV; have HG2 := Lib.hid (HG1.out.below hb); have c0 := HG2.out.box.cell 0; have c1 := HG2.out.box.cell 1; have c2 := HG2.out.box.cell 2; have c3 := HG2.out.box.cell 3; have f1 := HG2.out.box.frozen 1; have f2 := HG2.out.box.frozen 2; have f3 := HG2.out.box.frozen 3; have r0 := HG2.out.res.cell 0; have r1 := HG2.out.res.cell 1; have r2 := HG2.out.res.cell 2; have r3 := HG2.out.res.cell 3; have z0 := HG2.out.res.frozen 0; have z1 := HG2.out.res.frozen 1; have z2 := HG2.out.res.frozen 2; have z3 := HG2.out.res.frozen 3; simp only [List.getElem?_toArray, List.getElem?_cons_zero, List.getElem?_cons_succ] at c0 c1 c2 c3 r0 r1 r2 r3; clear hb))
      | (go_at_call 58; go_must ((with_reducible refine (HX.out _ HG2.out.sc).mono ?_); rintro e w3 ⟨rfl, hs, hg⟩; clear c0 c1 c2 c3 f1 f2 f3 r0 r1 r2 r3 z0 z1 z2 z3; have HG3 := Lib.hid (HG2.out.call hs hg); have c0 := HG3.out.box.cell 0; have c1 := HG3.out.box.cell 1; have c2 := HG3.out.box.cell 2; have c3 := HG3.out.box.cell 3; have f1 := HG3.out.box.frozen 1; have f2 := HG3.out.box.frozen 2; have f3 := HG3.out.box.frozen 3; have r0 := HG3.out.res.cell 0; have r1 := HG3.out.res.cell 1; have r2 := HG3.out.res.cell 2; have r3 := HG3.out.res.cell 3; have z0 := HG3.out.res.frozen 0; have z1 := HG3.out.res.frozen 1; have z2 := HG3.out.res.frozen 2; have z3 := HG3.out.res.frozen 3; simp only [List.getElem?_toArray, List.getElem?_cons_zero, List.getElem?_cons_succ] at c0 c1 c2 c3 r0 r1 r2 r3; clear hs hg)))
    obtain ⟨q, hf⟩ := GSt.fin (show GSt w p l w1.heap.size none i.l _ _ _ _ _ _ from by rw [HL.out]; exact HG3.out.put 1 (.int .u64 i.a) rfl) (.int .u8 i.op.toNat) (.int .u64 i.a) (.int .u64 0) (.slice none 0 0) _ rfl
    have q0 := q.cell 0
    have q1 := q.cell 1
    have q2 := q.cell 2
    have q3 := q.cell 3
    simp only [List.getElem?_toArray, List.getElem?_cons_zero, List.getElem?_cons_succ] at q0 q1 q2 q3
    exact bodyPost_ret (v := .agg #[.int .u8 i.op.toNat, .int .u64 i.a, .int .u64 0, .slice none 0 0]) (by simp [results, Tryd.results28, go_sem, q0, q1, q2, q3]) rfl (gets_end (show GSt w p l w1.heap.size none i.l _ _ _ _ _ _ from by rw [HL.out]; exact HG3.out.put 1 (.int .u64 i.a) rfl) hf (ins_eq HB.out rfl HL.out rfl) (by rw [HPL.out]; omega))
  have d11 : ((m : Int) == 11) = false := by simp; omega
  have himm : immB m i = lebL i.a := by unfold immB; rw [if_neg m0, if_neg m1, if_neg m3, if_neg m5, if_neg m8, if_neg m9, if_neg m10, if_neg m11]
  rw [himm] at HPL hd1
  have HL := Lib.hid (show i.l = [] from List.eq_nil_of_length_eq_zero (by omega))
  have HB := Lib.hid (show i.b = 0 by omega)
  obtain ⟨ha, _⟩ := hz3 (by omega)
  have HX := Lib.hid (fun W (h : Sc W p l (k + 1)) => getNumber_ok h hd1 a0 ha)
  clear hd1 himm hb8 hl3
  go_enter Tryd.func28, Tryd.ntmps28
  go_wp2_with (first
    | (go_at_call 53; go_must ((with_reducible refine HOP.out.mono ?_); rintro e w1 ⟨rfl, hs, hg⟩; have HG1 := Lib.hid (HST.out w1 hs hg); have hh := HG1.out.h2; have n1 : ¬ w1.heap.size = w.heap.size := (by omega); have n2 : ¬ w.heap.size = w1.heap.size := (by omega); clear hs hg hh))
    | (go_at_call 24; go_must ((with_reducible refine (HI.out _ HG1.out.tb.tabs).mono ?_); rintro e w2 ⟨rfl, hb⟩; unfold infV; have HG2 := Lib.hid (HG1.out.below hb); have c0 := HG2.out.box.cell 0; have c1 := HG2.out.box.cell 1; have c2 := HG2.out.box.cell 2; have c3 := HG2.out.box.cell 3; have f1 := HG2.out.box.frozen 1; have f2 := HG2.out.box.frozen 2; have f3 := HG2.out.box.frozen 3; have r0 := HG2.out.res.cell 0; have r1 := HG2.out.res.cell 1; have r2 := HG2.out.res.cell 2; have r3 := HG2.out.res.cell 3; have z0 := HG2.out.res.frozen 0; have z1 := HG2.out.res.frozen 1; have z2 := HG2.out.res.frozen 2; have z3 := HG2.out.res.frozen 3; simp only [List.getElem?_toArray, List.getElem?_cons_zero, List.getElem?_cons_succ] at c0 c1 c2 c3 r0 r1 r2 r3; clear hb))
    | (go_at_call 56; go_must ((with_reducible refine (HX.out _ HG2.out.sc).mono ?_); rintro e w3 ⟨rfl, hs, hg⟩; clear c0 c1 c2 c3 f1 f2 f3 r0 r1 r2 r3 z0 z1 z2 z3; have HG3 := Lib.hid (HG2.out.call hs hg); have c0 := HG3.out.box.cell 0; have c1 := HG3.out.box.cell 1; have c2 := HG3.out.box.cell 2; have c3 := HG3.out.box.cell 3; have f1 := HG3.out.box.frozen 1; have f2 := HG3.out.box.frozen 2; have f3 := HG3.out.box.frozen 3; have r0 := HG3.out.res.cell 0; have r1 := HG3.out.res.cell 1; have r2 := HG3.out.res.cell 2; have r3 := HG3.out.res.cell 3; have z0 := HG3.out.res.frozen 0; have z1 := HG3.out.res.frozen 1; have z2 := HG3.out.res.frozen 2; have z3 := HG3.out.res.frozen 3; simp only [List.getElem?_toArray, List.getElem?_cons_zero, List.getElem?_cons_succ] at c0 c1 c2 c3 r0 r1 r2 r3; clear hs hg)))
  obtain ⟨q, hf⟩ := GSt.fin (show GSt w p l w1.heap.size none i.l _ _ _ _ _ _ from by rw [HL.out]; exact HG3.out.put 1 (.int .u64 i.a) rfl) (.int .u8 i.op.toNat) (.int .u64 i.a) (.int .u64 0) (.slice none 0 0) _ rfl
  have q0 := q.cell 0
  have q1 := q.cell 1
  have q2 := q.cell 2
  have q3 := q.cell 3
  simp only [List.getElem?_toArray, List.getElem?_cons_zero, List.getElem?_cons_succ] at q0 q1 q2 q3
  exact bodyPost_ret (v := .agg #[.int .u8 i.op.toNat, .int .u64 i.a, .int .u64 0, .slice none 0 0]) (by simp [results, Tryd.results28, go_sem, q0, q1, q2, q3]) rfl (gets_end (show GSt w p l w1.heap.size none i.l _ _ _ _ _ _ from by rw [HL.out]; exact HG3.out.put 1 (.int .u64 i.a) rfl) hf (ins_eq HB.out rfl HL.out rfl) (by rw [HPL.out]; omega))
end Go.Proofs.YtlicdmbmgjflpaaDoor
