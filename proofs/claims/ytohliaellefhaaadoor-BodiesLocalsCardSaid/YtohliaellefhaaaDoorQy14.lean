/- PutBody; the reference's SameAll. -/
import Derived.Test.YtohliaellefhaaaDoorQy13
import Derived.Test.YtohliaellefhaaaDoorQy10
import Derived.Test.YtohliaellefhaaaDoorQy11
import Derived.Test.YtohliaellefhaaaDoorQy07
import Derived.Deep.DeepMust
import Derived.Test.YtohliaellefhaaaDoorQy09
import Derived.Test.YtohliaellefhaaaDoorQy08
namespace Go.Proofs.YtohliaellefhaaaDoor
open Go.RowKit
set_option linter.unusedVariables false
set_option maxRecDepth 100000

/-- The first error of one. -/
def errZ : List I → Int
  | [] => 0
  | i :: r => if rightZ i ≠ 0 then rightZ i else errZ r
theorem errZ_drop {l : List I} {k : Nat} {i : I} (h : l[k]? = some i) : errZ (l.drop k) = if rightZ i ≠ 0 then rightZ i else errZ (l.drop (k + 1)) := by
  obtain ⟨hj3, hj4⟩ := List.getElem?_eq_some_iff.1 h
  rw [List.drop_eq_getElem_cons hj3, hj4]
  rfl
theorem errZ_all : ∀ {l : List I}, errZ l = 0 → ∀ i ∈ l, rightZ i = 0
  | [], _, i, hi => by cases hi
  | j :: r, h, i, hi => by
    unfold errZ at h
    by_cases hj : rightZ j ≠ 0
    · rw [if_pos hj] at h; exact absurd h hj
    · rw [if_neg hj] at h
      rcases List.mem_cons.1 hi with rfl | hi
      · omega
      · exact errZ_all h i hi
/-- What PutBody tells. -/
def codeZ (l : List I) : Int := if shapeZ l = 0 then errZ l else shapeZ l
theorem putL_len {i : I} (h : i.Ok) (hl : i.l.length ≤ 100) : (putL i).length ≤ 1100 := by
  obtain ⟨a0, a1, b0, b1, hl0⟩ := h
  have k1 := lebL_len i.a (by omega)
  have k2 := lebL_len i.b (by omega)
  have k3 := lebL_len (i.l.length : Int) (by omega)
  have k4 := labsL_len i.l hl0
  have k5 := sebL_len (s32 i.a) (by unfold s32; omega) (by unfold s32; omega)
  have k6 := sebL_len (s64 i.a) (by unfold s64; omega) (by unfold s64; omega)
  have key : (immL i).length ≤ 1050 := by
    unfold immL immB labL
    repeat' split
    all_goals (try simp only [List.length_append, List.length_cons, List.length_nil])
    all_goals omega
  unfold putL
  rw [List.length_cons]
  omega
theorem bodyL_len : ∀ l : List I, (∀ i ∈ l, i.Ok ∧ i.l.length ≤ 100) → (bodyL l).length ≤ l.length * 1100
  | [], _ => by simp [bodyL]
  | i :: r, h => by
    have h1 := bodyL_len r (fun j hj => h j (List.mem_cons_of_mem _ hj))
    have h2 := putL_len (h i (by simp)).1 (h i (by simp)).2
    unfold bodyL at h1 ⊢
    rw [List.flatMap_cons, List.length_append, List.length_cons]
    omega
def PutBPost (l : List I) (w : World) (e : Ending) (w' : World) : Prop :=
  ∃ v, e = .returned (.tuple #[v, .int .i64 (codeZ l)]) ∧ Row w' w.heap.size v (if codeZ l = 0 then bodyL l else []) ∧ Below w.heap.size w w'
theorem putB_no {l : List I} {c : Int} {w w' : World} (h : codeZ l = c) (hc : c ≠ 0) (hb : Below w.heap.size w w') : PutBPost l w (.returned (.tuple #[.slice none 0 0, .int .i64 c])) w' := by
  subst h
  exact ⟨_, rfl, by rw [if_neg hc]; exact Row.nil _ _, hb⟩
theorem putB_yes {l : List I} {v : Value} {w w' : World} (h : codeZ l = 0) (hr : Row w' w.heap.size v (bodyL l)) (hb : Below w.heap.size w w') : PutBPost l w (.returned (.tuple #[v, .int .i64 0])) w' :=
  ⟨v, by rw [h], by rw [if_pos h]; exact hr, hb⟩
set_option maxHeartbeats 1000000 in
theorem putBody_any {w : World} {A : Option Addr} {c : Nat} {l : List I} (hT : Tabs w) (hl : Ins w A l) (hn : l.length ≤ 60) (hok : ∀ i ∈ l, i.Ok ∧ i.l.length ≤ 100) :
    Calls Tryd.prog 34 #[.slice A l.length c] w (PutBPost l w) := by
  have HL := Lib.hid hl
  have HT := Lib.hid hT
  have HOK := Lib.hid hok
  have HSH := Lib.hid (shape_any (c := c) hT hl (by omega))
  obtain ⟨z, hz⟩ : ∃ z, z = shapeZ l := ⟨_, rfl⟩
  rw [← hz] at HSH
  obtain ⟨n, hnn⟩ : ∃ n, n = l.length := ⟨_, rfl⟩
  rw [← hnn] at HSH hn ⊢
  have HNN := Lib.hid hnn
  clear hT hl hok hnn
  by_cases hz0 : z = 0
  · have HC : Hid (codeZ l = errZ l) := by show _ = _; unfold codeZ; rw [← hz, if_pos hz0]
    subst hz0
    clear hz
    go_enter Tryd.func34, Tryd.ntmps34
    go_wp2_with (go_at_call 50; go_must ((with_reducible refine HSH.out.mono ?_); rintro e w1 ⟨rfl, hb⟩; have HB1 := Lib.hid hb; clear hb))
    go_loopw [5, 17] (fun v i wr => ∃ k : Nat, k ≤ n ∧ i = .int .i64 k ∧ Row wr w.heap.size v (bodyL (l.take k)) ∧ errZ l = errZ (l.drop k) ∧ Below w.heap.size w wr) (fun _ i _ => n - (intOf i).toNat)
    case atStart => exact ⟨0, Nat.zero_le _, rfl, Row.nil _ _, rfl, HB1.out⟩
    case round =>
      obtain ⟨k, hk, rfl, hr, he, hb⟩ := hrel
      have hz1 := hb.size
      by_cases hlt : k < n
      · obtain ⟨i, hi⟩ : ∃ i, l[k]? = some i := ⟨_, List.getElem?_eq_getElem (by rw [← HNN.out]; exact hlt)⟩
        obtain ⟨b, off, B, cc, rfl, hbl, ⟨k0, k1, k2, k3⟩, hlab⟩ := HL.out k i hi
        have m0 := (hb.cell (p := ⟨b, off + k * 4, none⟩) hbl).trans k0
        have m1 := (hb.cell (p := ⟨b, off + k * 4 + 1, none⟩) hbl).trans k1
        have m2 := (hb.cell (p := ⟨b, off + k * 4 + 2, none⟩) hbl).trans k2
        have m3 := (hb.cell (p := ⟨b, off + k * 4 + 3, none⟩) hbl).trans k3
        obtain ⟨hok, hll⟩ := HOK.out i (List.mem_of_getElem? hi)
        have HB := Lib.hid (hb.alloc hz1 (.cells (insC i B cc) 58))
        have HR := Lib.hid (hr.alloc (.cells (insC i B cc) 58))
        have HPU := Lib.hid (put_any i B cc (wr.alloc (.cells (insC i B cc) 58)) hok (HT.out.below HB.out) (hlab.below HB.out) (by omega))
        have hlen : (bodyL (l.take k)).length ≤ 66000 := by
          have h1 := bodyL_len (l.take k) (fun j hj => HOK.out j (List.mem_of_mem_take hj))
          have h2 : (l.take k).length ≤ k := by rw [List.length_take]; omega
          omega
        have hpl := putL_len hok hll
        have hs1 : w.heap.size ≤ (wr.alloc (.cells (insC i B cc) 58)).heap.size := by rw [size_box]; omega
        rw [errZ_drop hi] at he
        have HSN := Lib.hid (bodyL_snoc hi)
        by_cases hri : rightZ i = 0
        · rw [if_neg (by omega)] at he
          have HE := Lib.hid he
          have HP2 := Lib.hid (show Calls Tryd.prog 51 #[insV i B cc] (wr.alloc (.cells (insC i B cc) 58)) fun e w' => ∃ v, e = .returned (.tuple #[v, .int .i64 0]) ∧ Row w' (wr.alloc (.cells (insC i B cc) 58)).heap.size v (putL i) ∧ Below (wr.alloc (.cells (insC i B cc) 58)).heap.size (wr.alloc (.cells (insC i B cc) 58)) w' from HPU.out.mono fun e w' ⟨v, h1, h2, h3⟩ => ⟨v, by rw [hri] at h1; exact h1, by rw [if_pos hri] at h2; exact h2, h3⟩)
          obtain ⟨y, hy⟩ : ∃ y, y = putL i := ⟨_, rfl⟩
          rw [← hy] at HP2 hpl HSN
          clear hr he hb k0 k1 k2 k3 hi hlab hok HPU hri hy
          go_wp2_with (first
            | (at_builtin; (refine row_any rfl _ _ rfl w.heap.size _ (bodyL (l.take k)) rfl HR2.out A2 y.length c2 _ y rfl rfl HL2.out HA2.out (by omega) hs2 ?_; intro v3 w3 hr3 hb3; have HR3 := Lib.hid hr3; have HB3 := Lib.hid hb3; clear hr3 hb3))
            | (go_at_call 51; go_must ((with_reducible refine HP2.out.mono ?_); intro e w2 hq; obtain ⟨v2, rfl, hr2, hb2⟩ := hq; obtain ⟨A2, c2, rfl, hl2, hA2, _⟩ := hr2.liesN; have HR2 := Lib.hid (HR.out.later hb2); have HB2 := Lib.hid (HB.out.trans (hb2.mono hs1)); have HL2 := Lib.hid hl2; have HA2 := Lib.hid hA2; have hs2 : w.heap.size ≤ w2.heap.size := Nat.le_trans hs1 hb2.size; clear hr2 hb2 hl2 hA2)))
          go_roundw
          case rel => exact ⟨k + 1, by omega, by go_num, by rw [HSN.out]; exact HR3.out, HE.out, HB2.out.trans HB3.out⟩
          case measure => simp [intOf]; omega
        · rw [if_pos hri] at he
          have HE := Lib.hid (show codeZ l = rightZ i from HC.out.trans he)
          have HZN := Lib.hid hri
          have hzb : (rightZ i != 0) = true := by simpa using hri
          have HP2 := Lib.hid (show Calls Tryd.prog 51 #[insV i B cc] (wr.alloc (.cells (insC i B cc) 58)) fun e w' => ∃ v, e = .returned (.tuple #[v, .int .i64 (rightZ i)]) ∧ Below (wr.alloc (.cells (insC i B cc) 58)).heap.size (wr.alloc (.cells (insC i B cc) 58)) w' from HPU.out.mono fun e w' ⟨v, h1, h2, h3⟩ => ⟨v, h1, h3⟩)
          obtain ⟨zi, hzi⟩ : ∃ zi, zi = rightZ i := ⟨_, rfl⟩
          rw [← hzi] at HE HZN hzb HP2
          clear hr he hb k0 k1 k2 k3 hi hlab hok HPU hri hzi
          go_wp2_with (go_at_call 51; go_must ((with_reducible refine HP2.out.mono ?_); intro e w2 hq; obtain ⟨v2, rfl, hb2⟩ := hq; have HB2 := Lib.hid (HB.out.trans (hb2.mono hs1)); clear hb2))
          go_ret2
          exact putB_no HE.out HZN.out HB2.out
      · obtain rfl : k = n := by omega
        have HE : Hid (codeZ l = 0) := by
          show _ = _
          rw [HC.out, he, List.drop_eq_nil_of_le (by rw [← HNN.out]; exact Nat.le_refl _)]
          rfl
        rw [List.take_of_length_le (by rw [← HNN.out]; exact Nat.le_refl _)] at hr
        have HR := Lib.hid hr
        have HB := Lib.hid hb
        clear hr he hb
        go_wp2
        go_ret2
        exact putB_yes HE.out HR.out HB.out
  · have HC := Lib.hid (show codeZ l = z by unfold codeZ; rw [← hz, if_neg hz0])
    have HZN := Lib.hid hz0
    have hzb : (z != 0) = true := by simpa using hz0
    clear hz hz0
    go_enter Tryd.func34, Tryd.ntmps34
    go_wp2_with (go_at_call 50; go_must ((with_reducible refine HSH.out.mono ?_); rintro e w1 ⟨rfl, hb⟩; have HB1 := Lib.hid hb; clear hb))
    go_ret2
    exact putB_no HC.out HZN.out HB1.out
/-- Both lists, wherever they lie. -/
def Two (A B : Option Addr) (l : List I) (W : World) : Prop := Ins W A l ∧ Ins W B l
theorem Two.on {A B : Option Addr} {l : List I} {W W' : World} (h : Two A B l W) (hb : Below W.heap.size W W') : Two A B l W' := ⟨h.1.below hb, h.2.below hb⟩
/-- .. and what they read as at k. -/
abbrev TwoAt (b1 o1 b2 o2 : Nat) (B1 B2 : Option Addr) (c1 c2 : Nat) (i : I) (k : Nat) (W : World) : Prop :=
  (W.cell? ⟨b1, o1 + k * 4, none⟩ = some (.int .u8 i.op.toNat) ∧ W.cell? ⟨b1, o1 + k * 4 + 1, none⟩ = some (.int .u64 i.a) ∧ W.cell? ⟨b1, o1 + k * 4 + 2, none⟩ = some (.int .u64 i.b) ∧ W.cell? ⟨b1, o1 + k * 4 + 3, none⟩ = some (.slice B1 i.l.length c1)) ∧
  (W.cell? ⟨b2, o2 + k * 4, none⟩ = some (.int .u8 i.op.toNat) ∧ W.cell? ⟨b2, o2 + k * 4 + 1, none⟩ = some (.int .u64 i.a) ∧ W.cell? ⟨b2, o2 + k * 4 + 2, none⟩ = some (.int .u64 i.b) ∧ W.cell? ⟨b2, o2 + k * 4 + 3, none⟩ = some (.slice B2 i.l.length c2))
end Go.Proofs.YtohliaellefhaaaDoor

/- The reference's Right. (By gen/genRefRight.py.) -/
namespace Go.Proofs.YtohliaellefhaaaDoor
open Go.RowKit
set_option linter.unusedVariables false
set_option maxRecDepth 100000

theorem nums_low {m : Nat} {a b : Int} (hm : m ≠ 1 ∧ m ≠ 0 ∧ m ≠ 9) (h : (a ≤ 4294967295 ∧ b ≤ 4294967295) ∨ m = 11) : numsZ m a b = 0 := by
  unfold numsZ
  rw [if_neg hm.1, if_neg (by omega)]
  by_cases m11 : m = 11
  · rw [if_pos m11]
  · rw [if_neg m11, if_pos (by omega)]
theorem nums_high {m : Nat} {a b : Int} (hm : m ≠ 1 ∧ m ≠ 0 ∧ m ≠ 9 ∧ m ≠ 11) (h : ¬ (a ≤ 4294967295 ∧ b ≤ 4294967295)) : numsZ m a b = 1 := by
  unfold numsZ
  rw [if_neg hm.1, if_neg (by omega), if_neg (by omega), if_neg h]
theorem block_same {a : Int} (h : a ≠ 64) (h2 : a ≤ 256) : blockZ a = valueZ a := by
  unfold blockZ
  rw [if_neg h]
  by_cases h3 : 255 < a
  · obtain rfl : a = 256 := by omega
    rfl
  · rw [if_neg h3]
theorem refR_end {w W : World} {i : I} {A : Option Addr} {c : Nat} (h : BoxI w W i A c) {o : Obj} : Below w.heap.size w (W.alloc o) := h.2.alloc h.2.size _
end Go.Proofs.YtohliaellefhaaaDoor

/- The reference's Shape, Right, Types, Same of bodies. -/
namespace Go.Proofs.YtohliaellefhaaaDoor
open Go.RowKit
set_option linter.unusedVariables false
set_option maxRecDepth 100000

/-- The first group's type that may not be. -/
def tyGo : List Lo → Int
  | [] => 0
  | x :: r => if valueZ x.t.toNat ≠ 0 then valueZ x.t.toNat else tyGo r
theorem ty_drop {l : List Lo} {k : Nat} {x : Lo} (h : l[k]? = some x) : tyGo (l.drop k) = if valueZ x.t.toNat ≠ 0 then valueZ x.t.toNat else tyGo (l.drop (k + 1)) := by
  rw [lo_drop h]
  rfl
/-- May it be, but for its instructions? May it be? -/
def bshZ (x : Bd) : Int := if locGo 0 x.ls < 0 then 23 else if tyGo x.ls ≠ 0 then tyGo x.ls else shapeZ x.b
def brZ (x : Bd) : Int := if bshZ x ≠ 0 then bshZ x else errZ x.b
/-- Two groups that are alike. -/
theorem neq_lo (x : Lo) (W : World) : (binOp BinOp.neq 64 (.agg #[.int .u32 x.n.toNat, .int .u8 x.t.toNat]) (.agg #[.int .u32 x.n.toNat, .int .u8 x.t.toNat])).run Tryd.prog W = .ok (.bool false) W := by
  go_simp
end Go.Proofs.YtohliaellefhaaaDoor

/- bodies.Count, bodies.Right. -/
namespace Go.Proofs.YtohliaellefhaaaDoor
open Go.RowKit
set_option linter.unusedVariables false
set_option maxRecDepth 100000

/-- How many; the error. -/
def cntN (l : List Lo) : Int := if locGo 0 l < 0 then 0 else locGo 0 l
def cntE (l : List Lo) : Int := if locGo 0 l < 0 then 23 else 0
theorem cnt_no {l : List Lo} (h : locGo 0 l = -1) : cntN l = 0 ∧ cntE l = 23 := by unfold cntN cntE; rw [h]; decide
theorem cnt_yes {l : List Lo} {m : Nat} (h : locGo 0 l = (m : Int)) : cntN l = m ∧ cntE l = 0 := by
  unfold cntN cntE
  rw [h, if_neg (by omega), if_neg (by omega)]
  exact ⟨rfl, rfl⟩
theorem ret_i {a c : Int} (h : a = c) : Ending.returned (.int .i64 a) = .returned (.int .i64 c) := by rw [h]
theorem ret_ints {a b c d : Int} (h : a = c) (h2 : b = d) : Ending.returned (.tuple #[.int .i64 a, .int .i64 b]) = .returned (.tuple #[.int .i64 c, .int .i64 d]) := by rw [h, h2]

set_option maxHeartbeats 4000000 in
theorem cnt_any {w : World} {A : Option Addr} {c : Nat} {l : List Lo} (hl : Los w A l) (hn : (l.length : Int) ≤ 9223372036854775807) :
    Calls Tryd.prog 6 #[.slice A l.length c] w fun e w' => e = .returned (.tuple #[.int .i64 (cntN l), .int .i64 (cntE l)]) ∧ Below w.heap.size w w' := by
  have HL := Lib.hid hl
  obtain ⟨N, hN⟩ : ∃ N, N = cntN l := ⟨_, rfl⟩
  obtain ⟨E, hE⟩ : ∃ E, E = cntE l := ⟨_, rfl⟩
  have HNO := Lib.hid (fun h : locGo 0 l = -1 => show N = 0 ∧ E = 23 by rw [hN, hE]; exact cnt_no h)
  have HYES := Lib.hid (fun (m : Nat) (h : locGo 0 l = (m : Int)) => show N = m ∧ E = 0 by rw [hN, hE]; exact cnt_yes h)
  rw [← hN, ← hE]
  obtain ⟨R, hR⟩ : ∃ R, R = locGo 0 l := ⟨_, rfl⟩
  rw [← hR] at HNO HYES
  have HR := Lib.hid hR
  obtain ⟨n, hnn⟩ : ∃ n, n = l.length := ⟨_, rfl⟩
  have HNN := Lib.hid hnn
  rw [← hnn] at hn ⊢
  clear hl hnn hR hN hE
  go_enter Tryd.func6, Tryd.ntmps6
  go_wp2
  go_loopw [4, 9] (fun s i wr => ∃ (k m : Nat), k ≤ n ∧ i = .int .i64 k ∧ s = .int .i64 m ∧ m ≤ 1000 ∧ locGo m (l.drop k) = R ∧ Below w.heap.size w wr) (fun _ i _ => n - (intOf i).toNat)
  case atStart => exact ⟨0, 0, Nat.zero_le _, rfl, rfl, by omega, HR.out.symm, Below.refl _ _⟩
  case round =>
    obtain ⟨k, m, hk, rfl, rfl, hm, hg, hb⟩ := hrel
    have hz1 := hb.size
    by_cases hlt : k < n
    · obtain ⟨x, hx⟩ : ∃ x, l[k]? = some x := ⟨_, List.getElem?_eq_getElem (by rw [← HNN.out]; exact hlt)⟩
      obtain ⟨b, off, rfl, hbl, c0, c1⟩ := (HL.out.below hb) k x hx
      rw [lo_drop hx] at hg
      unfold locGo at hg
      have HBA := Lib.hid (hb.alloc hz1 (.cells #[.int .u32 x.n.toNat, .int .u8 x.t.toNat] 64))
      have hxn := x.n.toNat_lt
      obtain ⟨v, hv⟩ : ∃ v, v = x.n.toNat := ⟨_, rfl⟩
      rw [← hv] at hg c0 hxn HBA
      have w0 : IntKind.i64.wrap (1000 - (m : Int)) = 1000 - (m : Int) := by rw [IntKind.wrap_i64]; omega
      have w1 : IntKind.u32.wrap (1000 - (m : Int)) = 1000 - (m : Int) := by simp [IntKind.wrap, IntKind.bits, IntKind.signed]; omega
      by_cases h1 : 1000 < m + v
      · rw [if_pos (.inr h1)] at hg
        have d1 : decide ((1000 : Int) - (m : Int) < (v : Int)) = true := decide_eq_true (by omega)
        have HG := Lib.hid (HNO.out hg.symm)
        clear h1 hv hx hb hg
        go_wp2
        go_ret2
        obtain ⟨e1, e2⟩ := HG.out
        exact ⟨ret_ints e1.symm e2.symm, HBA.out⟩
      · rw [if_neg (by omega)] at hg
        have d1 : decide ((1000 : Int) - (m : Int) < (v : Int)) = false := decide_eq_false (by omega)
        have wv : IntKind.i64.wrap (v : Int) = v := by rw [IntKind.wrap_i64]; omega
        have ws : IntKind.i64.wrap ((m : Int) + (v : Int)) = (m : Int) + (v : Int) := by rw [IntKind.wrap_i64]; omega
        have HG := Lib.hid hg
        clear hv hx hb hg
        go_wp2
        go_roundw
        case rel => exact ⟨k + 1, m + v, by omega, by go_num, by rw [Int.natCast_add], by omega, HG.out, HBA.out⟩
        case measure => simp [intOf]; omega
    · have hkn : k = l.length := by rw [← HNN.out]; omega
      rw [hkn, List.drop_length] at hg
      have HG := Lib.hid (HYES.out m (show R = (m : Int) from hg.symm))
      have HB := Lib.hid hb
      clear hg hkn hb
      go_wp2
      go_ret2
      obtain ⟨e1, e2⟩ := HG.out
      exact ⟨ret_ints e1.symm e2.symm, HB.out⟩
set_option maxHeartbeats 4000000 in
theorem bright_any {w : World} {x : Bd} {L : Option Addr} {l : Nat} {B : Option Addr} {c : Nat} (hT : Tabs w) (hl : Los w L x.ls) (hi : Ins w B x.b) (hn : x.ls.length ≤ 10000) (hb : x.b.length ≤ 20000) :
    Calls Tryd.prog 33 #[bdV x L l B c] w (IntPost (bshZ x) w) := by
  have h0 := bxBd_start w x L l B c
  have H0 := Lib.hid h0
  have hl1 := hl.below (below_box w (.cells (bdC x L l B c) 61))
  have HL := Lib.hid hl
  have HLo := Lib.hid (cnt_any (c := l) hl1 (by omega))
  have HS := Lib.hid (fun W (h : Below w.heap.size w W) => shape_any (c := c) (hT.below h) (hi.below h) hb)
  have HV := Lib.hid (fun W (t : UInt8) => value_any (t.toNat : Int) W)
  obtain ⟨c0, c1⟩ := h0.2
  obtain ⟨R, hR⟩ : ∃ R, R = bshZ x := ⟨_, rfl⟩
  have d10 : decide ((10000 : Int) < (x.ls.length : Int)) = false := decide_eq_false (by omega)
  rw [← hR]
  clear hT hl hi hl1 h0
  unfold bshZ at hR
  by_cases hz : locGo 0 x.ls < 0
  · rw [if_pos hz] at hR
    have e := locGo_ge _ _ hz
    rw [(cnt_no e).1, (cnt_no e).2] at HLo
    subst hR
    clear hz e
    go_enter Tryd.func33, Tryd.ntmps33
    go_wp2_with (go_at_call 6; go_must ((with_reducible refine HLo.out.mono ?_); rintro e w1 ⟨rfl, hb⟩; have H1 := Lib.hid (bxBd_on H0.out hb); clear hb))
    go_ret
    exact ⟨rfl, bxBd_bel H1.out⟩
  · rw [if_neg hz] at hR
    obtain ⟨q, hq⟩ : ∃ q : Nat, locGo 0 x.ls = (q : Int) := ⟨(locGo 0 x.ls).toNat, by omega⟩
    rw [(cnt_yes hq).1, (cnt_yes hq).2] at HLo
    have HR := Lib.hid hR
    clear hR hz hq
    go_enter Tryd.func33, Tryd.ntmps33
    go_wp2_with (go_at_call 6; go_must ((with_reducible refine HLo.out.mono ?_); rintro e w1 ⟨rfl, hb⟩; have H1 := Lib.hid (bxBd_on H0.out hb); obtain ⟨i0, i1⟩ := H1.out.2; clear hb c0 c1))
    go_loopw [24] (fun i wr => ∃ (k : Nat), k ≤ x.ls.length ∧ i = .int .i64 k ∧ tyGo (x.ls.drop k) = tyGo x.ls ∧ BxBd w w.heap.size x L l B c wr) (fun i _ => x.ls.length - (intOf i).toNat)
    case atStart => exact ⟨0, Nat.zero_le _, rfl, rfl, H1.out⟩
    case round =>
      obtain ⟨k, hk, rfl, hg, hbx⟩ := hrel
      have hbel := bxBd_bel hbx
      have HB := Lib.hid hbx
      obtain ⟨j0, j1⟩ := hbx.2
      by_cases hlt : k < x.ls.length
      · obtain ⟨y, hy⟩ : ∃ y, x.ls[k]? = some y := ⟨_, List.getElem?_eq_getElem hlt⟩
        obtain ⟨b, off, rfl, hbl, k0, k1⟩ := (HL.out.below hbel) k y hy
        rw [ty_drop hy] at hg
        have HBA := Lib.hid (bxBd_on hbx (below_box wr (.cells #[.int .u32 y.n.toNat, .int .u8 y.t.toNat] 64)))
        have HVy := Lib.hid (fun W => HV.out W y.t)
        obtain ⟨v, hv⟩ : ∃ v, v = valueZ y.t.toNat := ⟨_, rfl⟩
        rw [← hv] at hg HVy
        clear hy hv hbel hbx
        by_cases hz : v = 0
        · subst hz
          have HG := Lib.hid (show tyGo (x.ls.drop (k + 1)) = tyGo x.ls by simpa using hg)
          clear hg
          go_wp2_with (go_at_call 49; go_must ((with_reducible refine (HVy.out _).mono ?_); rintro e w' ⟨rfl, rfl⟩))
          go_roundw
          case rel => exact ⟨k + 1, by omega, by go_num, HG.out, HBA.out⟩
          case measure => simp [intOf]; omega
        · have dz : (v != 0) = true := zb_of (by simpa using hz)
          rw [if_pos hz] at hg
          have HG := Lib.hid (show R = v by rw [HR.out, ← hg, if_pos hz])
          clear hg hz
          go_wp2_with (go_at_call 49; go_must ((with_reducible refine (HVy.out _).mono ?_); rintro e w' ⟨rfl, rfl⟩))
          go_ret
          exact ⟨ret_i HG.out.symm, bxBd_bel HBA.out⟩
      · have hkn : k = x.ls.length := by omega
        rw [hkn, List.drop_length] at hg
        have HG := Lib.hid (show R = shapeZ x.b by rw [HR.out, ← hg]; rfl)
        have HSW := Lib.hid (HS.out _ hbel)
        clear hg hkn hbel hbx
        go_wp2_with (go_at_call 50; go_must ((with_reducible refine HSW.out.mono ?_); rintro e w2 ⟨rfl, hb⟩; have H2 := Lib.hid (bxBd_on HB.out hb); clear hb))
        go_ret
        exact ⟨ret_i HG.out.symm, bxBd_bel H2.out⟩
end Go.Proofs.YtohliaellefhaaaDoor

/- The reference's num, signed, Put. (By gen/genRefPut.py.) -/
namespace Go.Proofs.YtohliaellefhaaaDoor
open Go.RowKit
set_option linter.unusedVariables false
set_option maxRecDepth 100000

def StrPost (l : List UInt8) (w : World) (e : Ending) (w' : World) : Prop := e = .returned (.string (S l)) ∧ Below w.heap.size w w'
theorem conv1 {W : World} {op : UInt8} {H : Nat} (hH : W.heap.size = H) : (convert 36 9 (.slice (some ⟨H, 0, none⟩) 1 1)).run Tryd.prog (W.alloc (.cells #[.int .u8 op.toNat] 5)) = .ok (.string (S [op])) (W.alloc (.cells #[.int .u8 op.toNat] 5)) := by
  obtain ⟨A, c, e, h⟩ := (Row.made W [op] 0 H hH (Nat.zero_le _) (by simp)).str
  injection e with e1 _ e2
  subst e1; subst e2
  exact h 9 Tryd.underlying9
theorem conv2 {W : World} {op H : Nat} (hH : W.heap.size = H) (x : Int) (h0 : 0 ≤ x) (h1 : x ≤ 255) : (convert 36 9 (.slice (some ⟨H, 0, none⟩) 1 1)).run Tryd.prog (W.alloc (.cells #[.int .u8 x] 5)) = .ok (.string (S [UInt8.ofNat x.toNat])) (W.alloc (.cells #[.int .u8 x] 5)) := by
  have := conv1 (op := UInt8.ofNat x.toNat) hH
  rwa [u8_of h0 h1] at this

section
variable {w W W' : World} {i : I} {A : Option Addr} {c : Nat}
theorem BoxI.on3 (h : BoxI w W i A c) {O O' : Obj} (hb : Below ((W.alloc O).alloc O').heap.size ((W.alloc O).alloc O') W') : BoxI w W' i A c := ((h.on (below_box W O)).on (below_box _ O')).on hb
theorem BoxI.two3 (h : BoxI w W i A c) (O O' : Obj) : BoxI w ((W.alloc O).alloc O') i A c := (h.on (below_box W O)).on (below_box _ O')
theorem BoxI.three (h : BoxI w W i A c) : BoxI w W i A c ∧ W.cell? ⟨w.heap.size, 1, none⟩ = some (.int .u64 i.a) ∧ W.cell? ⟨w.heap.size, 2, none⟩ = some (.int .u64 i.b) := ⟨h, h.c1, h.c2⟩
theorem held_num {K : Nat} {args : Array Value} {l : List UInt8} (hN : ∀ W, Calls Tryd.prog K args W (StrPost l W)) (h : BoxI w W i A c ∧ W.cell? ⟨w.heap.size, 1, none⟩ = some (.int .u64 i.a) ∧ W.cell? ⟨w.heap.size, 2, none⟩ = some (.int .u64 i.b)) :
    Calls Tryd.prog K args W fun e w' => e = .returned (.string (S l)) ∧ BoxI w w' i A c ∧ w'.cell? ⟨w.heap.size, 1, none⟩ = some (.int .u64 i.a) ∧ w'.cell? ⟨w.heap.size, 2, none⟩ = some (.int .u64 i.b) :=
  (hN W).mono fun _ _ ⟨h1, h2⟩ => ⟨h1, BoxI.three (h.1.on h2)⟩
end
theorem str_put {i : I} {l : List UInt8} {s : ByteArray} {w W : World} (hp : putL i = l) (hs : s = S l) (hb : Below w.heap.size w W) : StrPost (putL i) w (.returned (.string s)) W := ⟨by rw [hs, hp], hb⟩
end Go.Proofs.YtohliaellefhaaaDoor

/- Single steps of a region that draws its order: what makes memory or writes. -/
namespace Go.Proofs.YtohliaellefhaaaDoor
open Go.RowKit
set_option linter.unusedVariables false

/-- []byte(s): its block. -/
def convRow (W : World) (s : ByteArray) : Obj := .cells (bytesRow s (grownCap W s.size 0 5)) 5 ((bytesRow s (grownCap W s.size 0 5)).size, (bytesRow s (grownCap W s.size 0 5)).size + 1)
theorem conv_run (s : ByteArray) (W : World) : (convert 9 36 (.string s)).run Tryd.prog W = .ok (.slice (some ⟨W.heap.size, 0, none⟩) s.size (grownCap W s.size 0 5)) (W.drew.alloc (convRow W s)) :=
  run_bytes_of_string (P := Tryd.prog) W 9 36 5 s Tryd.underlying9 Tryd.underlying36 Tryd.underlying5
theorem conv_lies (W : World) (l : List UInt8) : Lies (W.drew.alloc (convRow W (S l))) (W.heap.size + 1) (some ⟨W.heap.size, 0, none⟩) (cells (nums l)) := by
  intro i v hv
  refine ⟨W.heap.size, 0, rfl, by omega, ?_⟩
  have hi : i < l.length := by
    have := (List.getElem?_eq_some_iff.1 hv).1
    rw [cells_length, nums_length] at this
    exact this
  rw [Nat.zero_add, ← hv]
  have hr : (bytesRow (S l) (grownCap W (S l).size 0 5))[i]? = (cells (nums l))[i]? := by
    unfold bytesRow S cells nums
    simp [Array.getElem?_append, hi]
  rw [← hr]
  exact cell_of_row _ W.heap.size i _ _ _ (heap_alloc_new W.drew _)
theorem Lies.put {w : World} {B g bb : Nat} {vs : List Value} (h : Lies w B (some ⟨g, 0, none⟩) vs) (hne : g ≠ bb) (i : Nat) (v : Value) : Lies (w.setCell ⟨bb, i, none⟩ v) B (some ⟨g, 0, none⟩) vs := fun j u hu => by
  obtain ⟨b, off, e, h1, h2⟩ := h j u hu
  injection e with e
  injection e with e1 e2
  subst e1; subst e2
  refine ⟨g, 0, rfl, h1, ?_⟩
  rw [← h2]
  exact World.cell?_of_block (a := ⟨g, 0 + j, none⟩) (heap_setCell_other w ⟨bb, i, none⟩ g v hne)
section
variable {w : World} {ops : Array Oper} {o : Oper} {a : Act} {K : Act → World → Prop} {Q : Exit → Act → World → Prop} {E : Prop}
theorem step_value {v : Value} {w' : World} (hgd : o.guard = none) (h : (execOp a.eval o).run Tryd.prog w = .ok (.value v) w') (hK : K (a.put o.dst v) w') :
    if Region.wanted o (yielded ops a.tmps) = true then Oper.wp Tryd.prog o a w K Q else E := by
  have hw : Region.wanted o (yielded ops a.tmps) = true := by simp [Region.wanted, hgd]
  rw [if_pos hw]
  unfold Oper.wp
  rw [h]
  exact hK
theorem step_skip {w' : World} (hgd : o.guard = none) (h : (execOp a.eval o).run Tryd.prog w = .ok .skip w') (hK : K (a.put o.dst undef) w') :
    if Region.wanted o (yielded ops a.tmps) = true then Oper.wp Tryd.prog o a w K Q else E := by
  have hw : Region.wanted o (yielded ops a.tmps) = true := by simp [Region.wanted, hgd]
  rw [if_pos hw]
  unfold Oper.wp
  rw [h]
  exact hK
/-- A cell for a slice of bytes is made. -/
theorem step_alloc (hgd : o.guard = none) (ho : o.op = .alloc 36) (h : ∀ bb wa, w.heap.size ≤ bb → bb < wa.heap.size → Below w.heap.size w wa → Whole wa bb 36 #[.slice none 0 0] → K (a.put o.dst (.pointer (some ⟨bb, 0, none⟩))) wa) :
    if Region.wanted o (yielded ops a.tmps) = true then Oper.wp Tryd.prog o a w K Q else E := by
  refine step_value (w' := w.alloc (.cells #[.slice none 0 0] 36)) hgd ?_ (h _ _ (Nat.le_refl _) (by simp) (below_box w _) (Whole.made w _ _))
  cases o
  subst ho
  simp [go_sem]
/-- []byte(s). -/
theorem step_conv (hgd : o.guard = none) (x : Operand) (ho : o.op = .convert 9 36 x) (l : List UInt8) (hx : a.eval x = .string (S l))
    (h : ∀ g cap wc, w.heap.size ≤ g → g < wc.heap.size → l.length ≤ cap → Below w.heap.size w wc → Lies wc wc.heap.size (some ⟨g, 0, none⟩) (cells (nums l)) → K (a.put o.dst (.slice (some ⟨g, 0, none⟩) l.length cap)) wc) :
    if Region.wanted o (yielded ops a.tmps) = true then Oper.wp Tryd.prog o a w K Q else E := by
  have hr := conv_run (S l) w
  have hg := grownCap_ge w (S l).size 0 5
  rw [S_size] at hg
  refine step_value (v := .slice (some ⟨w.heap.size, 0, none⟩) l.length (grownCap w l.length 0 5)) (w' := w.drew.alloc (convRow w (S l))) hgd ?_ (h _ _ _ (Nat.le_refl _) (by simp) hg ((Below.refl _ _).drew.alloc (Nat.le_refl _) _) ((conv_lies w l).more (by simp)))
  cases o
  subst ho
  rw [S_size] at hr
  clear h
  generalize a.eval = ev at hx ⊢
  simp [go_sem, hx, hr]
/-- The cell is written. -/
theorem step_store (hgd : o.guard = none) (pa pv : Operand) (ho : o.op = .store 36 pa pv) (bb : Nat) (A : Option Addr) (n c : Nat) (hx : a.eval pa = .pointer (some ⟨bb, 0, none⟩)) (hv : a.eval pv = .slice A n c) {y : Value}
    (hw : Whole w bb 36 #[y]) (h : K (a.put o.dst undef) (w.setCell ⟨bb, 0, none⟩ (.slice A n c))) :
    if Region.wanted o (yielded ops a.tmps) = true then Oper.wp Tryd.prog o a w K Q else E := by
  have c0 := hw.cell 0
  have f0 := hw.frozen 0
  simp only [List.getElem?_toArray, List.getElem?_cons_zero] at c0
  refine step_skip hgd ?_ h
  cases o
  subst ho
  clear h
  generalize a.eval = ev at hx hv ⊢
  simp [go_sem, hx, hv, c0, f0]
end
end Go.Proofs.YtohliaellefhaaaDoor

/- The reference's Types, Count, Put of bodies. -/
namespace Go.Proofs.YtohliaellefhaaaDoor
open Go.RowKit
set_option linter.unusedVariables false
set_option maxRecDepth 100000

section
variable {w : World} {ops : Array Oper} {o : Oper} {a : Act} {K : Act → World → Prop} {Q : Exit → Act → World → Prop} {E : Prop}
theorem step_build1 (hgd : o.guard = none) (x : Operand) (ho : o.op = .buildSlice 36 1 #[(0, x)]) (c : UInt8) (hx : a.eval x = .int .u8 c.toNat)
    (h : ∀ g wa, w.heap.size ≤ g → Below w.heap.size w wa → Pc (some ⟨g, 0, none⟩) 1 [c] wa → K (a.put o.dst (.slice (some ⟨g, 0, none⟩) 1 1)) wa) :
    if Region.wanted o (yielded ops a.tmps) = true then Oper.wp Tryd.prog o a w K Q else E := by
  have hl := lies_made w [c] (0, 0)
  refine step_value (v := .slice (some ⟨w.heap.size, 0, none⟩) 1 1) (w' := w.alloc (.cells (cells (nums [c])).toArray 5)) hgd ?_ (h _ _ (Nat.le_refl _) (below_box w _) ⟨by rw [size_box]; exact hl, fun e => by cases e⟩)
  cases o
  subst ho
  clear h
  generalize a.eval = ev at hx ⊢
  simp [go_sem, hx, cells, nums]
end
/-- string(b), behind the walk's own simplifying. -/
theorem upon_str {o : Oper} {a : Act} {K : Act → World → Prop} {Q : Exit → Act → World → Prop} {W : World} {A : Option Addr} {c : Nat} {l : List UInt8} (hp : Pc A c l W) (h : K (a.put o.dst (.string (S l))) W) :
    Oper.upon Tryd.prog o a K Q (((convert 36 9 (.slice A l.length c)).run Tryd.prog W).andThen fun v w' => Result.ok (Next.value v) w') := by
  rw [str_any hp.lies c 9 Tryd.underlying9]
  exact h
theorem typL_snoc {l : List Lo} {k : Nat} {x : Lo} (h : l[k]? = some x) : typL (l.take (k + 1)) = typL (l.take k) ++ List.replicate x.n.toNat x.t := by
  unfold typL
  rw [List.take_add_one, h, List.flatMap_append]
  simp
theorem typL_take (l : List Lo) (k : Nat) : (typL (l.take k)).length ≤ (typL l).length := by
  conv => rhs; rw [← List.take_append_drop k l]
  unfold typL
  rw [List.flatMap_append, List.length_append]
  omega
/-- One byte as a string. -/
theorem str_byte (W : World) (t : UInt8) : (convert 36 9 (.slice (some ⟨W.heap.size, 0, none⟩) 1 1)).run Tryd.prog (W.alloc (.cells #[.int .u8 t.toNat] 5)) = .ok (.string (S [t])) (W.alloc (.cells #[.int .u8 t.toNat] 5)) :=
  str_any (lies_made W [t] (0, 0)) 1 9 Tryd.underlying9
set_option maxHeartbeats 4000000 in
theorem rtypes_any {w : World} {A : Option Addr} {c : Nat} {l : List Lo} {ps rs : List UInt8} (hl : Los w A l) (h0 : 0 ≤ locGo 0 l) (hps : ps.length ≤ 100000) (hn : (l.length : Int) ≤ 9223372036854775807) :
    Calls Tryd.prog 9 #[.agg #[.string (S ps), .string (S rs)], .slice A l.length c] w fun e w' => e = .returned (.string (S (ps ++ typL l))) ∧ Below w.heap.size w w' := by
  have HL := Lib.hid hl
  have hB0 := below_box w (.cells #[.string (S ps), .string (S rs)] 23)
  have HB0 := Lib.hid hB0
  have hb0 := (Whole.made w 23 #[.string (S ps), .string (S rs)]).cell 0
  simp only [List.getElem?_toArray, List.getElem?_cons_zero, List.getElem?_cons_succ] at hb0
  have htl := (typL_len 0 l h0).2 (by omega)
  have HTK := Lib.hid (fun k => typL_take l k)
  obtain ⟨P, hP⟩ : ∃ P, P = ps ++ typL l := ⟨_, rfl⟩
  have HP := Lib.hid hP
  rw [← hP]
  obtain ⟨n, hnn⟩ : ∃ n, n = l.length := ⟨_, rfl⟩
  have HNN := Lib.hid hnn
  rw [← hnn] at hn ⊢
  clear hl hP hB0 hnn h0
  go_enter Tryd.func9, Tryd.ntmps9
  go_wp2
  generalize w.alloc (.cells #[.string (S ps), .string (S rs)] 23) = W0 at *
  go_loopw [5, 6] (fun s i wr => ∃ (k : Nat), k ≤ n ∧ i = .int .i64 k ∧ s = .string (S (ps ++ typL (l.take k))) ∧ Below w.heap.size w wr) (fun _ i _ => n - (intOf i).toNat)
  case atStart => exact ⟨0, Nat.zero_le _, rfl, by simp [typL], HB0.out⟩
  case round =>
    obtain ⟨k, hk, rfl, rfl, hb⟩ := hrel
    by_cases hlt : k < n
    · obtain ⟨x, hx⟩ : ∃ x, l[k]? = some x := ⟨_, List.getElem?_eq_getElem (by rw [← HNN.out]; exact hlt)⟩
      have hfive := fun W (h : Below w.heap.size w W) => (HL.out.below h) k x hx
      have HS := Lib.hid (typL_snoc hx)
      have hks := HTK.out (k + 1)
      rw [HS.out, List.length_append, List.length_replicate] at hks
      have hxn := x.n.toNat_lt
      have wv : IntKind.i64.wrap (x.n.toNat : Int) = x.n.toNat := by rw [IntKind.wrap_i64]; omega
      have HF := Lib.hid hfive
      have HB := Lib.hid hb
      obtain ⟨t0, ht0⟩ : ∃ t0, t0 = typL (l.take k) := ⟨_, rfl⟩
      rw [← ht0] at hks HS ⊢
      clear hb hx hfive ht0
      go_wp2
      go_loopw [5, 7] (fun s i wr => ∃ (j : Nat), j ≤ x.n.toNat ∧ i = .int .i64 j ∧ s = .string (S (ps ++ t0 ++ List.replicate j x.t)) ∧ Below w.heap.size w wr) (fun _ i _ => x.n.toNat - (intOf i).toNat)
      case atStart => exact ⟨0, Nat.zero_le _, rfl, by simp, HB.out⟩
      case round =>
        obtain ⟨j, hj, rfl, rfl, hb⟩ := hrel
        obtain ⟨b, off, hA, hbl, c0, c1⟩ := HF.out _ hb
        subst hA
        have HB2 := Lib.hid hb
        by_cases hjl : j < x.n.toNat
        · obtain ⟨u, hu⟩ : ∃ u, u = ps ++ t0 ++ List.replicate j x.t := ⟨_, rfl⟩
          have hul : u.length ≤ 200000 := by rw [hu]; simp only [List.length_append, List.length_replicate]; omega
          have HU := Lib.hid hu
          rw [← hu]
          have su := S_size u
          have st := S_size [x.t]
          rw [List.length_singleton] at st
          have q1 : ¬ 9223372036854775807 < (S u).size + (S [x.t]).size := by omega
          have hcv := str_byte wr x.t
          clear hb hu su st
          go_wp2
          go_roundw
          case rel => exact ⟨j + 1, by omega, by go_num, by rw [List.replicate_succ', ← List.append_assoc, ← HU.out, S_append], HB2.out.trans ((below_box wr _).mono HB2.out.size)⟩
          case measure => simp [intOf]; omega
        · have hjx : j = x.n.toNat := by omega
          clear hb
          go_wp2
          go_roundw
          case rel => exact ⟨k + 1, by omega, by go_num, by rw [HS.out, hjx, List.append_assoc], HB2.out⟩
          case measure => simp [intOf]; omega
    · have hkn : k = l.length := by rw [← HNN.out]; omega
      have HB := Lib.hid hb
      have e : ps ++ typL (l.take k) = P := by rw [HP.out, hkn, List.take_length]
      clear hb hkn
      rw [e]
      go_wp2
      go_ret
      exact ⟨rfl, HB.out⟩
end Go.Proofs.YtohliaellefhaaaDoor
