/- Bits that lie somewhere; rows of bits of the call's own. -/
import Derived.Test.YtjgdfajooccalaaDoorZd01
import Derived.Deep.OwnRows
import Derived.OwnWalk
import Derived.Lib.Hide
import Derived.Test.YtjgdfajooccalaaDoorZd02
import Derived.Deep.QuietTactic
import Derived.Deep.CutBlock
import Derived.Deep.DeepCutAuto
import Derived.WalkLawsBesides
import Derived.BigQuiet
import Derived.LoopTactic
import Derived.Deep.DeepMust
namespace Go.Proofs.YtjgdfajooccalaaDoor
open Go.RowKit
set_option linter.unusedVariables false
set_option maxRecDepth 100000

def cellsB (l : List Bool) : List Value := l.map fun b => .bool b
theorem cellsB_get {l : List Bool} {i : Nat} {b : Bool} (h : l[i]? = some b) : (cellsB l)[i]? = some (.bool b) := by
  unfold cellsB; rw [List.getElem?_map, h]; rfl
theorem cellsB_len (l : List Bool) : (cellsB l).length = l.length := by simp [cellsB]
theorem infoBool : (Tryd.prog.info? 4).map (fun i => (i.zero, i.size, i.bytes)) = some (some (.bool false), 1, 1) := by kernel_rfl
/-- The slice at A reads as these bits. -/
def LB (w : World) (A : Option Addr) (l : List Bool) : Prop := Lies w w.heap.size A (cellsB l)
theorem LB.below {w w' : World} {A : Option Addr} {l : List Bool} (h : LB w A l) (hb : Below w.heap.size w w') : LB w' A l := (Lies.below h hb (Nat.le_refl _)).more hb.size
theorem LB.at {w : World} {A : Option Addr} {l : List Bool} (h : LB w A l) {i : Nat} {d : Bool} (hd : l[i]? = some d) : ∃ b off, A = some ⟨b, off, none⟩ ∧ b < w.heap.size ∧ w.cell? ⟨b, off + i, none⟩ = some (.bool d) := h i _ (cellsB_get hd)
def RowB (W : World) (base : Nat) (v : Value) (acc : List Bool) : Prop := W.ownsRow base 4 1 v acc.length (cellsB acc)
theorem RowB.nil (W : World) (base : Nat) : RowB W base (.slice none 0 0) [] := World.ownsRow_nil W base _ 1
theorem RowB.later {W W' : World} {base : Nat} {v : Value} {acc : List Bool} (h : RowB W base v acc) (hb : Below W.heap.size W W') : RowB W' base v acc :=
  World.ownsRow.kept h (gb_of_below none hb) (by cases v.ownBlock with
    | none => exact .inl rfl
    | some k => exact .inr (by simp))
theorem RowB.below {w W W' : World} {base : Nat} {v : Value} {acc : List Bool} (h : RowB W base v acc) (hB : base ≤ W.heap.size) (hg : W.grownBy W' v.ownBlock) : Below base W W' :=
  Below.grown (Below.refl _ _) hg hB (fun k hk => (World.ownsRow.lt h k hk).1)
/-- The beginning of a block of one's own. -/
def OB (W : World) (base : Nat) (A : Option Addr) (l : List Bool) : Prop := ∃ g cur, A = some ⟨g, 0, none⟩ ∧ base ≤ g ∧ Whole W g 4 cur ∧ cur.toList.take l.length = cellsB l
theorem RowB.ob {W : World} {base : Nat} {v : Value} {l : List Bool} (h : RowB W base v l) (hl : 0 < l.length) : ∃ A c, v = .slice A l.length c ∧ OB W base A l := by
  rcases h.2 with ⟨rfl, h0⟩ | ⟨g, cap, cur, rfl, hb, hg, _, _, _, ht⟩
  · omega
  · exact ⟨_, _, rfl, g, cur, rfl, hb, hg, by rw [Nat.mul_one] at ht; exact ht⟩
theorem OB.lb {W : World} {base : Nat} {A : Option Addr} {l : List Bool} (h : OB W base A l) : LB W A l := by
  obtain ⟨g, cur, rfl, _, h, ht⟩ := h
  intro j v hv
  refine ⟨g, 0, rfl, h.lt, ?_⟩
  rw [h.cell]
  have hj : j < l.length := by have := (List.getElem?_eq_some_iff.1 hv).1; rwa [cellsB_len] at this
  rw [← ht] at hv
  rw [List.getElem?_take, if_pos hj] at hv
  simpa using hv
theorem OB.later {W W' : World} {base : Nat} {A : Option Addr} {l : List Bool} (h : OB W base A l) (hb : Below W.heap.size W W') : OB W' base A l := by
  obtain ⟨g, cur, e, h1, h, ht⟩ := h
  exact ⟨g, cur, e, h1, h.below hb, ht⟩
theorem OB.mono {W : World} {base base' : Nat} {A : Option Addr} {l : List Bool} (h : OB W base A l) (hb : base' ≤ base) : OB W base' A l := by
  obtain ⟨g, cur, e, h1, h⟩ := h
  exact ⟨g, cur, e, Nat.le_trans hb h1, h⟩
theorem OB.lt {W : World} {base g : Nat} {l : List Bool} (h : OB W base (some ⟨g, 0, none⟩) l) : base ≤ g ∧ g < W.heap.size := by
  obtain ⟨g2, cur, e, h1, h, _⟩ := h
  injection e with e
  injection e with e
  subst e
  exact ⟨h1, h.lt⟩
theorem OB.below {W W' : World} {base : Nat} {A : Option Addr} {l : List Bool} (h : OB W base A l) (hb : Below W.heap.size W W') : OB W' base A l := h.later hb
/-- A new block of zero bits. -/
theorem OB.zero (w : World) (n : Nat) : OB (w.alloc (.cells (madeCells #[.bool false] n) 4)) w.heap.size (some ⟨w.heap.size, 0, none⟩) (List.replicate n false) := by
  refine ⟨_, _, rfl, Nat.le_refl _, Whole.made w _ _, ?_⟩
  unfold cellsB
  rw [List.length_replicate, List.map_replicate]
  apply List.ext_getElem?
  intro i
  rw [List.getElem?_take]
  by_cases h : i < n
  · rw [if_pos h, List.getElem?_replicate, if_pos h, Array.getElem?_toList]
    unfold madeCells
    simp [h, Nat.mod_one]
  · rw [if_neg h, List.getElem?_replicate, if_neg h]
/-- One bit is set. -/
theorem OB.put {W : World} {base g : Nat} {l : List Bool} (h : OB W base (some ⟨g, 0, none⟩) l) (i : Nat) (b : Bool) (hi : i < l.length) : OB (W.setCell ⟨g, i, none⟩ (.bool b)) base (some ⟨g, 0, none⟩) (l.set i b) := by
  obtain ⟨g2, cur, e, h1, h, ht⟩ := h
  injection e with e
  injection e with e1
  subst e1
  refine ⟨g, _, rfl, h1, h.put i _, ?_⟩
  have hc : l.length ≤ cur.size := by
    have h9 := congrArg List.length ht
    simp only [List.length_take, cellsB_len, Array.length_toList] at h9
    omega
  unfold cellsB at *
  rw [List.length_set, List.map_set, ← ht, Array.toList_setIfInBounds, List.take_set]
theorem OB.at {W : World} {base : Nat} {A : Option Addr} {l : List Bool} (h : OB W base A l) {i : Nat} {d : Bool} (hd : l[i]? = some d) : ∃ g, A = some ⟨g, 0, none⟩ ∧ base ≤ g ∧ g < W.heap.size ∧ W.cell? ⟨g, i, none⟩ = some (.bool d) ∧ W.frozen? ⟨g, i, none⟩ = false := by
  obtain ⟨b, off, e, h2, h3⟩ := h.lb.at hd
  obtain ⟨g, cur, rfl, h4, h5, _⟩ := h
  injection e with e
  injection e with e1 e2
  subst e1; subst e2
  rw [Nat.zero_add] at h3
  exact ⟨g, rfl, h4, h5.lt, h3, h5.frozen i⟩
/-- append of a new block of one bit. -/
theorem rowB_new {w : World} {ops : Array Oper} {rest : List Oper} {o : Oper} {a : Act} {Q : Exit → Act → World → Prop} (hgd : o.guard = none) (s x : Operand)
    (ho : o.op = .call { callee := .builtin .append, args := #[s, x], argTypes := #[38, 38] })
    (B : Nat) (v : Value) (acc : List Bool) (hs : a.eval s = v) (hr : RowB w B v acc) (g : Nat) (y : Bool) (hx : a.eval x = .slice (some ⟨g, 0, none⟩) 1 1)
    (hg : Whole w g 4 #[.bool y]) (hb : acc.length ≤ 1000) (hB : B ≤ w.heap.size)
    (h : ∀ v' w', RowB w' B v' (acc ++ [y]) → Below B w w' → wpList Tryd.prog ops Q rest (a.put o.dst v') w') : wpList Tryd.prog ops Q (o :: rest) a w := by
  obtain ⟨i0, hi0, hz0, hz1, hz2⟩ := info_parts infoBool
  refine wpList_append_own _ hgd s x _ ho B 4 i0 _ 1 1 Tryd.underlying38 hi0 hz0 hz1 hz2 rfl (by omega) v _ _ hs hr ⟨g, 0, none⟩ 1 1 [.bool y] hx rfl ?_ ?_ (by unfold maxLen; omega) (by omega) hB (fun v' w' h2 h3 _ => h v' w' ?_ (RowB.below (w := w) hr hB h3))
  · intro j u hu
    rw [Go.WideShapes.add_plain, Nat.zero_add, hg.cell]
    simpa using hu
  · intro u hu
    simp only [List.mem_cons, List.not_mem_nil, or_false] at hu
    subst hu
    rfl
  · unfold RowB
    rw [List.length_append]
    unfold cellsB at *
    rw [List.map_append]
    simpa using h2
end Go.Proofs.YtjgdfajooccalaaDoor

/- Bits, Number, truth, add, not, less of creelref19. (By gen/genBt.py.) -/
namespace Go.Proofs.YtjgdfajooccalaaDoor
open Go.RowKit
set_option linter.unusedVariables false
set_option maxRecDepth 100000

/-- What hands back N bits of its own. -/
def Ownw (l : List Bool) (w : World) (e : Ending) (w' : World) : Prop := ∃ A c, e = .returned (.slice A 64 c) ∧ OB w' w.heap.size A l ∧ Below w.heap.size w w'
set_option maxHeartbeats 1000000 in
theorem bitsw (x : Nat) (w : World) (hx : x < 18446744073709551616) : Calls Tryd.prog 14 #[.int .u64 x] w (Ownw (bitsL 64 x) w) := by
  go_enter Tryd.func14, Tryd.ntmps14
  go_wp2
  go_loopw [0, 3, 4] (fun v o i wr => ∃ k : Nat, k ≤ 64 ∧ i = .int .i64 k ∧ v = .int .u64 ((x / 2 ^ k : Nat) : Int) ∧ RowB wr w.heap.size o (bitsL k x) ∧ Below w.heap.size w wr) (fun _ _ i _ => 64 - (intOf i).toNat)
  case atStart => exact ⟨0, Nat.zero_le _, rfl, by simp, RowB.nil _ _, Below.refl _ _⟩
  case round =>
    obtain ⟨k, hk, rfl, rfl, hr, hb⟩ := hrel
    have hz := hb.size
    by_cases hlt : k < 64
    · have hl := bitsL_len k x
      have HS := Lib.hid (bitsL_snoc k x)
      obtain ⟨y, hy⟩ : ∃ y, y = x / 2 ^ k := ⟨_, rfl⟩
      have hy2 : y < 18446744073709551616 := by rw [hy]; exact Nat.lt_of_le_of_lt (Nat.div_le_self _ _) hx
      have HD := Lib.hid (show x / 2 ^ (k + 1) = y / 2 by rw [hy, Nat.div_div_eq_div_mul, Nat.pow_succ])
      rw [← hy]
      rw [← hy] at HS
      obtain ⟨b, hbb⟩ : ∃ b, b = (y % 2 == 1) := ⟨_, rfl⟩
      rw [← hbb] at HS
      have e2 : ((y : Int) % 2 == 1) = b := (odd_eq y).trans hbb.symm
      have HR := Lib.hid (hr.later (below_box wr (.cells #[.bool b] 4)))
      have HB := Lib.hid (hb.alloc hz (.cells #[.bool b] 4))
      have HX := Lib.hid (Whole.made wr 4 #[.bool b])
      have hsz : (wr.alloc (.cells #[.bool b] 4)).heap.size = wr.heap.size + 1 := size_box _ _
      obtain ⟨acc, hacc⟩ : ∃ acc, acc = bitsL k x := ⟨_, rfl⟩
      rw [← hacc] at HR HS hl
      clear hr hb hbb hy hacc
      go_wp2_with (at_builtin; (refine rowB_new rfl _ _ rfl w.heap.size _ acc rfl HR.out wr.heap.size b rfl HX.out (by omega) (by rw [hsz]; omega) ?_; intro v2 w2 hr2 hb2; have HR2 := Lib.hid hr2; have HB2 := Lib.hid (HB.out.trans hb2); clear hr2 hb2))
      go_roundw
      case rel => exact ⟨k + 1, by omega, by go_num, by rw [HD.out, Int.natCast_ediv]; rfl, by rw [HS.out]; exact HR2.out, HB2.out⟩
      case measure => simp [intOf]; omega
    · obtain rfl : k = 64 := by omega
      obtain ⟨A, c, rfl, ho⟩ := hr.ob (by rw [bitsL_len]; omega)
      rw [bitsL_len]
      have HO := Lib.hid ho
      have HB := Lib.hid hb
      clear hr hb ho
      go_wp2
      go_ret
      exact ⟨A, c, rfl, HO.out, HB.out⟩
theorem truthw (b : Bool) (w : World) : Calls Tryd.prog 15 #[.bool b] w fun e w' => e = .returned (.int .u64 (b.toNat : Nat)) ∧ w = w' := by
  cases b
  · go_enter Tryd.func15, Tryd.ntmps15
    go_wp2
    go_ret
    exact ⟨rfl, rfl⟩
  · go_enter Tryd.func15, Tryd.ntmps15
    go_wp2
    go_ret
    exact ⟨rfl, rfl⟩
end Go.Proofs.YtjgdfajooccalaaDoor

/- add, not, less, turned, shift, rotate of creelref19. (By gen/genBt.py.) -/
namespace Go.Proofs.YtjgdfajooccalaaDoor
open Go.RowKit
set_option linter.unusedVariables false
set_option maxRecDepth 100000

end Go.Proofs.YtjgdfajooccalaaDoor

/- shift, rotate, times of creelref19. (By gen/genBt.py.) -/
namespace Go.Proofs.YtjgdfajooccalaaDoor
open Go.RowKit
set_option linter.unusedVariables false
set_option maxRecDepth 100000

end Go.Proofs.YtjgdfajooccalaaDoor

/- divide of creelref19. (By gen/genBt.py.) -/
namespace Go.Proofs.YtjgdfajooccalaaDoor
open Go.RowKit
set_option linter.unusedVariables false
set_option maxRecDepth 100000

end Go.Proofs.YtjgdfajooccalaaDoor

/- signed, quotient, bit of creelref19. (By gen/genBt.py.) -/
namespace Go.Proofs.YtjgdfajooccalaaDoor
open Go.RowKit
set_option linter.unusedVariables false
set_option maxRecDepth 100000

end Go.Proofs.YtjgdfajooccalaaDoor

/- One of creelref19. (By gen/genBt.py.) -/
namespace Go.Proofs.YtjgdfajooccalaaDoor
open Go.RowKit
set_option linter.unusedVariables false
set_option maxRecDepth 100000

set_option maxHeartbeats 2000000 in
theorem oneNow {w : World} (op : Int) (v : Nat) (hv : v < 18446744073709551616) (h0 : op ≠ 80) (h1 : op ≠ 121) (h2 : op ≠ 122) (h3 : op ≠ 123) :
    Calls Tryd.prog 7 #[.int .i64 op, .int .u64 v] w fun e w' => e = .returned (.tuple #[.int .u64 0, .bool false]) ∧ Below w.heap.size w w' := by
  have d0 : (op == 80) = false := by simpa using h0
  have d1 : (op == 121) = false := by simpa using h1
  have d2 : (op == 122) = false := by simpa using h2
  have d3 : (op == 123) = false := by simpa using h3
  have HBa := Lib.hid (bitsw v w hv)
  have na := bitsL_len 64 v
  obtain ⟨a, ha⟩ : ∃ a, a = bitsL 64 v := ⟨_, rfl⟩
  rw [← ha] at HBa na
  unfold Ownw at HBa
  clear ha h0 h1 h2 h3
  go_enter Tryd.func7, Tryd.ntmps7
  go_wp2_with (go_at_call 14; (with_reducible refine HBa.out.mono ?_); rintro e w1 ⟨A1, c1, rfl, ho1, hb1⟩; have HO1 := Lib.hid ho1.lb; have HB1 := Lib.hid hb1; clear ho1 hb1)
  go_loop [8, 9] (fun o i => ∃ k : Nat, k ≤ 64 ∧ i = .int .i64 k ∧ o = .int .u64 (cntL (a.take k))) (fun _ i => 64 - (intOf i).toNat)
  case atStart => exact ⟨0, Nat.zero_le _, rfl, rfl⟩
  case round =>
    obtain ⟨k, hk, rfl, rfl⟩ := hrel
    by_cases hlt : k < 64
    · obtain ⟨x, hx⟩ : ∃ x, a[k]? = some x := ⟨_, List.getElem?_eq_getElem (by omega)⟩
      obtain ⟨bl, off, rfl, _, hc1⟩ := HO1.out.at hx
      have HS := Lib.hid (cntL_snoc hx)
      have hc9 := cntL_le (a.take k)
      rw [List.length_take] at hc9
      have hx1 : x.toNat ≤ 1 := by cases x <;> decide
      have HT := Lib.hid (truthw x w1)
      obtain ⟨o, ho⟩ : ∃ o, o = cntL (a.take k) := ⟨_, rfl⟩
      rw [← ho] at HS hc9 ⊢
      obtain ⟨xn, hxn⟩ : ∃ xn, xn = x.toNat := ⟨_, rfl⟩
      rw [← hxn] at HT HS hx1
      have q1 : IntKind.u64.wrap ((o : Int) + (xn : Int)) = ((o + xn : Nat) : Int) := by simp only [IntKind.wrap, IntKind.bits, IntKind.signed]; simp; omega
      clear hx ho hxn
      go_wp2_with (go_at_call 15; (with_reducible refine HT.out.mono ?_); rintro e w2 ⟨rfl, rfl⟩)
      go_round
      case rel => exact ⟨k + 1, by omega, by go_num, by rw [HS.out]; exact congrArg (Value.int .u64) (by omega)⟩
      case measure => simp [intOf]; omega
    · obtain rfl : k = 64 := by omega
      rw [List.take_of_length_le (by omega)]
      go_wp2
      go_ret2
      exact ⟨rfl, HB1.out⟩
set_option maxHeartbeats 2000000 in
theorem onew0 {w : World} (v : Nat) (hv : v < 18446744073709551616) :
    Calls Tryd.prog 7 #[.int .i64 80, .int .u64 v] w fun e w' => e = .returned (.tuple #[.int .u64 ((cntL (bitsL 64 v) == 0).toNat : Nat), .bool true]) ∧ Below w.heap.size w w' := by
  have HBa := Lib.hid (bitsw v w hv)
  have na := bitsL_len 64 v
  obtain ⟨a, ha⟩ : ∃ a, a = bitsL 64 v := ⟨_, rfl⟩
  rw [← ha] at HBa na
  unfold Ownw at HBa
  rw [← ha]
  clear ha
  obtain ⟨z, hz⟩ : ∃ z, z = (cntL a == 0) := ⟨_, rfl⟩
  rw [← hz]
  have HZ := Lib.hid hz
  clear hz
  go_enter Tryd.func7, Tryd.ntmps7
  go_wp2_with (go_at_call 14; (with_reducible refine HBa.out.mono ?_); rintro e w1 ⟨A1, c1, rfl, ho1, hb1⟩; have HO1 := Lib.hid ho1.lb; have HB1 := Lib.hid hb1; clear ho1 hb1)
  go_loop [8, 9] (fun o i => ∃ k : Nat, k ≤ 64 ∧ i = .int .i64 k ∧ o = .int .u64 (cntL (a.take k))) (fun _ i => 64 - (intOf i).toNat)
  case atStart => exact ⟨0, Nat.zero_le _, rfl, rfl⟩
  case round =>
    obtain ⟨k, hk, rfl, rfl⟩ := hrel
    by_cases hlt : k < 64
    · obtain ⟨x, hx⟩ : ∃ x, a[k]? = some x := ⟨_, List.getElem?_eq_getElem (by omega)⟩
      obtain ⟨bl, off, rfl, _, hc1⟩ := HO1.out.at hx
      have HS := Lib.hid (cntL_snoc hx)
      have hc9 := cntL_le (a.take k)
      rw [List.length_take] at hc9
      have hx1 : x.toNat ≤ 1 := by cases x <;> decide
      have HT := Lib.hid (truthw x w1)
      obtain ⟨o, ho⟩ : ∃ o, o = cntL (a.take k) := ⟨_, rfl⟩
      rw [← ho] at HS hc9 ⊢
      obtain ⟨xn, hxn⟩ : ∃ xn, xn = x.toNat := ⟨_, rfl⟩
      rw [← hxn] at HT HS hx1
      have q1 : IntKind.u64.wrap ((o : Int) + (xn : Int)) = ((o + xn : Nat) : Int) := by simp only [IntKind.wrap, IntKind.bits, IntKind.signed]; simp; omega
      clear hx ho hxn
      go_wp2_with (go_at_call 15; (with_reducible refine HT.out.mono ?_); rintro e w2 ⟨rfl, rfl⟩)
      go_round
      case rel => exact ⟨k + 1, by omega, by go_num, by rw [HS.out]; exact congrArg (Value.int .u64) (by omega)⟩
      case measure => simp [intOf]; omega
    · obtain rfl : k = 64 := by omega
      rw [List.take_of_length_le (by omega)]
      have ds : ((cntL a : Int) == 0) = z := by rw [HZ.out]; exact int_beq _ 0
      go_wp2_with (go_at_call 15; (with_reducible refine (truthw _ _).mono ?_); rintro e w2 ⟨rfl, rfl⟩)
      go_ret2
      exact ⟨rfl, HB1.out⟩
set_option maxHeartbeats 2000000 in
theorem onew3 {w : World} (v : Nat) (hv : v < 18446744073709551616) :
    Calls Tryd.prog 7 #[.int .i64 123, .int .u64 v] w fun e w' => e = .returned (.tuple #[.int .u64 (cntL (bitsL 64 v)), .bool true]) ∧ Below w.heap.size w w' := by
  have HBa := Lib.hid (bitsw v w hv)
  have na := bitsL_len 64 v
  obtain ⟨a, ha⟩ : ∃ a, a = bitsL 64 v := ⟨_, rfl⟩
  rw [← ha] at HBa na
  unfold Ownw at HBa
  rw [← ha]
  clear ha
  go_enter Tryd.func7, Tryd.ntmps7
  go_wp2_with (go_at_call 14; (with_reducible refine HBa.out.mono ?_); rintro e w1 ⟨A1, c1, rfl, ho1, hb1⟩; have HO1 := Lib.hid ho1.lb; have HB1 := Lib.hid hb1; clear ho1 hb1)
  go_loop [8, 9] (fun o i => ∃ k : Nat, k ≤ 64 ∧ i = .int .i64 k ∧ o = .int .u64 (cntL (a.take k))) (fun _ i => 64 - (intOf i).toNat)
  case atStart => exact ⟨0, Nat.zero_le _, rfl, rfl⟩
  case round =>
    obtain ⟨k, hk, rfl, rfl⟩ := hrel
    by_cases hlt : k < 64
    · obtain ⟨x, hx⟩ : ∃ x, a[k]? = some x := ⟨_, List.getElem?_eq_getElem (by omega)⟩
      obtain ⟨bl, off, rfl, _, hc1⟩ := HO1.out.at hx
      have HS := Lib.hid (cntL_snoc hx)
      have hc9 := cntL_le (a.take k)
      rw [List.length_take] at hc9
      have hx1 : x.toNat ≤ 1 := by cases x <;> decide
      have HT := Lib.hid (truthw x w1)
      obtain ⟨o, ho⟩ : ∃ o, o = cntL (a.take k) := ⟨_, rfl⟩
      rw [← ho] at HS hc9 ⊢
      obtain ⟨xn, hxn⟩ : ∃ xn, xn = x.toNat := ⟨_, rfl⟩
      rw [← hxn] at HT HS hx1
      have q1 : IntKind.u64.wrap ((o : Int) + (xn : Int)) = ((o + xn : Nat) : Int) := by simp only [IntKind.wrap, IntKind.bits, IntKind.signed]; simp; omega
      clear hx ho hxn
      go_wp2_with (go_at_call 15; (with_reducible refine HT.out.mono ?_); rintro e w2 ⟨rfl, rfl⟩)
      go_round
      case rel => exact ⟨k + 1, by omega, by go_num, by rw [HS.out]; exact congrArg (Value.int .u64) (by omega)⟩
      case measure => simp [intOf]; omega
    · obtain rfl : k = 64 := by omega
      rw [List.take_of_length_le (by omega)]
      go_wp2
      go_ret2
      exact ⟨rfl, HB1.out⟩
set_option maxHeartbeats 4000000 in
theorem onew1 {w : World} (v : Nat) (hv : v < 18446744073709551616) :
    Calls Tryd.prog 7 #[.int .i64 121, .int .u64 v] w fun e w' => e = .returned (.tuple #[.int .u64 (tzL (bitsL 64 v).reverse), .bool true]) ∧ Below w.heap.size w w' := by
  have HBa := Lib.hid (bitsw v w hv)
  have na := bitsL_len 64 v
  obtain ⟨a, ha⟩ : ∃ a, a = bitsL 64 v := ⟨_, rfl⟩
  rw [← ha] at HBa na
  unfold Ownw at HBa
  rw [← ha]
  obtain ⟨R, hR⟩ : ∃ R, R = a.reverse := ⟨_, rfl⟩
  have nR : R.length = 64 := by rw [hR]; rw [List.length_reverse]; exact na
  rw [← hR]
  have HRg := Lib.hid (fun (t : Nat) (x : Bool) (ht : t < 64) (h : R[t]? = some x) => show a[64 - 1 - t]? = some x by
    rw [hR] at h
    rw [List.getElem?_reverse (by omega), na] at h
    exact h)
  clear ha hR
  go_enter Tryd.func7, Tryd.ntmps7
  go_wp2_with (go_at_call 14; (with_reducible refine HBa.out.mono ?_); rintro e w1 ⟨A1, c1, rfl, ho1, hb1⟩; have HO1 := Lib.hid ho1.lb; have HB1 := Lib.hid hb1; clear ho1 hb1)
  go_loop [8, 9] (fun o i => ∃ k : Nat, k ≤ 64 ∧ i = .int .i64 k ∧ o = .int .u64 (cntL (a.take k))) (fun _ i => 64 - (intOf i).toNat)
  case atStart => exact ⟨0, Nat.zero_le _, rfl, rfl⟩
  case round =>
    obtain ⟨k, hk, rfl, rfl⟩ := hrel
    by_cases hlt : k < 64
    · obtain ⟨x, hx⟩ : ∃ x, a[k]? = some x := ⟨_, List.getElem?_eq_getElem (by omega)⟩
      obtain ⟨bl, off, rfl, _, hc1⟩ := HO1.out.at hx
      have HS := Lib.hid (cntL_snoc hx)
      have hc9 := cntL_le (a.take k)
      rw [List.length_take] at hc9
      have hx1 : x.toNat ≤ 1 := by cases x <;> decide
      have HT := Lib.hid (truthw x w1)
      obtain ⟨o, ho⟩ : ∃ o, o = cntL (a.take k) := ⟨_, rfl⟩
      rw [← ho] at HS hc9 ⊢
      obtain ⟨xn, hxn⟩ : ∃ xn, xn = x.toNat := ⟨_, rfl⟩
      rw [← hxn] at HT HS hx1
      have q1 : IntKind.u64.wrap ((o : Int) + (xn : Int)) = ((o + xn : Nat) : Int) := by simp only [IntKind.wrap, IntKind.bits, IntKind.signed]; simp; omega
      clear hx ho hxn
      go_wp2_with (go_at_call 15; (with_reducible refine HT.out.mono ?_); rintro e w2 ⟨rfl, rfl⟩)
      go_round
      case rel => exact ⟨k + 1, by omega, by go_num, by rw [HS.out]; exact congrArg (Value.int .u64) (by omega)⟩
      case measure => simp [intOf]; omega
    · obtain rfl : k = 64 := by omega
      rw [List.take_of_length_le (by omega)]
      go_wp2
      go_loop [7, 10] (fun n i => ∃ t : Nat, t ≤ 64 ∧ i = .int .i64 (64 - 1 - (t : Int)) ∧ n = .int .u64 t ∧ tzL R = t + tzL (R.drop t)) (fun _ i => (intOf i + 1).toNat)
      case atStart => exact ⟨0, Nat.zero_le _, rfl, rfl, by simp⟩
      case round =>
        obtain ⟨t, ht, rfl, rfl, hz⟩ := hrel
        by_cases htl : t < 64
        · obtain ⟨x, hx⟩ : ∃ x, R[t]? = some x := ⟨_, List.getElem?_eq_getElem (by omega)⟩
          obtain ⟨j, hj⟩ : ∃ j : Nat, (64 - 1 - (t : Int)) = (j : Int) := ⟨64 - 1 - t, by omega⟩
          have hxa := HRg.out t x htl hx
          rw [show 64 - 1 - t = j by omega] at hxa
          rw [hj]
          have hjn : j < 64 := by omega
          obtain ⟨bl, off, rfl, _, hc1⟩ := HO1.out.at hxa
          rw [drop_atB hx] at hz
          have HZ := Lib.hid hz
          have q1 : IntKind.u64.wrap ((t : Int) + 1) = ((t + 1 : Nat) : Int) := by simp only [IntKind.wrap, IntKind.bits, IntKind.signed]; simp; omega
          clear hz hx hxa
          cases x
          · go_wp2
            go_round
            case rel => exact ⟨t + 1, by omega, congrArg (Value.int .i64) (by omega), congrArg (Value.int .u64) (by omega), by rw [HZ.out]; simp [tzL]; omega⟩
            case measure => (simp [intOf]; try omega)
          · go_wp2
            go_ret2
            exact ⟨by rw [HZ.out]; simp [tzL] <;> omega, HB1.out⟩
        · obtain rfl : t = 64 := by omega
          rw [List.drop_of_length_le (by omega)] at hz
          have HZ := Lib.hid hz
          clear hz
          go_wp2
          go_ret2
          exact ⟨by rw [HZ.out]; rfl, HB1.out⟩
set_option maxHeartbeats 4000000 in
theorem onew2 {w : World} (v : Nat) (hv : v < 18446744073709551616) :
    Calls Tryd.prog 7 #[.int .i64 122, .int .u64 v] w fun e w' => e = .returned (.tuple #[.int .u64 (tzL (bitsL 64 v)), .bool true]) ∧ Below w.heap.size w w' := by
  have HBa := Lib.hid (bitsw v w hv)
  have na := bitsL_len 64 v
  obtain ⟨a, ha⟩ : ∃ a, a = bitsL 64 v := ⟨_, rfl⟩
  rw [← ha] at HBa na
  unfold Ownw at HBa
  rw [← ha]
  obtain ⟨R, hR⟩ : ∃ R, R = a := ⟨_, rfl⟩
  have nR : R.length = 64 := by rw [hR]; exact na
  rw [← hR]
  have HRg := Lib.hid (fun (t : Nat) (x : Bool) (ht : t < 64) (h : R[t]? = some x) => show a[t]? = some x by
    rw [hR] at h
    exact h)
  clear ha hR
  go_enter Tryd.func7, Tryd.ntmps7
  go_wp2_with (go_at_call 14; (with_reducible refine HBa.out.mono ?_); rintro e w1 ⟨A1, c1, rfl, ho1, hb1⟩; have HO1 := Lib.hid ho1.lb; have HB1 := Lib.hid hb1; clear ho1 hb1)
  go_loop [8, 9] (fun o i => ∃ k : Nat, k ≤ 64 ∧ i = .int .i64 k ∧ o = .int .u64 (cntL (a.take k))) (fun _ i => 64 - (intOf i).toNat)
  case atStart => exact ⟨0, Nat.zero_le _, rfl, rfl⟩
  case round =>
    obtain ⟨k, hk, rfl, rfl⟩ := hrel
    by_cases hlt : k < 64
    · obtain ⟨x, hx⟩ : ∃ x, a[k]? = some x := ⟨_, List.getElem?_eq_getElem (by omega)⟩
      obtain ⟨bl, off, rfl, _, hc1⟩ := HO1.out.at hx
      have HS := Lib.hid (cntL_snoc hx)
      have hc9 := cntL_le (a.take k)
      rw [List.length_take] at hc9
      have hx1 : x.toNat ≤ 1 := by cases x <;> decide
      have HT := Lib.hid (truthw x w1)
      obtain ⟨o, ho⟩ : ∃ o, o = cntL (a.take k) := ⟨_, rfl⟩
      rw [← ho] at HS hc9 ⊢
      obtain ⟨xn, hxn⟩ : ∃ xn, xn = x.toNat := ⟨_, rfl⟩
      rw [← hxn] at HT HS hx1
      have q1 : IntKind.u64.wrap ((o : Int) + (xn : Int)) = ((o + xn : Nat) : Int) := by simp only [IntKind.wrap, IntKind.bits, IntKind.signed]; simp; omega
      clear hx ho hxn
      go_wp2_with (go_at_call 15; (with_reducible refine HT.out.mono ?_); rintro e w2 ⟨rfl, rfl⟩)
      go_round
      case rel => exact ⟨k + 1, by omega, by go_num, by rw [HS.out]; exact congrArg (Value.int .u64) (by omega)⟩
      case measure => simp [intOf]; omega
    · obtain rfl : k = 64 := by omega
      rw [List.take_of_length_le (by omega)]
      go_wp2
      go_loop [7, 11] (fun n i => ∃ t : Nat, t ≤ 64 ∧ i = .int .i64 (t : Int) ∧ n = .int .u64 t ∧ tzL R = t + tzL (R.drop t)) (fun _ i => 64 - (intOf i).toNat)
      case atStart => exact ⟨0, Nat.zero_le _, rfl, rfl, by simp⟩
      case round =>
        obtain ⟨t, ht, rfl, rfl, hz⟩ := hrel
        by_cases htl : t < 64
        · obtain ⟨x, hx⟩ : ∃ x, R[t]? = some x := ⟨_, List.getElem?_eq_getElem (by omega)⟩
          obtain ⟨j, hj⟩ : ∃ j : Nat, (t : Int) = (j : Int) := ⟨t, by omega⟩
          have hxa := HRg.out t x htl hx
          rw [show t = j by omega] at hxa
          rw [hj]
          have hjn : j < 64 := by omega
          obtain ⟨bl, off, rfl, _, hc1⟩ := HO1.out.at hxa
          rw [drop_atB hx] at hz
          have HZ := Lib.hid hz
          have q1 : IntKind.u64.wrap ((t : Int) + 1) = ((t + 1 : Nat) : Int) := by simp only [IntKind.wrap, IntKind.bits, IntKind.signed]; simp; omega
          clear hz hx hxa
          cases x
          · go_wp2
            go_round
            case rel => exact ⟨t + 1, by omega, congrArg (Value.int .i64) (by omega), congrArg (Value.int .u64) (by omega), by rw [HZ.out]; simp [tzL]; omega⟩
            case measure => (simp [intOf]; try omega)
          · go_wp2
            go_ret2
            exact ⟨by rw [HZ.out]; simp [tzL] <;> omega, HB1.out⟩
        · obtain rfl : t = 64 := by omega
          rw [List.drop_of_length_le (by omega)] at hz
          have HZ := Lib.hid hz
          clear hz
          go_wp2
          go_ret2
          exact ⟨by rw [HZ.out]; rfl, HB1.out⟩
end Go.Proofs.YtjgdfajooccalaaDoor
