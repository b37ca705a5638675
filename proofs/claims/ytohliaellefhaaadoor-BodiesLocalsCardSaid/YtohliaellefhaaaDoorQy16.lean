/- wire.Part, bodies.getLocals, whole, Get: of bytes that were written. -/
import Derived.Test.YtohliaellefhaaaDoorQy15
import Derived.Test.YtohliaellefhaaaDoorQy13
import Derived.Deep.LoopGhost
import Derived.RegionTactic
import Derived.Test.YtohliaellefhaaaDoorQy06
import Derived.Test.YtohliaellefhaaaDoorTie
import Derived.Lib.LaidIn
import Derived.Lib.LaidU8
import Derived.LaidMore
import Derived.MakeChecks
import Derived.Stop.Joined
import Derived.OpenShut
namespace Go.Proofs.YtohliaellefhaaaDoor
open Go.RowKit
set_option linter.unusedVariables false
set_option maxRecDepth 100000

/-- What Part leaves behind. -/
def Parted (p : Nat) (l : List UInt8) (n k1 : Nat) (w : World) (e : Ending) (w' : World) : Prop :=
  ∃ q, e = .returned (.tuple #[.pointer (some ⟨q, 0, none⟩), .int .i64 k1]) ∧ w.heap.size ≤ q ∧ Sc w' q ((l.drop k1).take n) 0 ∧ Sc w' p l (k1 + n) ∧ w.grownBy w' (some p)
set_option maxHeartbeats 800000 in
theorem part_w {w : World} {p : Nat} {l : List UInt8} {k n k1 : Nat} (h : Sc w p l k) (hi : indexR l k = .ok (n : Int) k1) (hm : k1 + n ≤ l.length) :
    Calls Tryd.prog 62 #[.pointer (some ⟨p, 0, none⟩)] w (Parted p l n k1 w) := by
  have hN := index_scan h
  have hle := h.le.2
  rw [hi] at hN
  have HN := Lib.hid hN
  obtain ⟨hk, v0, v1⟩ := uintR_ok (show uintR l k 32 = .ok (n : Int) k1 from hi)
  have v2 : (n : Int) < 4294967296 := v1
  have w1 : IntKind.u64.wrap (n : Int) = n := by simp [IntKind.wrap, IntKind.bits, IntKind.signed]; omega
  have w2 : IntKind.u64.wrap ((l.length : Int) - k1) = (l.length : Int) - k1 := by simp [IntKind.wrap, IntKind.bits, IntKind.signed]; omega
  have w3 : IntKind.i64.wrap (n : Int) = n := by rw [IntKind.wrap_i64]; omega
  have d1 : decide ((n : Int) ≤ (l.length : Int) - k1) = true := by simp; omega
  have d2 : (n : Int) ≤ (l.length : Int) - k1 := by omega
  have HSu := Lib.hid (fun (W : World) (hs : Sc W p l k1) => sub_ok hs n hm)
  clear hN hi h v0 v1 hm
  go_enter Tryd.func62, Tryd.ntmps62
  go_wp2_with (first
    | (go_at_call 71; go_must ((with_reducible refine HN.out.mono ?_); rintro e w1 ⟨rfl, hs, hg⟩; have HS := Lib.hid hs; have HG := Lib.hid hg; clear hs hg))
    | (go_at_call 47; go_must ((with_reducible refine (at_any HS.out).mono ?_); rintro e w2 ⟨rfl, rfl⟩))
    | (go_at_call 60; go_must ((with_reducible refine (left_any HS.out).mono ?_); rintro e w2 ⟨rfl, m, rfl⟩))
    | (go_at_call 29; go_must ((with_reducible refine (unlessT _ _ _).mono ?_); rintro e w' ⟨rfl, rfl⟩))
    | (go_at_call 72; go_must ((with_reducible refine (HSu.out _ (HS.out.drewN m)).mono ?_); rintro e w3 ⟨q, rfl, hq, hs1, hs2, hg2⟩; have HQ := Lib.hid hq; have HS1 := Lib.hid hs1; have HS2 := Lib.hid hs2; have HG2 := Lib.hid (gb_trans (gb_drewN HG.out m) hg2); clear hq hs1 hs2 hg2)))
  go_ret2
  exact ⟨q, rfl, Nat.le_trans HG.out.size HQ.out, HS1.out, HS2.out, HG2.out⟩
/-- A row of groups of the call's own. -/
abbrev RowLo (W : World) (base : Nat) (v : Value) (rows : List Lo) : Prop := W.ownsRow base 64 2 v rows.length (rows.flatMap loL)
theorem RowLo.past {W W' : World} {base b : Nat} {v : Value} {rows : List Lo} (h : RowLo W base v rows) (hg : W.grownBy W' (some b)) (hb : b < base) : RowLo W' base v rows :=
  World.ownsRow.kept h hg (by
    cases hv : v.ownBlock with
    | none => exact .inl rfl
    | some k => exact .inr (by have := (World.ownsRow.lt h k hv).1; simp only [ne_eq, Option.some.injEq]; omega))
theorem RowLo.later {W W' : World} {base : Nat} {v : Value} {rows : List Lo} (h : RowLo W base v rows) (hb : Below W.heap.size W W') : RowLo W' base v rows :=
  World.ownsRow.kept h (gb_of_below none hb) (by cases v.ownBlock with
    | none => exact .inl rfl
    | some k => exact .inr (by simp))
theorem infoLo : (Tryd.prog.info? 64).map (fun i => (i.zero, i.size, i.bytes)) = some (some (.agg #[.int .u32 0, .int .u8 0]), 2, 8) := by kernel_rfl
theorem rowLo_new {w : World} {ops : Array Oper} {rest : List Oper} {o : Oper} {a : Act} {Q : Exit → Act → World → Prop} (hgd : o.guard = none) (s x : Operand)
    (ho : o.op = .call { callee := .builtin .append, args := #[s, x], argTypes := #[24, 24] })
    (B : Nat) (v : Value) (l : List Lo) (hs : a.eval s = v) (hr : RowLo w B v l) (g : Nat) (r : Lo) (hx : a.eval x = .slice (some ⟨g, 0, none⟩) 1 1)
    (hg : Whole w g 64 (loL r).toArray) (hb : l.length ≤ 10000) (hB : B ≤ w.heap.size)
    (h : ∀ v' w', RowLo w' B v' (l ++ [r]) → w.grownBy w' v.ownBlock → wpList Tryd.prog ops Q rest (a.put o.dst v') w') : wpList Tryd.prog ops Q (o :: rest) a w := by
  obtain ⟨i0, hi0, hz0, hz1, hz2⟩ := info_parts infoLo
  refine wpList_append_own _ hgd s x _ ho B 64 i0 _ 2 8 Tryd.underlying24 hi0 hz0 hz1 hz2 rfl (by omega) v _ _ hs hr ⟨g, 0, none⟩ 1 1 (loL r) hx rfl ?_ ?_ (by unfold maxLen; omega) (by omega) hB (fun v' w' h2 h3 _ => h v' w' ?_ h3)
  · intro j u hu
    rw [Go.WideShapes.add_plain, Nat.zero_add, hg.cell, ← Array.getElem?_toList]
    exact hu
  · intro u hu
    unfold loL at hu
    simp only [List.mem_cons, List.not_mem_nil, or_false] at hu
    rcases hu with rfl | rfl <;> rfl
  · show w'.ownsRow B 64 2 v' (l ++ [r]).length ((l ++ [r]).flatMap loL)
    rw [List.length_append, List.flatMap_append]
    simpa using h2
/-- Once it is read. -/
theorem RowLo.loc {W : World} {base : Nat} {v : Value} {rows : List Lo} (h : RowLo W base v rows) : ∃ A c, v = .slice A rows.length c ∧ LocT W A rows ∧ ∀ a, A = some a → base ≤ a.block := by
  rcases h.2 with ⟨rfl, h0⟩ | ⟨g, cap, cur, rfl, hb, hg, _, _, _, ht⟩
  · have hr : rows = [] := List.eq_nil_of_length_eq_zero h0
    subst hr
    exact ⟨none, 0, rfl, .inl ⟨rfl, rfl⟩, fun a e => by cases e⟩
  · exact ⟨_, cap, rfl, .inr ⟨g, cur, rfl, hg, ht⟩, fun a e => by injection e with e; subst e; exact hb⟩
theorem losL_at {l : List Lo} {k : Nat} {x : Lo} (h : l[k]? = some x) : losL l = losL (l.take k) ++ ((lebL x.n.toNat ++ [x.t]) ++ losL (l.drop (k + 1))) := by
  conv => lhs; rw [← List.take_append_drop k l, lo_drop h]
  unfold losL
  rw [List.flatMap_append, List.flatMap_cons]
theorem tyGo_mem : ∀ {l : List Lo}, tyGo l = 0 → ∀ x ∈ l, valueZ x.t.toNat = 0
  | [], _, x, hx => by cases hx
  | y :: l, h, x, hx => by
    unfold tyGo at h
    by_cases e : valueZ y.t.toNat = 0
    · rw [if_neg (by omega)] at h
      rcases List.mem_cons.1 hx with rfl | hx
      · exact e
      · exact tyGo_mem h x hx
    · rw [if_pos e] at h; exact absurd h e
/-- What getLocals leaves behind. -/
def GotLo (p : Nat) (l : List UInt8) (ls : List Lo) (k : Nat) (w : World) (e : Ending) (w' : World) : Prop :=
  ∃ A c, e = .returned (.slice A ls.length c) ∧ (LocT w' A ls ∧ ∀ a, A = some a → w.heap.size ≤ a.block) ∧ Sc w' p l k ∧ w.grownBy w' (some p)
end Go.Proofs.YtohliaellefhaaaDoor

/- bodies.whole, Get, of bytes that were written. -/
namespace Go.Proofs.YtohliaellefhaaaDoor
open Go.RowKit
set_option linter.unusedVariables false
set_option maxRecDepth 100000

/-- The numbers are what their kinds hold; neither instructions nor groups nor labels are many. -/
structure BdOk (x : Bd) : Prop where
  ok : ∀ i ∈ x.b, i.Ok ∧ i.l.length ≤ 50
  h50 : x.ls.length ≤ 50
  h60 : x.b.length ≤ 60
theorem BdOk.ok100 {x : Bd} (h : BdOk x) : ∀ i ∈ x.b, i.Ok ∧ i.l.length ≤ 100 := fun i hi => ⟨(h.ok i hi).1, by have := (h.ok i hi).2; omega⟩
theorem putL_len50 {i : I} (h : i.Ok) (hl : i.l.length ≤ 50) : (putL i).length ≤ 600 := by
  obtain ⟨a0, a1, b0, b1, hl0⟩ := h
  have k1 := lebL_len i.a (by omega)
  have k2 := lebL_len i.b (by omega)
  have k3 := lebL_len (i.l.length : Int) (by omega)
  have k4 := labsL_len i.l hl0
  have k5 := sebL_len (s32 i.a) (by unfold s32; omega) (by unfold s32; omega)
  have k6 := sebL_len (s64 i.a) (by unfold s64; omega) (by unfold s64; omega)
  have key : (immL i).length ≤ 550 := by
    unfold immL immB labL
    repeat' split
    all_goals (try simp only [List.length_append, List.length_cons, List.length_nil])
    all_goals omega
  unfold putL
  rw [List.length_cons]
  omega
theorem bodyL_len50 : ∀ l : List I, (∀ i ∈ l, i.Ok ∧ i.l.length ≤ 50) → (bodyL l).length ≤ l.length * 600
  | [], _ => by simp [bodyL]
  | i :: r, h => by
    have h1 := bodyL_len50 r (fun j hj => h j (List.mem_cons_of_mem _ hj))
    have h2 := putL_len50 (h i (by simp)).1 (h i (by simp)).2
    unfold bodyL at h1 ⊢
    rw [List.flatMap_cons, List.length_append, List.length_cons]
    omega
theorem codeL_len {x : Bd} (h : BdOk x) : (codeL x).length ≤ 36600 := by
  have h1 := lebL_len (x.ls.length : Int) (by have := h.h50; omega)
  have h2 := losL_len x.ls
  have h3 := bodyL_len50 x.b h.ok
  have h4 := h.h50
  have h5 := h.h60
  have hb : (bputL x).length ≤ 36570 := by unfold bputL; rw [List.length_append, List.length_append]; omega
  have h6 := lebL_len ((bputL x).length : Int) (by omega)
  unfold codeL
  rw [List.length_append]
  omega
theorem brZ_zero {x : Bd} (h : brZ x = 0) : (∃ q : Nat, locGo 0 x.ls = (q : Int)) ∧ tyGo x.ls = 0 ∧ shapeGo [] (opsOf x.b) = true ∧ ∀ i ∈ x.b, rightZ i = 0 := by
  have hb : bshZ x = 0 := by
    unfold brZ at h
    by_cases e : bshZ x = 0
    · exact e
    · rw [if_pos e] at h; exact absurd h e
  have hc := brZ_code hb
  rw [h] at hc
  unfold bshZ at hb
  by_cases h1 : locGo 0 x.ls < 0
  · rw [if_pos h1] at hb; omega
  · rw [if_neg h1] at hb
    by_cases h2 : tyGo x.ls = 0
    · rw [if_neg (by omega)] at hb
      have h3 : shapeGo [] (opsOf x.b) = true := by
        unfold shapeZ at hb
        by_cases e : shapeGo [] (opsOf x.b) = true
        · exact e
        · rw [if_neg e] at hb; omega
      refine ⟨⟨(locGo 0 x.ls).toNat, by omega⟩, h2, h3, errZ_all ?_⟩
      unfold codeZ at hc
      rw [if_pos hb] at hc
      omega
    · rw [if_pos h2] at hb; exact absurd hb h2
/-- What reading a body leaves behind. -/
def GotBd (p : Nat) (l : List UInt8) (x : Bd) (k : Nat) (w : World) (e : Ending) (w' : World) : Prop :=
  ∃ s : SlotBd, s.1 = x ∧ e = .returned (cV s) ∧ HasBd w' w.heap.size s ∧ Sc w' p l k ∧ w.grownBy w' (some p)
/-- What Get's closure leaves behind. -/
def GClos (q X : Nat) (x : Bd) (w : World) (w' : World) : Prop :=
  ∃ s : SlotBd, s.1 = x ∧ HasBd w' w.heap.size s ∧ Whole w' X 61 (cC s) ∧ ∃ w1, w.grownBy w1 (some q) ∧ w1.grownBy w' (some X)
/-- What holds once Within has ended. -/
structure GEnd (w : World) (p R X St : Nat) (l : List UInt8) (k : Nat) (s : SlotBd) (W : World) : Prop where
  has : HasBd W (St + 1) s
  x : Whole W X 61 (cC s)
  st : Whole W St 49 #[.int .i64 0, .int .i64 0]
  sc : Sc W p l k
  r : Whole W R 61 bdZ
  g : w.grownBy W (some p)
end Go.Proofs.YtohliaellefhaaaDoor

/- bodies.PutAll. -/
namespace Go.Proofs.YtohliaellefhaaaDoor
open Go.RowKit
set_option linter.unusedVariables false
set_option maxRecDepth 100000

/-- May it be? Its bytes. -/
def rBd (x : SlotBd) : Int := brZ x.1
noncomputable def cputB (x : SlotBd) : List UInt8 := codeL x.1
def PuttedC (x : SlotBd) (w : World) (e : Ending) (w' : World) : Prop := ∃ v, e = .returned (.tuple #[v, .int .i64 (rBd x)]) ∧ Row w' w.heap.size v (if rBd x = 0 then cputB x else []) ∧ Below w.heap.size w w'
def OkBds (l : List SlotBd) : Prop := ∀ x ∈ l, BdOk x.1
theorem put_c (x : SlotBd) (w : World) (hT : Tabs w) (h : BdOk x.1) (hL : Los w x.2.1.1 x.1.ls) (hI : Ins w x.2.2.1 x.1.b) : Calls Tryd.prog 18 #[cV x] w (PuttedC x w) := put_bd hT hL hI h.h50 h.h60 h.ok100
/-- The first error. -/
def errBd : List SlotBd → Int
  | [] => 0
  | x :: r => if rBd x ≠ 0 then rBd x else errBd r
theorem errBd_app : ∀ a b : List SlotBd, errBd (a ++ b) = if errBd a ≠ 0 then errBd a else errBd b
  | [], b => by simp [errBd]
  | x :: a, b => by
    simp only [List.cons_append, errBd]
    by_cases h : rBd x = 0
    · simp only [h, ne_eq, not_true_eq_false, if_false, errBd_app a b]
    · simp [h]
theorem errBd_snoc {l : List SlotBd} {k : Nat} {x : SlotBd} (h : l[k]? = some x) : errBd (l.take (k + 1)) = if errBd (l.take k) ≠ 0 then errBd (l.take k) else rBd x := by
  rw [List.take_add_one, h]
  show errBd (l.take k ++ [x]) = _
  rw [errBd_app]
  by_cases e : rBd x = 0 <;> simp [errBd, e]
theorem errBd_bad {l : List SlotBd} {k : Nat} (h : errBd (l.take k) ≠ 0) : errBd l = errBd (l.take k) := by
  conv => lhs; rw [← List.take_append_drop k l]
  rw [errBd_app, if_pos h]
theorem errBd_mem : ∀ {l : List SlotBd}, errBd l = 0 → ∀ x ∈ l, rBd x = 0
  | [], _, x, hx => by cases hx
  | y :: l, h, x, hx => by
    simp only [errBd] at h
    by_cases e : rBd y = 0
    · simp only [e, ne_eq, not_true_eq_false, if_false] at h
      rcases List.mem_cons.1 hx with rfl | hx
      · exact e
      · exact errBd_mem h x hx
    · simp [e] at h
/-- Many bodies' bytes. -/
noncomputable def bdsL (l : List SlotBd) : List UInt8 := l.flatMap cputB
theorem bdsL_snoc {l : List SlotBd} {k : Nat} {x : SlotBd} (h : l[k]? = some x) : bdsL (l.take (k + 1)) = bdsL (l.take k) ++ cputB x := by
  unfold bdsL
  rw [List.take_add_one, h, List.flatMap_append]
  simp
theorem bdsL_len : ∀ {l : List SlotBd}, OkBds l → (bdsL l).length ≤ l.length * 36600
  | [], _ => by simp [bdsL]
  | x :: r, h => by
    have h1 := bdsL_len (l := r) (fun y hy => h y (List.mem_cons_of_mem _ hy))
    have h3 : (cputB x).length ≤ 36600 := codeL_len (h x (by simp))
    unfold bdsL at h1 ⊢
    rw [List.flatMap_cons, List.length_append, List.length_cons]
    omega
noncomputable def allBd (l : List SlotBd) : List UInt8 := lebL l.length ++ bdsL l
/-- What PutAll hands back. -/
def PuttedAllBd (l : List SlotBd) (w : World) (e : Ending) (w' : World) : Prop := ∃ v, e = .returned (.tuple #[v, .int .i64 (errBd l)]) ∧ Row w' w.heap.size v (if errBd l = 0 then allBd l else []) ∧ Below w.heap.size w w'
theorem cfBdP (a : Array Value) (w : World) : (callFunc 18 a).run Tryd.prog w = .ok (.enter 18 a) w := by kernel_rfl
end Go.Proofs.YtohliaellefhaaaDoor

/- bodies.GetAll of what PutAll wrote. -/
namespace Go.Proofs.YtohliaellefhaaaDoor
open Go.RowKit
set_option linter.unusedVariables false
set_option maxRecDepth 100000

theorem bdsL_at {l : List SlotBd} {k : Nat} {x : SlotBd} (h : l[k]? = some x) : bdsL l = bdsL (l.take k) ++ (codeL x.1 ++ bdsL (l.drop (k + 1))) := by
  have e1 : l = l.take k ++ x :: l.drop (k + 1) := by
    obtain ⟨hj3, hj4⟩ := List.getElem?_eq_some_iff.1 h
    rw [← hj4, ← List.drop_eq_getElem_cons hj3, List.take_append_drop]
  conv => lhs; rw [e1]
  unfold bdsL
  rw [List.flatMap_append, List.flatMap_cons]
  rfl
/-- What holds at the head of GetAll's loop. -/
structure AInBd (w : World) (p : Nat) (l : List UInt8) (k : Nat) (xs : List SlotBd) (v : Value) (W : World) : Prop where
  sc : Sc W p l k
  g : w.grownBy W (some p)
  r : RowBd W w.heap.size v xs
  tb : TbP p W
section
variable {w W W' : World} {p : Nat} {l : List UInt8} {k k' : Nat} {xs : List SlotBd} {x : SlotBd} {v v' : Value}
theorem AInBd.step (h : AInBd w p l k xs v W) (hp : p < w.heap.size) (hg : W.grownBy W' (some p)) (hs : Sc W' p l k') : AInBd w p l k' xs v W' :=
  ⟨hs, gb_trans h.g hg, h.r.past hg hp, h.tb.self hg⟩
theorem AInBd.alloc (h : AInBd w p l k xs v W) (hp : p < w.heap.size) (o : Obj) : AInBd w p l k xs v (W.alloc o) := h.step hp (gb_alloc (gb_refl _ _) o) (h.sc.alloc o)
theorem AInBd.more (h : AInBd w p l k xs v W) (hp : p < w.heap.size) (hg : W.grownBy W' v.ownBlock) (hr : RowBd W' w.heap.size v' (xs ++ [x])) : AInBd w p l k (xs ++ [x]) v' W' := by
  have hlt := h.r.lt
  exact ⟨h.sc.grown hg (fun e => by have := hlt p e.symm; omega) (fun g e => by have := hlt g e; omega), gb_before h.g hg (fun g e => .inr (hlt g e).1), hr, h.tb.grown hg (fun g e => by have := hlt g e; omega)⟩
end
/-- The list that was read. -/
def GotAllBd (p : Nat) (xs : List Bd) (w : World) (e : Ending) (w' : World) : Prop :=
  ∃ v rows, e = .returned v ∧ RowBd w' w.heap.size v rows ∧ rows.map (·.1) = xs ∧ w.grownBy w' (some p)
end Go.Proofs.YtohliaellefhaaaDoor

/- abort.Value of a function that ends well, whatever it hands back: []api.Code. Value of one that aborts. -/
namespace Go.Proofs.YtohliaellefhaaaDoor
open Go.RowKit
set_option linter.unusedVariables false
set_option maxRecDepth 100000

section
variable {T : (Option Addr × Nat × Nat) → World → Prop}
end
end Go.Proofs.YtohliaellefhaaaDoor

/- abort.Value of a function that ends well, whatever it hands back: api.Code. (By gen/genVal.py.) -/
namespace Go.Proofs.YtohliaellefhaaaDoor
open Go.RowKit
set_option linter.unusedVariables false
set_option maxRecDepth 100000

section
variable {T : SlotBd → World → Prop}
/-- What Value's closure leaves behind, seen from Value's beginning. -/
structure VSBd (T : SlotBd → World → Prop) (w : World) (q : Nat) (x : SlotBd) (w1 : World) : Prop where
  kept : T x w1
  grown : w.grownBy w1 (some q)
  val : Whole w1 (w.heap.size + 3) 61 #[.slice x.2.1.1 x.1.ls.length x.2.1.2, .slice x.2.2.1 x.1.b.length x.2.2.2]
  r1 : Whole w1 (w.heap.size + 1) 61 #[.slice none 0 0, .slice none 0 0]
  r2 : Whole w1 (w.heap.size + 2) 49 #[.int .i64 0, .int .i64 0]
end
end Go.Proofs.YtohliaellefhaaaDoor

/- awake; the laws' closures; two lists side by side. -/
namespace Go.Proofs.YtohliaellefhaaaDoor
open Go.RowKit
set_option linter.unusedVariables false
set_option maxRecDepth 100000

theorem lebL_sm (x : Int) (h0 : 0 ≤ x) (h1 : x < 128) : lebL x = [UInt8.ofNat x.toNat] := by
  have hn : lebN x = 1 := (lebN_least x (by omega)).unique ⟨Nat.le_refl _, by unfold fitU; simpa using h1, fun m a b => by omega⟩
  unfold lebL
  rw [hn]
  simp [grp]
  congr 2
  omega
/-- The page's example: an end alone. -/
def eEnd : I := ⟨11, 0, 0, []⟩
theorem eEnd_ok : eEnd.Ok := ⟨by decide, by decide, by decide, by decide, fun c h => by cases h⟩
theorem eEnd_imm : immR eEnd.n = 0 := by decide +kernel
theorem eEnd_put : putL eEnd = [11] := by
  unfold putL immL immB
  rw [eEnd_imm]
  rfl
def bEg : Bd := ⟨[], [eEnd]⟩
theorem bEg_zero : brZ bEg = 0 := by decide +kernel
theorem bEg_code : codeL bEg = [2, 0, 11] := by
  have hb : bputL bEg = [0, 11] := by
    unfold bputL losL bodyL
    show (lebL 0 ++ []) ++ [eEnd].flatMap putL = _
    rw [List.flatMap_cons, List.flatMap_nil, eEnd_put, lebL_sm 0 (by omega) (by omega)]
    rfl
  unfold codeL
  rw [hb]
  show lebL 2 ++ [0, 11] = _
  rw [lebL_sm 2 (by omega) (by omega)]
  rfl
theorem ins_end (w : World) : Ins (w.alloc (.cells #[.int .u8 11, .int .u64 0, .int .u64 0, .slice none 0 0] 58)) (some ⟨w.heap.size, 0, none⟩) [eEnd] := fun j i hij => by
  have hw := Whole.made w 58 #[.int .u8 11, .int .u64 0, .int .u64 0, .slice none 0 0]
  match j, hij with
  | 0, hij =>
    injection hij with hij
    subst hij
    exact ⟨w.heap.size, 0, none, 0, rfl, hw.lt, ⟨hw.cell 0, hw.cell 1, hw.cell 2, hw.cell 3⟩, fun j v hv => by simp [cells32, eEnd] at hv⟩
  | j + 1, hij => simp at hij
theorem bdawake_any (w : World) (hT : Tabs w) : Calls Tryd.prog 5 #[] w fun e w' => e = .returned (.bool true) ∧ Below w.heap.size w w' := by
  have hb0 := below_box w (.cells #[.int .u8 11, .int .u64 0, .int .u64 0, .slice none 0 0] 58)
  have hp := put_bd (x := bEg) (L := none) (l := 0) (B := some ⟨w.heap.size, 0, none⟩) (c := 1) (hT.below hb0) (fun j x hx => by cases hx) (ins_end w) (by decide) (by decide) (fun i hi => by rw [List.mem_singleton.1 (show i ∈ [eEnd] from hi)]; exact ⟨eEnd_ok, by decide⟩)
  obtain ⟨l, hl⟩ : ∃ l : List UInt8, l = [2, 0, 11] := ⟨_, rfl⟩
  have HP := Lib.hid (show Calls Tryd.prog 18 #[.agg #[.slice none 0 0, .slice (some ⟨w.heap.size, 0, none⟩) 1 1]] (w.alloc (.cells #[.int .u8 11, .int .u64 0, .int .u64 0, .slice none 0 0] 58)) fun e w' => ∃ v, e = .returned (.tuple #[v, .int .i64 0]) ∧ Row w' (w.alloc (.cells #[.int .u8 11, .int .u64 0, .int .u64 0, .slice none 0 0] 58)).heap.size v l ∧ Below (w.alloc (.cells #[.int .u8 11, .int .u64 0, .int .u64 0, .slice none 0 0] 58)).heap.size (w.alloc (.cells #[.int .u8 11, .int .u64 0, .int .u64 0, .slice none 0 0] 58)) w' from hp.mono fun e w' ⟨v, h1, h2, h3⟩ => ⟨v, by rw [bEg_zero] at h1; exact h1, by rw [if_pos bEg_zero, bEg_code] at h2; rw [hl]; exact h2, h3⟩)
  have hcmp : ((S l).toList == [2, 0, 11]) = true := by rw [S_toList, hl]; rfl
  have HB0 := Lib.hid hb0
  clear hl
  clear hp hT hb0
  go_enter Tryd.func5, Tryd.ntmps5
  go_wp2_with (go_at_call 18; go_must ((with_reducible refine HP.out.mono ?_); intro e w1 h; obtain ⟨v, rfl, hr, hb⟩ := h; obtain ⟨A, c, rfl, hcv⟩ := hr.str; have hcv2 := hcv 9 Tryd.underlying9; have HB := Lib.hid (HB0.out.trans (hb.mono HB0.out.size)); clear hb hr hcv))
  go_ret
  exact ⟨rfl, HB.out⟩
/-- The two cells of a body, by its parts. -/
abbrev TwoL (w : World) (b o : Nat) (g : Bd) (a f : Option Addr × Nat) : Prop := w.cell? ⟨b, o, none⟩ = some (.slice a.1 g.ls.length a.2) ∧ w.cell? ⟨b, o + 1, none⟩ = some (.slice f.1 g.b.length f.2)
/-- One of each of two lists, as a walk reads them; both lists. -/
abbrev TwoBd (w : World) (A A2 : Option Addr) (l l2 : List SlotBd) (b off b2 off2 k : Nat) (g : Bd) (a1 a2 c1 c2 : Option Addr × Nat) (W : World) : Prop :=
  (Below w.heap.size w W ∧ Bds W A l ∧ Bds W A2 l2) ∧ TwoL W b (off + k * 2) g a1 c1 ∧ TwoL W b2 (off2 + k * 2) g a2 c2
section
variable {w W W' : World} {A A2 : Option Addr} {l l2 : List SlotBd} {b off b2 off2 k : Nat} {g : Bd} {a1 a2 c1 c2 : Option Addr × Nat}
theorem twoBd_of (h1 : Below w.heap.size w W) (h2 : Bds W A l) (h3 : Bds W A2 l2) (hA : A = some ⟨b, off, none⟩) (hA2 : A2 = some ⟨b2, off2, none⟩) (hx : l[k]? = some (g, a1, c1)) (hy : l2[k]? = some (g, a2, c2)) : TwoBd w A A2 l l2 b off b2 off2 k g a1 a2 c1 c2 W := by
  obtain ⟨d1, o1, e1, _, p⟩ := h2.two hx
  obtain ⟨d2, o2, e2, _, q⟩ := h3.two hy
  rw [hA] at e1
  rw [hA2] at e2
  injection e1 with e1
  injection e2 with e2
  injection e1 with a1 a2
  injection e2 with a3 a4
  subst a1; subst a2; subst a3; subst a4
  exact ⟨⟨h1, h2, h3⟩, p, q⟩
theorem twoBd_on (h : TwoBd w A A2 l l2 b off b2 off2 k g a1 a2 c1 c2 W) (hA : A = some ⟨b, off, none⟩) (hA2 : A2 = some ⟨b2, off2, none⟩) (hx : l[k]? = some (g, a1, c1)) (hy : l2[k]? = some (g, a2, c2)) (hb : Below W.heap.size W W') : TwoBd w A A2 l l2 b off b2 off2 k g a1 a2 c1 c2 W' :=
  twoBd_of (h.1.1.trans (hb.mono h.1.1.size)) (h.1.2.1.below hb) (h.1.2.2.below hb) hA hA2 hx hy
/-- Both have one there, and these are alike. -/
theorem bothBd_at (hm : l.map (·.1) = l2.map (·.1)) (hk : k < l.length) : ∃ g a1 a2 c1 c2, l[k]? = some (g, a1, c1) ∧ l2[k]? = some (g, a2, c2) := by
  obtain ⟨⟨g, a1, c1⟩, hx⟩ : ∃ x, l[k]? = some x := ⟨_, List.getElem?_eq_getElem hk⟩
  have hk2 : k < l2.length := by have := congrArg List.length hm; rw [List.length_map, List.length_map] at this; omega
  obtain ⟨⟨g2, a2, c2⟩, hy⟩ : ∃ y, l2[k]? = some y := ⟨_, List.getElem?_eq_getElem hk2⟩
  have e := congrArg (fun l => l[k]?) hm
  simp only [List.getElem?_map, hx, hy, Option.map_some, Option.some.injEq] at e
  subst e
  exact ⟨g, a1, a2, c1, c2, hx, hy⟩
end
end Go.Proofs.YtohliaellefhaaaDoor

/- What the rows list of the tables of package ops, as the walks want it; a world that holds them. -/
namespace Go.Proofs.YtohliaellefhaaaDoor
set_option linter.unusedVariables false
open Go.Shelf Go.Lib

theorem laidOut : laidOutB Tryd.prog = true := by kernel_rfl
theorem own : ownKnob Tryd.prog.godebug = none := by kernel_rfl
/-- What the rows list. -/
def listed : List (String × DataW Unit) := [("creel/ops.controlNames", Rows.laid_creel_ops_controlNames), ("creel/ops.memoryNames", Rows.laid_creel_ops_memoryNames), ("creel/ops.testNames", Rows.laid_creel_ops_testNames), ("creel/ops.numberNames", Rows.laid_creel_ops_numberNames), ("creel/ops.convertNames", Rows.laid_creel_ops_convertNames), ("creel/ops.accesses", Rows.laid_creel_ops_accesses)]
theorem listed_plain (W : World) : laidMetH Tryd.prog listed W = laidMet Tryd.prog listed W := Go.MakeChecks.laidMetH_plain _ _ _ (by kernel_rfl)

theorem cInt : Tryd.prog.cellsOf 3 = 1 := by kernel_rfl
theorem cBool : Tryd.prog.cellsOf 4 = 1 := by kernel_rfl
theorem cByte : Tryd.prog.cellsOf 5 = 1 := by kernel_rfl
theorem cStr : Tryd.prog.cellsOf 9 = 1 := by kernel_rfl
theorem cAcc : Tryd.prog.cellsOf 147 = 4 := by kernel_rfl

/-- A list cut into pieces of n. -/
theorem pieces {α : Type} (n : Nat) (g : α → List Value) : ∀ (l : List α) (L : List Value), L.length = l.length * n → (∀ k a, l[k]? = some a → (L.drop (k * n)).take n = g a) → L = l.flatMap g
  | [], L, hl, _ => List.eq_nil_of_length_eq_zero (by simpa using hl)
  | x :: r, L, hl, h => by
    have h0 := h 0 x rfl
    rw [Nat.zero_mul, List.drop_zero] at h0
    have hr := pieces n g r (L.drop n) (by rw [List.length_drop, hl, List.length_cons, Nat.add_mul]; omega) (fun k a hk => by
      have := h (k + 1) a hk
      rw [List.drop_drop, ← this]
      congr 2
      rw [Nat.add_mul]
      omega)
    rw [List.flatMap_cons, ← hr, ← h0, List.take_append_drop]

theorem map_flat {α : Type} (f : α → Value) : ∀ l : List α, l.map f = l.flatMap fun a => [f a]
  | [] => rfl
  | x :: r => by rw [List.map_cons, List.flatMap_cons, map_flat f r]; rfl
section
variable {H : Type} {enc : TypeId × Value → H} {w : World} {base : Nat} {sp : Nat → Bool} {held : Bool} {fuel : Nat}
theorem strs_of {t : TypeId} {n : Nat} {cs : Array Value} {l : List (List UInt8)} {p : List MemPlace} (ht : Tryd.prog.underlying t = some (.array n 9)) (hc : Tryd.prog.cellsOf t = n) (hn : l.length = n)
    (h : DataW.trod enc Tryd.prog w base sp held fuel t cs.toList = some (.agg (l.map fun s => .lit (.string s)), p)) : cs = strs l := by
  obtain ⟨_, _, _, _, hl, _, _⟩ := DataW.trod_array ht h
  apply Array.toList_inj.1
  have e : (strs l).toList = l.flatMap fun s => [.string (S s)] := by
    show l.map _ = _
    exact map_flat _ l
  rw [e]
  refine pieces 1 _ l cs.toList (by omega) (fun k a hk => ?_)
  obtain ⟨hk', rfl⟩ := List.getElem?_eq_some_iff.1 hk
  obtain ⟨f, d, q, h1, h2⟩ := array_elem ht h k (by omega)
  rw [cStr] at h2
  obtain ⟨s, hs, he, _⟩ := DataW.trod_string Tryd.underlying9 h2
  rw [hs]
  rw [List.getElem?_map, hk] at h1
  simp only [Option.map_some, Option.some.injEq] at h1
  rw [Prod.mk.injEq] at he
  rw [← h1] at he
  have e2 : l[k] = s.data.toList := by simpa using he.1
  rw [e2, S_of]
set_option maxRecDepth 100000 in
/-- A part of the table of accesses. -/
theorem quad_of {cs : List Value} {a : AccR} {p : List MemPlace}
    (h : DataW.trod enc Tryd.prog w base sp held fuel 147 cs = some (.agg [.lit (.int .i64 a.n), .lit (.int .u8 a.t), .lit (.bool a.wr), .lit (.bool a.sg)], p)) : cs = [.int .i64 a.n, .int .u8 a.t, .bool a.wr, .bool a.sg] := by
  obtain ⟨xs, m, rfl, hx, hl, hxl, hall⟩ := DataW.trod_struct Tryd.underlying147 h
  rw [cAcc] at hl
  have h0 : DataW.trod enc Tryd.prog w base sp held m 3 ((cs.drop 0).take (Tryd.prog.cellsOf 3)) = xs[0]? := hall 0 _ rfl
  have h1 : DataW.trod enc Tryd.prog w base sp held m 5 ((cs.drop 1).take (Tryd.prog.cellsOf 5)) = xs[1]? := hall 1 _ rfl
  have h2 : DataW.trod enc Tryd.prog w base sp held m 4 ((cs.drop 2).take (Tryd.prog.cellsOf 4)) = xs[2]? := hall 2 _ rfl
  have h3 : DataW.trod enc Tryd.prog w base sp held m 4 ((cs.drop 3).take (Tryd.prog.cellsOf 4)) = xs[3]? := hall 3 _ rfl
  rw [cInt] at h0
  rw [cByte] at h1
  rw [cBool] at h2 h3
  match xs, hxl, cs, hl with
  | [x0, x1, x2, x3], _, [u0, u1, u2, u3], _ =>
    simp only [List.map_cons, List.map_nil, Prod.mk.injEq, DataW.agg.injEq, List.cons.injEq, and_true] at hx
    obtain ⟨⟨e0, e1, e2, e3⟩, _⟩ := hx
    simp only [List.drop_zero, List.drop_succ_cons, List.getElem?_cons_zero, List.getElem?_cons_succ, List.take_succ_cons, List.take_zero] at h0 h1 h2 h3
    obtain ⟨z0, y0, rfl, _⟩ := DataW.trod_int Tryd.underlying3 h0
    obtain ⟨z1, y1, rfl, _⟩ := DataW.trod_int Tryd.underlying5 h1
    obtain ⟨z2, y2, rfl⟩ := DataW.trod_bool Tryd.underlying4 h2
    obtain ⟨z3, y3, rfl⟩ := DataW.trod_bool Tryd.underlying4 h3
    have e0' : (a.n : Int) = z0 := by simpa using e0
    have e1' : (a.t : Int) = z1 := by simpa using e1
    have e2' : a.wr = z2 := by simpa using e2
    have e3' : a.sg = z3 := by simpa using e3
    rw [e0', e1', e2', e3']
    have y0' : u0 = .int .i64 z0 := by simpa using y0
    have y1' : u1 = .int .u8 z1 := by simpa using y1
    have y2' : u2 = .bool z2 := by simpa using y2
    have y3' : u3 = .bool z3 := by simpa using y3
    rw [y0', y1', y2', y3']
theorem acc_of {t : TypeId} {n : Nat} {cs : Array Value} {l : List AccR} {p : List MemPlace} (ht : Tryd.prog.underlying t = some (.array n 147)) (hc : Tryd.prog.cellsOf t = n * 4) (hn : l.length = n)
    (h : DataW.trod enc Tryd.prog w base sp held fuel t cs.toList = some (.agg (l.map fun a => .agg [.lit (.int .i64 a.n), .lit (.int .u8 a.t), .lit (.bool a.wr), .lit (.bool a.sg)]), p)) : cs = accCells l := by
  obtain ⟨_, _, _, _, hl, _, _⟩ := DataW.trod_array ht h
  apply Array.toList_inj.1
  show cs.toList = l.flatMap _
  refine pieces 4 _ l cs.toList (by omega) (fun k a hk => ?_)
  obtain ⟨hk', rfl⟩ := List.getElem?_eq_some_iff.1 hk
  obtain ⟨f, d, q, h1, h2⟩ := array_elem ht h k (by omega)
  rw [cAcc] at h2
  rw [List.getElem?_map, hk] at h1
  simp only [Option.map_some, Option.some.injEq] at h1
  subst h1
  exact quad_of h2
end
theorem heap_of {W : World} {x : String} {g : Nat} {cs : Array Value} (hg : Tryd.prog.globalNamed x = some g) (hv : W.var? Tryd.prog x = some cs) : ∃ t fr, W.heap[g]? = some (.cells cs t fr) := by
  simp only [World.var?, hg, Option.bind_some] at hv
  split at hv
  · rename_i c t fr hb
    cases hv
    exact ⟨t, fr, hb⟩
  · cases hv
theorem n0 : Tryd.prog.globalNamed "creel/ops.controlNames" = some 3 := by kernel_rfl
theorem y0 : (Tryd.prog.globals[3]?).map (·.type) = some 150 := by kernel_rfl
theorem d0 : (Rows.laid_creel_ops_controlNames : DataW Unit) = .agg (tab0.map fun s => .lit (.string s)) := by kernel_rfl
theorem t0 {W : World} (h : laidMet Tryd.prog listed W) : ∃ t fr, W.heap[3]? = some (.cells (strs tab0) t fr) := by
  obtain ⟨g, t, cs, fuel, p, hg, hty, hvar, hd⟩ := Lib.laidMet.reads h (show ("creel/ops.controlNames", Rows.laid_creel_ops_controlNames) ∈ listed from .head _)
  obtain rfl := Option.some.inj (n0.symm.trans hg)
  obtain rfl := Option.some.inj (y0.symm.trans hty)
  rw [d0] at hd
  obtain rfl := strs_of Tryd.underlying150 (by kernel_rfl) (by kernel_rfl) hd
  exact heap_of n0 hvar
theorem n1 : Tryd.prog.globalNamed "creel/ops.memoryNames" = some 4 := by kernel_rfl
theorem y1 : (Tryd.prog.globals[4]?).map (·.type) = some 151 := by kernel_rfl
theorem d1 : (Rows.laid_creel_ops_memoryNames : DataW Unit) = .agg (tab1.map fun s => .lit (.string s)) := by kernel_rfl
theorem t1 {W : World} (h : laidMet Tryd.prog listed W) : ∃ t fr, W.heap[4]? = some (.cells (strs tab1) t fr) := by
  obtain ⟨g, t, cs, fuel, p, hg, hty, hvar, hd⟩ := Lib.laidMet.reads h (show ("creel/ops.memoryNames", Rows.laid_creel_ops_memoryNames) ∈ listed from .tail _ (.head _))
  obtain rfl := Option.some.inj (n1.symm.trans hg)
  obtain rfl := Option.some.inj (y1.symm.trans hty)
  rw [d1] at hd
  obtain rfl := strs_of Tryd.underlying151 (by kernel_rfl) (by kernel_rfl) hd
  exact heap_of n1 hvar
theorem n2 : Tryd.prog.globalNamed "creel/ops.testNames" = some 5 := by kernel_rfl
theorem y2 : (Tryd.prog.globals[5]?).map (·.type) = some 152 := by kernel_rfl
theorem d2 : (Rows.laid_creel_ops_testNames : DataW Unit) = .agg (tab2.map fun s => .lit (.string s)) := by kernel_rfl
theorem t2 {W : World} (h : laidMet Tryd.prog listed W) : ∃ t fr, W.heap[5]? = some (.cells (strs tab2) t fr) := by
  obtain ⟨g, t, cs, fuel, p, hg, hty, hvar, hd⟩ := Lib.laidMet.reads h (show ("creel/ops.testNames", Rows.laid_creel_ops_testNames) ∈ listed from .tail _ (.tail _ (.head _)))
  obtain rfl := Option.some.inj (n2.symm.trans hg)
  obtain rfl := Option.some.inj (y2.symm.trans hty)
  rw [d2] at hd
  obtain rfl := strs_of Tryd.underlying152 (by kernel_rfl) (by kernel_rfl) hd
  exact heap_of n2 hvar
theorem n3 : Tryd.prog.globalNamed "creel/ops.numberNames" = some 6 := by kernel_rfl
theorem y3 : (Tryd.prog.globals[6]?).map (·.type) = some 153 := by kernel_rfl
theorem d3 : (Rows.laid_creel_ops_numberNames : DataW Unit) = .agg (tab3.map fun s => .lit (.string s)) := by kernel_rfl
theorem t3 {W : World} (h : laidMet Tryd.prog listed W) : ∃ t fr, W.heap[6]? = some (.cells (strs tab3) t fr) := by
  obtain ⟨g, t, cs, fuel, p, hg, hty, hvar, hd⟩ := Lib.laidMet.reads h (show ("creel/ops.numberNames", Rows.laid_creel_ops_numberNames) ∈ listed from .tail _ (.tail _ (.tail _ (.head _))))
  obtain rfl := Option.some.inj (n3.symm.trans hg)
  obtain rfl := Option.some.inj (y3.symm.trans hty)
  rw [d3] at hd
  obtain rfl := strs_of Tryd.underlying153 (by kernel_rfl) (by kernel_rfl) hd
  exact heap_of n3 hvar
theorem n4 : Tryd.prog.globalNamed "creel/ops.convertNames" = some 7 := by kernel_rfl
theorem y4 : (Tryd.prog.globals[7]?).map (·.type) = some 154 := by kernel_rfl
theorem d4 : (Rows.laid_creel_ops_convertNames : DataW Unit) = .agg (tab4.map fun s => .lit (.string s)) := by kernel_rfl
theorem t4 {W : World} (h : laidMet Tryd.prog listed W) : ∃ t fr, W.heap[7]? = some (.cells (strs tab4) t fr) := by
  obtain ⟨g, t, cs, fuel, p, hg, hty, hvar, hd⟩ := Lib.laidMet.reads h (show ("creel/ops.convertNames", Rows.laid_creel_ops_convertNames) ∈ listed from .tail _ (.tail _ (.tail _ (.tail _ (.head _)))))
  obtain rfl := Option.some.inj (n4.symm.trans hg)
  obtain rfl := Option.some.inj (y4.symm.trans hty)
  rw [d4] at hd
  obtain rfl := strs_of Tryd.underlying154 (by kernel_rfl) (by kernel_rfl) hd
  exact heap_of n4 hvar
theorem n5 : Tryd.prog.globalNamed "creel/ops.accesses" = some 8 := by kernel_rfl
theorem y5 : (Tryd.prog.globals[8]?).map (·.type) = some 160 := by kernel_rfl
theorem d5 : (Rows.laid_creel_ops_accesses : DataW Unit) = .agg (tabA.map fun a => .agg [.lit (.int .i64 a.n), .lit (.int .u8 a.t), .lit (.bool a.wr), .lit (.bool a.sg)]) := by kernel_rfl
theorem t5 {W : World} (h : laidMet Tryd.prog listed W) : ∃ t fr, W.heap[8]? = some (.cells (accCells tabA) t fr) := by
  obtain ⟨g, t, cs, fuel, p, hg, hty, hvar, hd⟩ := Lib.laidMet.reads h (show ("creel/ops.accesses", Rows.laid_creel_ops_accesses) ∈ listed from .tail _ (.tail _ (.tail _ (.tail _ (.tail _ (.head _))))))
  obtain rfl := Option.some.inj (n5.symm.trans hg)
  obtain rfl := Option.some.inj (y5.symm.trans hty)
  rw [d5] at hd
  obtain rfl := acc_of Tryd.underlying160 (by kernel_rfl) (by kernel_rfl) hd
  exact heap_of n5 hvar
theorem tabs_of {W : World} (h : laidMetH Tryd.prog listed W) : Tabs W := by
  rw [listed_plain] at h
  exact ⟨t0 h, t1 h, t2 h, t3 h, t4 h, t5 h⟩

/-- The settled world, the tables laid. -/
noncomputable def laidWorld (os : Os) : World :=
  let w0 := World.holding Tryd.prog os ⟨#[], #[], []⟩
  let put (h : Array Obj) (g : Nat) (cs : Array Value) : Array Obj := h.modify g fun
    | .cells _ t frozen => .cells cs t frozen
    | o => o
  let h0 := put w0.heap 3 (strs tab0)
  let h1 := put h0 4 (strs tab1)
  let h2 := put h1 5 (strs tab2)
  let h3 := put h2 6 (strs tab3)
  let h4 := put h3 7 (strs tab4)
  { w0 with heap := put h4 8 (accCells tabA) }
theorem laidWorld_met (os : Os) (args : Array Value) : laidMetH Tryd.prog listed ((laidWorld os).forCall (fun _ _ => 0) ⟨#[], args, []⟩).memory := by
  rw [listed_plain]
  exact (LaidIn.of_run (l := listed) [3, 4, 5, 6, 7, 8] 8 (by kernel_rfl) (by kernel_rfl) (by kernel_rfl) (by kernel_rfl)).met
end Go.Proofs.YtohliaellefhaaaDoor
