/- wire.Part, bodies.getLocals, whole, Get: of bytes that were written. -/
import Derived.Test.YtnfhhamkicnpjaaDoorQz16
import Derived.Test.YtnfhhamkicnpjaaDoorQz10
import Derived.Deep.LoopGhost
import Derived.RegionTactic
import Derived.Test.YtnfhhamkicnpjaaDoorQz13
import Derived.Test.YtnfhhamkicnpjaaDoorQz14
import Derived.Test.YtnfhhamkicnpjaaDoorQz15
import Derived.Deep.Fields
import Derived.ChangeSame
import Derived.ProofKit
import Derived.Test.YtnfhhamkicnpjaaDoorQz01
import Derived.OpenShut
import Derived.ShutString
import Derived.ChangeOld
import Derived.Deep.Slices
import Derived.Lib.SmallJoins
namespace Go.Proofs.YtnfhhamkicnpjaaDoor
open Go.RowKit
set_option linter.unusedVariables false
set_option maxRecDepth 100000

/-- What Part leaves behind. -/
def Parted (p : Nat) (l : List UInt8) (n k1 : Nat) (w : World) (e : Ending) (w' : World) : Prop :=
  ∃ q, e = .returned (.tuple #[.pointer (some ⟨q, 0, none⟩), .int .i64 k1]) ∧ w.heap.size ≤ q ∧ Sc w' q ((l.drop k1).take n) 0 ∧ Sc w' p l (k1 + n) ∧ w.grownBy w' (some p)
set_option maxHeartbeats 800000 in
theorem part_w {w : World} {p : Nat} {l : List UInt8} {k n k1 : Nat} (h : Sc w p l k) (hi : indexR l k = .ok (n : Int) k1) (hm : k1 + n ≤ l.length) :
    Calls Tryd.prog 29 #[.pointer (some ⟨p, 0, none⟩)] w (Parted p l n k1 w) := by
  have hN := index_scan h
  have hle := h.le.2
  rw [hi] at hN
  have HN := Lib.hid hN
  obtain ⟨hk, v0, v1⟩ := uintR_ok (show uintR l k 32 = .ok (n : Int) k1 from hi)
  have v2 : (n : Int) < 4294967296 := v1
  have w1 : IntKind.u64.wrap (n : Int) = n := by simp [IntKind.wrap, IntKind.bits, IntKind.signed]; omega
  have w2 : IntKind.u64.wrap ((l.length : Int) - k1) = (l.length : Int) - k1 := by simp [IntKind.wrap, IntKind.bits, IntKind.signed]; omega
  have w3 : IntKind.i64.wrap (n : Int) = n := by rw [IntKind.wrap_i64]; omega
  have d1 : decide ((n : Int) ≤ (l.length : Int) - k1) = true := by simp; omega
  have d2 : (n : Int) ≤ (l.length : Int) - k1 := by omega
  have HSu := Lib.hid (fun (W : World) (hs : Sc W p l k1) => sub_ok hs n hm)
  clear hN hi h v0 v1 hm
  go_enter Tryd.func29, Tryd.ntmps29
  go_wp2_with (first
    | (go_at_call 46; go_must ((with_reducible refine HN.out.mono ?_); rintro e w1 ⟨rfl, hs, hg⟩; have HS := Lib.hid hs; have HG := Lib.hid hg; clear hs hg))
    | (go_at_call 47; go_must ((with_reducible refine (at_any HS.out).mono ?_); rintro e w2 ⟨rfl, rfl⟩))
    | (go_at_call 15; go_must ((with_reducible refine (left_any HS.out).mono ?_); rintro e w2 ⟨rfl, m, rfl⟩))
    | (go_at_call 48; go_must ((with_reducible refine (unlessT _ _ _).mono ?_); rintro e w' ⟨rfl, rfl⟩))
    | (go_at_call 49; go_must ((with_reducible refine (HSu.out _ (HS.out.drewN m)).mono ?_); rintro e w3 ⟨q, rfl, hq, hs1, hs2, hg2⟩; have HQ := Lib.hid hq; have HS1 := Lib.hid hs1; have HS2 := Lib.hid hs2; have HG2 := Lib.hid (gb_trans (gb_drewN HG.out m) hg2); clear hq hs1 hs2 hg2)))
  go_ret2
  exact ⟨q, rfl, Nat.le_trans HG.out.size HQ.out, HS1.out, HS2.out, HG2.out⟩
/-- A row of groups of the call's own. -/
abbrev RowLo (W : World) (base : Nat) (v : Value) (rows : List Lo) : Prop := W.ownsRow base 78 2 v rows.length (rows.flatMap loL)
theorem RowLo.past {W W' : World} {base b : Nat} {v : Value} {rows : List Lo} (h : RowLo W base v rows) (hg : W.grownBy W' (some b)) (hb : b < base) : RowLo W' base v rows :=
  World.ownsRow.kept h hg (by
    cases hv : v.ownBlock with
    | none => exact .inl rfl
    | some k => exact .inr (by have := (World.ownsRow.lt h k hv).1; simp only [ne_eq, Option.some.injEq]; omega))
theorem RowLo.later {W W' : World} {base : Nat} {v : Value} {rows : List Lo} (h : RowLo W base v rows) (hb : Below W.heap.size W W') : RowLo W' base v rows :=
  World.ownsRow.kept h (gb_of_below none hb) (by cases v.ownBlock with
    | none => exact .inl rfl
    | some k => exact .inr (by simp))
theorem infoLo : (Tryd.prog.info? 78).map (fun i => (i.zero, i.size, i.bytes)) = some (some (.agg #[.int .u32 0, .int .u8 0]), 2, 8) := by kernel_rfl
theorem rowLo_new {w : World} {ops : Array Oper} {rest : List Oper} {o : Oper} {a : Act} {Q : Exit → Act → World → Prop} (hgd : o.guard = none) (s x : Operand)
    (ho : o.op = .call { callee := .builtin .append, args := #[s, x], argTypes := #[49, 49] })
    (B : Nat) (v : Value) (l : List Lo) (hs : a.eval s = v) (hr : RowLo w B v l) (g : Nat) (r : Lo) (hx : a.eval x = .slice (some ⟨g, 0, none⟩) 1 1)
    (hg : Whole w g 78 (loL r).toArray) (hb : l.length ≤ 10000) (hB : B ≤ w.heap.size)
    (h : ∀ v' w', RowLo w' B v' (l ++ [r]) → w.grownBy w' v.ownBlock → wpList Tryd.prog ops Q rest (a.put o.dst v') w') : wpList Tryd.prog ops Q (o :: rest) a w := by
  obtain ⟨i0, hi0, hz0, hz1, hz2⟩ := info_parts infoLo
  refine wpList_append_own _ hgd s x _ ho B 78 i0 _ 2 8 Tryd.underlying49 hi0 hz0 hz1 hz2 rfl (by omega) v _ _ hs hr ⟨g, 0, none⟩ 1 1 (loL r) hx rfl ?_ ?_ (by unfold maxLen; omega) (by omega) hB (fun v' w' h2 h3 _ => h v' w' ?_ h3)
  · intro j u hu
    rw [Go.WideShapes.add_plain, Nat.zero_add, hg.cell, ← Array.getElem?_toList]
    exact hu
  · intro u hu
    unfold loL at hu
    simp only [List.mem_cons, List.not_mem_nil, or_false] at hu
    rcases hu with rfl | rfl <;> rfl
  · show w'.ownsRow B 78 2 v' (l ++ [r]).length ((l ++ [r]).flatMap loL)
    rw [List.length_append, List.flatMap_append]
    simpa using h2
/-- Once it is read. -/
theorem RowLo.loc {W : World} {base : Nat} {v : Value} {rows : List Lo} (h : RowLo W base v rows) : ∃ A c, v = .slice A rows.length c ∧ LocT W A rows ∧ ∀ a, A = some a → base ≤ a.block := by
  rcases h.2 with ⟨rfl, h0⟩ | ⟨g, cap, cur, rfl, hb, hg, _, _, _, ht⟩
  · have hr : rows = [] := List.eq_nil_of_length_eq_zero h0
    subst hr
    exact ⟨none, 0, rfl, .inl ⟨rfl, rfl⟩, fun a e => by cases e⟩
  · exact ⟨_, cap, rfl, .inr ⟨g, cur, rfl, hg, ht⟩, fun a e => by injection e with e; subst e; exact hb⟩
theorem losL_at {l : List Lo} {k : Nat} {x : Lo} (h : l[k]? = some x) : losL l = losL (l.take k) ++ ((lebL x.n.toNat ++ [x.t]) ++ losL (l.drop (k + 1))) := by
  conv => lhs; rw [← List.take_append_drop k l, lo_drop h]
  unfold losL
  rw [List.flatMap_append, List.flatMap_cons]
theorem tyGo_mem : ∀ {l : List Lo}, tyGo l = 0 → ∀ x ∈ l, valueZ x.t.toNat = 0
  | [], _, x, hx => by cases hx
  | y :: l, h, x, hx => by
    unfold tyGo at h
    by_cases e : valueZ y.t.toNat = 0
    · rw [if_neg (by omega)] at h
      rcases List.mem_cons.1 hx with rfl | hx
      · exact e
      · exact tyGo_mem h x hx
    · rw [if_pos e] at h; exact absurd h e
/-- What getLocals leaves behind. -/
def GotLo (p : Nat) (l : List UInt8) (ls : List Lo) (k : Nat) (w : World) (e : Ending) (w' : World) : Prop :=
  ∃ A c, e = .returned (.slice A ls.length c) ∧ (LocT w' A ls ∧ ∀ a, A = some a → w.heap.size ≤ a.block) ∧ Sc w' p l k ∧ w.grownBy w' (some p)
end Go.Proofs.YtnfhhamkicnpjaaDoor

/- bodies.whole, Get, of bytes that were written. -/
namespace Go.Proofs.YtnfhhamkicnpjaaDoor
open Go.RowKit
set_option linter.unusedVariables false
set_option maxRecDepth 100000

/-- The numbers are what their kinds hold; neither instructions nor groups nor labels are many. -/
structure BdOk (x : Bd) : Prop where
  ok : ∀ i ∈ x.b, i.Ok ∧ i.l.length ≤ 50
  h50 : x.ls.length ≤ 50
  h60 : x.b.length ≤ 60
theorem BdOk.ok100 {x : Bd} (h : BdOk x) : ∀ i ∈ x.b, i.Ok ∧ i.l.length ≤ 100 := fun i hi => ⟨(h.ok i hi).1, by have := (h.ok i hi).2; omega⟩
theorem putL_len50 {i : I} (h : i.Ok) (hl : i.l.length ≤ 50) : (putL i).length ≤ 600 := by
  obtain ⟨a0, a1, b0, b1, hl0⟩ := h
  have k1 := lebL_len i.a (by omega)
  have k2 := lebL_len i.b (by omega)
  have k3 := lebL_len (i.l.length : Int) (by omega)
  have k4 := labsL_len i.l hl0
  have k5 := sebL_len (s32 i.a) (by unfold s32; omega) (by unfold s32; omega)
  have k6 := sebL_len (s64 i.a) (by unfold s64; omega) (by unfold s64; omega)
  have key : (immL i).length ≤ 550 := by
    unfold immL immB labL
    repeat' split
    all_goals (try simp only [List.length_append, List.length_cons, List.length_nil])
    all_goals omega
  unfold putL
  rw [List.length_cons]
  omega
theorem bodyL_len50 : ∀ l : List I, (∀ i ∈ l, i.Ok ∧ i.l.length ≤ 50) → (bodyL l).length ≤ l.length * 600
  | [], _ => by simp [bodyL]
  | i :: r, h => by
    have h1 := bodyL_len50 r (fun j hj => h j (List.mem_cons_of_mem _ hj))
    have h2 := putL_len50 (h i (by simp)).1 (h i (by simp)).2
    unfold bodyL at h1 ⊢
    rw [List.flatMap_cons, List.length_append, List.length_cons]
    omega
theorem codeL_len {x : Bd} (h : BdOk x) : (codeL x).length ≤ 36600 := by
  have h1 := lebL_len (x.ls.length : Int) (by have := h.h50; omega)
  have h2 := losL_len x.ls
  have h3 := bodyL_len50 x.b h.ok
  have h4 := h.h50
  have h5 := h.h60
  have hb : (bputL x).length ≤ 36570 := by unfold bputL; rw [List.length_append, List.length_append]; omega
  have h6 := lebL_len ((bputL x).length : Int) (by omega)
  unfold codeL
  rw [List.length_append]
  omega
theorem brZ_zero {x : Bd} (h : brZ x = 0) : (∃ q : Nat, locGo 0 x.ls = (q : Int)) ∧ tyGo x.ls = 0 ∧ shapeGo [] (opsOf x.b) = true ∧ ∀ i ∈ x.b, rightZ i = 0 := by
  have hb : bshZ x = 0 := by
    unfold brZ at h
    by_cases e : bshZ x = 0
    · exact e
    · rw [if_pos e] at h; exact absurd h e
  have hc := brZ_code hb
  rw [h] at hc
  unfold bshZ at hb
  by_cases h1 : locGo 0 x.ls < 0
  · rw [if_pos h1] at hb; omega
  · rw [if_neg h1] at hb
    by_cases h2 : tyGo x.ls = 0
    · rw [if_neg (by omega)] at hb
      have h3 : shapeGo [] (opsOf x.b) = true := by
        unfold shapeZ at hb
        by_cases e : shapeGo [] (opsOf x.b) = true
        · exact e
        · rw [if_neg e] at hb; omega
      refine ⟨⟨(locGo 0 x.ls).toNat, by omega⟩, h2, h3, errZ_all ?_⟩
      unfold codeZ at hc
      rw [if_pos hb] at hc
      omega
    · rw [if_pos h2] at hb; exact absurd hb h2
/-- What reading a body leaves behind. -/
def GotBd (p : Nat) (l : List UInt8) (x : Bd) (k : Nat) (w : World) (e : Ending) (w' : World) : Prop :=
  ∃ s : SlotBd, s.1 = x ∧ e = .returned (cV s) ∧ HasBd w' w.heap.size s ∧ Sc w' p l k ∧ w.grownBy w' (some p)
/-- What Get's closure leaves behind. -/
def GClos (q X : Nat) (x : Bd) (w : World) (w' : World) : Prop :=
  ∃ s : SlotBd, s.1 = x ∧ HasBd w' w.heap.size s ∧ Whole w' X 75 (cC s) ∧ ∃ w1, w.grownBy w1 (some q) ∧ w1.grownBy w' (some X)
/-- What holds once Within has ended. -/
structure GEnd (w : World) (p R X St : Nat) (l : List UInt8) (k : Nat) (s : SlotBd) (W : World) : Prop where
  has : HasBd W (St + 1) s
  x : Whole W X 75 (cC s)
  st : Whole W St 38 #[.int .i64 0, .int .i64 0]
  sc : Sc W p l k
  r : Whole W R 75 bdZ
  g : w.grownBy W (some p)
end Go.Proofs.YtnfhhamkicnpjaaDoor

/- bodies.PutAll. -/
namespace Go.Proofs.YtnfhhamkicnpjaaDoor
open Go.RowKit
set_option linter.unusedVariables false
set_option maxRecDepth 100000

/-- May it be? Its bytes. -/
def rBd (x : SlotBd) : Int := brZ x.1
noncomputable def cputB (x : SlotBd) : List UInt8 := codeL x.1
def PuttedC (x : SlotBd) (w : World) (e : Ending) (w' : World) : Prop := ∃ v, e = .returned (.tuple #[v, .int .i64 (rBd x)]) ∧ Row w' w.heap.size v (if rBd x = 0 then cputB x else []) ∧ Below w.heap.size w w'
def OkBds (l : List SlotBd) : Prop := ∀ x ∈ l, BdOk x.1
theorem put_c (x : SlotBd) (w : World) (hT : Tabs w) (h : BdOk x.1) (hL : Los w x.2.1.1 x.1.ls) (hI : Ins w x.2.2.1 x.1.b) : Calls Tryd.prog 34 #[cV x] w (PuttedC x w) := put_bd hT hL hI h.h50 h.h60 h.ok100
/-- The first error. -/
def errBd : List SlotBd → Int
  | [] => 0
  | x :: r => if rBd x ≠ 0 then rBd x else errBd r
theorem errBd_app : ∀ a b : List SlotBd, errBd (a ++ b) = if errBd a ≠ 0 then errBd a else errBd b
  | [], b => by simp [errBd]
  | x :: a, b => by
    simp only [List.cons_append, errBd]
    by_cases h : rBd x = 0
    · simp only [h, ne_eq, not_true_eq_false, if_false, errBd_app a b]
    · simp [h]
theorem errBd_snoc {l : List SlotBd} {k : Nat} {x : SlotBd} (h : l[k]? = some x) : errBd (l.take (k + 1)) = if errBd (l.take k) ≠ 0 then errBd (l.take k) else rBd x := by
  rw [List.take_add_one, h]
  show errBd (l.take k ++ [x]) = _
  rw [errBd_app]
  by_cases e : rBd x = 0 <;> simp [errBd, e]
theorem errBd_bad {l : List SlotBd} {k : Nat} (h : errBd (l.take k) ≠ 0) : errBd l = errBd (l.take k) := by
  conv => lhs; rw [← List.take_append_drop k l]
  rw [errBd_app, if_pos h]
theorem errBd_mem : ∀ {l : List SlotBd}, errBd l = 0 → ∀ x ∈ l, rBd x = 0
  | [], _, x, hx => by cases hx
  | y :: l, h, x, hx => by
    simp only [errBd] at h
    by_cases e : rBd y = 0
    · simp only [e, ne_eq, not_true_eq_false, if_false] at h
      rcases List.mem_cons.1 hx with rfl | hx
      · exact e
      · exact errBd_mem h x hx
    · simp [e] at h
/-- Many bodies' bytes. -/
noncomputable def bdsL (l : List SlotBd) : List UInt8 := l.flatMap cputB
theorem bdsL_snoc {l : List SlotBd} {k : Nat} {x : SlotBd} (h : l[k]? = some x) : bdsL (l.take (k + 1)) = bdsL (l.take k) ++ cputB x := by
  unfold bdsL
  rw [List.take_add_one, h, List.flatMap_append]
  simp
theorem bdsL_len : ∀ {l : List SlotBd}, OkBds l → (bdsL l).length ≤ l.length * 36600
  | [], _ => by simp [bdsL]
  | x :: r, h => by
    have h1 := bdsL_len (l := r) (fun y hy => h y (List.mem_cons_of_mem _ hy))
    have h3 : (cputB x).length ≤ 36600 := codeL_len (h x (by simp))
    unfold bdsL at h1 ⊢
    rw [List.flatMap_cons, List.length_append, List.length_cons]
    omega
noncomputable def allBd (l : List SlotBd) : List UInt8 := lebL l.length ++ bdsL l
/-- What PutAll hands back. -/
def PuttedAllBd (l : List SlotBd) (w : World) (e : Ending) (w' : World) : Prop := ∃ v, e = .returned (.tuple #[v, .int .i64 (errBd l)]) ∧ Row w' w.heap.size v (if errBd l = 0 then allBd l else []) ∧ Below w.heap.size w w'
theorem cfBdP (a : Array Value) (w : World) : (callFunc 34 a).run Tryd.prog w = .ok (.enter 34 a) w := by kernel_rfl
end Go.Proofs.YtnfhhamkicnpjaaDoor

/- bodies.GetAll of what PutAll wrote. -/
namespace Go.Proofs.YtnfhhamkicnpjaaDoor
open Go.RowKit
set_option linter.unusedVariables false
set_option maxRecDepth 100000

theorem bdsL_at {l : List SlotBd} {k : Nat} {x : SlotBd} (h : l[k]? = some x) : bdsL l = bdsL (l.take k) ++ (codeL x.1 ++ bdsL (l.drop (k + 1))) := by
  have e1 : l = l.take k ++ x :: l.drop (k + 1) := by
    obtain ⟨hj3, hj4⟩ := List.getElem?_eq_some_iff.1 h
    rw [← hj4, ← List.drop_eq_getElem_cons hj3, List.take_append_drop]
  conv => lhs; rw [e1]
  unfold bdsL
  rw [List.flatMap_append, List.flatMap_cons]
  rfl
/-- What holds at the head of GetAll's loop. -/
structure AInBd (w : World) (p : Nat) (l : List UInt8) (k : Nat) (xs : List SlotBd) (v : Value) (W : World) : Prop where
  sc : Sc W p l k
  g : w.grownBy W (some p)
  r : RowBd W w.heap.size v xs
  tb : TbP p W
section
variable {w W W' : World} {p : Nat} {l : List UInt8} {k k' : Nat} {xs : List SlotBd} {x : SlotBd} {v v' : Value}
theorem AInBd.step (h : AInBd w p l k xs v W) (hp : p < w.heap.size) (hg : W.grownBy W' (some p)) (hs : Sc W' p l k') : AInBd w p l k' xs v W' :=
  ⟨hs, gb_trans h.g hg, h.r.past hg hp, h.tb.self hg⟩
theorem AInBd.alloc (h : AInBd w p l k xs v W) (hp : p < w.heap.size) (o : Obj) : AInBd w p l k xs v (W.alloc o) := h.step hp (gb_alloc (gb_refl _ _) o) (h.sc.alloc o)
theorem AInBd.more (h : AInBd w p l k xs v W) (hp : p < w.heap.size) (hg : W.grownBy W' v.ownBlock) (hr : RowBd W' w.heap.size v' (xs ++ [x])) : AInBd w p l k (xs ++ [x]) v' W' := by
  have hlt := h.r.lt
  exact ⟨h.sc.grown hg (fun e => by have := hlt p e.symm; omega) (fun g e => by have := hlt g e; omega), gb_before h.g hg (fun g e => .inr (hlt g e).1), hr, h.tb.grown hg (fun g e => by have := hlt g e; omega)⟩
end
/-- The list that was read. -/
def GotAllBd (p : Nat) (xs : List Bd) (w : World) (e : Ending) (w' : World) : Prop :=
  ∃ v rows, e = .returned v ∧ RowBd w' w.heap.size v rows ∧ rows.map (·.1) = xs ∧ w.grownBy w' (some p)
end Go.Proofs.YtnfhhamkicnpjaaDoor

/- abort.Value of a function that ends well, whatever it hands back: []api.Code. Value of one that aborts. -/
namespace Go.Proofs.YtnfhhamkicnpjaaDoor
open Go.RowKit
set_option linter.unusedVariables false
set_option maxRecDepth 100000

section
variable {T : (Option Addr × Nat × Nat) → World → Prop}
end
end Go.Proofs.YtnfhhamkicnpjaaDoor

/- abort.Value of a function that ends well, whatever it hands back: api.Code. (By gen/genVal.py.) -/
namespace Go.Proofs.YtnfhhamkicnpjaaDoor
open Go.RowKit
set_option linter.unusedVariables false
set_option maxRecDepth 100000

section
variable {T : SlotBd → World → Prop}
/-- What Value's closure leaves behind, seen from Value's beginning. -/
structure VSBd (T : SlotBd → World → Prop) (w : World) (q : Nat) (x : SlotBd) (w1 : World) : Prop where
  kept : T x w1
  grown : w.grownBy w1 (some q)
  val : Whole w1 (w.heap.size + 3) 75 #[.slice x.2.1.1 x.1.ls.length x.2.1.2, .slice x.2.2.1 x.1.b.length x.2.2.2]
  r1 : Whole w1 (w.heap.size + 1) 75 #[.slice none 0 0, .slice none 0 0]
  r2 : Whole w1 (w.heap.size + 2) 38 #[.int .i64 0, .int .i64 0]
end
end Go.Proofs.YtnfhhamkicnpjaaDoor

/- awake; the laws' closures; two lists side by side. -/
namespace Go.Proofs.YtnfhhamkicnpjaaDoor
open Go.RowKit
set_option linter.unusedVariables false
set_option maxRecDepth 100000

/-- The page's example: an end alone. -/
def eEnd : I := ⟨11, 0, 0, []⟩
theorem eEnd_ok : eEnd.Ok := ⟨by decide, by decide, by decide, by decide, fun c h => by cases h⟩
theorem eEnd_imm : immR eEnd.n = 0 := by decide +kernel
theorem eEnd_put : putL eEnd = [11] := by
  unfold putL immL immB
  rw [eEnd_imm]
  rfl
def bEg : Bd := ⟨[], [eEnd]⟩
theorem bEg_zero : brZ bEg = 0 := by decide +kernel
theorem bEg_code : codeL bEg = [2, 0, 11] := by
  have hb : bputL bEg = [0, 11] := by
    unfold bputL losL bodyL
    show (lebL 0 ++ []) ++ [eEnd].flatMap putL = _
    rw [List.flatMap_cons, List.flatMap_nil, eEnd_put, lebL_sm 0 (by omega) (by omega)]
    rfl
  unfold codeL
  rw [hb]
  show lebL 2 ++ [0, 11] = _
  rw [lebL_sm 2 (by omega) (by omega)]
  rfl
theorem ins_end (w : World) : Ins (w.alloc (.cells #[.int .u8 11, .int .u64 0, .int .u64 0, .slice none 0 0] 25)) (some ⟨w.heap.size, 0, none⟩) [eEnd] := fun j i hij => by
  have hw := Whole.made w 25 #[.int .u8 11, .int .u64 0, .int .u64 0, .slice none 0 0]
  match j, hij with
  | 0, hij =>
    injection hij with hij
    subst hij
    exact ⟨w.heap.size, 0, none, 0, rfl, hw.lt, ⟨hw.cell 0, hw.cell 1, hw.cell 2, hw.cell 3⟩, fun j v hv => by simp [cells32, eEnd] at hv⟩
  | j + 1, hij => simp at hij
theorem bdawake_any (w : World) (hT : Tabs w) : Calls Tryd.prog 16 #[] w fun e w' => e = .returned (.bool true) ∧ Below w.heap.size w w' := by
  have hb0 := below_box w (.cells #[.int .u8 11, .int .u64 0, .int .u64 0, .slice none 0 0] 25)
  have hp := put_bd (x := bEg) (L := none) (l := 0) (B := some ⟨w.heap.size, 0, none⟩) (c := 1) (hT.below hb0) (fun j x hx => by cases hx) (ins_end w) (by decide) (by decide) (fun i hi => by rw [List.mem_singleton.1 (show i ∈ [eEnd] from hi)]; exact ⟨eEnd_ok, by decide⟩)
  obtain ⟨l, hl⟩ : ∃ l : List UInt8, l = [2, 0, 11] := ⟨_, rfl⟩
  have HP := Lib.hid (show Calls Tryd.prog 34 #[.agg #[.slice none 0 0, .slice (some ⟨w.heap.size, 0, none⟩) 1 1]] (w.alloc (.cells #[.int .u8 11, .int .u64 0, .int .u64 0, .slice none 0 0] 25)) fun e w' => ∃ v, e = .returned (.tuple #[v, .int .i64 0]) ∧ Row w' (w.alloc (.cells #[.int .u8 11, .int .u64 0, .int .u64 0, .slice none 0 0] 25)).heap.size v l ∧ Below (w.alloc (.cells #[.int .u8 11, .int .u64 0, .int .u64 0, .slice none 0 0] 25)).heap.size (w.alloc (.cells #[.int .u8 11, .int .u64 0, .int .u64 0, .slice none 0 0] 25)) w' from hp.mono fun e w' ⟨v, h1, h2, h3⟩ => ⟨v, by rw [bEg_zero] at h1; exact h1, by rw [if_pos bEg_zero, bEg_code] at h2; rw [hl]; exact h2, h3⟩)
  have hcmp : ((S l).toList == [2, 0, 11]) = true := by rw [S_toList, hl]; rfl
  have HB0 := Lib.hid hb0
  clear hl
  clear hp hT hb0
  go_enter Tryd.func16, Tryd.ntmps16
  go_wp2_with (go_at_call 34; go_must ((with_reducible refine HP.out.mono ?_); intro e w1 h; obtain ⟨v, rfl, hr, hb⟩ := h; obtain ⟨A, c, rfl, hcv⟩ := hr.str; have hcv2 := hcv 9 Tryd.underlying9; have HB := Lib.hid (HB0.out.trans (hb.mono HB0.out.size)); clear hb hr hcv))
  go_ret
  exact ⟨rfl, HB.out⟩
/-- The two cells of a body, by its parts. -/
abbrev TwoL (w : World) (b o : Nat) (g : Bd) (a f : Option Addr × Nat) : Prop := w.cell? ⟨b, o, none⟩ = some (.slice a.1 g.ls.length a.2) ∧ w.cell? ⟨b, o + 1, none⟩ = some (.slice f.1 g.b.length f.2)
/-- One of each of two lists, as a walk reads them; both lists. -/
abbrev TwoBd (w : World) (A A2 : Option Addr) (l l2 : List SlotBd) (b off b2 off2 k : Nat) (g : Bd) (a1 a2 c1 c2 : Option Addr × Nat) (W : World) : Prop :=
  (Below w.heap.size w W ∧ Bds W A l ∧ Bds W A2 l2) ∧ TwoL W b (off + k * 2) g a1 c1 ∧ TwoL W b2 (off2 + k * 2) g a2 c2
section
variable {w W W' : World} {A A2 : Option Addr} {l l2 : List SlotBd} {b off b2 off2 k : Nat} {g : Bd} {a1 a2 c1 c2 : Option Addr × Nat}
theorem twoBd_of (h1 : Below w.heap.size w W) (h2 : Bds W A l) (h3 : Bds W A2 l2) (hA : A = some ⟨b, off, none⟩) (hA2 : A2 = some ⟨b2, off2, none⟩) (hx : l[k]? = some (g, a1, c1)) (hy : l2[k]? = some (g, a2, c2)) : TwoBd w A A2 l l2 b off b2 off2 k g a1 a2 c1 c2 W := by
  obtain ⟨d1, o1, e1, _, p⟩ := h2.two hx
  obtain ⟨d2, o2, e2, _, q⟩ := h3.two hy
  rw [hA] at e1
  rw [hA2] at e2
  injection e1 with e1
  injection e2 with e2
  injection e1 with a1 a2
  injection e2 with a3 a4
  subst a1; subst a2; subst a3; subst a4
  exact ⟨⟨h1, h2, h3⟩, p, q⟩
theorem twoBd_on (h : TwoBd w A A2 l l2 b off b2 off2 k g a1 a2 c1 c2 W) (hA : A = some ⟨b, off, none⟩) (hA2 : A2 = some ⟨b2, off2, none⟩) (hx : l[k]? = some (g, a1, c1)) (hy : l2[k]? = some (g, a2, c2)) (hb : Below W.heap.size W W') : TwoBd w A A2 l l2 b off b2 off2 k g a1 a2 c1 c2 W' :=
  twoBd_of (h.1.1.trans (hb.mono h.1.1.size)) (h.1.2.1.below hb) (h.1.2.2.below hb) hA hA2 hx hy
/-- Both have one there, and these are alike. -/
theorem bothBd_at (hm : l.map (·.1) = l2.map (·.1)) (hk : k < l.length) : ∃ g a1 a2 c1 c2, l[k]? = some (g, a1, c1) ∧ l2[k]? = some (g, a2, c2) := by
  obtain ⟨⟨g, a1, c1⟩, hx⟩ : ∃ x, l[k]? = some x := ⟨_, List.getElem?_eq_getElem hk⟩
  have hk2 : k < l2.length := by have := congrArg List.length hm; rw [List.length_map, List.length_map] at this; omega
  obtain ⟨⟨g2, a2, c2⟩, hy⟩ : ∃ y, l2[k]? = some y := ⟨_, List.getElem?_eq_getElem hk2⟩
  have e := congrArg (fun l => l[k]?) hm
  simp only [List.getElem?_map, hx, hy, Option.map_some, Option.some.injEq] at e
  subst e
  exact ⟨g, a1, a2, c1, c2, hx, hy⟩
end
end Go.Proofs.YtnfhhamkicnpjaaDoor

/- A slice of instructions, opened. -/
namespace Go.Proofs.YtnfhhamkicnpjaaDoor
open Go.ChangeShapes Go.WideShapes Go.ChangeAt Go.RowKit Go.Joins Go.Deep
set_option linter.unusedVariables false
set_option maxRecDepth 100000

theorem cellsI : Tryd.prog.cellsOf 25 = 4 := by kernel_rfl
section
variable {H : Type} {enc : TypeId × Value → H} {W : World} {sp : Nat → Bool}
/-- One element: its four cells, each with its reading. -/
theorem open_elem {n : Nat} {cs : List Value} {x : DataW H × List MemPlace} (h : DataW.trod enc Tryd.prog W 0 sp true n 25 cs = some x) (hc : cs.length = 4) :
    ∃ (i : I) (B : Option Addr) (c : Nat), cs = [.int .u8 i.op.toNat, .int .u64 i.a, .int .u64 i.b, .slice B i.l.length c] ∧ i.Ok ∧ LiesL W B i.l ∧ (i.l.length : Int) ≤ 9223372036854775807 := by
  obtain ⟨ys, m, _, hy, hlen, hyl, hf⟩ := DataW.trod_struct Tryd.underlying25 h
  match cs, hc with
  | [c0, c1, c2, c3], _ =>
    match ys, hyl with
    | [y0, y1, y2, y3], _ =>
      have e1 : Tryd.prog.cellsOf 5 = 1 := by kernel_rfl
      have e2 : Tryd.prog.cellsOf 22 = 1 := by kernel_rfl
      have e3 : Tryd.prog.cellsOf 23 = 1 := by kernel_rfl
      have h0 : DataW.trod enc Tryd.prog W 0 sp true m 5 (([c0, c1, c2, c3].drop 0).take (Tryd.prog.cellsOf 5)) = some y0 := hf 0 _ rfl
      have h1 : DataW.trod enc Tryd.prog W 0 sp true m 22 (([c0, c1, c2, c3].drop 1).take (Tryd.prog.cellsOf 22)) = some y1 := hf 1 _ rfl
      have h2 : DataW.trod enc Tryd.prog W 0 sp true m 22 (([c0, c1, c2, c3].drop 2).take (Tryd.prog.cellsOf 22)) = some y2 := hf 2 _ rfl
      have h3 : DataW.trod enc Tryd.prog W 0 sp true m 23 (([c0, c1, c2, c3].drop 3).take (Tryd.prog.cellsOf 23)) = some y3 := hf 3 _ rfl
      rw [e1] at h0
      rw [e2] at h1 h2
      rw [e3] at h3
      obtain ⟨i, B, c, rfl, rfl, rfl, rfl, ho, hl, hn⟩ := open_parts h0 h1 h2 h3
      exact ⟨i, B, c, rfl, ho, hl, hn⟩
theorem open_list {A : Option Addr} {len cap : Nat} {d : DataW H} {p : List MemPlace} (h : DataW.Trod enc Tryd.prog W 0 sp true 73 (.slice A len cap) d p) :
    ∃ l : List I, l.length = len ∧ (Ins W A l ∧ ∀ i ∈ l, i.Ok ∧ (i.l.length : Int) ≤ 9223372036854775807) ∧ (l.length : Int) ≤ 9223372036854775807 := by
  obtain ⟨fuel, hf⟩ := h
  rcases open_slice Tryd.underlying73 hf with ⟨hcs, _⟩ | ⟨a, ln, cp, m, n, D, Pl, hcs, hb, hl, hm, hmm, hx, hi⟩
  · simp [Value.cells] at hcs
    obtain ⟨rfl, rfl, rfl⟩ := hcs
    exact ⟨[], rfl, ⟨(fun j i hi => by cases hi), (fun i hi => by cases hi)⟩, by simp⟩
  · simp [Value.cells] at hcs
    obtain ⟨rfl, rfl, rfl⟩ := hcs
    have hlm : len ≤ m := by rw [hmm]; split <;> omega
    have each : ∀ j, j < len → ∃ (i : I) (B : Option Addr) (c : Nat), (W.cell? (a.add (j * 4)) = some (.int .u8 i.op.toNat) ∧ W.cell? ((a.add (j * 4)).add 1) = some (.int .u64 i.a) ∧ W.cell? ((a.add (j * 4)).add 2) = some (.int .u64 i.b) ∧ W.cell? ((a.add (j * 4)).add 3) = some (.slice B i.l.length c)) ∧ i.Ok ∧ LiesL W B i.l ∧ (i.l.length : Int) ≤ 9223372036854775807 := by
      intro j hj
      obtain ⟨cs', hc, ht'⟩ := hi j (by omega)
      rw [cellsI] at hc
      obtain ⟨_, hcl, hat⟩ := World.cells?_some hc
      obtain ⟨i, B, c, rfl, ho, hli, hn⟩ := open_elem ht' hcl
      have q0 := hat 0 (by omega)
      have q1 := hat 1 (by omega)
      have q2 := hat 2 (by omega)
      have q3 := hat 3 (by omega)
      exact ⟨i, B, c, ⟨by simpa [Addr.add] using q0, q1, q2, q3⟩, ho, hli, hn⟩
    have pick : ∀ k, k ≤ len → ∃ l : List I, l.length = k ∧ ∀ j i, l[j]? = some i → ∃ (B : Option Addr) (c : Nat), (W.cell? (a.add (j * 4)) = some (.int .u8 i.op.toNat) ∧ W.cell? ((a.add (j * 4)).add 1) = some (.int .u64 i.a) ∧ W.cell? ((a.add (j * 4)).add 2) = some (.int .u64 i.b) ∧ W.cell? ((a.add (j * 4)).add 3) = some (.slice B i.l.length c)) ∧ i.Ok ∧ LiesL W B i.l ∧ (i.l.length : Int) ≤ 9223372036854775807 := by
      intro k
      induction k with
      | zero => intro _; exact ⟨[], rfl, fun j i hi => by cases hi⟩
      | succ k ih =>
        intro hk
        obtain ⟨l, hl1, hl2⟩ := ih (by omega)
        obtain ⟨i, B, c, hq⟩ := each k (by omega)
        refine ⟨l ++ [i], by simp [hl1], fun j i' hi' => ?_⟩
        rcases Nat.lt_or_ge j k with g | g
        · rw [List.getElem?_append_left (by omega)] at hi'
          exact hl2 j i' hi'
        · have hj : j < (l ++ [i]).length := (List.getElem?_eq_some_iff.1 hi').1
          rw [List.length_append, List.length_singleton] at hj
          obtain rfl : j = k := by omega
          rw [List.getElem?_append_right (by omega), hl1, Nat.sub_self] at hi'
          injection hi' with hi'
          subst hi'
          exact ⟨B, c, hq⟩
    obtain ⟨l, hl1, hl2⟩ := pick len (Nat.le_refl _)
    unfold maxLen at hm
    refine ⟨l, hl1, ⟨fun j i hij => ?_, fun i him => ?_⟩, by omega⟩
    · obtain ⟨B, c, ⟨q0, q1, q2, q3⟩, _, hli, _⟩ := hl2 j i hij
      have hj0 := (List.getElem?_eq_some_iff.1 hij).1
      obtain ⟨_, _, ⟨q00, _, _, _⟩, _⟩ := hl2 0 _ (List.getElem?_eq_getElem (by omega : 0 < l.length))
      obtain ⟨b, off, spot⟩ := a
      have hsp : spot = none := by simpa [Addr.add] using World.cell?_spot q00
      subst hsp
      rw [Go.WideShapes.add_plain] at q0 q1 q2 q3
      rw [Go.WideShapes.add_plain] at q1 q2 q3
      exact ⟨b, off, B, c, rfl, block_lt_of_cell q0, ⟨q0, q1, q2, q3⟩, hli⟩
    · obtain ⟨j, hj⟩ := List.getElem?_of_mem him
      obtain ⟨B, c, _, ho, _, hn⟩ := hl2 j i hj
      exact ⟨ho, hn⟩
end
end Go.Proofs.YtnfhhamkicnpjaaDoor

/- Numbers of eight and of thirty-two bits, opened. -/
namespace Go.Proofs.YtnfhhamkicnpjaaDoor
set_option linter.unusedVariables false

theorem u8_ex {x : Int} (h : Lit.wf (.int .u8 x) = true) : ∃ a : UInt8, x = a.toNat := by
  have b : 0 ≤ x ∧ x ≤ 255 := by simpa [Lit.wf, IntKind.min, IntKind.max, IntKind.signed, IntKind.bits] using h
  exact ⟨UInt8.ofNat x.toNat, by rw [UInt8.toNat_ofNat']; omega⟩
theorem u32_ex {x : Int} (h : Lit.wf (.int .u32 x) = true) : ∃ a : UInt32, x = a.toNat := by
  have b : 0 ≤ x ∧ x ≤ 4294967295 := by simpa [Lit.wf, IntKind.min, IntKind.max, IntKind.signed, IntKind.bits] using h
  exact ⟨UInt32.ofNat x.toNat, by rw [UInt32.toNat_ofNat']; omega⟩
end Go.Proofs.YtnfhhamkicnpjaaDoor

/- Groups of locals, a body by value, a slice of bodies: opened. (By gen/genOpen.py.) -/
namespace Go.Proofs.YtnfhhamkicnpjaaDoor
open Go.ChangeShapes Go.WideShapes Go.ChangeAt Go.RowKit Go.Joins Go.Deep
set_option linter.unusedVariables false
set_option maxRecDepth 100000

theorem cellsLoc : Tryd.prog.cellsOf 78 = 2 := by kernel_rfl
theorem cellsCode : Tryd.prog.cellsOf 75 = 2 := by kernel_rfl
/-- The numbers of its instructions are what their kinds hold. -/
def OkB (x : SlotBd) : Prop := (∀ i ∈ x.1.b, i.Ok ∧ (i.l.length : Int) ≤ 9223372036854775807) ∧ (x.1.b.length : Int) ≤ 9223372036854775807 ∧ (x.1.ls.length : Int) ≤ 9223372036854775807
section
variable {H : Type} {enc : TypeId × Value → H} {W : World} {sp : Nat → Bool}
theorem open_lo {n : Nat} {cs : List Value} {y : DataW H × List MemPlace} (h : DataW.trod enc Tryd.prog W 0 sp true n 78 cs = some y) (hc : cs.length = 2) : ∃ x : Lo, cs = loL x := by
  obtain ⟨ys, m, _, hy, hlen, hyl, hf⟩ := DataW.trod_struct Tryd.underlying78 h
  match cs, hc with
  | [c0, c1], _ =>
    match ys, hyl with
    | [y0, y1], _ =>
      have e1 : Tryd.prog.cellsOf 76 = 1 := by kernel_rfl
      have e2 : Tryd.prog.cellsOf 5 = 1 := by kernel_rfl
      have h0 : DataW.trod enc Tryd.prog W 0 sp true m 76 (([c0, c1].drop 0).take (Tryd.prog.cellsOf 76)) = some y0 := hf 0 _ rfl
      have h1 : DataW.trod enc Tryd.prog W 0 sp true m 5 (([c0, c1].drop 1).take (Tryd.prog.cellsOf 5)) = some y1 := hf 1 _ rfl
      rw [e1] at h0
      rw [e2] at h1
      obtain ⟨x0, q0, _, w0⟩ := DataW.trod_int Tryd.underlying76 h0
      obtain ⟨x1, q1, _, w1⟩ := DataW.trod_int Tryd.underlying5 h1
      obtain ⟨a, rfl⟩ := u32_ex w0
      obtain ⟨b, rfl⟩ := u8_ex w1
      have q0' : c0 = .int .u32 a.toNat := by simpa using q0
      have q1' : c1 = .int .u8 b.toNat := by simpa using q1
      exact ⟨⟨a, b⟩, by unfold loL; rw [q0', q1']⟩
theorem open_locs {A : Option Addr} {len cap : Nat} {d : DataW H} {p : List MemPlace} (h : DataW.Trod enc Tryd.prog W 0 sp true 49 (.slice A len cap) d p) :
    ∃ l : List Lo, l.length = len ∧ Los W A l ∧ (l.length : Int) ≤ 9223372036854775807 := by
  obtain ⟨fuel, hf⟩ := h
  rcases open_slice Tryd.underlying49 hf with ⟨hcs, _⟩ | ⟨a, ln, cp, m, n, D, Pl, hcs, hb, hl, hm, hmm, hx, hi⟩
  · simp [Value.cells] at hcs
    obtain ⟨rfl, rfl, rfl⟩ := hcs
    exact ⟨[], rfl, (fun j i hi => by cases hi), by simp⟩
  · simp [Value.cells] at hcs
    obtain ⟨rfl, rfl, rfl⟩ := hcs
    have hlm : len ≤ m := by rw [hmm]; split <;> omega
    have each : ∀ j, j < len → ∃ i : Lo, ∀ u, u < 2 → W.cell? ((a.add (j * 2)).add u) = (loL i)[u]? := by
      intro j hj
      obtain ⟨cs', hc, ht'⟩ := hi j (by omega)
      rw [cellsLoc] at hc
      obtain ⟨_, hcl, hat⟩ := World.cells?_some hc
      obtain ⟨i, rfl⟩ := open_lo ht' hcl
      exact ⟨i, fun u hu => hat u (by omega)⟩
    have pick : ∀ k, k ≤ len → ∃ l : List Lo, l.length = k ∧ (∀ (j : Nat) (i : Lo), l[j]? = some i → ∀ u, u < 2 → W.cell? ((a.add (j * 2)).add u) = (loL i)[u]?) := by
      intro k
      induction k with
      | zero => intro _; exact ⟨[], rfl, (fun j i hi => by cases hi)⟩
      | succ k ih =>
        intro hk
        obtain ⟨l, hl1, hl2⟩ := ih (by omega)
        obtain ⟨i, hq⟩ := each k (by omega)
        refine ⟨l ++ [i], by simp [hl1], fun j i' hi' => ?_⟩
        rcases Nat.lt_or_ge j k with g | g
        · rw [List.getElem?_append_left (by omega)] at hi'
          exact hl2 j i' hi'
        · have hj : j < (l ++ [i]).length := (List.getElem?_eq_some_iff.1 hi').1
          rw [List.length_append, List.length_singleton] at hj
          obtain rfl : j = k := by omega
          rw [List.getElem?_append_right (by omega), hl1, Nat.sub_self] at hi'
          injection hi' with hi'
          subst hi'
          exact hq
    obtain ⟨l, hl1, hl2⟩ := pick len (Nat.le_refl _)
    unfold maxLen at hm
    refine ⟨l, hl1, fun j i hij => ?_, by omega⟩
    have q := hl2 j i hij
    have hj0 := (List.getElem?_eq_some_iff.1 hij).1
    have q00 : W.cell? ((a.add (0 * 2)).add 0) = some (.int .u32 (l[0]'(by omega)).n.toNat) := hl2 0 _ (List.getElem?_eq_getElem (by omega : 0 < l.length)) 0 (by omega)
    obtain ⟨b, off, spot⟩ := a
    have hsp : spot = none := by simpa [Addr.add] using World.cell?_spot q00
    subst hsp
    have q2 : ∀ u, u < 2 → W.cell? ⟨b, off + j * 2 + u, none⟩ = (loL i)[u]? := fun u hu => by
      have := q u hu
      rw [Go.WideShapes.add_plain, Go.WideShapes.add_plain] at this
      exact this
    have q0 : W.cell? ⟨b, off + j * 2 + 0, none⟩ = some (.int .u32 i.n.toNat) := q2 0 (by omega)
    exact ⟨b, off, rfl, block_lt_of_cell q0, q0, q2 1 (by omega)⟩
/-- One cell that holds a slice of groups, of instructions. -/
theorem open_locsV {n : Nat} {v : Value} {y : DataW H × List MemPlace} (h : DataW.trod enc Tryd.prog W 0 sp true n 49 [v] = some y) : ∃ A c l, v = .slice A l.length c ∧ Los W A l ∧ (l.length : Int) ≤ 9223372036854775807 := by
  obtain ⟨A, len, cap, rfl⟩ : ∃ A len cap, v = .slice A len cap := by
    rcases open_slice Tryd.underlying49 h with ⟨hcs, _⟩ | ⟨a, ln, cp, m, n, D, Pl, hcs, _⟩
    · exact ⟨none, 0, 0, by simpa using hcs⟩
    · exact ⟨some a, ln, cp, by simpa using hcs⟩
  obtain ⟨l, hl, h1, h2⟩ := open_locs (enc := enc) (sp := sp) (d := y.1) (p := y.2) ⟨n, by simpa [Value.cells] using h⟩
  subst hl
  exact ⟨A, cap, l, rfl, h1, h2⟩
theorem open_insV {n : Nat} {v : Value} {y : DataW H × List MemPlace} (h : DataW.trod enc Tryd.prog W 0 sp true n 73 [v] = some y) : ∃ A c l, v = .slice A l.length c ∧ (Ins W A l ∧ ∀ i ∈ l, i.Ok ∧ (i.l.length : Int) ≤ 9223372036854775807) ∧ (l.length : Int) ≤ 9223372036854775807 := by
  obtain ⟨A, len, cap, rfl⟩ : ∃ A len cap, v = .slice A len cap := by
    rcases open_slice Tryd.underlying73 h with ⟨hcs, _⟩ | ⟨a, ln, cp, m, n, D, Pl, hcs, _⟩
    · exact ⟨none, 0, 0, by simpa using hcs⟩
    · exact ⟨some a, ln, cp, by simpa using hcs⟩
  obtain ⟨l, hl, h1, h2⟩ := open_list (enc := enc) (sp := sp) (d := y.1) (p := y.2) ⟨n, by simpa [Value.cells] using h⟩
  subst hl
  exact ⟨A, cap, l, rfl, h1, h2⟩
/-- Two cells of a body. -/
theorem open_two {n : Nat} {cs : List Value} {x : DataW H × List MemPlace} (h : DataW.trod enc Tryd.prog W 0 sp true n 75 cs = some x) (hc : cs.length = 2) : ∃ s : SlotBd, cs = cL s ∧ OkB s ∧ (Los W s.2.1.1 s.1.ls ∧ Ins W s.2.2.1 s.1.b) := by
  obtain ⟨ys, m, _, hy, hlen, hyl, hf⟩ := DataW.trod_struct Tryd.underlying75 h
  match cs, hc with
  | [c0, c1], _ =>
    match ys, hyl with
    | [y0, y1], _ =>
      have e1 : Tryd.prog.cellsOf 49 = 1 := by kernel_rfl
      have e2 : Tryd.prog.cellsOf 73 = 1 := by kernel_rfl
      have h0 : DataW.trod enc Tryd.prog W 0 sp true m 49 (([c0, c1].drop 0).take (Tryd.prog.cellsOf 49)) = some y0 := hf 0 _ rfl
      have h1 : DataW.trod enc Tryd.prog W 0 sp true m 73 (([c0, c1].drop 1).take (Tryd.prog.cellsOf 73)) = some y1 := hf 1 _ rfl
      rw [e1] at h0
      rw [e2] at h1
      obtain ⟨L, l, ls, r0, hl, nl⟩ := open_locsV h0
      obtain ⟨B, c, b, r1, ⟨hi, ho⟩, nb⟩ := open_insV h1
      exact ⟨(⟨ls, b⟩, (L, l), (B, c)), by unfold cL cC bdC; rw [r0, r1], ⟨ho, nb, nl⟩, hl, hi⟩
theorem open_code {b0 : Nat} {r : Reach} {v : Value} {d : DataW H} {p : List MemPlace} (hv : Value.okWide Tryd.prog W r b0 75 v) (h : DataW.Trod enc Tryd.prog W 0 sp true 75 v d p) :
    ∃ x : SlotBd, v = cV x ∧ OkB x ∧ (Los W x.2.1.1 x.1.ls ∧ Ins W x.2.2.1 x.1.b) := by
  obtain ⟨cs, rfl, hsz⟩ := okWide_struct Tryd.underlying75 hv
  rw [cellsCode] at hsz
  obtain ⟨fuel, hf⟩ := h
  obtain ⟨i, hi, h1, h2⟩ := open_two (cs := cs.toList) (by simpa [Value.cells] using hf) (by simpa using hsz)
  exact ⟨i, by show Value.agg cs = .agg (cC i); congr 1; apply Array.toList_inj.1; exact hi, h1, h2⟩
end
end Go.Proofs.YtnfhhamkicnpjaaDoor

/- The walk of BodiesLocals; a function's type by value: opened. -/
namespace Go.Proofs.YtnfhhamkicnpjaaDoor
open Go.RowKit Go.ChangeShapes Go.WideShapes Go.ChangeAt Go.Joins Go.Deep
set_option linter.unusedVariables false
set_option maxRecDepth 100000

theorem open_ftL {H : Type} {enc : TypeId × Value → H} {w : World} {base b0 : Nat} {r : Reach} {sp : Nat → Bool} {held : Bool} {v : Value} {d : DataW H} {p : List MemPlace} (hv : Value.okWide Tryd.prog w r b0 48 v)
    (h : DataW.Trod enc Tryd.prog w base sp held 48 v d p) : ∃ x y : List UInt8, v = .agg #[.string (S x), .string (S y)] := by
  obtain ⟨v0, v1, y0, y1, n, rfl, _, _, h0, h1⟩ := open_agg2 Tryd.underlying48 (by kernel_rfl) (by kernel_rfl) hv h
  obtain ⟨x, hx, _⟩ := DataW.trod_string Tryd.underlying9 h0
  obtain ⟨y, hy, _⟩ := DataW.trod_string Tryd.underlying9 h1
  simp only [List.cons.injEq, and_true] at hx hy
  subst hx; subst hy
  exact ⟨x.data.toList, y.data.toList, by rw [S_of, S_of]⟩
set_option maxHeartbeats 4000000 in
theorem lawBdL {w : World} {A : Option Addr} {c : Nat} {l : List Lo} {ps rs : List UInt8} (hT : Tabs w) (hl : Los w A l) (hn : (l.length : Int) ≤ 9223372036854775807) :
    Calls Tryd.prog 4 #[.agg #[.string (S ps), .string (S rs)], .slice A l.length c] w fun e w' => e = .returned (.bool true) ∧ Below w.heap.size w w' := by
  have hb0 := below_box w (.cells #[.string (S ps), .string (S rs)] 48)
  have HB0 := Lib.hid hb0
  have HW0 := Lib.hid (Whole.made w 48 #[.string (S ps), .string (S rs)])
  have HAW := Lib.hid (bdawake_any _ (hT.below hb0))
  have HL := Lib.hid hl
  have hsz := S_size ps
  clear hT hb0 hl
  by_cases g1 : 300 < ps.length
  · have t1 : decide ((300 : Int) < (ps.length : Int)) = true := decide_eq_true (by omega)
    clear g1
    go_enter Tryd.func4, Tryd.ntmps4
    go_wp2_with (go_at_call 16; go_must ((with_reducible refine HAW.out.mono ?_); rintro e w1 ⟨rfl, hb⟩; have H1 := Lib.hid (HB0.out.trans (hb.mono HB0.out.size)); have c0 := (HW0.out.below hb).cell 0; simp only [List.getElem?_toArray, List.getElem?_cons_zero] at c0; clear hb))
    go_ret
    exact ⟨rfl, H1.out⟩
  have t1 : decide ((300 : Int) < (ps.length : Int)) = false := decide_eq_false (by omega)
  by_cases g2 : 50 < l.length
  · have t2 : decide ((50 : Int) < (l.length : Int)) = true := decide_eq_true (by omega)
    clear g1 g2
    go_enter Tryd.func4, Tryd.ntmps4
    go_wp2_with (go_at_call 16; go_must ((with_reducible refine HAW.out.mono ?_); rintro e w1 ⟨rfl, hb⟩; have H1 := Lib.hid (HB0.out.trans (hb.mono HB0.out.size)); have c0 := (HW0.out.below hb).cell 0; simp only [List.getElem?_toArray, List.getElem?_cons_zero] at c0; clear hb))
    go_ret
    exact ⟨rfl, H1.out⟩
  have t2 : decide ((50 : Int) < (l.length : Int)) = false := decide_eq_false (by omega)
  have HCn := Lib.hid (fun W (hb : Below w.heap.size w W) => cnt_any (c := c) (HL.out.below hb) hn)
  have HTy := Lib.hid (fun W (hb : Below w.heap.size w W) => bdtypes_any (c := c) (ps := ps) (rs := rs) (HL.out.below hb) (by omega) hn)
  have HRL := Lib.hid (fun W (hb : Below w.heap.size w W) => rloc_any (c := c) (HL.out.below hb) hn)
  by_cases hz : locGo 0 l < 0
  · have e := locGo_ge _ _ hz
    have hs0 : S ([] : List UInt8) = { data := #[] } := rfl
    rw [(cnt_no e).1, (cnt_no e).2] at HCn
    rw [if_pos hz, (cnt_no e).2, hs0] at HTy
    rw [e] at HRL
    clear g1 g2 hz e hs0 hn
    go_enter Tryd.func4, Tryd.ntmps4
    go_wp2_with (first
      | (go_at_call 16; go_must ((with_reducible refine HAW.out.mono ?_); rintro e w1 ⟨rfl, hb⟩; have H1 := Lib.hid (HB0.out.trans (hb.mono HB0.out.size)); have HX1 := Lib.hid (HW0.out.below hb); have c0 := HX1.out.cell 0; simp only [List.getElem?_toArray, List.getElem?_cons_zero] at c0; clear hb))
      | (go_at_call 17; go_must ((with_reducible refine (HCn.out _ H1.out).mono ?_); rintro e w2 ⟨rfl, hb⟩; clear c0; have H2 := Lib.hid (H1.out.trans (hb.mono H1.out.size)); have HX2 := Lib.hid (HX1.out.below hb); have c0 := HX2.out.cell 0; have c1 := HX2.out.cell 1; simp only [List.getElem?_toArray, List.getElem?_cons_zero, List.getElem?_cons_succ] at c0 c1; clear hb))
      | (go_at_call 18; go_must ((with_reducible refine (HTy.out _ H2.out).mono ?_); rintro e w3 ⟨rfl, hb⟩; clear c0 c1; have H3 := Lib.hid (H2.out.trans (hb.mono H2.out.size)); clear hb))
      | (go_at_call 19; go_must ((with_reducible refine (HRL.out _ H3.out).mono ?_); rintro e w4 ⟨rfl, rfl⟩)))
    go_ret
    exact ⟨rfl, H3.out⟩
  · obtain ⟨q, hq⟩ : ∃ q : Nat, locGo 0 l = (q : Int) := ⟨(locGo 0 l).toNat, by omega⟩
    have HRT := Lib.hid (fun W (hb : Below w.heap.size w W) => rtypes_any (c := c) (ps := ps) (rs := rs) (HL.out.below hb) (by omega) (by omega) hn)
    rw [(cnt_yes hq).1, (cnt_yes hq).2] at HCn
    rw [if_neg hz, (cnt_yes hq).2] at HTy
    rw [hq] at HRL
    have d0 : decide ((q : Int) < 0) = false := decide_eq_false (by omega)
    obtain ⟨y, hy⟩ : ∃ y, y = ps ++ typL l := ⟨_, rfl⟩
    rw [← hy] at HTy HRT
    clear g1 g2 hz hq hn hy
    go_enter Tryd.func4, Tryd.ntmps4
    go_wp2_with (first
      | (go_at_call 16; go_must ((with_reducible refine HAW.out.mono ?_); rintro e w1 ⟨rfl, hb⟩; have H1 := Lib.hid (HB0.out.trans (hb.mono HB0.out.size)); have HX1 := Lib.hid (HW0.out.below hb); have c0 := HX1.out.cell 0; simp only [List.getElem?_toArray, List.getElem?_cons_zero] at c0; clear hb))
      | (go_at_call 17; go_must ((with_reducible refine (HCn.out _ H1.out).mono ?_); rintro e w2 ⟨rfl, hb⟩; clear c0; have H2 := Lib.hid (H1.out.trans (hb.mono H1.out.size)); have HX2 := Lib.hid (HX1.out.below hb); have c0 := HX2.out.cell 0; have c1 := HX2.out.cell 1; simp only [List.getElem?_toArray, List.getElem?_cons_zero, List.getElem?_cons_succ] at c0 c1; clear hb))
      | (go_at_call 18; go_must ((with_reducible refine (HTy.out _ H2.out).mono ?_); rintro e w3 ⟨rfl, hb⟩; clear c0 c1; have H3 := Lib.hid (H2.out.trans (hb.mono H2.out.size)); have HX3 := Lib.hid (HX2.out.below hb); have c0 := HX3.out.cell 0; have c1 := HX3.out.cell 1; simp only [List.getElem?_toArray, List.getElem?_cons_zero, List.getElem?_cons_succ] at c0 c1; clear hb))
      | (go_at_call 19; go_must ((with_reducible refine (HRL.out _ H3.out).mono ?_); rintro e w4 ⟨rfl, rfl⟩))
      | (go_at_call 20; go_must ((with_reducible refine (HRT.out _ H3.out).mono ?_); rintro e w5 ⟨rfl, hb⟩; have H5 := Lib.hid (H3.out.trans (hb.mono H3.out.size)); clear hb)))
    go_ret
    exact ⟨rfl, H5.out⟩
end Go.Proofs.YtnfhhamkicnpjaaDoor
