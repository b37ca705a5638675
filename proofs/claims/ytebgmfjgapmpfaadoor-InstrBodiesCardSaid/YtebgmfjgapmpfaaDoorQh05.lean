/- A slice of instructions, opened. -/
import Derived.Test.YtebgmfjgapmpfaaDoorQg09
import Derived.Test.YtebgmfjgapmpfaaDoorQh02
import Derived.Deep.Fields
import Derived.ChangeSame
import Derived.Test.YtebgmfjgapmpfaaDoorQg07
import Derived.Test.YtebgmfjgapmpfaaDoorQg08
import Derived.OwnWalk
import Derived.Laws.AppendOwn
import Derived.Test.YtebgmfjgapmpfaaDoorQg02
import Derived.Test.YtebgmfjgapmpfaaDoorQg01
namespace Go.Proofs.YtebgmfjgapmpfaaDoor
open Go.ChangeShapes Go.WideShapes Go.ChangeAt Go.RowKit Go.Joins Go.Deep
set_option linter.unusedVariables false
set_option maxRecDepth 100000

theorem cellsI : Tryd.prog.cellsOf 25 = 4 := by kernel_rfl
section
variable {H : Type} {enc : TypeId × Value → H} {W : World} {sp : Nat → Bool}
/-- One element: its four cells, each with its reading. -/
theorem open_elem {n : Nat} {cs : List Value} {x : DataW H × List MemPlace} (h : DataW.trod enc Tryd.prog W 0 sp true n 25 cs = some x) (hc : cs.length = 4) :
    ∃ (i : I) (B : Option Addr) (c : Nat), cs = [.int .u8 i.op.toNat, .int .u64 i.a, .int .u64 i.b, .slice B i.l.length c] ∧ i.Ok ∧ LiesL W B i.l ∧ (i.l.length : Int) ≤ 9223372036854775807 := by
  obtain ⟨ys, m, _, hy, hlen, hyl, hf⟩ := DataW.trod_struct Tryd.underlying25 h
  match cs, hc with
  | [c0, c1, c2, c3], _ =>
    match ys, hyl with
    | [y0, y1, y2, y3], _ =>
      have e1 : Tryd.prog.cellsOf 5 = 1 := by kernel_rfl
      have e2 : Tryd.prog.cellsOf 22 = 1 := by kernel_rfl
      have e3 : Tryd.prog.cellsOf 23 = 1 := by kernel_rfl
      have h0 : DataW.trod enc Tryd.prog W 0 sp true m 5 (([c0, c1, c2, c3].drop 0).take (Tryd.prog.cellsOf 5)) = some y0 := hf 0 _ rfl
      have h1 : DataW.trod enc Tryd.prog W 0 sp true m 22 (([c0, c1, c2, c3].drop 1).take (Tryd.prog.cellsOf 22)) = some y1 := hf 1 _ rfl
      have h2 : DataW.trod enc Tryd.prog W 0 sp true m 22 (([c0, c1, c2, c3].drop 2).take (Tryd.prog.cellsOf 22)) = some y2 := hf 2 _ rfl
      have h3 : DataW.trod enc Tryd.prog W 0 sp true m 23 (([c0, c1, c2, c3].drop 3).take (Tryd.prog.cellsOf 23)) = some y3 := hf 3 _ rfl
      rw [e1] at h0
      rw [e2] at h1 h2
      rw [e3] at h3
      obtain ⟨i, B, c, rfl, rfl, rfl, rfl, ho, hl, hn⟩ := open_parts h0 h1 h2 h3
      exact ⟨i, B, c, rfl, ho, hl, hn⟩
theorem open_list {A : Option Addr} {len cap : Nat} {d : DataW H} {p : List MemPlace} (h : DataW.Trod enc Tryd.prog W 0 sp true 40 (.slice A len cap) d p) :
    ∃ l : List I, l.length = len ∧ (Ins W A l ∧ ∀ i ∈ l, i.Ok ∧ (i.l.length : Int) ≤ 9223372036854775807) ∧ (l.length : Int) ≤ 9223372036854775807 := by
  obtain ⟨fuel, hf⟩ := h
  rcases open_slice Tryd.underlying40 hf with ⟨hcs, _⟩ | ⟨a, ln, cp, m, n, D, Pl, hcs, hb, hl, hm, hmm, hx, hi⟩
  · simp [Value.cells] at hcs
    obtain ⟨rfl, rfl, rfl⟩ := hcs
    exact ⟨[], rfl, ⟨(fun j i hi => by cases hi), (fun i hi => by cases hi)⟩, by simp⟩
  · simp [Value.cells] at hcs
    obtain ⟨rfl, rfl, rfl⟩ := hcs
    have hlm : len ≤ m := by rw [hmm]; split <;> omega
    have each : ∀ j, j < len → ∃ (i : I) (B : Option Addr) (c : Nat), (W.cell? (a.add (j * 4)) = some (.int .u8 i.op.toNat) ∧ W.cell? ((a.add (j * 4)).add 1) = some (.int .u64 i.a) ∧ W.cell? ((a.add (j * 4)).add 2) = some (.int .u64 i.b) ∧ W.cell? ((a.add (j * 4)).add 3) = some (.slice B i.l.length c)) ∧ i.Ok ∧ LiesL W B i.l ∧ (i.l.length : Int) ≤ 9223372036854775807 := by
      intro j hj
      obtain ⟨cs', hc, ht'⟩ := hi j (by omega)
      rw [cellsI] at hc
      obtain ⟨_, hcl, hat⟩ := World.cells?_some hc
      obtain ⟨i, B, c, rfl, ho, hli, hn⟩ := open_elem ht' hcl
      have q0 := hat 0 (by omega)
      have q1 := hat 1 (by omega)
      have q2 := hat 2 (by omega)
      have q3 := hat 3 (by omega)
      exact ⟨i, B, c, ⟨by simpa [Addr.add] using q0, q1, q2, q3⟩, ho, hli, hn⟩
    have pick : ∀ k, k ≤ len → ∃ l : List I, l.length = k ∧ ∀ j i, l[j]? = some i → ∃ (B : Option Addr) (c : Nat), (W.cell? (a.add (j * 4)) = some (.int .u8 i.op.toNat) ∧ W.cell? ((a.add (j * 4)).add 1) = some (.int .u64 i.a) ∧ W.cell? ((a.add (j * 4)).add 2) = some (.int .u64 i.b) ∧ W.cell? ((a.add (j * 4)).add 3) = some (.slice B i.l.length c)) ∧ i.Ok ∧ LiesL W B i.l ∧ (i.l.length : Int) ≤ 9223372036854775807 := by
      intro k
      induction k with
      | zero => intro _; exact ⟨[], rfl, fun j i hi => by cases hi⟩
      | succ k ih =>
        intro hk
        obtain ⟨l, hl1, hl2⟩ := ih (by omega)
        obtain ⟨i, B, c, hq⟩ := each k (by omega)
        refine ⟨l ++ [i], by simp [hl1], fun j i' hi' => ?_⟩
        rcases Nat.lt_or_ge j k with g | g
        · rw [List.getElem?_append_left (by omega)] at hi'
          exact hl2 j i' hi'
        · have hj : j < (l ++ [i]).length := (List.getElem?_eq_some_iff.1 hi').1
          rw [List.length_append, List.length_singleton] at hj
          obtain rfl : j = k := by omega
          rw [List.getElem?_append_right (by omega), hl1, Nat.sub_self] at hi'
          injection hi' with hi'
          subst hi'
          exact ⟨B, c, hq⟩
    obtain ⟨l, hl1, hl2⟩ := pick len (Nat.le_refl _)
    unfold maxLen at hm
    refine ⟨l, hl1, ⟨fun j i hij => ?_, fun i him => ?_⟩, by omega⟩
    · obtain ⟨B, c, ⟨q0, q1, q2, q3⟩, _, hli, _⟩ := hl2 j i hij
      have hj0 := (List.getElem?_eq_some_iff.1 hij).1
      obtain ⟨_, _, ⟨q00, _, _, _⟩, _⟩ := hl2 0 _ (List.getElem?_eq_getElem (by omega : 0 < l.length))
      obtain ⟨b, off, spot⟩ := a
      have hsp : spot = none := by simpa [Addr.add] using World.cell?_spot q00
      subst hsp
      rw [Go.WideShapes.add_plain] at q0 q1 q2 q3
      rw [Go.WideShapes.add_plain] at q1 q2 q3
      exact ⟨b, off, B, c, rfl, block_lt_of_cell q0, ⟨q0, q1, q2, q3⟩, hli⟩
    · obtain ⟨j, hj⟩ := List.getElem?_of_mem him
      obtain ⟨B, c, _, ho, _, hn⟩ := hl2 j i hj
      exact ⟨ho, hn⟩
end
end Go.Proofs.YtebgmfjgapmpfaaDoor

/- Lists of global types and of values in memory; values in a row of the call's own. -/
namespace Go.Proofs.YtebgmfjgapmpfaaDoor
open Go.RowKit
set_option linter.unusedVariables false
set_option maxRecDepth 100000

def boolOf : Value → Bool
  | .bool b => b
  | _ => false
/-- A list of global types. -/
def LiesG (w : World) (A : Option Addr) (l : List (Int × Bool)) : Prop :=
  ∀ i t m, l[i]? = some (t, m) → ∃ b off, A = some ⟨b, off, none⟩ ∧ b < w.heap.size ∧ w.cell? ⟨b, off + i * 2, none⟩ = some (.int .u8 t) ∧ w.cell? ⟨b, off + i * 2 + 1, none⟩ = some (.bool m)
theorem LiesG.below {w w' : World} {A : Option Addr} {l : List (Int × Bool)} (h : LiesG w A l) (hb : Below w.heap.size w w') : LiesG w' A l := fun i t m hi => by
  obtain ⟨b, off, e, h1, h2, h3⟩ := h i t m hi
  exact ⟨b, off, e, Nat.lt_of_lt_of_le h1 hb.size, (hb.cell (p := ⟨b, off + i * 2, none⟩) (by show b < _; omega)).trans h2, (hb.cell (p := ⟨b, off + i * 2 + 1, none⟩) (by show b < _; omega)).trans h3⟩
/-- A list of values. -/
def LiesP (w : World) (A : Option Addr) (l : List (Int × Int)) : Prop :=
  ∀ i t n, l[i]? = some (t, n) → ∃ b off, A = some ⟨b, off, none⟩ ∧ b < w.heap.size ∧ w.cell? ⟨b, off + i * 2, none⟩ = some (.int .u8 t) ∧ w.cell? ⟨b, off + i * 2 + 1, none⟩ = some (.int .u64 n)
theorem LiesP.below {w w' : World} {A : Option Addr} {l : List (Int × Int)} (h : LiesP w A l) (hb : Below w.heap.size w w') : LiesP w' A l := fun i t m hi => by
  obtain ⟨b, off, e, h1, h2, h3⟩ := h i t m hi
  exact ⟨b, off, e, Nat.lt_of_lt_of_le h1 hb.size, (hb.cell (p := ⟨b, off + i * 2, none⟩) (by show b < _; omega)).trans h2, (hb.cell (p := ⟨b, off + i * 2 + 1, none⟩) (by show b < _; omega)).trans h3⟩
theorem LiesP.nil (w : World) : LiesP w none [] := fun i t n h => by cases h

theorem infoVal : (Tryd.prog.info? 65).map (fun i => (i.zero, i.size, i.bytes)) = some (some (.agg #[.int .u8 0, .int .u64 0]), 2, 16) := by kernel_rfl
def valC (x : Int × Int) : List Value := [.int .u8 x.1, .int .u64 x.2]
/-- Values in a row of the call's own. -/
def RowV (W : World) (base : Nat) (v : Value) (l : List (Int × Int)) : Prop := W.ownsRow base 65 2 v l.length (l.flatMap valC)
theorem RowV.nil (w : World) (base : Nat) : RowV w base (.slice none 0 0) [] := World.ownsRow_nil w base _ 2
theorem RowV.later {w w' : World} {base : Nat} {v : Value} {l : List (Int × Int)} (h : RowV w base v l) (hb : Below w.heap.size w w') : RowV w' base v l :=
  World.ownsRow.kept h (gb_of_below none hb) (by cases v.ownBlock with
    | none => exact .inl rfl
    | some k => exact .inr (by simp))
theorem RowV.alloc {w : World} {base : Nat} {v : Value} {l : List (Int × Int)} (h : RowV w base v l) (o : Obj) : RowV (w.alloc o) base v l := World.ownsRow.alloc h o
theorem flatV_get : ∀ (l : List (Int × Int)) (j : Nat) (x : Int × Int) (u : Nat), l[j]? = some x → u < 2 → (l.flatMap valC)[j * 2 + u]? = (valC x)[u]?
  | [], j, x, u, h, _ => by cases h
  | y :: l, 0, x, u, h, hu => by
    injection h with h
    subst h
    rw [List.flatMap_cons, Nat.zero_mul, Nat.zero_add, List.getElem?_append_left (by show u < 2; exact hu)]
  | y :: l, j + 1, x, u, h, hu => by
    rw [List.flatMap_cons, List.getElem?_append_right (by show 2 ≤ _; omega)]
    have e : (j + 1) * 2 + u - (valC y).length = j * 2 + u := by show (j + 1) * 2 + u - 2 = _; omega
    rw [e]
    exact flatV_get l j x u h hu
/-- What such a row reads as. -/
theorem RowV.lies {W : World} {base : Nat} {v : Value} {l : List (Int × Int)} (h : RowV W base v l) : ∃ A c, v = .slice A l.length c ∧ LiesP W A l := by
  rcases h.2 with ⟨rfl, h0⟩ | ⟨g, cap, cur, rfl, hb, hg, _, _, _, ht⟩
  · have : l = [] := List.eq_nil_of_length_eq_zero h0
    subst this
    exact ⟨none, 0, rfl, fun i t n h => by cases h⟩
  · refine ⟨some ⟨g, 0, none⟩, cap, rfl, fun j t n hj => ?_⟩
    have hjl := (List.getElem?_eq_some_iff.1 hj).1
    have key : ∀ u, u < 2 → W.cell? ⟨g, 0 + j * 2 + u, none⟩ = (valC (t, n))[u]? := fun u hu => by
      rw [cell_of_row W g (0 + j * 2 + u) cur _ _ hg, ← flatV_get l j _ u hj hu, ← ht, List.getElem?_take, if_pos (by omega)]
      simp
    exact ⟨g, 0, rfl, (show Whole W g 65 cur from hg).lt, key 0 (by omega), key 1 (by omega)⟩
/-- append of a new block of one value. -/
theorem rowsV_new {w : World} {ops : Array Oper} {rest : List Oper} {o : Oper} {a : Act} {Q : Exit → Act → World → Prop} (hgd : o.guard = none) (s x : Operand)
    (ho : o.op = .call { callee := .builtin .append, args := #[s, x], argTypes := #[66, 66] })
    (B : Nat) (v : Value) (l : List (Int × Int)) (hs : a.eval s = v) (hr : RowV w B v l) (g : Nat) (r : Int × Int) (hx : a.eval x = .slice (some ⟨g, 0, none⟩) 1 1)
    (hg : Whole w g 65 #[.int .u8 r.1, .int .u64 r.2]) (hb : l.length ≤ 1000) (hB : B ≤ w.heap.size)
    (h : ∀ v' w', RowV w' B v' (l ++ [r]) → Below B w w' → wpList Tryd.prog ops Q rest (a.put o.dst v') w') : wpList Tryd.prog ops Q (o :: rest) a w := by
  obtain ⟨i0, hi0, hz0, hz1, hz2⟩ := info_parts infoVal
  refine wpList_append_own _ hgd s x _ ho B 65 i0 _ 2 16 Tryd.underlying66 hi0 hz0 hz1 hz2 rfl (by omega) v _ _ hs hr ⟨g, 0, none⟩ 1 1 (valC r) hx rfl ?_ ?_ (by unfold maxLen; omega) (by omega) hB (fun v' w' h2 h3 _ => h v' w' ?_ ?_)
  · intro j u hu
    rw [Go.WideShapes.add_plain, Nat.zero_add, hg.cell]
    unfold valC at hu
    simpa using hu
  · intro u hu
    unfold valC at hu
    simp only [List.mem_cons, List.not_mem_nil, or_false] at hu
    rcases hu with rfl | rfl <;> rfl
  · unfold RowV
    rw [List.length_append, List.flatMap_append]
    simpa using h2
  · exact Below.grown (Below.refl _ _) h3 hB (fun k hk => (World.ownsRow.lt hr k hk).1)
end Go.Proofs.YtebgmfjgapmpfaaDoor

/- types.Cut, Zero; creelref04.Cut; types.EncodeGlobal, creelref04.EncodeGlobal. -/
namespace Go.Proofs.YtebgmfjgapmpfaaDoor
set_option linter.unusedVariables false
set_option maxRecDepth 100000
open Go.RowKit

/-- A value, by its type and number. -/
abbrev vv (t n : Int) : Value := .agg #[.int .u8 t, .int .u64 n]
def cutZ (t n : Int) : Int := if t = 127 then n % 4294967296 else n
def rightB (t n : Int) : Bool := decide (valueZ t = 0) && decide (cutZ t n = n)
theorem and_low (n : Int) (h0 : 0 ≤ n) (h1 : n ≤ 18446744073709551615) : bits .and .u64 n 4294967295 = n % 4294967296 := by
  have e1 : (BitVec.ofInt 64 n).toNat = n.toNat := by
    rw [BitVec.toNat_ofInt]
    show (n % 18446744073709551616).toNat = _
    rw [Int.emod_eq_of_lt h0 (by omega)]
  have e2 : (BitVec.ofInt 64 4294967295).toNat = 2 ^ 32 - 1 := by decide
  show IntKind.u64.wrap ((BitVec.ofInt 64 n &&& BitVec.ofInt 64 4294967295).toNat : Nat) = _
  rw [BitVec.toNat_and, e1, e2, Nat.and_two_pow_sub_one_eq_mod]
  simp only [IntKind.wrap, IntKind.bits, IntKind.signed]
  simp
  omega

theorem below_two (w : World) (o o' : Obj) : Below w.heap.size w ((w.alloc o).alloc o') := (below_box w o).alloc (by simp) _
theorem refCut_any (t n : Int) (w : World) (n0 : 0 ≤ n) (n1 : n ≤ 18446744073709551615) : Calls Tryd.prog 40 #[vv t n] w fun e w' => e = .returned (vv t (cutZ t n)) ∧ Below w.heap.size w w' := by
  by_cases h : t = 127
  · subst h
    have he : cutZ 127 n = n % 4294967296 := rfl
    rw [he]
    clear he
    go_enter Tryd.func40, Tryd.ntmps40
    go_wp2
    exact bodyPost_ret (v := vv 127 (n % 4294967296)) (by simp [results, Tryd.results40, go_sem]) rfl ⟨rfl, below_two _ _ _⟩
  · have hb : (t == 127) = false := by simpa using h
    have he : cutZ t n = n := by unfold cutZ; rw [if_neg h]
    rw [he]
    clear he h
    go_enter Tryd.func40, Tryd.ntmps40
    go_wp2
    exact bodyPost_ret (v := vv t n) (by simp [results, Tryd.results40, go_sem]) rfl ⟨rfl, below_two _ _ _⟩
/-- A global's type, by value. -/
abbrev gv (t : Int) (m : Bool) : Value := .agg #[.int .u8 t, .bool m]
theorem two_of {w W W' : World} {u v : Value} {t : TypeId} (h : Boxed w (.cells #[u, v] t) W ∧ W.cell? ⟨w.heap.size, 0, none⟩ = some u ∧ W.cell? ⟨w.heap.size, 1, none⟩ = some v) (hb : Below W.heap.size W W') :
    Boxed w (.cells #[u, v] t) W' ∧ W'.cell? ⟨w.heap.size, 0, none⟩ = some u ∧ W'.cell? ⟨w.heap.size, 1, none⟩ = some v := ⟨h.1.on hb, (h.1.on hb).row 0, (h.1.on hb).row 1⟩
theorem encG_new (w : World) (t : Int) (m : Bool) (h0 : 0 ≤ t) (h1 : t ≤ 255) (B H : Nat) (hH : w.heap.size = H) (hb : B ≤ H) :
    Row (w.alloc (.cells #[.int .u8 t, .int .u8 (if m then 1 else 0)] 5)) B (.slice (some ⟨H, 0, none⟩) 2 2) (encG t m) := by
  have h := Row.made w (encG t m) B H hH hb (by simp [encG])
  rw [nums_encG t m h0 h1] at h
  exact h
set_option maxHeartbeats 1000000 in
theorem encG_any (t : Int) (m : Bool) (w : World) (h0 : 0 ≤ t) (h1 : t ≤ 255) : Calls Tryd.prog 87 #[gv t m] w (BytesL (encG t m) w) := by
  have FL := Lib.hid (fun w => flag_any m w)
  obtain ⟨f, hf⟩ : ∃ f : Int, f = if m then 1 else 0 := ⟨_, rfl⟩
  have RA := Lib.hid (fun w' B H hH hb => encG_new w' t m h0 h1 B H hH hb)
  rw [← hf] at RA FL
  clear hf
  go_enter Tryd.func87, Tryd.ntmps87
  go_wp2
  go_region_held3 (fun W => Boxed w (.cells #[.int .u8 t, .bool m] 68) W ∧ W.cell? ⟨w.heap.size, 0, none⟩ = some (.int .u8 t) ∧ W.cell? ⟨w.heap.size, 1, none⟩ = some (.bool m))
    (first | assumption | (exact ⟨Boxed.start _ _, (Boxed.start _ _).row 0, (Boxed.start _ _).row 1⟩) | (exact two_of (by assumption) (below_box _ _)))
    (first | (go_at_call 133; ((with_reducible refine (FL.out _).mono ?_); rintro e w' ⟨rfl, rfl⟩)))
  go_wp2
  go_ret
  exact ⟨_, rfl, Row.drew (RA.out (w.alloc _) w.heap.size (w.heap.size + 1) (by simp) (by omega)), (below_two _ _ _).drew⟩
theorem encG_str (w : World) (t : Int) (m : Bool) (h0 : 0 ≤ t) (h1 : t ≤ 255) (H : Nat) (hH : w.heap.size = H) :
    ∀ dst, Tryd.prog.underlying dst = some .string → (convert 26 dst (.slice (some ⟨H, 0, none⟩) 2 2)).run Tryd.prog (w.alloc (.cells #[.int .u8 t, .int .u8 (if m then 1 else 0)] 5)) = .ok (.string (S (encG t m))) (w.alloc (.cells #[.int .u8 t, .int .u8 (if m then 1 else 0)] 5)) := by
  obtain ⟨A, c, e, hs⟩ := (encG_new w t m h0 h1 H H hH (Nat.le_refl _)).str
  injection e with e1 e2 e3
  subst e1; subst e3
  exact hs
theorem refEncG_any (t : Int) (m : Bool) (w : World) (h0 : 0 ≤ t) (h1 : t ≤ 255) : Calls Tryd.prog 91 #[gv t m] w fun e w' => e = .returned (.string (S (encG t m))) ∧ Below w.heap.size w w' := by
  cases m
  · have hs := encG_str (w.alloc (.cells #[.int .u8 t, .bool false] 68)) t false h0 h1 (w.heap.size + 1) (by simp)
    simp only [Bool.false_eq_true, if_false] at hs
    go_enter Tryd.func91, Tryd.ntmps91
    go_wp2
    go_ret
    exact ⟨rfl, below_two _ _ _⟩
  · have hs := encG_str (w.alloc (.cells #[.int .u8 t, .bool true] 68)) t true h0 h1 (w.heap.size + 1) (by simp)
    simp only [if_true] at hs
    go_enter Tryd.func91, Tryd.ntmps91
    go_wp2
    go_ret
    exact ⟨rfl, below_two _ _ _⟩
end Go.Proofs.YtebgmfjgapmpfaaDoor

/- consts.global, Value, Type, Of; the reference's Value and Type. (By gen/genCVal.py.) -/
namespace Go.Proofs.YtebgmfjgapmpfaaDoor
open Go.RowKit
set_option linter.unusedVariables false
set_option maxRecDepth 100000

/-- What stands at a place of a list, or nothing. -/
def getP (l : List (Int × Int)) (j : Nat) : (Int × Int) × Int := match l[j]? with
  | some x => (x, 0)
  | none => ((0, 0), 24)
theorem getP_in {l : List (Int × Int)} {j : Nat} {x : Int × Int} (h : l[j]? = some x) : getP l j = (x, 0) := by unfold getP; rw [h]
theorem getP_out {l : List (Int × Int)} {j : Nat} (h : ¬ j < l.length) : getP l j = ((0, 0), 24) := by unfold getP; rw [List.getElem?_eq_none (by omega)]
def getG (l : List (Int × Bool)) (j : Nat) : (Int × Bool) × Int := match l[j]? with
  | some x => (x, 0)
  | none => ((0, false), 24)
theorem getG_in {l : List (Int × Bool)} {j : Nat} {x : Int × Bool} (h : l[j]? = some x) : getG l j = (x, 0) := by unfold getG; rw [h]
theorem getG_out {l : List (Int × Bool)} {j : Nat} (h : ¬ j < l.length) : getG l j = ((0, false), 24) := by unfold getG; rw [List.getElem?_eq_none (by omega)]
abbrev retP (r : (Int × Int) × Int) : Value := .tuple #[.agg #[.int .u8 r.1.1, .int .u64 r.1.2], .int .i64 r.2]
abbrev retG (r : (Int × Bool) × Int) : Value := .tuple #[.agg #[.int .u8 r.1.1, .bool r.1.2], .int .i64 r.2]
def PPost (r : (Int × Int) × Int) (w : World) (e : Ending) (w' : World) : Prop := e = .returned (retP r) ∧ Below w.heap.size w w'
def GPost (r : (Int × Bool) × Int) (w : World) (e : Ending) (w' : World) : Prop := e = .returned (retG r) ∧ Below w.heap.size w w'
theorem put2_below {w W : World} {b : Nat} {t : TypeId} {x0 x1 : Value} (u0 u1 : Value) (h : Whole W b t #[x0, x1]) (hb : Below w.heap.size w W) (hlo : w.heap.size ≤ b) :
    Whole ((W.setCell ⟨b, 0, none⟩ u0).setCell ⟨b, 1, none⟩ u1) b t #[u0, u1] ∧ Below w.heap.size w ((W.setCell ⟨b, 0, none⟩ u0).setCell ⟨b, 1, none⟩ u1) := by
  obtain ⟨p, g⟩ := put2 (u0 := u0) (u1 := u1) h
  exact ⟨p, Below.grown hb g hb.size (fun k e => by injection e with e; omega)⟩

set_option maxHeartbeats 800000 in
theorem globalV_any {w : World} {A Ai : Option Addr} {c n ci : Nat} {l : List (Int × Int)} {o b : Int} {j : Nat} (hl : LiesP w A l) (nl : (l.length : Int) ≤ 9223372036854775807) :
    Calls Tryd.prog 86 #[.agg #[.int .u8 o, .int .u64 j, .int .u64 b, .slice Ai n ci], .slice A l.length c] w (PPost (getP l j) w) := by
  have hw : IntKind.u64.wrap (l.length : Int) = l.length := by simp [IntKind.wrap, IntKind.bits, IntKind.signed]; omega
  have hb0 : Below w.heap.size w ((w.alloc (.cells #[.int .u8 o, .int .u64 j, .int .u64 b, .slice Ai n ci] 25)).alloc (.cells #[.int .u8 0, .int .u64 0] 65)) := below_two w _ _
  by_cases hj : j < l.length
  · obtain ⟨⟨t, m⟩, hx⟩ : ∃ x, l[j]? = some x := ⟨_, List.getElem?_eq_getElem hj⟩
    rw [getP_in hx]
    have hl2 := (hl.below (below_box w (.cells #[.int .u8 o, .int .u64 j, .int .u64 b, .slice Ai n ci] 25))).below (below_box _ (.cells #[.int .u8 0, .int .u64 0] 65))
    obtain ⟨bb, off, rfl, hbb, g0, g1⟩ := hl2 j t m hx
    have d : ¬ l.length ≤ j := by omega
    have d2 : decide ((l.length : Int) ≤ (j : Int)) = false := by simp; omega
    clear hx hl hl2 hb0
    go_enter Tryd.func86, Tryd.ntmps86
    go_wp2
    exact bodyPost_ret (v := retP ((t, m), 0)) (by simp [results, Tryd.results86, go_sem]) rfl ⟨rfl, below_two _ _ _⟩
  · rw [getP_out hj]
    have d : l.length ≤ j := by omega
    have d2 : decide ((l.length : Int) ≤ (j : Int)) = true := by simp; omega
    have HR : Whole ((w.alloc (.cells #[.int .u8 o, .int .u64 j, .int .u64 b, .slice Ai n ci] 25)).alloc (.cells #[.int .u8 0, .int .u64 0] 65)) (w.heap.size + 1) 65 #[.int .u8 0, .int .u64 0] := by
      have := Whole.made (w.alloc (.cells #[.int .u8 o, .int .u64 j, .int .u64 b, .slice Ai n ci] 25)) 65 #[.int .u8 0, .int .u64 0]
      rw [size_box] at this
      exact this
    have HR1 := HR.alloc (.cells #[.int .u8 0, .int .u64 0] 65)
    have f0 := HR1.frozen 0
    have f1 := HR1.frozen 1
    have m0 := HR1.cell 0
    have m1 := HR1.cell 1
    simp only [List.getElem?_toArray, List.getElem?_cons_zero, List.getElem?_cons_succ] at m0 m1
    have HQ := Lib.hid (hb0.alloc hb0.size (.cells #[.int .u8 0, .int .u64 0] 65))
    clear hl HR HR1 hb0 hj
    go_enter Tryd.func86, Tryd.ntmps86
    go_wp2
    exact bodyPost_ret (v := retP ((0, 0), 24)) (by simp [results, Tryd.results86, go_sem]) rfl ⟨rfl, HQ.out⟩
set_option maxHeartbeats 800000 in
theorem globalG_any {w : World} {A Ai : Option Addr} {c n ci : Nat} {l : List (Int × Bool)} {o b : Int} {j : Nat} (hl : LiesG w A l) (nl : (l.length : Int) ≤ 9223372036854775807) :
    Calls Tryd.prog 85 #[.agg #[.int .u8 o, .int .u64 j, .int .u64 b, .slice Ai n ci], .slice A l.length c] w (GPost (getG l j) w) := by
  have hw : IntKind.u64.wrap (l.length : Int) = l.length := by simp [IntKind.wrap, IntKind.bits, IntKind.signed]; omega
  have hb0 : Below w.heap.size w ((w.alloc (.cells #[.int .u8 o, .int .u64 j, .int .u64 b, .slice Ai n ci] 25)).alloc (.cells #[.int .u8 0, .bool false] 68)) := below_two w _ _
  by_cases hj : j < l.length
  · obtain ⟨⟨t, m⟩, hx⟩ : ∃ x, l[j]? = some x := ⟨_, List.getElem?_eq_getElem hj⟩
    rw [getG_in hx]
    have hl2 := (hl.below (below_box w (.cells #[.int .u8 o, .int .u64 j, .int .u64 b, .slice Ai n ci] 25))).below (below_box _ (.cells #[.int .u8 0, .bool false] 68))
    obtain ⟨bb, off, rfl, hbb, g0, g1⟩ := hl2 j t m hx
    have d : ¬ l.length ≤ j := by omega
    have d2 : decide ((l.length : Int) ≤ (j : Int)) = false := by simp; omega
    clear hx hl hl2 hb0
    go_enter Tryd.func85, Tryd.ntmps85
    go_wp2
    exact bodyPost_ret (v := retG ((t, m), 0)) (by simp [results, Tryd.results85, go_sem]) rfl ⟨rfl, below_two _ _ _⟩
  · rw [getG_out hj]
    have d : l.length ≤ j := by omega
    have d2 : decide ((l.length : Int) ≤ (j : Int)) = true := by simp; omega
    have HR : Whole ((w.alloc (.cells #[.int .u8 o, .int .u64 j, .int .u64 b, .slice Ai n ci] 25)).alloc (.cells #[.int .u8 0, .bool false] 68)) (w.heap.size + 1) 68 #[.int .u8 0, .bool false] := by
      have := Whole.made (w.alloc (.cells #[.int .u8 o, .int .u64 j, .int .u64 b, .slice Ai n ci] 25)) 68 #[.int .u8 0, .bool false]
      rw [size_box] at this
      exact this
    have HR1 := HR.alloc (.cells #[.int .u8 0, .bool false] 68)
    have f0 := HR1.frozen 0
    have f1 := HR1.frozen 1
    have m0 := HR1.cell 0
    have m1 := HR1.cell 1
    simp only [List.getElem?_toArray, List.getElem?_cons_zero, List.getElem?_cons_succ] at m0 m1
    have HQ := Lib.hid (hb0.alloc hb0.size (.cells #[.int .u8 0, .bool false] 68))
    clear hl HR HR1 hb0 hj
    go_enter Tryd.func85, Tryd.ntmps85
    go_wp2
    exact bodyPost_ret (v := retG ((0, false), 24)) (by simp [results, Tryd.results85, go_sem]) rfl ⟨rfl, HQ.out⟩

/-- What a constant expression comes to, where some globals' values are taken. -/
def valZ (i : I) (l : List (Int × Int)) : (Int × Int) × Int :=
  if crightZ i = 0 then (if i.n = 65 then ((127, i.a), 0) else if i.n = 66 then ((126, i.a), 0) else getP l i.a.toNat) else ((0, 0), crightZ i)
/-- .. and of which type. -/
def typZ (i : I) (l : List (Int × Bool)) : Int × Int :=
  if crightZ i = 0 then (if i.n = 65 then (127, 0) else if i.n = 66 then (126, 0) else match l[i.a.toNat]? with
    | some (t, m) => if m then (0, 24) else (t, 0)
    | none => (0, 24)) else (0, crightZ i)
/-- The instruction's box and the result's block. -/
structure VSt (w : World) (i : I) (A : Option Addr) (c : Nat) (W : World) : Prop where
  box : BoxI w W i A c
  res : Whole W (w.heap.size + 1) 65 #[.int .u8 0, .int .u64 0]
theorem VSt.on {w W W' : World} {i : I} {A : Option Addr} {c : Nat} (h : VSt w i A c W) (hb : Below W.heap.size W W') : VSt w i A c W' := ⟨h.box.on hb, h.res.below hb⟩
theorem VSt.start (w : World) (i : I) (A : Option Addr) (c : Nat) : VSt w i A c ((w.alloc (.cells (insC i A c) 25)).alloc (.cells #[.int .u8 0, .int .u64 0] 65)) := by
  have := Whole.made (w.alloc (.cells (insC i A c) 25)) 65 #[.int .u8 0, .int .u64 0]
  rw [size_box] at this
  exact ⟨(BoxI.start w i A c).on (below_box _ _), this⟩
theorem VSt.fin {w W : World} {i : I} {A : Option Addr} {c : Nat} (h : VSt w i A c W) (u0 u1 : Value) :
    Whole ((W.setCell ⟨w.heap.size + 1, 0, none⟩ u0).setCell ⟨w.heap.size + 1, 1, none⟩ u1) (w.heap.size + 1) 65 #[u0, u1] ∧ Below w.heap.size w ((W.setCell ⟨w.heap.size + 1, 0, none⟩ u0).setCell ⟨w.heap.size + 1, 1, none⟩ u1) :=
  put2_below u0 u1 h.res h.box.2 (by omega)
theorem op_isV {i : I} {n : Nat} (h : i.n = n) : ((i.op.toNat : Int) == n) = true := beq_iff_eq.2 (by have : i.op.toNat = n := h; omega)
theorem op_not {i : I} {n : Nat} (h : ¬ i.n = n) : ((i.op.toNat : Int) == n) = false := by have : ¬ i.op.toNat = n := h; simp; omega
set_option maxHeartbeats 1000000 in
theorem cvalue_any {w : World} {i : I} {A Av : Option Addr} {c cv : Nat} {l : List (Int × Int)} (oi : i.Ok) (hT : Tabs w) (hl : LiesP w Av l) (ni : (i.l.length : Int) ≤ 9223372036854775807) (nl : (l.length : Int) ≤ 9223372036854775807) :
    Calls Tryd.prog 36 #[insV i A c, .slice Av l.length cv] w (PPost (valZ i l) w) := by
  have H0 := Lib.hid (VSt.start w i A c)
  have HR := Lib.hid (cright_any i A c _ oi (hT.below (H0.out.box.bel)) ni)
  have hw : IntKind.u64.wrap (l.length : Int) = l.length := by simp [IntKind.wrap, IntKind.bits, IntKind.signed]; omega
  obtain ⟨j, hj⟩ : ∃ j : Nat, i.a = j := ⟨i.a.toNat, by have := oi.a0; omega⟩
  have HL := Lib.hid (fun W (hb : Below w.heap.size w W) => hl.below hb)
  by_cases h0 : crightZ i = 0
  · rw [h0] at HR
    by_cases h65 : i.n = 65
    · have HE := Lib.hid (show valZ i l = ((127, i.a), 0) by unfold valZ; rw [if_pos h0, if_pos h65])
      have d65 : ((i.op.toNat : Int) == 65) = true := op_isV h65
      clear h0 h65 hj hl oi hT HL
      go_enter Tryd.func36, Tryd.ntmps36
      go_wp2_with (go_at_call 27; go_must ((with_reducible refine HR.out.mono ?_); rintro e w1 ⟨rfl, hb⟩; have H1 := Lib.hid (H0.out.on hb); have c0 := H1.out.box.c0; have c1 := H1.out.box.c1; have c2 := H1.out.box.c2; have c3 := H1.out.box.c3; have f0 := H1.out.res.frozen 0; have f1 := H1.out.res.frozen 1; have m0 := H1.out.res.cell 0; have m1 := H1.out.res.cell 1; simp only [List.getElem?_toArray, List.getElem?_cons_zero, List.getElem?_cons_succ] at m0 m1; clear hb))
      obtain ⟨p, hq⟩ := H1.out.fin (.int .u8 127) (.int .u64 i.a)
      have q0 := p.cell 0
      have q1 := p.cell 1
      simp only [List.getElem?_toArray, List.getElem?_cons_zero, List.getElem?_cons_succ] at q0 q1
      exact bodyPost_ret (v := retP ((127, i.a), 0)) (by simp [results, Tryd.results36, go_sem, q0, q1]) rfl ⟨by rw [HE.out], hq⟩
    have d65 : ((i.op.toNat : Int) == 65) = false := op_not h65
    by_cases h66 : i.n = 66
    · have HE := Lib.hid (show valZ i l = ((126, i.a), 0) by unfold valZ; rw [if_pos h0, if_neg h65, if_pos h66])
      have d66 : ((i.op.toNat : Int) == 66) = true := op_isV h66
      clear h0 h65 h66 hj hl oi hT HL
      go_enter Tryd.func36, Tryd.ntmps36
      go_wp2_with (go_at_call 27; go_must ((with_reducible refine HR.out.mono ?_); rintro e w1 ⟨rfl, hb⟩; have H1 := Lib.hid (H0.out.on hb); have c0 := H1.out.box.c0; have c1 := H1.out.box.c1; have c2 := H1.out.box.c2; have c3 := H1.out.box.c3; have f0 := H1.out.res.frozen 0; have f1 := H1.out.res.frozen 1; have m0 := H1.out.res.cell 0; have m1 := H1.out.res.cell 1; simp only [List.getElem?_toArray, List.getElem?_cons_zero, List.getElem?_cons_succ] at m0 m1; clear hb))
      obtain ⟨p, hq⟩ := H1.out.fin (.int .u8 126) (.int .u64 i.a)
      have q0 := p.cell 0
      have q1 := p.cell 1
      simp only [List.getElem?_toArray, List.getElem?_cons_zero, List.getElem?_cons_succ] at q0 q1
      exact bodyPost_ret (v := retP ((126, i.a), 0)) (by simp [results, Tryd.results36, go_sem, q0, q1]) rfl ⟨by rw [HE.out], hq⟩
    have d66 : ((i.op.toNat : Int) == 66) = false := op_not h66
    have hv : valZ i l = getP l j := by unfold valZ; rw [if_pos h0, if_neg h65, if_neg h66, hj, Int.toNat_natCast]
    obtain ⟨r, hr⟩ : ∃ r, r = getP l j := ⟨_, rfl⟩
    have HG := Lib.hid (fun W (hb : Below w.heap.size w W) => show Calls Tryd.prog 86 #[insV i A c, .slice Av l.length cv] W (PPost r W) from by
      have := globalV_any (Ai := A) (c := cv) (n := i.l.length) (ci := c) (o := i.op.toNat) (b := i.b) (j := j) (HL.out W hb) nl
      rw [← hr, ← hj] at this
      exact this)
    rw [← hr] at hv
    obtain ⟨⟨rt, rn⟩, re⟩ := r
    have HG := Lib.hid (fun W (hb : Below w.heap.size w W) => show Calls Tryd.prog 86 #[insV i A c, .slice Av l.length cv] W (fun e w' => e = .returned (.tuple #[.agg #[.int .u8 rt, .int .u64 rn], .int .i64 re]) ∧ Below W.heap.size W w') from HG.out W hb)
    have HE := Lib.hid hv
    clear h0 h65 h66 hj hl oi hT HL hv hr
    go_enter Tryd.func36, Tryd.ntmps36
    go_wp2_with (first
      | (go_at_call 27; go_must ((with_reducible refine HR.out.mono ?_); rintro e w1 ⟨rfl, hb⟩; have H1 := Lib.hid (H0.out.on hb); have c0 := H1.out.box.c0; have c1 := H1.out.box.c1; have c2 := H1.out.box.c2; have c3 := H1.out.box.c3; have f0 := H1.out.res.frozen 0; have f1 := H1.out.res.frozen 1; have m0 := H1.out.res.cell 0; have m1 := H1.out.res.cell 1; simp only [List.getElem?_toArray, List.getElem?_cons_zero, List.getElem?_cons_succ] at m0 m1; clear hb))
      | (go_at_call 86; go_must ((with_reducible refine (HG.out _ H1.out.box.bel).mono ?_); rintro e w2 ⟨rfl, hb⟩; clear c0 c1 c2 c3 f0 f1 m0 m1; have H2 := Lib.hid (H1.out.on hb); have c0 := H2.out.box.c0; have c1 := H2.out.box.c1; have c2 := H2.out.box.c2; have c3 := H2.out.box.c3; have f0 := H2.out.res.frozen 0; have f1 := H2.out.res.frozen 1; have m0 := H2.out.res.cell 0; have m1 := H2.out.res.cell 1; simp only [List.getElem?_toArray, List.getElem?_cons_zero, List.getElem?_cons_succ] at m0 m1; clear hb)))
    obtain ⟨p, hq⟩ := H2.out.fin (.int .u8 rt) (.int .u64 rn)
    have q0 := p.cell 0
    have q1 := p.cell 1
    simp only [List.getElem?_toArray, List.getElem?_cons_zero, List.getElem?_cons_succ] at q0 q1
    exact bodyPost_ret (v := retP ((rt, rn), re)) (by simp [results, Tryd.results36, go_sem, q0, q1]) rfl ⟨by rw [HE.out], hq⟩
  · have hv : valZ i l = ((0, 0), crightZ i) := by unfold valZ; rw [if_neg h0]
    obtain ⟨z, hz⟩ : ∃ z, z = crightZ i := ⟨_, rfl⟩
    rw [← hz] at HR hv h0
    have HE := Lib.hid hv
    have dz : (z != 0) = true := by simpa using h0
    clear h0 hj hl oi hT HL hv hz
    go_enter Tryd.func36, Tryd.ntmps36
    go_wp2_with (go_at_call 27; go_must ((with_reducible refine HR.out.mono ?_); rintro e w1 ⟨rfl, hb⟩; have H1 := Lib.hid (H0.out.on hb); have c0 := H1.out.box.c0; have c1 := H1.out.box.c1; have c2 := H1.out.box.c2; have c3 := H1.out.box.c3; have f0 := H1.out.res.frozen 0; have f1 := H1.out.res.frozen 1; have m0 := H1.out.res.cell 0; have m1 := H1.out.res.cell 1; simp only [List.getElem?_toArray, List.getElem?_cons_zero, List.getElem?_cons_succ] at m0 m1; clear hb))
    obtain ⟨p, hq⟩ := H1.out.fin (.int .u8 0) (.int .u64 0)
    have q0 := p.cell 0
    have q1 := p.cell 1
    simp only [List.getElem?_toArray, List.getElem?_cons_zero, List.getElem?_cons_succ] at q0 q1
    exact bodyPost_ret (v := retP ((0, 0), z)) (by simp [results, Tryd.results36, go_sem, q0, q1]) rfl ⟨by rw [HE.out], hq⟩
set_option maxHeartbeats 1000000 in
theorem rvalue_any {w : World} {i : I} {A Av : Option Addr} {c cv : Nat} {l : List (Int × Int)} (oi : i.Ok) (hl : LiesP w Av l) (ni : (i.l.length : Int) ≤ 9223372036854775807) (nl : (l.length : Int) ≤ 9223372036854775807) :
    Calls Tryd.prog 38 #[insV i A c, .slice Av l.length cv] w (PPost (valZ i l) w) := by
  have H0 := Lib.hid (VSt.start w i A c)
  have HR := Lib.hid (rcright_any i A c ((w.alloc (.cells (insC i A c) 25)).alloc (.cells #[.int .u8 0, .int .u64 0] 65)) oi ni)
  have hw : IntKind.u64.wrap (l.length : Int) = l.length := by simp [IntKind.wrap, IntKind.bits, IntKind.signed]; omega
  obtain ⟨j, hj⟩ : ∃ j : Nat, i.a = j := ⟨i.a.toNat, by have := oi.a0; omega⟩
  have HL := Lib.hid (fun W (hb : Below w.heap.size w W) => hl.below hb)
  by_cases h0 : crightZ i = 0
  · rw [h0] at HR
    by_cases h65 : i.n = 65
    · have HE := Lib.hid (show valZ i l = ((127, i.a), 0) by unfold valZ; rw [if_pos h0, if_pos h65])
      have d65 : ((i.op.toNat : Int) == 65) = true := op_isV h65
      clear h0 h65 hj hl oi HL
      go_enter Tryd.func38, Tryd.ntmps38
      go_wp2_with (go_at_call 24; go_must ((with_reducible refine HR.out.mono ?_); rintro e w1 ⟨rfl, hb⟩; have H1 := Lib.hid (H0.out.on hb); have c0 := H1.out.box.c0; have c1 := H1.out.box.c1; have c2 := H1.out.box.c2; have c3 := H1.out.box.c3; have f0 := H1.out.res.frozen 0; have f1 := H1.out.res.frozen 1; have m0 := H1.out.res.cell 0; have m1 := H1.out.res.cell 1; simp only [List.getElem?_toArray, List.getElem?_cons_zero, List.getElem?_cons_succ] at m0 m1; clear hb))
      obtain ⟨p, hq⟩ := H1.out.fin (.int .u8 127) (.int .u64 i.a)
      have q0 := p.cell 0
      have q1 := p.cell 1
      simp only [List.getElem?_toArray, List.getElem?_cons_zero, List.getElem?_cons_succ] at q0 q1
      exact bodyPost_ret (v := retP ((127, i.a), 0)) (by simp [results, Tryd.results38, go_sem, q0, q1]) rfl ⟨by rw [HE.out], hq⟩
    have d65 : ((i.op.toNat : Int) == 65) = false := op_not h65
    by_cases h66 : i.n = 66
    · have HE := Lib.hid (show valZ i l = ((126, i.a), 0) by unfold valZ; rw [if_pos h0, if_neg h65, if_pos h66])
      have d66 : ((i.op.toNat : Int) == 66) = true := op_isV h66
      clear h0 h65 h66 hj hl oi HL
      go_enter Tryd.func38, Tryd.ntmps38
      go_wp2_with (go_at_call 24; go_must ((with_reducible refine HR.out.mono ?_); rintro e w1 ⟨rfl, hb⟩; have H1 := Lib.hid (H0.out.on hb); have c0 := H1.out.box.c0; have c1 := H1.out.box.c1; have c2 := H1.out.box.c2; have c3 := H1.out.box.c3; have f0 := H1.out.res.frozen 0; have f1 := H1.out.res.frozen 1; have m0 := H1.out.res.cell 0; have m1 := H1.out.res.cell 1; simp only [List.getElem?_toArray, List.getElem?_cons_zero, List.getElem?_cons_succ] at m0 m1; clear hb))
      obtain ⟨p, hq⟩ := H1.out.fin (.int .u8 126) (.int .u64 i.a)
      have q0 := p.cell 0
      have q1 := p.cell 1
      simp only [List.getElem?_toArray, List.getElem?_cons_zero, List.getElem?_cons_succ] at q0 q1
      exact bodyPost_ret (v := retP ((126, i.a), 0)) (by simp [results, Tryd.results38, go_sem, q0, q1]) rfl ⟨by rw [HE.out], hq⟩
    have d66 : ((i.op.toNat : Int) == 66) = false := op_not h66
    have hv : valZ i l = getP l j := by unfold valZ; rw [if_pos h0, if_neg h65, if_neg h66, hj, Int.toNat_natCast]
    have HJ := Lib.hid hj
    by_cases hlt : j < l.length
    · obtain ⟨⟨t, n⟩, hx⟩ : ∃ x, l[j]? = some x := ⟨_, List.getElem?_eq_getElem hlt⟩
      rw [getP_in hx] at hv
      have HE := Lib.hid hv
      have HX := Lib.hid (fun W (hb : Below w.heap.size w W) => HL.out W hb j t n hx)
      have d : ¬ l.length ≤ j := by omega
      have d2 : decide ((l.length : Int) ≤ (j : Int)) = false := by simp; omega
      clear h0 h65 h66 hj hl oi HL hv hx
      go_enter Tryd.func38, Tryd.ntmps38
      go_wp2_with (go_at_call 24; go_must ((with_reducible refine HR.out.mono ?_); rintro e w1 ⟨rfl, hb⟩; have H1 := Lib.hid (H0.out.on hb); have c0 := H1.out.box.c0; have c1 : w1.cell? ⟨w.heap.size, 1, none⟩ = some (.int .u64 (j : Int)) := (by rw [← HJ.out]; exact H1.out.box.c1); have c2 := H1.out.box.c2; have c3 := H1.out.box.c3; have f0 := H1.out.res.frozen 0; have f1 := H1.out.res.frozen 1; have m0 := H1.out.res.cell 0; have m1 := H1.out.res.cell 1; simp only [List.getElem?_toArray, List.getElem?_cons_zero, List.getElem?_cons_succ] at m0 m1; obtain ⟨bb, off, rfl, _, g0, g1⟩ := HX.out w1 H1.out.box.bel; clear hb))
      obtain ⟨p, hq⟩ := H1.out.fin (.int .u8 t) (.int .u64 n)
      have q0 := p.cell 0
      have q1 := p.cell 1
      simp only [List.getElem?_toArray, List.getElem?_cons_zero, List.getElem?_cons_succ] at q0 q1
      exact bodyPost_ret (v := retP ((t, n), 0)) (by simp [results, Tryd.results38, go_sem, q0, q1]) rfl ⟨by rw [HE.out], hq⟩
    · rw [getP_out hlt] at hv
      have HE := Lib.hid hv
      have d : l.length ≤ j := by omega
      have d2 : decide ((l.length : Int) ≤ (j : Int)) = true := by simp; omega
      clear h0 h65 h66 hj hl oi HL hv hlt
      go_enter Tryd.func38, Tryd.ntmps38
      go_wp2_with (go_at_call 24; go_must ((with_reducible refine HR.out.mono ?_); rintro e w1 ⟨rfl, hb⟩; have H1 := Lib.hid (H0.out.on hb); have c0 := H1.out.box.c0; have c1 : w1.cell? ⟨w.heap.size, 1, none⟩ = some (.int .u64 (j : Int)) := (by rw [← HJ.out]; exact H1.out.box.c1); have c2 := H1.out.box.c2; have c3 := H1.out.box.c3; have f0 := H1.out.res.frozen 0; have f1 := H1.out.res.frozen 1; have m0 := H1.out.res.cell 0; have m1 := H1.out.res.cell 1; simp only [List.getElem?_toArray, List.getElem?_cons_zero, List.getElem?_cons_succ] at m0 m1; clear hb))
      obtain ⟨p, hq⟩ := H1.out.fin (.int .u8 0) (.int .u64 0)
      have q0 := p.cell 0
      have q1 := p.cell 1
      simp only [List.getElem?_toArray, List.getElem?_cons_zero, List.getElem?_cons_succ] at q0 q1
      exact bodyPost_ret (v := retP ((0, 0), 24)) (by simp [results, Tryd.results38, go_sem, q0, q1]) rfl ⟨by rw [HE.out], hq⟩
  · have hv : valZ i l = ((0, 0), crightZ i) := by unfold valZ; rw [if_neg h0]
    obtain ⟨z, hz⟩ : ∃ z, z = crightZ i := ⟨_, rfl⟩
    rw [← hz] at HR hv h0
    have HE := Lib.hid hv
    have dz : (z != 0) = true := by simpa using h0
    clear h0 hj hl oi HL hv hz
    go_enter Tryd.func38, Tryd.ntmps38
    go_wp2_with (go_at_call 24; go_must ((with_reducible refine HR.out.mono ?_); rintro e w1 ⟨rfl, hb⟩; have H1 := Lib.hid (H0.out.on hb); have c0 := H1.out.box.c0; have c1 := H1.out.box.c1; have c2 := H1.out.box.c2; have c3 := H1.out.box.c3; have f0 := H1.out.res.frozen 0; have f1 := H1.out.res.frozen 1; have m0 := H1.out.res.cell 0; have m1 := H1.out.res.cell 1; simp only [List.getElem?_toArray, List.getElem?_cons_zero, List.getElem?_cons_succ] at m0 m1; clear hb))
    obtain ⟨p, hq⟩ := H1.out.fin (.int .u8 0) (.int .u64 0)
    have q0 := p.cell 0
    have q1 := p.cell 1
    simp only [List.getElem?_toArray, List.getElem?_cons_zero, List.getElem?_cons_succ] at q0 q1
    exact bodyPost_ret (v := retP ((0, 0), z)) (by simp [results, Tryd.results38, go_sem, q0, q1]) rfl ⟨by rw [HE.out], hq⟩
end Go.Proofs.YtebgmfjgapmpfaaDoor
