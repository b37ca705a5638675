/- A slice of sections, opened. -/
import Derived.Test.YtohliaellefhaaaDoorQs13
import Derived.ProofKit
import Derived.OpenShut
import Derived.ShutString
import Derived.ChangeOld
import Derived.ChangeSame
import Derived.Deep.Slices
import Derived.Deep.Fields
import Derived.Lib.SmallJoins
import Derived.Test.YtohliaellefhaaaDoorQs07
import Derived.Test.YtohliaellefhaaaDoorTie
import Derived.Lib.LaidIn
import Derived.Lib.LaidU8T
import Derived.MakeChecks
import Derived.Stop.Joined
namespace Go.Proofs.YtohliaellefhaaaDoor
open Go.ChangeShapes Go.WideShapes Go.ChangeAt Go.RowKit Go.Joins Go.Deep
set_option linter.unusedVariables false
set_option maxRecDepth 100000

theorem cellsSec : Tryd.prog.cellsOf 38 = 4 := by kernel_rfl
theorem cellsB8 : Tryd.prog.cellsOf 5 = 1 := by kernel_rfl
section
variable {H : Type} {enc : TypeId × Value → H} {W : World} {sp : Nat → Bool}
theorem ints_lie9 {k : IntKind} {a : Addr} {len : Nat} {zs : List Int} (hle : len ≤ zs.length) (hcell : ∀ i, i < zs.length → W.cell? (a.add i) = some (.int k (zs.getD i 0))) :
    ∀ j v, ((zs.take len).map (Value.int k))[j]? = some v → ∃ b off, some a = some (⟨b, off, none⟩ : Addr) ∧ b < W.heap.size ∧ W.cell? ⟨b, off + j, none⟩ = some v := by
  intro i v hv
  have hi : i < len := by
    have := (List.getElem?_eq_some_iff.1 hv).1
    rw [List.length_map, List.length_take] at this
    omega
  obtain ⟨b, off, spot⟩ := a
  have hsp : spot = none := by
    have h0 := hcell 0 (by omega)
    simpa [Addr.add] using World.cell?_spot h0
  subst hsp
  have hc := hcell i (by omega)
  rw [Go.WideShapes.add_plain] at hc
  refine ⟨b, off, rfl, block_lt_of_cell hc, ?_⟩
  rw [hc, ← hv, List.getElem?_map, List.getElem?_take, if_pos hi, List.getElem?_eq_getElem (by omega : i < zs.length)]
  simp [List.getD, List.getElem?_eq_getElem (by omega : i < zs.length)]
theorem nums_ex9 : ∀ r : List Int, (∀ c ∈ r, 0 ≤ c ∧ c ≤ 255) → ∃ l : List UInt8, nums l = r
  | [], _ => ⟨[], rfl⟩
  | c :: r, h => by
    obtain ⟨l, hl⟩ := nums_ex9 r (fun d hd => h d (List.mem_cons_of_mem _ hd))
    have hc := h c (by simp)
    refine ⟨UInt8.ofNat c.toNat :: l, ?_⟩
    have e : ((UInt8.ofNat c.toNat).toNat : Int) = c := by rw [UInt8.toNat_ofNat']; omega
    unfold nums at hl ⊢
    rw [List.map_cons, hl, e]
/-- Bytes in a field. -/
theorem open_body {n : Nat} {v : Value} {y : DataW H × List MemPlace} (h : DataW.trod enc Tryd.prog W 0 sp true n 36 [v] = some y) :
    ∃ A c l, v = .slice A l.length c ∧ Pc A c l W := by
  rcases open_ints Tryd.underlying36 Tryd.underlying5 cellsB8 h with ⟨hcs, _⟩ | ⟨a, l, c, zs, hcs, _, hl, hm, hz, _, hcell, hwf⟩
  · simp at hcs
    exact ⟨none, 0, [], hcs, Lies.nil, fun _ => rfl⟩
  · simp at hcs
    subst hcs
    have hle : l ≤ zs.length := by rw [hz]; split <;> omega
    have hlen : (zs.take l).length = l := by rw [List.length_take]; omega
    obtain ⟨bs, hbs⟩ := nums_ex9 (zs.take l) (fun d hd => by
      have w0 := hwf d (List.mem_of_mem_take hd)
      simpa [Lit.wf, IntKind.min, IntKind.max, IntKind.signed, IntKind.bits] using w0)
    have hbl : bs.length = l := by rw [← nums_length, hbs, hlen]
    refine ⟨some a, c, bs, by rw [hbl], ?_, fun e => by cases e⟩
    rw [hbs]
    exact ints_lie9 hle hcell
/-- One element: its four cells. -/
theorem open_sec {n : Nat} {cs : List Value} {x : DataW H × List MemPlace} (h : DataW.trod enc Tryd.prog W 0 sp true n 38 cs = some x) (hc : cs.length = 4) :
    ∃ (i : Sct) (B : Option Addr) (c : Nat), cs = [.int .u8 i.id.toNat, .string (S i.name), .slice B i.body.length c, .int .i64 i.off] ∧ Pc B c i.body W := by
  obtain ⟨ys, m, _, hy, hlen, hyl, hf⟩ := DataW.trod_struct Tryd.underlying38 h
  match cs, hc with
  | [c0, c1, c2, c3], _ =>
    match ys, hyl with
    | [y0, y1, y2, y3], _ =>
      have e1 : Tryd.prog.cellsOf 5 = 1 := by kernel_rfl
      have e2 : Tryd.prog.cellsOf 9 = 1 := by kernel_rfl
      have e3 : Tryd.prog.cellsOf 36 = 1 := by kernel_rfl
      have e4 : Tryd.prog.cellsOf 3 = 1 := by kernel_rfl
      have h0 : DataW.trod enc Tryd.prog W 0 sp true m 5 (([c0, c1, c2, c3].drop 0).take (Tryd.prog.cellsOf 5)) = some y0 := hf 0 _ rfl
      have h1 : DataW.trod enc Tryd.prog W 0 sp true m 9 (([c0, c1, c2, c3].drop 1).take (Tryd.prog.cellsOf 9)) = some y1 := hf 1 _ rfl
      have h2 : DataW.trod enc Tryd.prog W 0 sp true m 36 (([c0, c1, c2, c3].drop 2).take (Tryd.prog.cellsOf 36)) = some y2 := hf 2 _ rfl
      have h3 : DataW.trod enc Tryd.prog W 0 sp true m 3 (([c0, c1, c2, c3].drop 3).take (Tryd.prog.cellsOf 3)) = some y3 := hf 3 _ rfl
      rw [e1] at h0
      rw [e2] at h1
      rw [e3] at h2
      rw [e4] at h3
      obtain ⟨x0, q0, _, w0⟩ := DataW.trod_int Tryd.underlying5 h0
      obtain ⟨s1, q1, _, _⟩ := DataW.trod_string Tryd.underlying9 h1
      obtain ⟨B, c, bs, q2, hp⟩ := open_body h2
      obtain ⟨x3, q3, _, _⟩ := DataW.trod_int Tryd.underlying3 h3
      have b0 : 0 ≤ x0 ∧ x0 ≤ 255 := by simpa [Lit.wf, IntKind.min, IntKind.max, IntKind.signed, IntKind.bits] using w0
      have q0' : c0 = .int .u8 x0 := by simpa using q0
      have q1' : c1 = .string s1 := by simpa using q1
      have q3' : c3 = .int .i64 x3 := by simpa using q3
      have e : ((UInt8.ofNat x0.toNat).toNat : Int) = x0 := by rw [UInt8.toNat_ofNat']; omega
      exact ⟨⟨UInt8.ofNat x0.toNat, s1.data.toList, bs, x3⟩, B, c, by rw [e, S_of, q0', q1', q2, q3'], hp⟩
theorem open_secs {A : Option Addr} {len cap : Nat} {d : DataW H} {p : List MemPlace} (h : DataW.Trod enc Tryd.prog W 0 sp true 34 (.slice A len cap) d p) :
    ∃ l : List Sct, l.length = len ∧ Secs W A l ∧ (l.length : Int) ≤ 9223372036854775807 := by
  obtain ⟨fuel, hf⟩ := h
  rcases open_slice Tryd.underlying34 hf with ⟨hcs, _⟩ | ⟨a, ln, cp, m, n, D, Pl, hcs, hb, hl, hm, hmm, hx, hi⟩
  · simp [Value.cells] at hcs
    obtain ⟨rfl, rfl, rfl⟩ := hcs
    exact ⟨[], rfl, (fun j i hi => by cases hi), by simp⟩
  · simp [Value.cells] at hcs
    obtain ⟨rfl, rfl, rfl⟩ := hcs
    have hlm : len ≤ m := by rw [hmm]; split <;> omega
    have each : ∀ j, j < len → ∃ (i : Sct) (B : Option Addr) (c : Nat), (W.cell? (a.add (j * 4)) = some (.int .u8 i.id.toNat) ∧ W.cell? ((a.add (j * 4)).add 1) = some (.string (S i.name)) ∧ W.cell? ((a.add (j * 4)).add 2) = some (.slice B i.body.length c) ∧ W.cell? ((a.add (j * 4)).add 3) = some (.int .i64 i.off)) ∧ Pc B c i.body W := by
      intro j hj
      obtain ⟨cs', hc, ht'⟩ := hi j (by omega)
      rw [cellsSec] at hc
      obtain ⟨_, hcl, hat⟩ := World.cells?_some hc
      obtain ⟨i, B, c, rfl, hp⟩ := open_sec ht' hcl
      have q0 := hat 0 (by omega)
      have q1 := hat 1 (by omega)
      have q2 := hat 2 (by omega)
      have q3 := hat 3 (by omega)
      exact ⟨i, B, c, ⟨by simpa [Addr.add] using q0, q1, q2, q3⟩, hp⟩
    have pick : ∀ k, k ≤ len → ∃ l : List Sct, l.length = k ∧ ∀ (j : Nat) (i : Sct), l[j]? = some i → ∃ (B : Option Addr) (c : Nat), (W.cell? (a.add (j * 4)) = some (.int .u8 i.id.toNat) ∧ W.cell? ((a.add (j * 4)).add 1) = some (.string (S i.name)) ∧ W.cell? ((a.add (j * 4)).add 2) = some (.slice B i.body.length c) ∧ W.cell? ((a.add (j * 4)).add 3) = some (.int .i64 i.off)) ∧ Pc B c i.body W := by
      intro k
      induction k with
      | zero => intro _; exact ⟨[], rfl, fun j i hi => by cases hi⟩
      | succ k ih =>
        intro hk
        obtain ⟨l, hl1, hl2⟩ := ih (by omega)
        obtain ⟨i, B, c, hq⟩ := each k (by omega)
        refine ⟨l ++ [i], by simp [hl1], fun j i' hi' => ?_⟩
        rcases Nat.lt_or_ge j k with g | g
        · rw [List.getElem?_append_left (by omega)] at hi'
          exact hl2 j i' hi'
        · have hj : j < (l ++ [i]).length := (List.getElem?_eq_some_iff.1 hi').1
          rw [List.length_append, List.length_singleton] at hj
          obtain rfl : j = k := by omega
          rw [List.getElem?_append_right (by omega), hl1, Nat.sub_self] at hi'
          injection hi' with hi'
          subst hi'
          exact ⟨B, c, hq⟩
    obtain ⟨l, hl1, hl2⟩ := pick len (Nat.le_refl _)
    unfold maxLen at hm
    refine ⟨l, hl1, fun j i hij => ?_, by omega⟩
    obtain ⟨B, c, ⟨q0, q1, q2, q3⟩, hp⟩ := hl2 j i hij
    have hj0 := (List.getElem?_eq_some_iff.1 hij).1
    obtain ⟨_, _, ⟨q00, _, _, _⟩, _⟩ := hl2 0 _ (List.getElem?_eq_getElem (by omega : 0 < l.length))
    obtain ⟨b, off, spot⟩ := a
    have hsp : spot = none := by simpa [Addr.add] using World.cell?_spot q00
    subst hsp
    rw [Go.WideShapes.add_plain] at q0 q1 q2 q3
    rw [Go.WideShapes.add_plain] at q1 q2 q3
    exact ⟨b, off, B, c, rfl, block_lt_of_cell q0, ⟨q0, q1, q2, q3⟩, hp⟩
end
end Go.Proofs.YtohliaellefhaaaDoor

/- What the rows list of the two tables, as the contracts of unicode/utf8 want it; a world that holds them. -/
namespace Go.Proofs.YtohliaellefhaaaDoor
set_option linter.unusedVariables false
open Go.Shelf Go.Lib

theorem laidOut : laidOutB Tryd.prog = true := by kernel_rfl
theorem own : ownKnob Tryd.prog.godebug = none := by kernel_rfl
/-- What both rows list. -/
def both : List (String × DataW Unit) := [("unicode/utf8.acceptRanges", Rows.laid_unicode_utf8_acceptRanges), ("unicode/utf8.first", Rows.laid_unicode_utf8_first)]
theorem first_same : Rows.laid_unicode_utf8_first = Lib.firstData := by kernel_rfl
theorem accept_same : (Rows.laid_unicode_utf8_acceptRanges : DataW Unit) = Lib.acceptData := by kernel_rfl
theorem both_plain (W : World) : laidMetH Tryd.prog both W = laidMet Tryd.prog both W := Go.MakeChecks.laidMetH_plain _ _ _ (by kernel_rfl)
/-- The seat's numbers of the types and tables that the contracts of unicode/utf8 name. -/
def renU : Ren where
  f := fun _ => 0
  t := fun n => if n = 5 then 5 else if n = 119 then 142 else if n = 138 then 144 else 145
  g := fun n => if n = 3 then 1 else 2
theorem tabs_of {W : World} (h : laidMetH Tryd.prog both W) : Tabs W := by
  rw [both_plain] at h
  have h3 := Lib.laidMet.reads h (.tail _ (.head _))
  have h4 := Lib.laidMet.reads h (.head _)
  rw [first_same] at h3
  rw [accept_same] at h4
  exact utf8Tabs_of_readsT (ρ := renU) ⟨by kernel_rfl, by kernel_rfl, by kernel_rfl, by kernel_rfl⟩ ⟨by kernel_rfl, by kernel_rfl, by kernel_rfl, by kernel_rfl, by kernel_rfl, by kernel_rfl, by kernel_rfl⟩ h3 h4

/-- The settled world, the two tables laid. -/
noncomputable def laidWorld (os : Os) : World :=
  let w0 := World.holding Tryd.prog os ⟨#[], #[], []⟩
  let put (h : Array Obj) (g : Nat) (cs : Array Value) : Array Obj := h.modify g fun
    | .cells _ t frozen => .cells cs t frozen
    | o => o
  let h1 := put w0.heap 1 (Lib.firstTab.map fun z => Value.int .u8 z).toArray
  let h2 := put h1 2 ((List.range 16).flatMap fun i => [Value.int .u8 (Lib.accLo i), Value.int .u8 (Lib.accHi i)]).toArray
  { w0 with heap := h2 }
theorem laidWorld_met (os : Os) (args : Array Value) : laidMetH Tryd.prog both ((laidWorld os).forCall (fun _ _ => 0) ⟨#[], args, []⟩).memory := by
  rw [both_plain]
  exact (LaidIn.of_run (l := both) [2, 1] 8 (by kernel_rfl) (by kernel_rfl) (by kernel_rfl) (by kernel_rfl)).met
end Go.Proofs.YtohliaellefhaaaDoor
