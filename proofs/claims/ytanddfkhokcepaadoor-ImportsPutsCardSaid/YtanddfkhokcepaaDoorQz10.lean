/- A slice of sections, opened. -/
import Derived.Test.YtanddfkhokcepaaDoorQz08
import Derived.ProofKit
import Derived.OpenShut
import Derived.ShutString
import Derived.ChangeOld
import Derived.ChangeSame
import Derived.Deep.Slices
import Derived.Deep.Fields
import Derived.Lib.SmallJoins
import Derived.Test.YtanddfkhokcepaaDoorQz05
import Derived.Test.YtanddfkhokcepaaDoorTie
import Derived.Lib.LaidIn
import Derived.Lib.LaidU8T
import Derived.MakeChecks
import Derived.Stop.Joined
import Derived.Test.YtanddfkhokcepaaDoorQz02
import Derived.Test.YtanddfkhokcepaaDoorQz01
import Derived.Test.YtanddfkhokcepaaDoorQz07
import Derived.Deep.QuietTactic
import Derived.BigQuiet
import Derived.StillTailTactics
import Derived.Deep.DeepMust
import Derived.Deep.CutBlock
import Derived.Deep.DeepCutAuto
namespace Go.Proofs.YtanddfkhokcepaaDoor
open Go.ChangeShapes Go.WideShapes Go.ChangeAt Go.RowKit Go.Joins Go.Deep
set_option linter.unusedVariables false
set_option maxRecDepth 100000

theorem cellsSec : Tryd.prog.cellsOf 27 = 4 := by kernel_rfl
theorem cellsB8 : Tryd.prog.cellsOf 5 = 1 := by kernel_rfl
section
variable {H : Type} {enc : TypeId × Value → H} {W : World} {sp : Nat → Bool}
theorem ints_lie9 {k : IntKind} {a : Addr} {len : Nat} {zs : List Int} (hle : len ≤ zs.length) (hcell : ∀ i, i < zs.length → W.cell? (a.add i) = some (.int k (zs.getD i 0))) :
    ∀ j v, ((zs.take len).map (Value.int k))[j]? = some v → ∃ b off, some a = some (⟨b, off, none⟩ : Addr) ∧ b < W.heap.size ∧ W.cell? ⟨b, off + j, none⟩ = some v := by
  intro i v hv
  have hi : i < len := by
    have := (List.getElem?_eq_some_iff.1 hv).1
    rw [List.length_map, List.length_take] at this
    omega
  obtain ⟨b, off, spot⟩ := a
  have hsp : spot = none := by
    have h0 := hcell 0 (by omega)
    simpa [Addr.add] using World.cell?_spot h0
  subst hsp
  have hc := hcell i (by omega)
  rw [Go.WideShapes.add_plain] at hc
  refine ⟨b, off, rfl, block_lt_of_cell hc, ?_⟩
  rw [hc, ← hv, List.getElem?_map, List.getElem?_take, if_pos hi, List.getElem?_eq_getElem (by omega : i < zs.length)]
  simp [List.getD, List.getElem?_eq_getElem (by omega : i < zs.length)]
theorem nums_ex9 : ∀ r : List Int, (∀ c ∈ r, 0 ≤ c ∧ c ≤ 255) → ∃ l : List UInt8, nums l = r
  | [], _ => ⟨[], rfl⟩
  | c :: r, h => by
    obtain ⟨l, hl⟩ := nums_ex9 r (fun d hd => h d (List.mem_cons_of_mem _ hd))
    have hc := h c (by simp)
    refine ⟨UInt8.ofNat c.toNat :: l, ?_⟩
    have e : ((UInt8.ofNat c.toNat).toNat : Int) = c := by rw [UInt8.toNat_ofNat']; omega
    unfold nums at hl ⊢
    rw [List.map_cons, hl, e]
/-- Bytes in a field. -/
theorem open_body {n : Nat} {v : Value} {y : DataW H × List MemPlace} (h : DataW.trod enc Tryd.prog W 0 sp true n 25 [v] = some y) :
    ∃ A c l, v = .slice A l.length c ∧ Pc A c l W := by
  rcases open_ints Tryd.underlying25 Tryd.underlying5 cellsB8 h with ⟨hcs, _⟩ | ⟨a, l, c, zs, hcs, _, hl, hm, hz, _, hcell, hwf⟩
  · simp at hcs
    exact ⟨none, 0, [], hcs, Lies.nil, fun _ => rfl⟩
  · simp at hcs
    subst hcs
    have hle : l ≤ zs.length := by rw [hz]; split <;> omega
    have hlen : (zs.take l).length = l := by rw [List.length_take]; omega
    obtain ⟨bs, hbs⟩ := nums_ex9 (zs.take l) (fun d hd => by
      have w0 := hwf d (List.mem_of_mem_take hd)
      simpa [Lit.wf, IntKind.min, IntKind.max, IntKind.signed, IntKind.bits] using w0)
    have hbl : bs.length = l := by rw [← nums_length, hbs, hlen]
    refine ⟨some a, c, bs, by rw [hbl], ?_, fun e => by cases e⟩
    rw [hbs]
    exact ints_lie9 hle hcell
/-- One element: its four cells. -/
theorem open_sec {n : Nat} {cs : List Value} {x : DataW H × List MemPlace} (h : DataW.trod enc Tryd.prog W 0 sp true n 27 cs = some x) (hc : cs.length = 4) :
    ∃ (i : Sct) (B : Option Addr) (c : Nat), cs = [.int .u8 i.id.toNat, .string (S i.name), .slice B i.body.length c, .int .i64 i.off] ∧ Pc B c i.body W := by
  obtain ⟨ys, m, _, hy, hlen, hyl, hf⟩ := DataW.trod_struct Tryd.underlying27 h
  match cs, hc with
  | [c0, c1, c2, c3], _ =>
    match ys, hyl with
    | [y0, y1, y2, y3], _ =>
      have e1 : Tryd.prog.cellsOf 5 = 1 := by kernel_rfl
      have e2 : Tryd.prog.cellsOf 9 = 1 := by kernel_rfl
      have e3 : Tryd.prog.cellsOf 25 = 1 := by kernel_rfl
      have e4 : Tryd.prog.cellsOf 3 = 1 := by kernel_rfl
      have h0 : DataW.trod enc Tryd.prog W 0 sp true m 5 (([c0, c1, c2, c3].drop 0).take (Tryd.prog.cellsOf 5)) = some y0 := hf 0 _ rfl
      have h1 : DataW.trod enc Tryd.prog W 0 sp true m 9 (([c0, c1, c2, c3].drop 1).take (Tryd.prog.cellsOf 9)) = some y1 := hf 1 _ rfl
      have h2 : DataW.trod enc Tryd.prog W 0 sp true m 25 (([c0, c1, c2, c3].drop 2).take (Tryd.prog.cellsOf 25)) = some y2 := hf 2 _ rfl
      have h3 : DataW.trod enc Tryd.prog W 0 sp true m 3 (([c0, c1, c2, c3].drop 3).take (Tryd.prog.cellsOf 3)) = some y3 := hf 3 _ rfl
      rw [e1] at h0
      rw [e2] at h1
      rw [e3] at h2
      rw [e4] at h3
      obtain ⟨x0, q0, _, w0⟩ := DataW.trod_int Tryd.underlying5 h0
      obtain ⟨s1, q1, _, _⟩ := DataW.trod_string Tryd.underlying9 h1
      obtain ⟨B, c, bs, q2, hp⟩ := open_body h2
      obtain ⟨x3, q3, _, _⟩ := DataW.trod_int Tryd.underlying3 h3
      have b0 : 0 ≤ x0 ∧ x0 ≤ 255 := by simpa [Lit.wf, IntKind.min, IntKind.max, IntKind.signed, IntKind.bits] using w0
      have q0' : c0 = .int .u8 x0 := by simpa using q0
      have q1' : c1 = .string s1 := by simpa using q1
      have q3' : c3 = .int .i64 x3 := by simpa using q3
      have e : ((UInt8.ofNat x0.toNat).toNat : Int) = x0 := by rw [UInt8.toNat_ofNat']; omega
      exact ⟨⟨UInt8.ofNat x0.toNat, s1.data.toList, bs, x3⟩, B, c, by rw [e, S_of, q0', q1', q2, q3'], hp⟩
theorem open_secs {A : Option Addr} {len cap : Nat} {d : DataW H} {p : List MemPlace} (h : DataW.Trod enc Tryd.prog W 0 sp true 22 (.slice A len cap) d p) :
    ∃ l : List Sct, l.length = len ∧ Secs W A l ∧ (l.length : Int) ≤ 9223372036854775807 := by
  obtain ⟨fuel, hf⟩ := h
  rcases open_slice Tryd.underlying22 hf with ⟨hcs, _⟩ | ⟨a, ln, cp, m, n, D, Pl, hcs, hb, hl, hm, hmm, hx, hi⟩
  · simp [Value.cells] at hcs
    obtain ⟨rfl, rfl, rfl⟩ := hcs
    exact ⟨[], rfl, (fun j i hi => by cases hi), by simp⟩
  · simp [Value.cells] at hcs
    obtain ⟨rfl, rfl, rfl⟩ := hcs
    have hlm : len ≤ m := by rw [hmm]; split <;> omega
    have each : ∀ j, j < len → ∃ (i : Sct) (B : Option Addr) (c : Nat), (W.cell? (a.add (j * 4)) = some (.int .u8 i.id.toNat) ∧ W.cell? ((a.add (j * 4)).add 1) = some (.string (S i.name)) ∧ W.cell? ((a.add (j * 4)).add 2) = some (.slice B i.body.length c) ∧ W.cell? ((a.add (j * 4)).add 3) = some (.int .i64 i.off)) ∧ Pc B c i.body W := by
      intro j hj
      obtain ⟨cs', hc, ht'⟩ := hi j (by omega)
      rw [cellsSec] at hc
      obtain ⟨_, hcl, hat⟩ := World.cells?_some hc
      obtain ⟨i, B, c, rfl, hp⟩ := open_sec ht' hcl
      have q0 := hat 0 (by omega)
      have q1 := hat 1 (by omega)
      have q2 := hat 2 (by omega)
      have q3 := hat 3 (by omega)
      exact ⟨i, B, c, ⟨by simpa [Addr.add] using q0, q1, q2, q3⟩, hp⟩
    have pick : ∀ k, k ≤ len → ∃ l : List Sct, l.length = k ∧ ∀ (j : Nat) (i : Sct), l[j]? = some i → ∃ (B : Option Addr) (c : Nat), (W.cell? (a.add (j * 4)) = some (.int .u8 i.id.toNat) ∧ W.cell? ((a.add (j * 4)).add 1) = some (.string (S i.name)) ∧ W.cell? ((a.add (j * 4)).add 2) = some (.slice B i.body.length c) ∧ W.cell? ((a.add (j * 4)).add 3) = some (.int .i64 i.off)) ∧ Pc B c i.body W := by
      intro k
      induction k with
      | zero => intro _; exact ⟨[], rfl, fun j i hi => by cases hi⟩
      | succ k ih =>
        intro hk
        obtain ⟨l, hl1, hl2⟩ := ih (by omega)
        obtain ⟨i, B, c, hq⟩ := each k (by omega)
        refine ⟨l ++ [i], by simp [hl1], fun j i' hi' => ?_⟩
        rcases Nat.lt_or_ge j k with g | g
        · rw [List.getElem?_append_left (by omega)] at hi'
          exact hl2 j i' hi'
        · have hj : j < (l ++ [i]).length := (List.getElem?_eq_some_iff.1 hi').1
          rw [List.length_append, List.length_singleton] at hj
          obtain rfl : j = k := by omega
          rw [List.getElem?_append_right (by omega), hl1, Nat.sub_self] at hi'
          injection hi' with hi'
          subst hi'
          exact ⟨B, c, hq⟩
    obtain ⟨l, hl1, hl2⟩ := pick len (Nat.le_refl _)
    unfold maxLen at hm
    refine ⟨l, hl1, fun j i hij => ?_, by omega⟩
    obtain ⟨B, c, ⟨q0, q1, q2, q3⟩, hp⟩ := hl2 j i hij
    have hj0 := (List.getElem?_eq_some_iff.1 hij).1
    obtain ⟨_, _, ⟨q00, _, _, _⟩, _⟩ := hl2 0 _ (List.getElem?_eq_getElem (by omega : 0 < l.length))
    obtain ⟨b, off, spot⟩ := a
    have hsp : spot = none := by simpa [Addr.add] using World.cell?_spot q00
    subst hsp
    rw [Go.WideShapes.add_plain] at q0 q1 q2 q3
    rw [Go.WideShapes.add_plain] at q1 q2 q3
    exact ⟨b, off, B, c, rfl, block_lt_of_cell q0, ⟨q0, q1, q2, q3⟩, hp⟩
end
end Go.Proofs.YtanddfkhokcepaaDoor

/- What the rows list of the two tables, as the contracts of unicode/utf8 want it; a world that holds them. -/
namespace Go.Proofs.YtanddfkhokcepaaDoor
set_option linter.unusedVariables false
open Go.Shelf Go.Lib

theorem laidOut : laidOutB Tryd.prog = true := by kernel_rfl
theorem own : ownKnob Tryd.prog.godebug = none := by kernel_rfl
/-- What both rows list. -/
def both : List (String × DataW Unit) := [("unicode/utf8.acceptRanges", Rows.laid_unicode_utf8_acceptRanges), ("unicode/utf8.first", Rows.laid_unicode_utf8_first)]
theorem first_same : Rows.laid_unicode_utf8_first = Lib.firstData := by kernel_rfl
theorem accept_same : (Rows.laid_unicode_utf8_acceptRanges : DataW Unit) = Lib.acceptData := by kernel_rfl
theorem both_plain (W : World) : laidMetH Tryd.prog both W = laidMet Tryd.prog both W := Go.MakeChecks.laidMetH_plain _ _ _ (by kernel_rfl)
/-- The seat's numbers of the types and tables that the contracts of unicode/utf8 name. -/
def renU : Ren where
  f := fun _ => 0
  t := fun n => if n = 5 then 5 else if n = 119 then 164 else if n = 138 then 166 else 167
  g := fun n => if n = 3 then 0 else 1
theorem tabs_of {W : World} (h : laidMetH Tryd.prog both W) : Tabs W := by
  rw [both_plain] at h
  have h3 := Lib.laidMet.reads h (.tail _ (.head _))
  have h4 := Lib.laidMet.reads h (.head _)
  rw [first_same] at h3
  rw [accept_same] at h4
  exact utf8Tabs_of_readsT (ρ := renU) ⟨by kernel_rfl, by kernel_rfl, by kernel_rfl, by kernel_rfl⟩ ⟨by kernel_rfl, by kernel_rfl, by kernel_rfl, by kernel_rfl, by kernel_rfl, by kernel_rfl, by kernel_rfl⟩ h3 h4

/-- The settled world, the two tables laid. -/
noncomputable def laidWorld (os : Os) : World :=
  let w0 := World.holding Tryd.prog os ⟨#[], #[], []⟩
  let put (h : Array Obj) (g : Nat) (cs : Array Value) : Array Obj := h.modify g fun
    | .cells _ t frozen => .cells cs t frozen
    | o => o
  let h1 := put w0.heap 0 (Lib.firstTab.map fun z => Value.int .u8 z).toArray
  let h2 := put h1 1 ((List.range 16).flatMap fun i => [Value.int .u8 (Lib.accLo i), Value.int .u8 (Lib.accHi i)]).toArray
  { w0 with heap := h2 }
theorem laidWorld_met (os : Os) (args : Array Value) : laidMetH Tryd.prog both ((laidWorld os).forCall (fun _ _ => 0) ⟨#[], args, []⟩).memory := by
  rw [both_plain]
  exact (LaidIn.of_run (l := both) [1, 0] 8 (by kernel_rfl) (by kernel_rfl) (by kernel_rfl) (by kernel_rfl)).met
end Go.Proofs.YtanddfkhokcepaaDoor

/- types.Cut, Zero; creelref04.Cut; types.EncodeGlobal, creelref04.EncodeGlobal. -/
namespace Go.Proofs.YtanddfkhokcepaaDoor
set_option linter.unusedVariables false
set_option maxRecDepth 100000
open Go.RowKit

/-- A value, by its type and number. -/
abbrev vv (t n : Int) : Value := .agg #[.int .u8 t, .int .u64 n]
def cutZ (t n : Int) : Int := if t = 127 then n % 4294967296 else n
def rightB (t n : Int) : Bool := decide (valueZ t = 0) && decide (cutZ t n = n)
theorem and_low (n : Int) (h0 : 0 ≤ n) (h1 : n ≤ 18446744073709551615) : bits .and .u64 n 4294967295 = n % 4294967296 := by
  have e1 : (BitVec.ofInt 64 n).toNat = n.toNat := by
    rw [BitVec.toNat_ofInt]
    show (n % 18446744073709551616).toNat = _
    rw [Int.emod_eq_of_lt h0 (by omega)]
  have e2 : (BitVec.ofInt 64 4294967295).toNat = 2 ^ 32 - 1 := by decide
  show IntKind.u64.wrap ((BitVec.ofInt 64 n &&& BitVec.ofInt 64 4294967295).toNat : Nat) = _
  rw [BitVec.toNat_and, e1, e2, Nat.and_two_pow_sub_one_eq_mod]
  simp only [IntKind.wrap, IntKind.bits, IntKind.signed]
  simp
  omega

theorem below_two (w : World) (o o' : Obj) : Below w.heap.size w ((w.alloc o).alloc o') := (below_box w o).alloc (by simp) _
/-- A global's type, by value. -/
abbrev gv (t : Int) (m : Bool) : Value := .agg #[.int .u8 t, .bool m]
theorem two_of {w W W' : World} {u v : Value} {t : TypeId} (h : Boxed w (.cells #[u, v] t) W ∧ W.cell? ⟨w.heap.size, 0, none⟩ = some u ∧ W.cell? ⟨w.heap.size, 1, none⟩ = some v) (hb : Below W.heap.size W W') :
    Boxed w (.cells #[u, v] t) W' ∧ W'.cell? ⟨w.heap.size, 0, none⟩ = some u ∧ W'.cell? ⟨w.heap.size, 1, none⟩ = some v := ⟨h.1.on hb, (h.1.on hb).row 0, (h.1.on hb).row 1⟩
theorem encG_new (w : World) (t : Int) (m : Bool) (h0 : 0 ≤ t) (h1 : t ≤ 255) (B H : Nat) (hH : w.heap.size = H) (hb : B ≤ H) :
    Row (w.alloc (.cells #[.int .u8 t, .int .u8 (if m then 1 else 0)] 5)) B (.slice (some ⟨H, 0, none⟩) 2 2) (encG t m) := by
  have h := Row.made w (encG t m) B H hH hb (by simp [encG])
  rw [nums_encG t m h0 h1] at h
  exact h
set_option maxHeartbeats 1000000 in
theorem encG_any (t : Int) (m : Bool) (w : World) (h0 : 0 ≤ t) (h1 : t ≤ 255) : Calls Tryd.prog 106 #[gv t m] w (BytesL (encG t m) w) := by
  have FL := Lib.hid (fun w => flag_any m w)
  obtain ⟨f, hf⟩ : ∃ f : Int, f = if m then 1 else 0 := ⟨_, rfl⟩
  have RA := Lib.hid (fun w' B H hH hb => encG_new w' t m h0 h1 B H hH hb)
  rw [← hf] at RA FL
  clear hf
  go_enter Tryd.func106, Tryd.ntmps106
  go_wp2
  go_region_held3 (fun W => Boxed w (.cells #[.int .u8 t, .bool m] 47) W ∧ W.cell? ⟨w.heap.size, 0, none⟩ = some (.int .u8 t) ∧ W.cell? ⟨w.heap.size, 1, none⟩ = some (.bool m))
    (first | assumption | (exact ⟨Boxed.start _ _, (Boxed.start _ _).row 0, (Boxed.start _ _).row 1⟩) | (exact two_of (by assumption) (below_box _ _)))
    (first | (go_at_call 127; ((with_reducible refine (FL.out _).mono ?_); rintro e w' ⟨rfl, rfl⟩)))
  go_wp2
  go_ret
  exact ⟨_, rfl, Row.drew (RA.out (w.alloc _) w.heap.size (w.heap.size + 1) (by simp) (by omega)), (below_two _ _ _).drew⟩
theorem encG_str (w : World) (t : Int) (m : Bool) (h0 : 0 ≤ t) (h1 : t ≤ 255) (H : Nat) (hH : w.heap.size = H) :
    ∀ dst, Tryd.prog.underlying dst = some .string → (convert 25 dst (.slice (some ⟨H, 0, none⟩) 2 2)).run Tryd.prog (w.alloc (.cells #[.int .u8 t, .int .u8 (if m then 1 else 0)] 5)) = .ok (.string (S (encG t m))) (w.alloc (.cells #[.int .u8 t, .int .u8 (if m then 1 else 0)] 5)) := by
  obtain ⟨A, c, e, hs⟩ := (encG_new w t m h0 h1 H H hH (Nat.le_refl _)).str
  injection e with e1 e2 e3
  subst e1; subst e3
  exact hs
theorem refEncG_any (t : Int) (m : Bool) (w : World) (h0 : 0 ≤ t) (h1 : t ≤ 255) : Calls Tryd.prog 85 #[gv t m] w fun e w' => e = .returned (.string (S (encG t m))) ∧ Below w.heap.size w w' := by
  cases m
  · have hs := encG_str (w.alloc (.cells #[.int .u8 t, .bool false] 47)) t false h0 h1 (w.heap.size + 1) (by simp)
    simp only [Bool.false_eq_true, if_false] at hs
    go_enter Tryd.func85, Tryd.ntmps85
    go_wp2
    go_ret
    exact ⟨rfl, below_two _ _ _⟩
  · have hs := encG_str (w.alloc (.cells #[.int .u8 t, .bool true] 47)) t true h0 h1 (w.heap.size + 1) (by simp)
    simp only [if_true] at hs
    go_enter Tryd.func85, Tryd.ntmps85
    go_wp2
    go_ret
    exact ⟨rfl, below_two _ _ _⟩
end Go.Proofs.YtanddfkhokcepaaDoor

/- wire.Size, Name, Kind; small facts on fields. -/
namespace Go.Proofs.YtanddfkhokcepaaDoor
open Go.RowKit Go.Lib
set_option linter.unusedVariables false
set_option maxRecDepth 100000

theorem be_of {a : Nat} {b : Int} {c : Bool} (h : decide ((a : Int) = b) = c) : ((a : Int) == b) = c := by rw [← h]; rfl
theorem nb_of {a : Nat} {b : Int} {c : Bool} (h : decide ((a : Int) ≠ b) = c) : ((a : Int) != b) = c := by rw [← h]; by_cases e : (a : Int) = b <;> simp [bne, e]
theorem zb_of {a : Int} {c : Bool} (h : decide (a ≠ 0) = c) : (a != 0) = c := by rw [← h]; by_cases e : a = 0 <;> simp [bne, e]
theorem i8_of {a b : UInt8} (h : (a.toNat : Int) = b.toNat) : a = b := UInt8.toNat_inj.1 (by omega)
theorem i32_of {a b : UInt32} (h : (a.toNat : Int) = b.toNat) : a = b := UInt32.toNat_inj.1 (by omega)
theorem three_boxes (w : World) (o1 o2 o3 : Obj) : Below w.heap.size w (((w.alloc o1).alloc o2).alloc o3) :=
  (((Below.refl _ _).alloc (Nat.le_refl _) o1).alloc (Nat.le_trans (Nat.le_refl _) (below_box w o1).size) o2).alloc (Nat.le_trans (below_box w o1).size (below_box (w.alloc o1) o2).size) o3
theorem S_beqM (a b : List UInt8) : ((S a).toList == (S b).toList) = decide (a = b) := by rw [S_toList, S_toList]; by_cases h : a = b <;> simp [h]
theorem ret_pair {v : Value} {a b : Int} (h : a = b) : Ending.returned (.tuple #[v, .int .i64 a]) = .returned (.tuple #[v, .int .i64 b]) := by rw [h]
noncomputable def nmL (s : List UInt8) : List UInt8 := lebL s.length ++ s
theorem u32_le (a : UInt32) : (a.toNat : Int) ≤ 4294967295 := by have := a.toNat_lt; omega
theorem u8_le (a : UInt8) : (a.toNat : Int) ≤ 255 := by have := a.toNat_lt; omega
theorem nmL_len {s : List UInt8} {n : Nat} (h : s.length ≤ n) (hn : n ≤ 100000) : 1 ≤ (nmL s).length ∧ (nmL s).length ≤ n + 10 := by
  have := lebL_len (s.length : Int) (by omega)
  unfold nmL
  rw [List.length_append]
  omega
theorem size_w (n : Nat) (w : World) (hn : n ≤ 1000000) : Calls Tryd.prog 96 #[.int .i64 n] w (BytesL (lebL n) w) := by
  have HU := Lib.hid (fun w => uintB (n : Int) w (by omega) (by omega))
  have wn : IntKind.u64.wrap (n : Int) = n := by simp [IntKind.wrap, IntKind.bits, IntKind.signed]; omega
  generalize lebL (n : Int) = y at *
  go_enter Tryd.func96, Tryd.ntmps96
  go_wp2_with (go_at_call 89; go_must ((with_reducible refine (HU.out _).mono ?_); intro e w1 h; obtain ⟨v, rfl, hr, hb⟩ := h; have HR := Lib.hid hr; have HB := Lib.hid hb; clear hr hb))
  go_ret
  exact ⟨_, rfl, HR.out, HB.out⟩
theorem sizedN_w (s : List UInt8) (w : World) (hs : s.length ≤ 100000) : Calls Tryd.prog 94 #[.string (S s)] w (BytesL (nmL s) w) := by
  have HZ := Lib.hid (fun w => size_w s.length w (by omega))
  have hlen := lebL_len (s.length : Int) (by omega)
  have hsz := S_size s
  unfold nmL
  generalize lebL (s.length : Int) = y at *
  go_enter Tryd.func94, Tryd.ntmps94
  go_wp2_with (first
    | (go_at_call 96; go_must ((with_reducible refine (HZ.out _).mono ?_); intro e w1 h; obtain ⟨v, rfl, hr, hb⟩ := h; have HR := Lib.hid hr; have HB := Lib.hid hb; have hz1 := hb.size; clear hr hb))
    | (at_builtin; (refine row_str rfl _ _ rfl w.heap.size _ y rfl HR.out s rfl (by omega) hz1 ?_; intro v2 w2 hr2 hb2; have HR2 := Lib.hid hr2; have HB2 := Lib.hid hb2; clear hr2 hb2)))
  go_ret
  exact ⟨_, rfl, HR2.out, HB.out.trans HB2.out⟩
theorem name_w (s : List UInt8) (w : World) (hs : s.length ≤ 100000) : Calls Tryd.prog 57 #[.string (S s)] w (BytesL (nmL s) w) := by
  have HZ := Lib.hid (sizedN_w s w hs)
  clear hs
  go_enter Tryd.func57, Tryd.ntmps57
  go_wp2_with (go_at_call 94; go_must ((with_reducible refine HZ.out.mono ?_); intro e w1 h; obtain ⟨v, rfl, hr, hb⟩ := h; have HR := Lib.hid hr; have HB := Lib.hid hb; clear hr hb))
  go_ret
  exact ⟨_, rfl, HR.out, HB.out⟩
theorem nk_ok {w : World} {p : Nat} {l : List UInt8} {k k1 : Nat} {c : UInt8} (h : Sc w p l k) (h1 : byteR l k = .ok c k1) (hc : c.toNat ≤ 3) :
    Calls Tryd.prog 78 #[.pointer (some ⟨p, 0, none⟩)] w fun e w' => e = .returned (.int .u8 c.toNat) ∧ Sc w' p l k1 ∧ w.grownBy w' (some p) := by
  have HA := Lib.hid (at_any h)
  have hB := byte_any h
  rw [h1] at hB
  have HB := Lib.hid hB
  have d1 : decide ((c.toNat : Int) ≤ 3) = true := decide_eq_true (by omega)
  clear hB h1 h hc
  go_enter Tryd.func78, Tryd.ntmps78
  go_wp2_with (first
    | (go_at_call 103; go_must ((with_reducible refine HA.out.mono ?_); rintro e w1 ⟨rfl, rfl⟩))
    | (go_at_call 113; go_must ((with_reducible refine HB.out.mono ?_); rintro e w1 ⟨rfl, hs, hg⟩; have HS := Lib.hid hs; have HG := Lib.hid hg; clear hs hg))
    | (go_at_call 66; go_must ((with_reducible refine (unlessT _ _ _).mono ?_); rintro e w' ⟨rfl, rfl⟩)))
  go_ret
  exact ⟨rfl, HS.out, HG.out⟩

theorem nameR_at {l s r : List UInt8} {k : Nat} (h : l.drop k = nmL s ++ r) (hs : s.length ≤ 200) (hv : validD s = true) : nameR l k = .ok s (k + (nmL s).length) := by
  unfold nmL at h ⊢
  rw [List.append_assoc] at h
  have m1 := lebL_len (s.length : Int) (by omega)
  have hd := drop_past h
  have e1 := congrArg List.length h
  have e2 := congrArg List.length hd
  simp only [List.length_drop, List.length_append] at e1 e2
  unfold nameR atMostR
  rw [indexR_at h (by omega) (by omega), Res.bind_ok, if_pos (by omega), Res.bind_ok, Int.toNat_natCast, hd, List.take_left, if_pos (by omega), if_pos hv, List.length_append, Nat.add_assoc]
theorem checkZ_zero {s : List UInt8} (h : checkZ s = 0) : s.length ≤ 200 ∧ validD s = true := by
  unfold checkZ at h
  split at h
  · omega
  · split at h
    · exact ⟨by omega, by assumption⟩
    · omega
theorem lebL_sm (x : Int) (h0 : 0 ≤ x) (h1 : x < 128) : lebL x = [UInt8.ofNat x.toNat] := by
  have hn : lebN x = 1 := (lebN_least x (by omega)).unique ⟨Nat.le_refl _, by unfold fitU; simpa using h1, fun m a b => by omega⟩
  unfold lebL
  rw [hn]
  simp [grp]
  congr 2
  omega
end Go.Proofs.YtanddfkhokcepaaDoor

/- Imports as plain data; creelref10.Same; imports.ofKind. -/
namespace Go.Proofs.YtanddfkhokcepaaDoor
open Go.RowKit
set_option linter.unusedVariables false
set_option maxRecDepth 100000

/-- An import. -/
structure Im where
  mod : List UInt8
  nam : List UInt8
  kind : UInt8
  typ : UInt32
  mn : UInt32
  mx : UInt32
  bd : Bool
  gt : UInt8
  gm : Bool
  deriving DecidableEq
/-- Its cells. -/
abbrev imC (x : Im) : Array Value := #[.string (S x.mod), .string (S x.nam), .int .u8 x.kind.toNat, .int .u32 x.typ.toNat, .int .u32 x.mn.toNat, .int .u32 x.mx.toNat, .bool x.bd, .int .u8 x.gt.toNat, .bool x.gm]
abbrev imV (x : Im) : Value := .agg (imC x)
abbrev imZ : Im := ⟨[], [], 0, 0, 0, 0, false, 0, false⟩
theorem put9 {w : World} {b : Nat} {t : TypeId} {x0 x1 x2 x3 x4 x5 x6 x7 x8 u0 u1 u2 u3 u4 u5 u6 u7 u8 : Value} (hb : Whole w b t #[x0, x1, x2, x3, x4, x5, x6, x7, x8]) :
    Whole (((((((((w.setCell ⟨b, 0, none⟩ u0).setCell ⟨b, 1, none⟩ u1).setCell ⟨b, 2, none⟩ u2).setCell ⟨b, 3, none⟩ u3).setCell ⟨b, 4, none⟩ u4).setCell ⟨b, 5, none⟩ u5).setCell ⟨b, 6, none⟩ u6).setCell ⟨b, 7, none⟩ u7).setCell ⟨b, 8, none⟩ u8) b t #[u0, u1, u2, u3, u4, u5, u6, u7, u8] ∧ w.grownBy (((((((((w.setCell ⟨b, 0, none⟩ u0).setCell ⟨b, 1, none⟩ u1).setCell ⟨b, 2, none⟩ u2).setCell ⟨b, 3, none⟩ u3).setCell ⟨b, 4, none⟩ u4).setCell ⟨b, 5, none⟩ u5).setCell ⟨b, 6, none⟩ u6).setCell ⟨b, 7, none⟩ u7).setCell ⟨b, 8, none⟩ u8) (some b) := by
  have h1 : Whole (w.setCell ⟨b, 0, none⟩ u0) b t #[u0, x1, x2, x3, x4, x5, x6, x7, x8] := hb.put 0 u0
  have g1 : w.grownBy (w.setCell ⟨b, 0, none⟩ u0) (some b) := gb_put (p := ⟨b, 0, none⟩) (gb_refl w _) (.inl rfl) u0
  have h2 : Whole ((w.setCell ⟨b, 0, none⟩ u0).setCell ⟨b, 1, none⟩ u1) b t #[u0, u1, x2, x3, x4, x5, x6, x7, x8] := h1.put 1 u1
  have g2 : w.grownBy ((w.setCell ⟨b, 0, none⟩ u0).setCell ⟨b, 1, none⟩ u1) (some b) := gb_put (p := ⟨b, 1, none⟩) g1 (.inl rfl) u1
  have h3 : Whole (((w.setCell ⟨b, 0, none⟩ u0).setCell ⟨b, 1, none⟩ u1).setCell ⟨b, 2, none⟩ u2) b t #[u0, u1, u2, x3, x4, x5, x6, x7, x8] := h2.put 2 u2
  have g3 : w.grownBy (((w.setCell ⟨b, 0, none⟩ u0).setCell ⟨b, 1, none⟩ u1).setCell ⟨b, 2, none⟩ u2) (some b) := gb_put (p := ⟨b, 2, none⟩) g2 (.inl rfl) u2
  have h4 : Whole ((((w.setCell ⟨b, 0, none⟩ u0).setCell ⟨b, 1, none⟩ u1).setCell ⟨b, 2, none⟩ u2).setCell ⟨b, 3, none⟩ u3) b t #[u0, u1, u2, u3, x4, x5, x6, x7, x8] := h3.put 3 u3
  have g4 : w.grownBy ((((w.setCell ⟨b, 0, none⟩ u0).setCell ⟨b, 1, none⟩ u1).setCell ⟨b, 2, none⟩ u2).setCell ⟨b, 3, none⟩ u3) (some b) := gb_put (p := ⟨b, 3, none⟩) g3 (.inl rfl) u3
  have h5 : Whole (((((w.setCell ⟨b, 0, none⟩ u0).setCell ⟨b, 1, none⟩ u1).setCell ⟨b, 2, none⟩ u2).setCell ⟨b, 3, none⟩ u3).setCell ⟨b, 4, none⟩ u4) b t #[u0, u1, u2, u3, u4, x5, x6, x7, x8] := h4.put 4 u4
  have g5 : w.grownBy (((((w.setCell ⟨b, 0, none⟩ u0).setCell ⟨b, 1, none⟩ u1).setCell ⟨b, 2, none⟩ u2).setCell ⟨b, 3, none⟩ u3).setCell ⟨b, 4, none⟩ u4) (some b) := gb_put (p := ⟨b, 4, none⟩) g4 (.inl rfl) u4
  have h6 : Whole ((((((w.setCell ⟨b, 0, none⟩ u0).setCell ⟨b, 1, none⟩ u1).setCell ⟨b, 2, none⟩ u2).setCell ⟨b, 3, none⟩ u3).setCell ⟨b, 4, none⟩ u4).setCell ⟨b, 5, none⟩ u5) b t #[u0, u1, u2, u3, u4, u5, x6, x7, x8] := h5.put 5 u5
  have g6 : w.grownBy ((((((w.setCell ⟨b, 0, none⟩ u0).setCell ⟨b, 1, none⟩ u1).setCell ⟨b, 2, none⟩ u2).setCell ⟨b, 3, none⟩ u3).setCell ⟨b, 4, none⟩ u4).setCell ⟨b, 5, none⟩ u5) (some b) := gb_put (p := ⟨b, 5, none⟩) g5 (.inl rfl) u5
  have h7 : Whole (((((((w.setCell ⟨b, 0, none⟩ u0).setCell ⟨b, 1, none⟩ u1).setCell ⟨b, 2, none⟩ u2).setCell ⟨b, 3, none⟩ u3).setCell ⟨b, 4, none⟩ u4).setCell ⟨b, 5, none⟩ u5).setCell ⟨b, 6, none⟩ u6) b t #[u0, u1, u2, u3, u4, u5, u6, x7, x8] := h6.put 6 u6
  have g7 : w.grownBy (((((((w.setCell ⟨b, 0, none⟩ u0).setCell ⟨b, 1, none⟩ u1).setCell ⟨b, 2, none⟩ u2).setCell ⟨b, 3, none⟩ u3).setCell ⟨b, 4, none⟩ u4).setCell ⟨b, 5, none⟩ u5).setCell ⟨b, 6, none⟩ u6) (some b) := gb_put (p := ⟨b, 6, none⟩) g6 (.inl rfl) u6
  have h8 : Whole ((((((((w.setCell ⟨b, 0, none⟩ u0).setCell ⟨b, 1, none⟩ u1).setCell ⟨b, 2, none⟩ u2).setCell ⟨b, 3, none⟩ u3).setCell ⟨b, 4, none⟩ u4).setCell ⟨b, 5, none⟩ u5).setCell ⟨b, 6, none⟩ u6).setCell ⟨b, 7, none⟩ u7) b t #[u0, u1, u2, u3, u4, u5, u6, u7, x8] := h7.put 7 u7
  have g8 : w.grownBy ((((((((w.setCell ⟨b, 0, none⟩ u0).setCell ⟨b, 1, none⟩ u1).setCell ⟨b, 2, none⟩ u2).setCell ⟨b, 3, none⟩ u3).setCell ⟨b, 4, none⟩ u4).setCell ⟨b, 5, none⟩ u5).setCell ⟨b, 6, none⟩ u6).setCell ⟨b, 7, none⟩ u7) (some b) := gb_put (p := ⟨b, 7, none⟩) g7 (.inl rfl) u7
  have h9 : Whole (((((((((w.setCell ⟨b, 0, none⟩ u0).setCell ⟨b, 1, none⟩ u1).setCell ⟨b, 2, none⟩ u2).setCell ⟨b, 3, none⟩ u3).setCell ⟨b, 4, none⟩ u4).setCell ⟨b, 5, none⟩ u5).setCell ⟨b, 6, none⟩ u6).setCell ⟨b, 7, none⟩ u7).setCell ⟨b, 8, none⟩ u8) b t #[u0, u1, u2, u3, u4, u5, u6, u7, u8] := h8.put 8 u8
  have g9 : w.grownBy (((((((((w.setCell ⟨b, 0, none⟩ u0).setCell ⟨b, 1, none⟩ u1).setCell ⟨b, 2, none⟩ u2).setCell ⟨b, 3, none⟩ u3).setCell ⟨b, 4, none⟩ u4).setCell ⟨b, 5, none⟩ u5).setCell ⟨b, 6, none⟩ u6).setCell ⟨b, 7, none⟩ u7).setCell ⟨b, 8, none⟩ u8) (some b) := gb_put (p := ⟨b, 8, none⟩) g8 (.inl rfl) u8
  exact ⟨h9, g9⟩
/-- What lies in a block that holds an import. -/
theorem Whole.im {w : World} {b : Nat} {t : TypeId} {x : Im} (h : Whole w b t (imC x)) :
    w.cell? ⟨b, 0, none⟩ = some (.string (S x.mod)) ∧ w.cell? ⟨b, 1, none⟩ = some (.string (S x.nam)) ∧ w.cell? ⟨b, 2, none⟩ = some (.int .u8 x.kind.toNat) ∧ w.cell? ⟨b, 3, none⟩ = some (.int .u32 x.typ.toNat) ∧
    w.cell? ⟨b, 4, none⟩ = some (.int .u32 x.mn.toNat) ∧ w.cell? ⟨b, 5, none⟩ = some (.int .u32 x.mx.toNat) ∧ w.cell? ⟨b, 6, none⟩ = some (.bool x.bd) ∧ w.cell? ⟨b, 7, none⟩ = some (.int .u8 x.gt.toNat) ∧ w.cell? ⟨b, 8, none⟩ = some (.bool x.gm) :=
  ⟨h.cell 0, h.cell 1, h.cell 2, h.cell 3, h.cell 4, h.cell 5, h.cell 6, h.cell 7, h.cell 8⟩
/-- With nothing in it that does not belong to its kind. -/
def ofK (x : Im) : Im :=
  if x.kind.toNat = 0 then ⟨x.mod, x.nam, x.kind, x.typ, 0, 0, false, 0, false⟩ else
  if x.kind.toNat = 1 ∨ x.kind.toNat = 2 then ⟨x.mod, x.nam, x.kind, 0, x.mn, x.mx, x.bd, 0, false⟩ else
  if x.kind.toNat = 3 then ⟨x.mod, x.nam, x.kind, 0, 0, 0, false, x.gt, x.gm⟩ else ⟨x.mod, x.nam, x.kind, 0, 0, 0, false, 0, false⟩
set_option maxHeartbeats 2000000 in
theorem ofKind_any (x : Im) (w : World) : Calls Tryd.prog 73 #[imV x] w fun e w' => e = .returned (imV (ofK x)) ∧ Below w.heap.size w w' := by
  have hb : ∀ o1 o2 o3 : Obj, Below w.heap.size w (((w.alloc o1).alloc o2).alloc o3) := fun o1 o2 o3 => three_boxes w o1 o2 o3
  by_cases h0 : x.kind.toNat = 0
  · have hx : ofK x = ⟨x.mod, x.nam, x.kind, x.typ, 0, 0, false, 0, false⟩ := by unfold ofK; rw [if_pos h0]
    rw [hx]
    have d0 : ((x.kind.toNat : Int) == 0) = true := be_of (by simp; omega)
    clear hx h0
    go_enter Tryd.func73, Tryd.ntmps73
    go_wp2
    refine bodyPost_ret (v := .agg #[.string (S x.mod), .string (S x.nam), .int .u8 x.kind.toNat, .int .u32 x.typ.toNat, .int .u32 0, .int .u32 0, .bool false, .int .u8 0, .bool false]) (by simp [results, Tryd.results73, go_sem]) rfl ⟨rfl, hb _ _ _⟩
  have d0 : ((x.kind.toNat : Int) == 0) = false := be_of (by simp; omega)
  by_cases h1 : x.kind.toNat = 1
  · have hx : ofK x = ⟨x.mod, x.nam, x.kind, 0, x.mn, x.mx, x.bd, 0, false⟩ := by unfold ofK; rw [if_neg h0, if_pos (.inl h1)]
    rw [hx]
    have d1 : ((x.kind.toNat : Int) == 1) = true := be_of (by simp; omega)
    clear hx h0 h1
    go_enter Tryd.func73, Tryd.ntmps73
    go_wp2
    refine bodyPost_ret (v := .agg #[.string (S x.mod), .string (S x.nam), .int .u8 x.kind.toNat, .int .u32 0, .int .u32 x.mn.toNat, .int .u32 x.mx.toNat, .bool x.bd, .int .u8 0, .bool false]) (by simp [results, Tryd.results73, go_sem]) rfl ⟨rfl, hb _ _ _⟩
  have d1 : ((x.kind.toNat : Int) == 1) = false := be_of (by simp; omega)
  by_cases h2 : x.kind.toNat = 2
  · have hx : ofK x = ⟨x.mod, x.nam, x.kind, 0, x.mn, x.mx, x.bd, 0, false⟩ := by unfold ofK; rw [if_neg h0, if_pos (.inr h2)]
    rw [hx]
    have d2 : ((x.kind.toNat : Int) == 2) = true := be_of (by simp; omega)
    clear hx h0 h1 h2
    go_enter Tryd.func73, Tryd.ntmps73
    go_wp2
    refine bodyPost_ret (v := .agg #[.string (S x.mod), .string (S x.nam), .int .u8 x.kind.toNat, .int .u32 0, .int .u32 x.mn.toNat, .int .u32 x.mx.toNat, .bool x.bd, .int .u8 0, .bool false]) (by simp [results, Tryd.results73, go_sem]) rfl ⟨rfl, hb _ _ _⟩
  have d2 : ((x.kind.toNat : Int) == 2) = false := be_of (by simp; omega)
  by_cases h3 : x.kind.toNat = 3
  · have hx : ofK x = ⟨x.mod, x.nam, x.kind, 0, 0, 0, false, x.gt, x.gm⟩ := by unfold ofK; rw [if_neg h0, if_neg (by omega), if_pos h3]
    rw [hx]
    have d3 : ((x.kind.toNat : Int) == 3) = true := be_of (by simp; omega)
    clear hx h0 h1 h2 h3
    go_enter Tryd.func73, Tryd.ntmps73
    go_wp2
    refine bodyPost_ret (v := .agg #[.string (S x.mod), .string (S x.nam), .int .u8 x.kind.toNat, .int .u32 0, .int .u32 0, .int .u32 0, .bool false, .int .u8 x.gt.toNat, .bool x.gm]) (by simp [results, Tryd.results73, go_sem]) rfl ⟨rfl, hb _ _ _⟩
  have d3 : ((x.kind.toNat : Int) == 3) = false := be_of (by simp; omega)
  have hx : ofK x = ⟨x.mod, x.nam, x.kind, 0, 0, 0, false, 0, false⟩ := by unfold ofK; rw [if_neg h0, if_neg (by omega), if_neg h3]
  rw [hx]
  clear hx h0 h1 h2 h3
  go_enter Tryd.func73, Tryd.ntmps73
  go_wp2
  refine bodyPost_ret (v := .agg #[.string (S x.mod), .string (S x.nam), .int .u8 x.kind.toNat, .int .u32 0, .int .u32 0, .int .u32 0, .bool false, .int .u8 0, .bool false]) (by simp [results, Tryd.results73, go_sem]) rfl ⟨rfl, hb _ _ _⟩
theorem im_ext {x y : Im} (h0 : (S x.mod).toList = (S y.mod).toList) (h1 : (S x.nam).toList = (S y.nam).toList) (h2 : (x.kind.toNat : Int) = y.kind.toNat) (h3 : (x.typ.toNat : Int) = y.typ.toNat) (h4 : (x.mn.toNat : Int) = y.mn.toNat)
    (h5 : (x.mx.toNat : Int) = y.mx.toNat) (h6 : x.bd = y.bd) (h7 : (x.gt.toNat : Int) = y.gt.toNat) (h8 : x.gm = y.gm) : x = y := by
  rw [S_toList, S_toList] at h0 h1
  obtain ⟨a0, a1, a2, a3, a4, a5, a6, a7, a8⟩ := x
  obtain ⟨b0, b1, b2, b3, b4, b5, b6, b7, b8⟩ := y
  simp only at h0 h1 h2 h3 h4 h5 h6 h7 h8
  obtain rfl := i8_of h2
  obtain rfl := i32_of h3
  obtain rfl := i32_of h4
  obtain rfl := i32_of h5
  obtain rfl := i8_of h7
  subst h0; subst h1; subst h6; subst h8
  rfl
theorem eq_im (x y : Im) (w : World) : (binOp BinOp.eql 49 (imV x) (imV y)).run Tryd.prog w = .ok (.bool (decide (x = y))) w := by
  go_simp
  repeat' split
  · rw [decide_eq_true (im_ext (by assumption) (by assumption) (by assumption) (by assumption) (by assumption) (by assumption) (by assumption) (by assumption) (by assumption))]
  all_goals (rw [decide_eq_false (fun h => by subst h; first | (exact absurd rfl (by assumption)) | (rename_i q; exact q rfl))])
theorem neq_im (x y : Im) (w : World) : (binOp BinOp.neq 49 (imV x) (imV y)).run Tryd.prog w = .ok (.bool (!decide (x = y))) w := by
  go_simp
  repeat' split
  · rw [decide_eq_true (im_ext (by assumption) (by assumption) (by assumption) (by assumption) (by assumption) (by assumption) (by assumption) (by assumption) (by assumption))]
    rfl
  all_goals (rw [decide_eq_false (fun h => by subst h; first | (exact absurd rfl (by assumption)) | (rename_i q; exact q rfl))]; rfl)
set_option maxHeartbeats 2000000 in
theorem refSame_im (x y : Im) (w : World) : Calls Tryd.prog 27 #[imV x, imV y] w fun e w' => e = .returned (.bool (decide (x = y))) ∧ Below w.heap.size w w' := by
  have hb : ∀ o1 o2 : Obj, Below w.heap.size w ((w.alloc o1).alloc o2) := fun o1 o2 => (below_box w o1).alloc (by simp) _
  have he := fun W => eq_im x y W
  go_enter Tryd.func27, Tryd.ntmps27
  go_wp2

  go_ret
  exact ⟨rfl, hb _ _⟩
end Go.Proofs.YtanddfkhokcepaaDoor

/- imports.Right. -/
namespace Go.Proofs.YtanddfkhokcepaaDoor
open Go.RowKit
set_option linter.unusedVariables false
set_option maxRecDepth 100000

/-- A block that holds an import, in a world grown from B: what is held of it. -/
abbrev Bx (B : World) (b : Nat) (x : Im) (W : World) : Prop := (Whole W b 49 (imC x) ∧ Below B.heap.size B W) ∧
  W.cell? ⟨b, 0, none⟩ = some (.string (S x.mod)) ∧ W.cell? ⟨b, 1, none⟩ = some (.string (S x.nam)) ∧ W.cell? ⟨b, 2, none⟩ = some (.int .u8 x.kind.toNat) ∧ W.cell? ⟨b, 3, none⟩ = some (.int .u32 x.typ.toNat) ∧
    W.cell? ⟨b, 4, none⟩ = some (.int .u32 x.mn.toNat) ∧ W.cell? ⟨b, 5, none⟩ = some (.int .u32 x.mx.toNat) ∧ W.cell? ⟨b, 6, none⟩ = some (.bool x.bd) ∧ W.cell? ⟨b, 7, none⟩ = some (.int .u8 x.gt.toNat) ∧ W.cell? ⟨b, 8, none⟩ = some (.bool x.gm)
section
variable {B W W' : World} {b : Nat} {x : Im}
theorem bx_on (h : Bx B b x W) (hb : Below W.heap.size W W') : Bx B b x W' := ⟨⟨h.1.1.below hb, h.1.2.trans (hb.mono h.1.2.size)⟩, (h.1.1.below hb).im⟩
theorem bx_start (w : World) (x : Im) : Bx w w.heap.size x (w.alloc (.cells (imC x) 49)) := ⟨⟨Whole.made _ _ _, below_box _ _⟩, (Whole.made w 49 (imC x)).im⟩
theorem bx_bel (h : Bx B b x W) : Below B.heap.size B W := h.1.2
theorem bx_held {K : Nat} {args : Array Value} {R : Ending → Prop} (hN : ∀ w, Calls Tryd.prog K args w fun e w' => R e ∧ Below w.heap.size w w') (h : Bx B b x W) : Calls Tryd.prog K args W fun e w' => R e ∧ Bx B b x w' :=
  (hN W).mono fun _ _ ⟨h1, h2⟩ => ⟨h1, bx_on h h2⟩
end
/-- May it be? -/
def rZ (x : Im) : Int := if checkZ x.mod ≠ 0 then checkZ x.mod else if checkZ x.nam ≠ 0 then checkZ x.nam else if 3 < x.kind.toNat then 43 else
  if x ≠ ofK x ∨ (x.bd = false ∧ x.mx.toNat ≠ 0) then 1 else if x.kind.toNat = 3 then valueZ x.gt.toNat else 0
set_option maxHeartbeats 2000000 in
theorem iright_any (x : Im) (w : World) (h1 : x.mod.length ≤ 1000000) (h2 : x.nam.length ≤ 1000000) (hT : Tabs w) :
    Calls Tryd.prog 21 #[imV x] w fun e w' => e = .returned (.int .i64 (rZ x)) ∧ Below w.heap.size w w' := by
  have hT0 : Tabs (w.alloc (.cells (imC x) 49)) := hT.below (below_box _ _)
  have HC1 := Lib.hid (check_any x.mod _ h1 hT0)
  have HC2 := Lib.hid (fun W (hT : Tabs W) => check_any x.nam W h2 hT)
  have H0 := Lib.hid (bx_start w x)
  have HT := Lib.hid hT0
  clear hT hT0 h1 h2
  by_cases z1 : checkZ x.mod = 0
  · rw [z1] at HC1
    by_cases z2 : checkZ x.nam = 0
    · rw [z2] at HC2
      by_cases k3 : 3 < x.kind.toNat
      · have hr : rZ x = 43 := by unfold rZ; rw [if_neg (by simpa using z1), if_neg (by simpa using z2), if_pos k3]
        rw [hr]
        have d3 : decide ((3 : Int) < (x.kind.toNat : Int)) = true := decide_eq_true (by omega)
        clear hr k3 z1 z2
        go_enter Tryd.func21, Tryd.ntmps21
        go_wp2_with (go_at_call 72; go_must (first
          | ((with_reducible refine HC1.out.mono ?_); rintro e w1 ⟨rfl, hb⟩; have H1 := Lib.hid (bx_on H0.out hb); have HT1 := Lib.hid (HT.out.below hb); have c1 := H1.out.1.1.cell 1; simp only [List.getElem?_toArray, List.getElem?_cons_zero, List.getElem?_cons_succ] at c1; clear hb)
          | ((with_reducible refine (HC2.out _ HT1.out).mono ?_); rintro e w2 ⟨rfl, hb⟩; have H2 := Lib.hid (bx_on H1.out hb); have c2 := H2.out.1.1.cell 2; simp only [List.getElem?_toArray, List.getElem?_cons_zero, List.getElem?_cons_succ] at c2; clear hb c1)))
        go_ret
        exact ⟨rfl, bx_bel H2.out⟩
      · have d3 : decide ((3 : Int) < (x.kind.toNat : Int)) = false := decide_eq_false (by omega)
        have HO := Lib.hid (fun W => ofKind_any x W)
        by_cases ho : x = ofK x
        · have he : ∀ W, (binOp BinOp.neq 49 (imV x) (imV (ofK x))).run Tryd.prog W = .ok (.bool false) W := fun W => by rw [neq_im, decide_eq_true ho]; rfl
          have hrz : rZ x = if x.bd = false ∧ x.mx.toNat ≠ 0 then 1 else if x.kind.toNat = 3 then valueZ x.gt.toNat else 0 := by
            unfold rZ; rw [if_neg (by simpa using z1), if_neg (by simpa using z2), if_neg k3]; simp [← ho]
          rw [hrz]
          clear hrz
          generalize ofK x = y at *
          clear ho z1 z2
          by_cases hbd : x.bd = false
          · have HBD := Lib.hid hbd
            by_cases hmx : x.mx.toNat = 0
            · rw [if_neg (fun h => h.2 hmx)]
              clear hbd
              have d5 : ((x.mx.toNat : Int) != 0) = false := nb_of (by simp; omega)
              by_cases hk : x.kind.toNat = 3
              · rw [if_pos hk]
                have d6 : ((x.kind.toNat : Int) == 3) = true := be_of (by simp; omega)
                have HV := Lib.hid (fun W => value_any (x.gt.toNat : Int) W)
                clear hk hmx k3
                go_enter Tryd.func21, Tryd.ntmps21
                go_wp2_with (go_at_call 72; go_must (first
                  | ((with_reducible refine HC1.out.mono ?_); rintro e w1 ⟨rfl, hb⟩; have H1 := Lib.hid (bx_on H0.out hb); have HT1 := Lib.hid (HT.out.below hb); have c1 := H1.out.1.1.cell 1; simp only [List.getElem?_toArray, List.getElem?_cons_zero, List.getElem?_cons_succ] at c1; clear hb)
                  | ((with_reducible refine (HC2.out _ HT1.out).mono ?_); rintro e w2 ⟨rfl, hb⟩; have H2 := Lib.hid (bx_on H1.out hb); have c2 := H2.out.1.1.cell 2; simp only [List.getElem?_toArray, List.getElem?_cons_zero, List.getElem?_cons_succ] at c2; clear hb c1)))
                go_region_held3 (fun W => Bx w w.heap.size x W) (first | assumption | (exact bx_on H2.out (Below.refl _ _).drew))
                  (first | (go_at_call 73; ((with_reducible refine (bx_held HO.out ‹_›).mono ?_); rintro e w3 ⟨rfl, hk3⟩)))
                all_goals
                  obtain ⟨hk4, k0, k1, k2, k3', k4, k5, k6, k7, k8⟩ := hk3
                  have hbd := HBD.out
                  go_wp2_with (go_at_call 74; go_must ((with_reducible refine (HV.out _).mono ?_); rintro e w4 ⟨rfl, rfl⟩))
                  go_ret
                  exact ⟨rfl, hk4.2⟩
              · rw [if_neg hk]
                have d6 : ((x.kind.toNat : Int) == 3) = false := be_of (by simp; omega)
                clear hk hmx k3
                go_enter Tryd.func21, Tryd.ntmps21
                go_wp2_with (go_at_call 72; go_must (first
                  | ((with_reducible refine HC1.out.mono ?_); rintro e w1 ⟨rfl, hb⟩; have H1 := Lib.hid (bx_on H0.out hb); have HT1 := Lib.hid (HT.out.below hb); have c1 := H1.out.1.1.cell 1; simp only [List.getElem?_toArray, List.getElem?_cons_zero, List.getElem?_cons_succ] at c1; clear hb)
                  | ((with_reducible refine (HC2.out _ HT1.out).mono ?_); rintro e w2 ⟨rfl, hb⟩; have H2 := Lib.hid (bx_on H1.out hb); have c2 := H2.out.1.1.cell 2; simp only [List.getElem?_toArray, List.getElem?_cons_zero, List.getElem?_cons_succ] at c2; clear hb c1)))
                go_region_held3 (fun W => Bx w w.heap.size x W) (first | assumption | (exact bx_on H2.out (Below.refl _ _).drew))
                  (first | (go_at_call 73; ((with_reducible refine (bx_held HO.out ‹_›).mono ?_); rintro e w3 ⟨rfl, hk3⟩)))
                all_goals
                  obtain ⟨hk4, k0, k1, k2, k3', k4, k5, k6, k7, k8⟩ := hk3
                  have hbd := HBD.out
                  go_wp2
                  go_ret
                  exact ⟨rfl, hk4.2⟩
            · rw [if_pos ⟨hbd, hmx⟩]
              clear hbd
              have d5 : ((x.mx.toNat : Int) != 0) = true := nb_of (by simp; omega)
              clear hmx k3
              go_enter Tryd.func21, Tryd.ntmps21
              go_wp2_with (go_at_call 72; go_must (first
                | ((with_reducible refine HC1.out.mono ?_); rintro e w1 ⟨rfl, hb⟩; have H1 := Lib.hid (bx_on H0.out hb); have HT1 := Lib.hid (HT.out.below hb); have c1 := H1.out.1.1.cell 1; simp only [List.getElem?_toArray, List.getElem?_cons_zero, List.getElem?_cons_succ] at c1; clear hb)
                | ((with_reducible refine (HC2.out _ HT1.out).mono ?_); rintro e w2 ⟨rfl, hb⟩; have H2 := Lib.hid (bx_on H1.out hb); have c2 := H2.out.1.1.cell 2; simp only [List.getElem?_toArray, List.getElem?_cons_zero, List.getElem?_cons_succ] at c2; clear hb c1)))
              go_region_held3 (fun W => Bx w w.heap.size x W) (first | assumption | (exact bx_on H2.out (Below.refl _ _).drew))
                (first | (go_at_call 73; ((with_reducible refine (bx_held HO.out ‹_›).mono ?_); rintro e w3 ⟨rfl, hk3⟩)))
              all_goals
                obtain ⟨hk4, k0, k1, k2, k3', k4, k5, k6, k7, k8⟩ := hk3
                have hbd := HBD.out
                go_wp2
                go_ret
                exact ⟨rfl, hk4.2⟩
          · have hbt : x.bd = true := by simpa using hbd
            rw [if_neg (fun h => hbd h.1)]
            have HBD := Lib.hid hbt
            clear hbd hbt
            by_cases hk : x.kind.toNat = 3
            · rw [if_pos hk]
              have d6 : ((x.kind.toNat : Int) == 3) = true := be_of (by simp; omega)
              have HV := Lib.hid (fun W => value_any (x.gt.toNat : Int) W)
              clear hk k3
              go_enter Tryd.func21, Tryd.ntmps21
              go_wp2_with (go_at_call 72; go_must (first
                | ((with_reducible refine HC1.out.mono ?_); rintro e w1 ⟨rfl, hb⟩; have H1 := Lib.hid (bx_on H0.out hb); have HT1 := Lib.hid (HT.out.below hb); have c1 := H1.out.1.1.cell 1; simp only [List.getElem?_toArray, List.getElem?_cons_zero, List.getElem?_cons_succ] at c1; clear hb)
                | ((with_reducible refine (HC2.out _ HT1.out).mono ?_); rintro e w2 ⟨rfl, hb⟩; have H2 := Lib.hid (bx_on H1.out hb); have c2 := H2.out.1.1.cell 2; simp only [List.getElem?_toArray, List.getElem?_cons_zero, List.getElem?_cons_succ] at c2; clear hb c1)))
              go_region_held3 (fun W => Bx w w.heap.size x W) (first | assumption | (exact bx_on H2.out (Below.refl _ _).drew))
                (first | (go_at_call 73; ((with_reducible refine (bx_held HO.out ‹_›).mono ?_); rintro e w3 ⟨rfl, hk3⟩)))
              all_goals
                obtain ⟨hk4, k0, k1, k2, k3', k4, k5, k6, k7, k8⟩ := hk3
                have hbd := HBD.out
                go_wp2_with (go_at_call 74; go_must ((with_reducible refine (HV.out _).mono ?_); rintro e w4 ⟨rfl, rfl⟩))
                go_ret
                exact ⟨rfl, hk4.2⟩
            · rw [if_neg hk]
              have d6 : ((x.kind.toNat : Int) == 3) = false := be_of (by simp; omega)
              clear hk k3
              go_enter Tryd.func21, Tryd.ntmps21
              go_wp2_with (go_at_call 72; go_must (first
                | ((with_reducible refine HC1.out.mono ?_); rintro e w1 ⟨rfl, hb⟩; have H1 := Lib.hid (bx_on H0.out hb); have HT1 := Lib.hid (HT.out.below hb); have c1 := H1.out.1.1.cell 1; simp only [List.getElem?_toArray, List.getElem?_cons_zero, List.getElem?_cons_succ] at c1; clear hb)
                | ((with_reducible refine (HC2.out _ HT1.out).mono ?_); rintro e w2 ⟨rfl, hb⟩; have H2 := Lib.hid (bx_on H1.out hb); have c2 := H2.out.1.1.cell 2; simp only [List.getElem?_toArray, List.getElem?_cons_zero, List.getElem?_cons_succ] at c2; clear hb c1)))
              go_region_held3 (fun W => Bx w w.heap.size x W) (first | assumption | (exact bx_on H2.out (Below.refl _ _).drew))
                (first | (go_at_call 73; ((with_reducible refine (bx_held HO.out ‹_›).mono ?_); rintro e w3 ⟨rfl, hk3⟩)))
              all_goals
                obtain ⟨hk4, k0, k1, k2, k3', k4, k5, k6, k7, k8⟩ := hk3
                have hbd := HBD.out
                go_wp2
                go_ret
                exact ⟨rfl, hk4.2⟩
        · have he : ∀ W, (binOp BinOp.neq 49 (imV x) (imV (ofK x))).run Tryd.prog W = .ok (.bool true) W := fun W => by rw [neq_im, decide_eq_false ho]; rfl
          have hr : rZ x = 1 := by unfold rZ; rw [if_neg (by simpa using z1), if_neg (by simpa using z2), if_neg k3, if_pos (.inl ho)]
          rw [hr]
          clear hr
          generalize ofK x = y at *
          clear ho z1 z2 k3
          go_enter Tryd.func21, Tryd.ntmps21
          go_wp2_with (go_at_call 72; go_must (first
            | ((with_reducible refine HC1.out.mono ?_); rintro e w1 ⟨rfl, hb⟩; have H1 := Lib.hid (bx_on H0.out hb); have HT1 := Lib.hid (HT.out.below hb); have c1 := H1.out.1.1.cell 1; simp only [List.getElem?_toArray, List.getElem?_cons_zero, List.getElem?_cons_succ] at c1; clear hb)
            | ((with_reducible refine (HC2.out _ HT1.out).mono ?_); rintro e w2 ⟨rfl, hb⟩; have H2 := Lib.hid (bx_on H1.out hb); have c2 := H2.out.1.1.cell 2; simp only [List.getElem?_toArray, List.getElem?_cons_zero, List.getElem?_cons_succ] at c2; clear hb c1)))
          go_region_held3 (fun W => Bx w w.heap.size x W) (first | assumption | (exact bx_on H2.out (Below.refl _ _).drew))
            (first | (go_at_call 73; ((with_reducible refine (bx_held HO.out ‹_›).mono ?_); rintro e w3 ⟨rfl, hk3⟩)))
          all_goals
            go_wp2
            go_ret
            exact ⟨rfl, bx_bel (by assumption)⟩
    · have hr : rZ x = checkZ x.nam := by unfold rZ; rw [if_neg (by simpa using z1), if_pos z2]
      rw [hr]
      have d3 : (checkZ x.nam != 0) = true := zb_of (by simpa using z2)
      clear hr z1 z2
      generalize checkZ x.nam = z at *
      go_enter Tryd.func21, Tryd.ntmps21
      go_wp2_with (go_at_call 72; go_must (first
          | ((with_reducible refine HC1.out.mono ?_); rintro e w1 ⟨rfl, hb⟩; have H1 := Lib.hid (bx_on H0.out hb); have HT1 := Lib.hid (HT.out.below hb); have c1 := H1.out.1.1.cell 1; simp only [List.getElem?_toArray, List.getElem?_cons_zero, List.getElem?_cons_succ] at c1; clear hb)
          | ((with_reducible refine (HC2.out _ HT1.out).mono ?_); rintro e w2 ⟨rfl, hb⟩; have H2 := Lib.hid (bx_on H1.out hb); clear hb c1)))
      go_ret
      exact ⟨rfl, bx_bel H2.out⟩
  · have hr : rZ x = checkZ x.mod := by unfold rZ; rw [if_pos z1]
    rw [hr]
    have d3 : (checkZ x.mod != 0) = true := zb_of (by simpa using z1)
    clear hr z1 HC2
    generalize checkZ x.mod = z at *
    go_enter Tryd.func21, Tryd.ntmps21
    go_wp2_with (go_at_call 72; go_must (first
          | ((with_reducible refine HC1.out.mono ?_); rintro e w1 ⟨rfl, hb⟩; have H1 := Lib.hid (bx_on H0.out hb); clear hb)))
    go_ret
    exact ⟨rfl, bx_bel H1.out⟩
end Go.Proofs.YtanddfkhokcepaaDoor

/- imports.described; slices.Concat of four pieces. (By gen/genPut.py.) -/
namespace Go.Proofs.YtanddfkhokcepaaDoor
open Go.RowKit
set_option linter.unusedVariables false
set_option maxRecDepth 100000

/-- What is behind the kind. -/
noncomputable def desL (x : Im) : List UInt8 :=
  if x.kind.toNat = 0 then lebL x.typ.toNat else if x.kind.toNat = 1 then [112] ++ encLim x.mn.toNat x.mx.toNat x.bd else
  if x.kind.toNat = 2 then encLim x.mn.toNat x.mx.toNat x.bd else encG x.gt.toNat x.gm
/-- Its bytes. -/
noncomputable def iputL (x : Im) : List UInt8 := nmL x.mod ++ nmL x.nam ++ [x.kind] ++ desL x
theorem encLim_len (a b : Int) (c : Bool) (h1 : a ≤ 4294967295) (h2 : b ≤ 4294967295) : 1 ≤ (encLim a b c).length ∧ (encLim a b c).length ≤ 21 := by
  have m1 := lebL_len a (by omega)
  have m2 := lebL_len b (by omega)
  unfold encLim
  cases c <;> simp <;> omega
theorem desL_len (x : Im) : 1 ≤ (desL x).length ∧ (desL x).length ≤ 22 := by
  have m1 := lebL_len (x.typ.toNat : Int) (by have := u32_le x.typ; omega)
  have m2 := encLim_len x.mn.toNat x.mx.toNat x.bd (u32_le _) (u32_le _)
  have m3 : (encG x.gt.toNat x.gm).length = 2 := rfl
  unfold desL
  split
  · omega
  · split
    · rw [List.length_append, List.length_singleton]; omega
    · split <;> omega
theorem iputL_len {x : Im} {n : Nat} (h1 : x.mod.length ≤ n) (h2 : x.nam.length ≤ n) (hn : n ≤ 100000) : 4 ≤ (iputL x).length ∧ (iputL x).length ≤ 2 * n + 43 := by
  have m1 := nmL_len h1 hn
  have m2 := nmL_len h2 hn
  have m3 := desL_len x
  unfold iputL
  simp only [List.length_append, List.length_singleton]
  omega
set_option maxHeartbeats 1600000 in
theorem des_im (x : Im) (w : World) : Calls Tryd.prog 71 #[imV x] w (BytesL (desL x) w) := by
  have hb0 := below_box w (.cells (imC x) 49)
  have HB0 := Lib.hid hb0
  have hz0 := hb0.size
  clear hb0
  by_cases h0 : x.kind.toNat = 0
  · have hx : desL x = lebL x.typ.toNat := by unfold desL; rw [if_pos h0]
    rw [hx]
    have HU := Lib.hid (fun w => uintB (x.typ.toNat : Int) w (by omega) (by have := u32_le x.typ; omega))
    have wn : IntKind.u64.wrap (x.typ.toNat : Int) = x.typ.toNat := by have := u32_le x.typ; simp [IntKind.wrap, IntKind.bits, IntKind.signed]; omega
    generalize lebL (x.typ.toNat : Int) = y at *
    have d0 : ((x.kind.toNat : Int) == 0) = true := be_of (by simp; omega)
    clear hx h0
    go_enter Tryd.func71, Tryd.ntmps71
    go_wp2_with (go_at_call 89; go_must ((with_reducible refine (HU.out _).mono ?_); intro e w1 h; obtain ⟨v, rfl, hr, hb⟩ := h; have HR := Lib.hid (hr.mono hz0); have HB := Lib.hid (HB0.out.trans (hb.mono hz0)); clear hr hb))
    go_ret
    exact ⟨_, rfl, HR.out, HB.out⟩
  have d0 : ((x.kind.toNat : Int) == 0) = false := be_of (by simp; omega)
  by_cases h1 : x.kind.toNat = 1
  · have hx : desL x = [112] ++ encLim x.mn.toNat x.mx.toNat x.bd := by unfold desL; rw [if_neg h0, if_pos h1]
    rw [hx]
    have HE := Lib.hid (fun w => elim_any x.mn.toNat x.mx.toNat x.bd w (by omega) (u32_le _) (by omega) (u32_le _))
    have hlen := encLim_len x.mn.toNat x.mx.toNat x.bd (u32_le _) (u32_le _)
    generalize encLim x.mn.toNat x.mx.toNat x.bd = y at *
    have d1 : ((x.kind.toNat : Int) == 1) = true := be_of (by simp; omega)
    have R0 : Hid (Row ((w.alloc (.cells (imC x) 49)).alloc (.cells #[.int .u8 112] 5)) w.heap.size (.slice (some ⟨w.heap.size + 1, 0, none⟩) 1 1) [112]) := Row.made _ [112] w.heap.size (w.heap.size + 1) (by simp) (by omega) (by simp)
    have HB1 := Lib.hid (HB0.out.trans ((below_box (w.alloc (.cells (imC x) 49)) (.cells #[.int .u8 112] 5)).mono hz0))
    clear hx h0 h1
    go_enter Tryd.func71, Tryd.ntmps71
    go_wp2_with (first
      | (go_at_call 105; go_must ((with_reducible refine (HE.out _).mono ?_); intro e w1 h; obtain ⟨v, rfl, hr, hb⟩ := h; obtain ⟨A1, c1, rfl, hp1⟩ := hr.pc; have HP := Lib.hid hp1; have HR0 := Lib.hid (R0.out.later hb); have HB := Lib.hid (HB1.out.trans (hb.mono HB1.out.size)); have hz1 := HB.out.size; clear hr hb hp1))
      | (at_builtin; (refine row_any rfl _ _ rfl w.heap.size _ [112] rfl HR0.out A1 y.length c1 w1.heap.size y rfl rfl HP.out.lies HP.out.nil (by simp; omega) hz1 ?_; intro v2 w2 hr2 hb2; have HR2 := Lib.hid hr2; have HB2 := Lib.hid hb2; clear hr2 hb2)))
    go_ret
    exact ⟨_, rfl, HR2.out, HB.out.trans HB2.out⟩
  have d1 : ((x.kind.toNat : Int) == 1) = false := be_of (by simp; omega)
  by_cases h2 : x.kind.toNat = 2
  · have hx : desL x = encLim x.mn.toNat x.mx.toNat x.bd := by unfold desL; rw [if_neg h0, if_neg h1, if_pos h2]
    rw [hx]
    have HE := Lib.hid (fun w => elim_any x.mn.toNat x.mx.toNat x.bd w (by omega) (u32_le _) (by omega) (u32_le _))
    generalize encLim x.mn.toNat x.mx.toNat x.bd = y at *
    have d2 : ((x.kind.toNat : Int) == 2) = true := be_of (by simp; omega)
    clear hx h0 h1 h2
    go_enter Tryd.func71, Tryd.ntmps71
    go_wp2_with (go_at_call 105; go_must ((with_reducible refine (HE.out _).mono ?_); intro e w1 h; obtain ⟨v, rfl, hr, hb⟩ := h; have HR := Lib.hid (hr.mono hz0); have HB := Lib.hid (HB0.out.trans (hb.mono hz0)); clear hr hb))
    go_ret
    exact ⟨_, rfl, HR.out, HB.out⟩
  have d2 : ((x.kind.toNat : Int) == 2) = false := be_of (by simp; omega)
  have hx : desL x = encG x.gt.toNat x.gm := by unfold desL; rw [if_neg h0, if_neg h1, if_neg h2]
  rw [hx]
  have HE := Lib.hid (fun w => encG_any x.gt.toNat x.gm w (by omega) (u8_le _))
  generalize encG x.gt.toNat x.gm = y at *
  clear hx h0 h1 h2
  go_enter Tryd.func71, Tryd.ntmps71
  go_wp2_with (go_at_call 106; go_must ((with_reducible refine (HE.out _).mono ?_); intro e w1 h; obtain ⟨v, rfl, hr, hb⟩ := h; have HR := Lib.hid (hr.mono hz0); have HB := Lib.hid (HB0.out.trans (hb.mono hz0)); clear hr hb))
  go_ret
  exact ⟨_, rfl, HR.out, HB.out⟩
set_option maxHeartbeats 1600000 in
/-- Concat of 4 pieces, of which one at least is not empty. -/
theorem concat4 {w : World} {g : Nat} {A1 A2 A3 A4 : Option Addr} {c1 c2 c3 c4 : Nat} {l1 l2 l3 l4 : List UInt8} (hg : Whole w g 25 #[.slice A1 l1.length c1, .slice A2 l2.length c2, .slice A3 l3.length c3, .slice A4 l4.length c4])
    (h1 : Pc A1 c1 l1 w) (h2 : Pc A2 c2 l2 w) (h3 : Pc A3 c3 l3 w) (h4 : Pc A4 c4 l4 w) (n1 : 0 < l1.length + l2.length + l3.length + l4.length) (n2 : l1.length + l2.length + l3.length + l4.length ≤ 1000000) :
    Calls Tryd.prog 58 #[.slice (some ⟨g, 0, none⟩) 4 4] w (BytesL (l1 ++ l2 ++ l3 ++ l4) w) := by
  have g0 : w.cell? ⟨g, 0, none⟩ = some (.slice A1 l1.length c1) := hg.cell 0
  have g1 : w.cell? ⟨g, 1, none⟩ = some (.slice A2 l2.length c2) := hg.cell 1
  have g2 : w.cell? ⟨g, 2, none⟩ = some (.slice A3 l3.length c3) := hg.cell 2
  have g3 : w.cell? ⟨g, 3, none⟩ = some (.slice A4 l4.length c4) := hg.cell 3
  obtain ⟨m1, hm1⟩ : ∃ m, m = l1.length := ⟨_, rfl⟩
  obtain ⟨m2, hm2⟩ : ∃ m, m = l2.length := ⟨_, rfl⟩
  obtain ⟨m3, hm3⟩ : ∃ m, m = l3.length := ⟨_, rfl⟩
  obtain ⟨m4, hm4⟩ : ∃ m, m = l4.length := ⟨_, rfl⟩
  rw [← hm1, ← hm2, ← hm3, ← hm4] at n1 n2
  rw [← hm1] at g0
  rw [← hm2] at g1
  rw [← hm3] at g2
  rw [← hm4] at g3
  have HG := Lib.hid hg
  have H1 := Lib.hid h1
  have H2 := Lib.hid h2
  have H3 := Lib.hid h3
  have H4 := Lib.hid h4
  have HM1 := Lib.hid hm1
  have HM2 := Lib.hid hm2
  have HM3 := Lib.hid hm3
  have HM4 := Lib.hid hm4
  clear hg h1 h2 h3 h4 hm1 hm2 hm3 hm4
  have HGr := Lib.hid (grow_any (m1 + m2 + m3 + m4) w (by omega) n2)
  go_enter Tryd.func58, Tryd.ntmps58
  go_wp2
  go_loop [3, 11] (fun s i => (s = .int .i64 0 ∧ i = .int .i64 0) ∨ (s = .int .i64 m1 ∧ i = .int .i64 1) ∨ (s = .int .i64 ((m1 + m2 : Nat) : Int) ∧ i = .int .i64 2) ∨ (s = .int .i64 ((m1 + m2 + m3 : Nat) : Int) ∧ i = .int .i64 3) ∨ (s = .int .i64 ((m1 + m2 + m3 + m4 : Nat) : Int) ∧ i = .int .i64 4)) (fun _ i => 4 - (intOf i).toNat)
  case atStart => exact .inl ⟨rfl, rfl⟩
  case round =>
    rcases hrel with ⟨rfl, rfl⟩ | ⟨rfl, rfl⟩ | ⟨rfl, rfl⟩ | ⟨rfl, rfl⟩ | ⟨rfl, rfl⟩
    · go_wp2
      go_round
      case rel => exact .inr (.inl ⟨by go_num, rfl⟩)
      case measure => simp [intOf]
    · go_wp2
      go_round
      case rel => exact .inr (.inr (.inl ⟨by go_num, rfl⟩))
      case measure => simp [intOf]
    · go_wp2
      go_round
      case rel => exact .inr (.inr (.inr (.inl ⟨by go_num, rfl⟩)))
      case measure => simp [intOf]
    · go_wp2
      go_round
      case rel => exact .inr (.inr (.inr (.inr ⟨by go_num, rfl⟩)))
      case measure => simp [intOf]
    · go_wp2_with (go_at_call 95; go_must (refine HGr.out.mono ?_; intro e w1 h; obtain ⟨v1, rfl, hr1, hb1⟩ := h; have HR1 := Lib.hid hr1; have HB1 := Lib.hid hb1; clear hr1 hb1))
      go_loopw [6, 27] (fun v i wr => Below w.heap.size w wr ∧ ((Row wr w.heap.size v [] ∧ i = .int .i64 0) ∨ (Row wr w.heap.size v l1 ∧ i = .int .i64 1) ∨ (Row wr w.heap.size v (l1 ++ l2) ∧ i = .int .i64 2) ∨ (Row wr w.heap.size v (l1 ++ l2 ++ l3) ∧ i = .int .i64 3) ∨ (Row wr w.heap.size v (l1 ++ l2 ++ l3 ++ l4) ∧ i = .int .i64 4))) (fun _ i _ => 4 - (intOf i).toNat)
      case atStart => exact ⟨HB1.out, .inl ⟨HR1.out, rfl⟩⟩
      case round =>
        obtain ⟨hb, ⟨hr, rfl⟩ | ⟨hr, rfl⟩ | ⟨hr, rfl⟩ | ⟨hr, rfl⟩ | ⟨hr, rfl⟩⟩ := hrel
        · have c0 : wr.cell? ⟨g, 0, none⟩ = some (.slice A1 m1 c1) := by have := (HG.out.below hb).cell 0; rw [HM1.out]; exact this
          have HR := Lib.hid hr
          have HB := Lib.hid hb
          have hz := hb.size
          clear hr hb
          go_wp2_with (at_builtin; (refine row_any rfl _ _ rfl w.heap.size _ [] rfl HR.out A1 m1 c1 wr.heap.size l1 rfl HM1.out.symm (H1.out.below HB.out).lies H1.out.nil (by have := HM1.out; have := HM2.out; have := HM3.out; have := HM4.out; (try simp only [List.length_nil]); omega) hz ?_; intro v2 w2 hr2 hb2; have HR2 := Lib.hid hr2; have HB2 := Lib.hid hb2; clear hr2 hb2))
          go_roundw
          case rel => exact ⟨HB.out.trans HB2.out, .inr (.inl ⟨by simpa using HR2.out, rfl⟩)⟩
          case measure => simp [intOf]
        · have c0 : wr.cell? ⟨g, 1, none⟩ = some (.slice A2 m2 c2) := by have := (HG.out.below hb).cell 1; rw [HM2.out]; exact this
          have HR := Lib.hid hr
          have HB := Lib.hid hb
          have hz := hb.size
          clear hr hb
          go_wp2_with (at_builtin; (refine row_any rfl _ _ rfl w.heap.size _ l1 rfl HR.out A2 m2 c2 wr.heap.size l2 rfl HM2.out.symm (H2.out.below HB.out).lies H2.out.nil (by have := HM1.out; have := HM2.out; have := HM3.out; have := HM4.out; (try simp only [List.length_append, List.length_nil]); omega) hz ?_; intro v2 w2 hr2 hb2; have HR2 := Lib.hid hr2; have HB2 := Lib.hid hb2; clear hr2 hb2))
          go_roundw
          case rel => exact ⟨HB.out.trans HB2.out, .inr (.inr (.inl ⟨by simpa using HR2.out, rfl⟩))⟩
          case measure => simp [intOf]
        · have c0 : wr.cell? ⟨g, 2, none⟩ = some (.slice A3 m3 c3) := by have := (HG.out.below hb).cell 2; rw [HM3.out]; exact this
          have HR := Lib.hid hr
          have HB := Lib.hid hb
          have hz := hb.size
          clear hr hb
          go_wp2_with (at_builtin; (refine row_any rfl _ _ rfl w.heap.size _ (l1 ++ l2) rfl HR.out A3 m3 c3 wr.heap.size l3 rfl HM3.out.symm (H3.out.below HB.out).lies H3.out.nil (by have := HM1.out; have := HM2.out; have := HM3.out; have := HM4.out; (try simp only [List.length_append]); omega) hz ?_; intro v2 w2 hr2 hb2; have HR2 := Lib.hid hr2; have HB2 := Lib.hid hb2; clear hr2 hb2))
          go_roundw
          case rel => exact ⟨HB.out.trans HB2.out, .inr (.inr (.inr (.inl ⟨by simpa using HR2.out, rfl⟩)))⟩
          case measure => simp [intOf]
        · have c0 : wr.cell? ⟨g, 3, none⟩ = some (.slice A4 m4 c4) := by have := (HG.out.below hb).cell 3; rw [HM4.out]; exact this
          have HR := Lib.hid hr
          have HB := Lib.hid hb
          have hz := hb.size
          clear hr hb
          go_wp2_with (at_builtin; (refine row_any rfl _ _ rfl w.heap.size _ (l1 ++ l2 ++ l3) rfl HR.out A4 m4 c4 wr.heap.size l4 rfl HM4.out.symm (H4.out.below HB.out).lies H4.out.nil (by have := HM1.out; have := HM2.out; have := HM3.out; have := HM4.out; (try simp only [List.length_append]); omega) hz ?_; intro v2 w2 hr2 hb2; have HR2 := Lib.hid hr2; have HB2 := Lib.hid hb2; clear hr2 hb2))
          go_roundw
          case rel => exact ⟨HB.out.trans HB2.out, .inr (.inr (.inr (.inr ⟨by simpa using HR2.out, rfl⟩)))⟩
          case measure => simp [intOf]
        · have HR := Lib.hid hr
          have HB := Lib.hid hb
          clear hr hb
          go_wp2
          go_ret
          exact ⟨_, rfl, HR.out, HB.out⟩
end Go.Proofs.YtanddfkhokcepaaDoor

/- imports.Put. -/
namespace Go.Proofs.YtanddfkhokcepaaDoor
open Go.RowKit
set_option linter.unusedVariables false
set_option maxRecDepth 100000

theorem step_build4 {w : World} {ops : Array Oper} {o : Oper} {a : Act} {K : Act → World → Prop} {Q : Exit → Act → World → Prop} {E : Prop} (hgd : o.guard = none) (x0 x1 x2 x3 : Operand) (ho : o.op = .buildSlice 140 4 #[(0, x0), (1, x1), (2, x2), (3, x3)]) {A0 A1 A2 A3 : Option Addr} {n0 n1 n2 n3 c0 c1 c2 c3 : Nat} (h0 : a.eval x0 = .slice A0 n0 c0) (h1 : a.eval x1 = .slice A1 n1 c1) (h2 : a.eval x2 = .slice A2 n2 c2) (h3 : a.eval x3 = .slice A3 n3 c3)
    (h : ∀ g wa, w.heap.size ≤ g → Below w.heap.size w wa → Whole wa g 25 #[.slice A0 n0 c0, .slice A1 n1 c1, .slice A2 n2 c2, .slice A3 n3 c3] → K (a.put o.dst (.slice (some ⟨g, 0, none⟩) 4 4)) wa) :
    if Region.wanted o (yielded ops a.tmps) = true then Oper.wp Tryd.prog o a w K Q else E := by
  refine step_value (v := .slice (some ⟨w.heap.size, 0, none⟩) 4 4) (w' := w.alloc (.cells #[.slice A0 n0 c0, .slice A1 n1 c1, .slice A2 n2 c2, .slice A3 n3 c3] 25)) hgd ?_ (h _ _ (Nat.le_refl _) (below_box _ _) (Whole.made _ _ _))
  cases o
  subst ho
  clear h
  generalize a.eval = ev at h0 h1 h2 h3 ⊢
  simp [go_sem, h0, h1, h2, h3]
/-- What Put hands back. -/
def Putted (x : Im) (w : World) (e : Ending) (w' : World) : Prop := ∃ v, e = .returned (.tuple #[v, .int .i64 (rZ x)]) ∧ Row w' w.heap.size v (if rZ x = 0 then iputL x else []) ∧ Below w.heap.size w w'
set_option maxHeartbeats 8000000 in
theorem put_im (x : Im) (w : World) (hT : Tabs w) (h1 : x.mod.length ≤ 100000) (h2 : x.nam.length ≤ 100000) :
    Calls Tryd.prog 20 #[imV x] w (Putted x w) := by
  have H0 := Lib.hid (bx_start w x)
  have HR := Lib.hid (iright_any x _ (by omega) (by omega) (hT.below (below_box w (.cells (imC x) 49))))
  unfold Putted
  obtain ⟨z, hz⟩ : ∃ z, z = rZ x := ⟨_, rfl⟩
  rw [← hz] at HR ⊢
  by_cases h0 : z = 0
  · rw [if_pos h0]
    subst h0
    have hlen := iputL_len h1 h2 (by omega)
    have hsp : iputL x = nmL x.mod ++ nmL x.nam ++ [x.kind] ++ desL x := rfl
    have hn1 := nmL_len h1 (by omega)
    have hn2 := nmL_len h2 (by omega)
    have hn3 := desL_len x
    have HN1 := Lib.hid (fun w => name_w x.mod w h1)
    have HN2 := Lib.hid (fun w => name_w x.nam w h2)
    have HD := Lib.hid (fun w => des_im x w)
    generalize nmL x.mod = y1 at *
    generalize nmL x.nam = y2 at *
    generalize desL x = y3 at *
    have HSP := Lib.hid hsp
    have HS := Lib.hid (show 0 < y1.length + y2.length + ([x.kind] : List UInt8).length + y3.length ∧ y1.length + y2.length + ([x.kind] : List UInt8).length + y3.length ≤ 1000000 by rw [List.length_singleton]; omega)
    clear hz hT h1 h2 hlen hsp hn1 hn2 hn3
    go_enter Tryd.func20, Tryd.ntmps20
    go_upto_region 4 with (go_at_call 21; go_must ((with_reducible refine HR.out.mono ?_); rintro e w1 ⟨rfl, hb⟩; have H1 := Lib.hid (bx_on H0.out hb); clear hb))
    have hB := bx_on H1.out (Below.refl _ _).drew
    clear H0 HR H1
    refine wp_region_noPanic ?_
    refine wp_region_held_drew (S := fun W => Bx w w.heap.size x W) (by kernel_rfl) hB (fun hHeld => ?_)
    clear hB
    (refine heldTake (i := 0) (oi := { dst := some 10, op := Op.fieldAddr 49 (Operand.tmp 1) 0, type := 0, pos := "imports.go:53", after := #[], guard := none }) (v := ?_) rfl (by kernel_rfl) (by kernel_rfl) (by kernel_rfl) (by assumption) ?_ ?_; rotate_left; focus (refine .inl ⟨by kernel_rfl, ?_⟩; intro w hSw; (try dsimp only at hSw); go_simp; (try with_reducible rfl)); (try simp only [Act.put, List.setIfInBounds_toArray, List.set_cons_zero, List.set_cons_succ]))
    (refine heldTake (i := 1) (oi := { dst := some 11, op := Op.load 9 (Operand.tmp 10), type := 9, pos := "imports.go:53", after := #[{ on := 0, ground := Ground.data }], guard := none }) (v := ?_) rfl (by kernel_rfl) (by kernel_rfl) (by kernel_rfl) (by assumption) ?_ ?_; rotate_left; focus (refine .inl ⟨by kernel_rfl, ?_⟩; intro w hSw; (try dsimp only at hSw); go_simp; (try with_reducible rfl)); (try simp only [Act.put, List.setIfInBounds_toArray, List.set_cons_zero, List.set_cons_succ]))
    (refine heldTake (i := 3) (oi := { dst := some 13, op := Op.fieldAddr 49 (Operand.tmp 1) 1, type := 0, pos := "imports.go:53", after := #[], guard := none }) (v := ?_) rfl (by kernel_rfl) (by kernel_rfl) (by kernel_rfl) (by assumption) ?_ ?_; rotate_left; focus (refine .inl ⟨by kernel_rfl, ?_⟩; intro w hSw; (try dsimp only at hSw); go_simp; (try with_reducible rfl)); (try simp only [Act.put, List.setIfInBounds_toArray, List.set_cons_zero, List.set_cons_succ]))
    (refine heldTake (i := 4) (oi := { dst := some 14, op := Op.load 9 (Operand.tmp 13), type := 9, pos := "imports.go:53", after := #[{ on := 3, ground := Ground.data }], guard := none }) (v := ?_) rfl (by kernel_rfl) (by kernel_rfl) (by kernel_rfl) (by assumption) ?_ ?_; rotate_left; focus (refine .inl ⟨by kernel_rfl, ?_⟩; intro w hSw; (try dsimp only at hSw); go_simp; (try with_reducible rfl)); (try simp only [Act.put, List.setIfInBounds_toArray, List.set_cons_zero, List.set_cons_succ]))
    (refine heldTake (i := 6) (oi := { dst := some 16, op := Op.fieldAddr 49 (Operand.tmp 1) 2, type := 0, pos := "imports.go:53", after := #[], guard := none }) (v := ?_) rfl (by kernel_rfl) (by kernel_rfl) (by kernel_rfl) (by assumption) ?_ ?_; rotate_left; focus (refine .inl ⟨by kernel_rfl, ?_⟩; intro w hSw; (try dsimp only at hSw); go_simp; (try with_reducible rfl)); (try simp only [Act.put, List.setIfInBounds_toArray, List.set_cons_zero, List.set_cons_succ]))
    (refine heldTake (i := 7) (oi := { dst := some 17, op := Op.load 5 (Operand.tmp 16), type := 5, pos := "imports.go:53", after := #[{ on := 6, ground := Ground.data }], guard := none }) (v := ?_) rfl (by kernel_rfl) (by kernel_rfl) (by kernel_rfl) (by assumption) ?_ ?_; rotate_left; focus (refine .inl ⟨by kernel_rfl, ?_⟩; intro w hSw; (try dsimp only at hSw); go_simp; (try with_reducible rfl)); (try simp only [Act.put, List.setIfInBounds_toArray, List.set_cons_zero, List.set_cons_succ]))
    (refine heldTake (i := 9) (oi := { dst := some 19, op := Op.load 49 (Operand.tmp 1), type := 49, pos := "imports.go:53", after := #[], guard := none }) (v := ?_) rfl (by kernel_rfl) (by kernel_rfl) (by kernel_rfl) (by assumption) ?_ ?_; rotate_left; focus (refine .inl ⟨by kernel_rfl, ?_⟩; intro w hSw; (try dsimp only at hSw); go_simp; (try with_reducible rfl)); (try simp only [Act.put, List.setIfInBounds_toArray, List.set_cons_zero, List.set_cons_succ]))
    refine wpAnyH_ready (rs := [2, 8]) (by kernel_rfl) (by simp) ?_
    refine (AllReadyH.cons (o := { dst := some 12, op := Op.call { callee := Callee.value (Operand.func 57), args := #[Operand.tmp 11], argTypes := #[9] }, type := 25, pos := "imports.go:53", after := #[{ on := 1, ground := Ground.data }], guard := none }) rfl (fun K hK => ?_) (AllReadyH.cons (o := { dst := some 18, op := Op.buildSlice 25 1 #[(0, Operand.tmp 17)], type := 25, pos := "imports.go:53", after := #[{ on := 7, ground := Ground.data }], guard := none }) rfl (fun K hK => ?_) AllReadyH.nil))
    · go_simp
      (go_at_call 57; (with_reducible refine (HN1.out _).mono ?_); rintro e w2 ⟨v2, rfl, hr2, hb2⟩; obtain ⟨A2, c2, rfl, hp2⟩ := hr2.pc; have HB2 := Lib.hid hb2; have HP2 := Lib.hid hp2; clear hb2 hp2 hr2)
      refine hK.out _ _ (bx_on hHeld HB2.out) (fun hHeld2 => ?_)
      clear hK K hHeld
      (try simp only [Act.put, List.setIfInBounds_toArray, List.set_cons_zero, List.set_cons_succ])
      refine wpAnyH_ready (rs := [5, 8]) (by kernel_rfl) (by simp) ?_
      refine (AllReadyH.cons (o := { dst := some 15, op := Op.call { callee := Callee.value (Operand.func 57), args := #[Operand.tmp 14], argTypes := #[9] }, type := 25, pos := "imports.go:53", after := #[{ on := 4, ground := Ground.data }, { on := 2, ground := Ground.chain }], guard := none }) rfl (fun K hK => ?_) (AllReadyH.cons (o := { dst := some 18, op := Op.buildSlice 25 1 #[(0, Operand.tmp 17)], type := 25, pos := "imports.go:53", after := #[{ on := 7, ground := Ground.data }], guard := none }) rfl (fun K hK => ?_) AllReadyH.nil))
      · go_simp
        (go_at_call 57; (with_reducible refine (HN2.out _).mono ?_); rintro e w5 ⟨v5, rfl, hr5, hb5⟩; obtain ⟨A5, c5, rfl, hp5⟩ := hr5.pc; have HB5 := Lib.hid hb5; have HP5 := Lib.hid hp5; clear hb5 hp5 hr5)
        refine hK.out _ _ (bx_on hHeld2 HB5.out) (fun hHeld5 => ?_)
        clear hK K hHeld2
        (try simp only [Act.put, List.setIfInBounds_toArray, List.set_cons_zero, List.set_cons_succ])
        refine wpAnyH_ready (rs := [8, 10]) (by kernel_rfl) (by simp) ?_
        refine (AllReadyH.cons (o := { dst := some 18, op := Op.buildSlice 25 1 #[(0, Operand.tmp 17)], type := 25, pos := "imports.go:53", after := #[{ on := 7, ground := Ground.data }], guard := none }) rfl (fun K hK => ?_) (AllReadyH.cons (o := { dst := some 20, op := Op.call { callee := Callee.value (Operand.func 71), args := #[Operand.tmp 19], argTypes := #[49] }, type := 25, pos := "imports.go:53", after := #[{ on := 9, ground := Ground.data }, { on := 5, ground := Ground.chain }], guard := none }) rfl (fun K hK => ?_) AllReadyH.nil))
        · refine step_build1 rfl _ rfl x.kind rfl ?_; intro g8 wa8 hg8 hb8 hp8; have HB8 := Lib.hid hb8; have HP8 := Lib.hid hp8; clear hb8 hp8
          refine hK.out _ _ (bx_on hHeld5 HB8.out) (fun hHeld8 => ?_)
          clear hK K hHeld5
          (try simp only [Act.put, List.setIfInBounds_toArray, List.set_cons_zero, List.set_cons_succ])
          refine wpAnyH_ready (rs := [10]) (by kernel_rfl) (by simp) ?_
          refine (AllReadyH.cons (o := { dst := some 20, op := Op.call { callee := Callee.value (Operand.func 71), args := #[Operand.tmp 19], argTypes := #[49] }, type := 25, pos := "imports.go:53", after := #[{ on := 9, ground := Ground.data }, { on := 5, ground := Ground.chain }], guard := none }) rfl (fun K hK => ?_) AllReadyH.nil)
          go_simp
          (go_at_call 71; (with_reducible refine (HD.out _).mono ?_); rintro e w10 ⟨v10, rfl, hr10, hb10⟩; obtain ⟨A10, c10, rfl, hp10⟩ := hr10.pc; have HB10 := Lib.hid hb10; have HP10 := Lib.hid hp10; clear hb10 hp10 hr10)
          refine hK.out _ _ (bx_on hHeld8 HB10.out) (fun hHeld10 => ?_)
          clear hK K hHeld8
          (try simp only [Act.put, List.setIfInBounds_toArray, List.set_cons_zero, List.set_cons_succ])
          refine wpAnyH_ready (rs := [11]) (by kernel_rfl) (by simp) ?_
          refine (AllReadyH.cons (o := { dst := some 21, op := Op.buildSlice 140 4 #[(0, Operand.tmp 12), (1, Operand.tmp 15), (2, Operand.tmp 18), (3, Operand.tmp 20)], type := 140, pos := "imports.go:53", after := #[{ on := 2, ground := Ground.data }, { on := 5, ground := Ground.data }, { on := 8, ground := Ground.data }, { on := 10, ground := Ground.data }], guard := none }) rfl (fun K hK => ?_) AllReadyH.nil)
          refine step_build4 rfl _ _ _ _ rfl rfl rfl rfl rfl ?_; intro g11 wa11 hg11 hb11 hw11; have HB11 := Lib.hid hb11; have HW11 := Lib.hid hw11; clear hb11 hw11
          refine hK.out _ _ (bx_on hHeld10 HB11.out) (fun hHeld11 => ?_)
          clear hK K hHeld10
          (try simp only [Act.put, List.setIfInBounds_toArray, List.set_cons_zero, List.set_cons_succ])
          refine wpAnyH_ready (rs := [12]) (by kernel_rfl) (by simp) ?_
          refine (AllReadyH.cons (o := { dst := some 22, op := Op.call { callee := Callee.value (Operand.func 58), args := #[Operand.tmp 21], argTypes := #[140] }, type := 25, pos := "imports.go:53", after := #[{ on := 11, ground := Ground.data }, { on := 10, ground := Ground.chain }], guard := none }) rfl (fun K hK => ?_) AllReadyH.nil)
          go_simp
          (go_at_call 58; (with_reducible refine (concat4 (l3 := [x.kind]) HW11.out (((((((((HP2.out).below HB5.out)).below HB8.out)).below HB10.out)).below HB11.out)) (((((((HP5.out).below HB8.out)).below HB10.out)).below HB11.out)) (((((HP8.out).below HB10.out)).below HB11.out)) (((HP10.out).below HB11.out)) HS.out.1 HS.out.2).mono ?_); rintro e w12 ⟨v12, rfl, hr12, hb12⟩; have hz12 := hHeld11.1.2.size; have HB12 := Lib.hid hb12; have HR12 := Lib.hid hr12; clear hb12 hr12)
          refine hK.out _ _ (bx_on hHeld11 HB12.out) (fun hHeld12 => ?_)
          clear hK K hHeld11
          (try simp only [Act.put, List.setIfInBounds_toArray, List.set_cons_zero, List.set_cons_succ])
          (refine heldTake (i := 13) (oi := { dst := some 2, op := Op.assign (Operand.tmp 22), type := 25, pos := "imports.go:53", after := #[{ on := 12, ground := Ground.data }, { on := 12, ground := Ground.chain }, { on := 0, ground := Ground.phase }, { on := 1, ground := Ground.phase }, { on := 2, ground := Ground.phase }, { on := 3, ground := Ground.phase }, { on := 4, ground := Ground.phase }, { on := 5, ground := Ground.phase }, { on := 6, ground := Ground.phase }, { on := 7, ground := Ground.phase }, { on := 8, ground := Ground.phase }, { on := 9, ground := Ground.phase }, { on := 10, ground := Ground.phase }, { on := 11, ground := Ground.phase }, { on := 12, ground := Ground.phase }], guard := none }) (v := ?_) rfl (by kernel_rfl) (by kernel_rfl) (by kernel_rfl) (by assumption) ?_ ?_; rotate_left; focus (refine .inl ⟨by kernel_rfl, ?_⟩; intro w hSw; (try dsimp only at hSw); go_simp; (try with_reducible rfl)); (try simp only [Act.put, List.setIfInBounds_toArray, List.set_cons_zero, List.set_cons_succ]))
          (refine heldTake (i := 14) (oi := { dst := some 3, op := Op.assign (Operand.const (Value.int IntKind.i64 0)), type := 37, pos := "imports.go:53", after := #[{ on := 13, ground := Ground.chain }, { on := 0, ground := Ground.phase }, { on := 1, ground := Ground.phase }, { on := 2, ground := Ground.phase }, { on := 3, ground := Ground.phase }, { on := 4, ground := Ground.phase }, { on := 5, ground := Ground.phase }, { on := 6, ground := Ground.phase }, { on := 7, ground := Ground.phase }, { on := 8, ground := Ground.phase }, { on := 9, ground := Ground.phase }, { on := 10, ground := Ground.phase }, { on := 11, ground := Ground.phase }, { on := 12, ground := Ground.phase }, { on := 13, ground := Ground.phase }], guard := none }) (v := ?_) rfl (by kernel_rfl) (by kernel_rfl) (by kernel_rfl) (by assumption) ?_ ?_; rotate_left; focus (refine .inl ⟨by kernel_rfl, ?_⟩; intro w hSw; (try dsimp only at hSw); go_simp; (try with_reducible rfl)); (try simp only [Act.put, List.setIfInBounds_toArray, List.set_cons_zero, List.set_cons_succ]))
          refine wpAnyH_done (by kernel_rfl) ?_ _
          refine NoPanic.normal ?_
          have hLast := hHeld12
          clear hHeld12
          go_wp2
          go_ret2
          exact ⟨_, rfl, by rw [HSP.out]; exact HR12.out.mono hz12, hLast.1.2⟩
        · go_simp
          (go_at_call 71; (with_reducible refine (HD.out _).mono ?_); rintro e w10 ⟨v10, rfl, hr10, hb10⟩; obtain ⟨A10, c10, rfl, hp10⟩ := hr10.pc; have HB10 := Lib.hid hb10; have HP10 := Lib.hid hp10; clear hb10 hp10 hr10)
          refine hK.out _ _ (bx_on hHeld5 HB10.out) (fun hHeld10 => ?_)
          clear hK K hHeld5
          (try simp only [Act.put, List.setIfInBounds_toArray, List.set_cons_zero, List.set_cons_succ])
          refine wpAnyH_ready (rs := [8]) (by kernel_rfl) (by simp) ?_
          refine (AllReadyH.cons (o := { dst := some 18, op := Op.buildSlice 25 1 #[(0, Operand.tmp 17)], type := 25, pos := "imports.go:53", after := #[{ on := 7, ground := Ground.data }], guard := none }) rfl (fun K hK => ?_) AllReadyH.nil)
          refine step_build1 rfl _ rfl x.kind rfl ?_; intro g8 wa8 hg8 hb8 hp8; have HB8 := Lib.hid hb8; have HP8 := Lib.hid hp8; clear hb8 hp8
          refine hK.out _ _ (bx_on hHeld10 HB8.out) (fun hHeld8 => ?_)
          clear hK K hHeld10
          (try simp only [Act.put, List.setIfInBounds_toArray, List.set_cons_zero, List.set_cons_succ])
          refine wpAnyH_ready (rs := [11]) (by kernel_rfl) (by simp) ?_
          refine (AllReadyH.cons (o := { dst := some 21, op := Op.buildSlice 140 4 #[(0, Operand.tmp 12), (1, Operand.tmp 15), (2, Operand.tmp 18), (3, Operand.tmp 20)], type := 140, pos := "imports.go:53", after := #[{ on := 2, ground := Ground.data }, { on := 5, ground := Ground.data }, { on := 8, ground := Ground.data }, { on := 10, ground := Ground.data }], guard := none }) rfl (fun K hK => ?_) AllReadyH.nil)
          refine step_build4 rfl _ _ _ _ rfl rfl rfl rfl rfl ?_; intro g11 wa11 hg11 hb11 hw11; have HB11 := Lib.hid hb11; have HW11 := Lib.hid hw11; clear hb11 hw11
          refine hK.out _ _ (bx_on hHeld8 HB11.out) (fun hHeld11 => ?_)
          clear hK K hHeld8
          (try simp only [Act.put, List.setIfInBounds_toArray, List.set_cons_zero, List.set_cons_succ])
          refine wpAnyH_ready (rs := [12]) (by kernel_rfl) (by simp) ?_
          refine (AllReadyH.cons (o := { dst := some 22, op := Op.call { callee := Callee.value (Operand.func 58), args := #[Operand.tmp 21], argTypes := #[140] }, type := 25, pos := "imports.go:53", after := #[{ on := 11, ground := Ground.data }, { on := 10, ground := Ground.chain }], guard := none }) rfl (fun K hK => ?_) AllReadyH.nil)
          go_simp
          (go_at_call 58; (with_reducible refine (concat4 (l3 := [x.kind]) HW11.out (((((((((HP2.out).below HB5.out)).below HB10.out)).below HB8.out)).below HB11.out)) (((((((HP5.out).below HB10.out)).below HB8.out)).below HB11.out)) (((HP8.out).below HB11.out)) (((((HP10.out).below HB8.out)).below HB11.out)) HS.out.1 HS.out.2).mono ?_); rintro e w12 ⟨v12, rfl, hr12, hb12⟩; have hz12 := hHeld11.1.2.size; have HB12 := Lib.hid hb12; have HR12 := Lib.hid hr12; clear hb12 hr12)
          refine hK.out _ _ (bx_on hHeld11 HB12.out) (fun hHeld12 => ?_)
          clear hK K hHeld11
          (try simp only [Act.put, List.setIfInBounds_toArray, List.set_cons_zero, List.set_cons_succ])
          (refine heldTake (i := 13) (oi := { dst := some 2, op := Op.assign (Operand.tmp 22), type := 25, pos := "imports.go:53", after := #[{ on := 12, ground := Ground.data }, { on := 12, ground := Ground.chain }, { on := 0, ground := Ground.phase }, { on := 1, ground := Ground.phase }, { on := 2, ground := Ground.phase }, { on := 3, ground := Ground.phase }, { on := 4, ground := Ground.phase }, { on := 5, ground := Ground.phase }, { on := 6, ground := Ground.phase }, { on := 7, ground := Ground.phase }, { on := 8, ground := Ground.phase }, { on := 9, ground := Ground.phase }, { on := 10, ground := Ground.phase }, { on := 11, ground := Ground.phase }, { on := 12, ground := Ground.phase }], guard := none }) (v := ?_) rfl (by kernel_rfl) (by kernel_rfl) (by kernel_rfl) (by assumption) ?_ ?_; rotate_left; focus (refine .inl ⟨by kernel_rfl, ?_⟩; intro w hSw; (try dsimp only at hSw); go_simp; (try with_reducible rfl)); (try simp only [Act.put, List.setIfInBounds_toArray, List.set_cons_zero, List.set_cons_succ]))
          (refine heldTake (i := 14) (oi := { dst := some 3, op := Op.assign (Operand.const (Value.int IntKind.i64 0)), type := 37, pos := "imports.go:53", after := #[{ on := 13, ground := Ground.chain }, { on := 0, ground := Ground.phase }, { on := 1, ground := Ground.phase }, { on := 2, ground := Ground.phase }, { on := 3, ground := Ground.phase }, { on := 4, ground := Ground.phase }, { on := 5, ground := Ground.phase }, { on := 6, ground := Ground.phase }, { on := 7, ground := Ground.phase }, { on := 8, ground := Ground.phase }, { on := 9, ground := Ground.phase }, { on := 10, ground := Ground.phase }, { on := 11, ground := Ground.phase }, { on := 12, ground := Ground.phase }, { on := 13, ground := Ground.phase }], guard := none }) (v := ?_) rfl (by kernel_rfl) (by kernel_rfl) (by kernel_rfl) (by assumption) ?_ ?_; rotate_left; focus (refine .inl ⟨by kernel_rfl, ?_⟩; intro w hSw; (try dsimp only at hSw); go_simp; (try with_reducible rfl)); (try simp only [Act.put, List.setIfInBounds_toArray, List.set_cons_zero, List.set_cons_succ]))
          refine wpAnyH_done (by kernel_rfl) ?_ _
          refine NoPanic.normal ?_
          have hLast := hHeld12
          clear hHeld12
          go_wp2
          go_ret2
          exact ⟨_, rfl, by rw [HSP.out]; exact HR12.out.mono hz12, hLast.1.2⟩
      · refine step_build1 rfl _ rfl x.kind rfl ?_; intro g8 wa8 hg8 hb8 hp8; have HB8 := Lib.hid hb8; have HP8 := Lib.hid hp8; clear hb8 hp8
        refine hK.out _ _ (bx_on hHeld2 HB8.out) (fun hHeld8 => ?_)
        clear hK K hHeld2
        (try simp only [Act.put, List.setIfInBounds_toArray, List.set_cons_zero, List.set_cons_succ])
        refine wpAnyH_ready (rs := [5]) (by kernel_rfl) (by simp) ?_
        refine (AllReadyH.cons (o := { dst := some 15, op := Op.call { callee := Callee.value (Operand.func 57), args := #[Operand.tmp 14], argTypes := #[9] }, type := 25, pos := "imports.go:53", after := #[{ on := 4, ground := Ground.data }, { on := 2, ground := Ground.chain }], guard := none }) rfl (fun K hK => ?_) AllReadyH.nil)
        go_simp
        (go_at_call 57; (with_reducible refine (HN2.out _).mono ?_); rintro e w5 ⟨v5, rfl, hr5, hb5⟩; obtain ⟨A5, c5, rfl, hp5⟩ := hr5.pc; have HB5 := Lib.hid hb5; have HP5 := Lib.hid hp5; clear hb5 hp5 hr5)
        refine hK.out _ _ (bx_on hHeld8 HB5.out) (fun hHeld5 => ?_)
        clear hK K hHeld8
        (try simp only [Act.put, List.setIfInBounds_toArray, List.set_cons_zero, List.set_cons_succ])
        refine wpAnyH_ready (rs := [10]) (by kernel_rfl) (by simp) ?_
        refine (AllReadyH.cons (o := { dst := some 20, op := Op.call { callee := Callee.value (Operand.func 71), args := #[Operand.tmp 19], argTypes := #[49] }, type := 25, pos := "imports.go:53", after := #[{ on := 9, ground := Ground.data }, { on := 5, ground := Ground.chain }], guard := none }) rfl (fun K hK => ?_) AllReadyH.nil)
        go_simp
        (go_at_call 71; (with_reducible refine (HD.out _).mono ?_); rintro e w10 ⟨v10, rfl, hr10, hb10⟩; obtain ⟨A10, c10, rfl, hp10⟩ := hr10.pc; have HB10 := Lib.hid hb10; have HP10 := Lib.hid hp10; clear hb10 hp10 hr10)
        refine hK.out _ _ (bx_on hHeld5 HB10.out) (fun hHeld10 => ?_)
        clear hK K hHeld5
        (try simp only [Act.put, List.setIfInBounds_toArray, List.set_cons_zero, List.set_cons_succ])
        refine wpAnyH_ready (rs := [11]) (by kernel_rfl) (by simp) ?_
        refine (AllReadyH.cons (o := { dst := some 21, op := Op.buildSlice 140 4 #[(0, Operand.tmp 12), (1, Operand.tmp 15), (2, Operand.tmp 18), (3, Operand.tmp 20)], type := 140, pos := "imports.go:53", after := #[{ on := 2, ground := Ground.data }, { on := 5, ground := Ground.data }, { on := 8, ground := Ground.data }, { on := 10, ground := Ground.data }], guard := none }) rfl (fun K hK => ?_) AllReadyH.nil)
        refine step_build4 rfl _ _ _ _ rfl rfl rfl rfl rfl ?_; intro g11 wa11 hg11 hb11 hw11; have HB11 := Lib.hid hb11; have HW11 := Lib.hid hw11; clear hb11 hw11
        refine hK.out _ _ (bx_on hHeld10 HB11.out) (fun hHeld11 => ?_)
        clear hK K hHeld10
        (try simp only [Act.put, List.setIfInBounds_toArray, List.set_cons_zero, List.set_cons_succ])
        refine wpAnyH_ready (rs := [12]) (by kernel_rfl) (by simp) ?_
        refine (AllReadyH.cons (o := { dst := some 22, op := Op.call { callee := Callee.value (Operand.func 58), args := #[Operand.tmp 21], argTypes := #[140] }, type := 25, pos := "imports.go:53", after := #[{ on := 11, ground := Ground.data }, { on := 10, ground := Ground.chain }], guard := none }) rfl (fun K hK => ?_) AllReadyH.nil)
        go_simp
        (go_at_call 58; (with_reducible refine (concat4 (l3 := [x.kind]) HW11.out (((((((((HP2.out).below HB8.out)).below HB5.out)).below HB10.out)).below HB11.out)) (((((HP5.out).below HB10.out)).below HB11.out)) (((((((HP8.out).below HB5.out)).below HB10.out)).below HB11.out)) (((HP10.out).below HB11.out)) HS.out.1 HS.out.2).mono ?_); rintro e w12 ⟨v12, rfl, hr12, hb12⟩; have hz12 := hHeld11.1.2.size; have HB12 := Lib.hid hb12; have HR12 := Lib.hid hr12; clear hb12 hr12)
        refine hK.out _ _ (bx_on hHeld11 HB12.out) (fun hHeld12 => ?_)
        clear hK K hHeld11
        (try simp only [Act.put, List.setIfInBounds_toArray, List.set_cons_zero, List.set_cons_succ])
        (refine heldTake (i := 13) (oi := { dst := some 2, op := Op.assign (Operand.tmp 22), type := 25, pos := "imports.go:53", after := #[{ on := 12, ground := Ground.data }, { on := 12, ground := Ground.chain }, { on := 0, ground := Ground.phase }, { on := 1, ground := Ground.phase }, { on := 2, ground := Ground.phase }, { on := 3, ground := Ground.phase }, { on := 4, ground := Ground.phase }, { on := 5, ground := Ground.phase }, { on := 6, ground := Ground.phase }, { on := 7, ground := Ground.phase }, { on := 8, ground := Ground.phase }, { on := 9, ground := Ground.phase }, { on := 10, ground := Ground.phase }, { on := 11, ground := Ground.phase }, { on := 12, ground := Ground.phase }], guard := none }) (v := ?_) rfl (by kernel_rfl) (by kernel_rfl) (by kernel_rfl) (by assumption) ?_ ?_; rotate_left; focus (refine .inl ⟨by kernel_rfl, ?_⟩; intro w hSw; (try dsimp only at hSw); go_simp; (try with_reducible rfl)); (try simp only [Act.put, List.setIfInBounds_toArray, List.set_cons_zero, List.set_cons_succ]))
        (refine heldTake (i := 14) (oi := { dst := some 3, op := Op.assign (Operand.const (Value.int IntKind.i64 0)), type := 37, pos := "imports.go:53", after := #[{ on := 13, ground := Ground.chain }, { on := 0, ground := Ground.phase }, { on := 1, ground := Ground.phase }, { on := 2, ground := Ground.phase }, { on := 3, ground := Ground.phase }, { on := 4, ground := Ground.phase }, { on := 5, ground := Ground.phase }, { on := 6, ground := Ground.phase }, { on := 7, ground := Ground.phase }, { on := 8, ground := Ground.phase }, { on := 9, ground := Ground.phase }, { on := 10, ground := Ground.phase }, { on := 11, ground := Ground.phase }, { on := 12, ground := Ground.phase }, { on := 13, ground := Ground.phase }], guard := none }) (v := ?_) rfl (by kernel_rfl) (by kernel_rfl) (by kernel_rfl) (by assumption) ?_ ?_; rotate_left; focus (refine .inl ⟨by kernel_rfl, ?_⟩; intro w hSw; (try dsimp only at hSw); go_simp; (try with_reducible rfl)); (try simp only [Act.put, List.setIfInBounds_toArray, List.set_cons_zero, List.set_cons_succ]))
        refine wpAnyH_done (by kernel_rfl) ?_ _
        refine NoPanic.normal ?_
        have hLast := hHeld12
        clear hHeld12
        go_wp2
        go_ret2
        exact ⟨_, rfl, by rw [HSP.out]; exact HR12.out.mono hz12, hLast.1.2⟩
    · refine step_build1 rfl _ rfl x.kind rfl ?_; intro g8 wa8 hg8 hb8 hp8; have HB8 := Lib.hid hb8; have HP8 := Lib.hid hp8; clear hb8 hp8
      refine hK.out _ _ (bx_on hHeld HB8.out) (fun hHeld8 => ?_)
      clear hK K hHeld
      (try simp only [Act.put, List.setIfInBounds_toArray, List.set_cons_zero, List.set_cons_succ])
      refine wpAnyH_ready (rs := [2]) (by kernel_rfl) (by simp) ?_
      refine (AllReadyH.cons (o := { dst := some 12, op := Op.call { callee := Callee.value (Operand.func 57), args := #[Operand.tmp 11], argTypes := #[9] }, type := 25, pos := "imports.go:53", after := #[{ on := 1, ground := Ground.data }], guard := none }) rfl (fun K hK => ?_) AllReadyH.nil)
      go_simp
      (go_at_call 57; (with_reducible refine (HN1.out _).mono ?_); rintro e w2 ⟨v2, rfl, hr2, hb2⟩; obtain ⟨A2, c2, rfl, hp2⟩ := hr2.pc; have HB2 := Lib.hid hb2; have HP2 := Lib.hid hp2; clear hb2 hp2 hr2)
      refine hK.out _ _ (bx_on hHeld8 HB2.out) (fun hHeld2 => ?_)
      clear hK K hHeld8
      (try simp only [Act.put, List.setIfInBounds_toArray, List.set_cons_zero, List.set_cons_succ])
      refine wpAnyH_ready (rs := [5]) (by kernel_rfl) (by simp) ?_
      refine (AllReadyH.cons (o := { dst := some 15, op := Op.call { callee := Callee.value (Operand.func 57), args := #[Operand.tmp 14], argTypes := #[9] }, type := 25, pos := "imports.go:53", after := #[{ on := 4, ground := Ground.data }, { on := 2, ground := Ground.chain }], guard := none }) rfl (fun K hK => ?_) AllReadyH.nil)
      go_simp
      (go_at_call 57; (with_reducible refine (HN2.out _).mono ?_); rintro e w5 ⟨v5, rfl, hr5, hb5⟩; obtain ⟨A5, c5, rfl, hp5⟩ := hr5.pc; have HB5 := Lib.hid hb5; have HP5 := Lib.hid hp5; clear hb5 hp5 hr5)
      refine hK.out _ _ (bx_on hHeld2 HB5.out) (fun hHeld5 => ?_)
      clear hK K hHeld2
      (try simp only [Act.put, List.setIfInBounds_toArray, List.set_cons_zero, List.set_cons_succ])
      refine wpAnyH_ready (rs := [10]) (by kernel_rfl) (by simp) ?_
      refine (AllReadyH.cons (o := { dst := some 20, op := Op.call { callee := Callee.value (Operand.func 71), args := #[Operand.tmp 19], argTypes := #[49] }, type := 25, pos := "imports.go:53", after := #[{ on := 9, ground := Ground.data }, { on := 5, ground := Ground.chain }], guard := none }) rfl (fun K hK => ?_) AllReadyH.nil)
      go_simp
      (go_at_call 71; (with_reducible refine (HD.out _).mono ?_); rintro e w10 ⟨v10, rfl, hr10, hb10⟩; obtain ⟨A10, c10, rfl, hp10⟩ := hr10.pc; have HB10 := Lib.hid hb10; have HP10 := Lib.hid hp10; clear hb10 hp10 hr10)
      refine hK.out _ _ (bx_on hHeld5 HB10.out) (fun hHeld10 => ?_)
      clear hK K hHeld5
      (try simp only [Act.put, List.setIfInBounds_toArray, List.set_cons_zero, List.set_cons_succ])
      refine wpAnyH_ready (rs := [11]) (by kernel_rfl) (by simp) ?_
      refine (AllReadyH.cons (o := { dst := some 21, op := Op.buildSlice 140 4 #[(0, Operand.tmp 12), (1, Operand.tmp 15), (2, Operand.tmp 18), (3, Operand.tmp 20)], type := 140, pos := "imports.go:53", after := #[{ on := 2, ground := Ground.data }, { on := 5, ground := Ground.data }, { on := 8, ground := Ground.data }, { on := 10, ground := Ground.data }], guard := none }) rfl (fun K hK => ?_) AllReadyH.nil)
      refine step_build4 rfl _ _ _ _ rfl rfl rfl rfl rfl ?_; intro g11 wa11 hg11 hb11 hw11; have HB11 := Lib.hid hb11; have HW11 := Lib.hid hw11; clear hb11 hw11
      refine hK.out _ _ (bx_on hHeld10 HB11.out) (fun hHeld11 => ?_)
      clear hK K hHeld10
      (try simp only [Act.put, List.setIfInBounds_toArray, List.set_cons_zero, List.set_cons_succ])
      refine wpAnyH_ready (rs := [12]) (by kernel_rfl) (by simp) ?_
      refine (AllReadyH.cons (o := { dst := some 22, op := Op.call { callee := Callee.value (Operand.func 58), args := #[Operand.tmp 21], argTypes := #[140] }, type := 25, pos := "imports.go:53", after := #[{ on := 11, ground := Ground.data }, { on := 10, ground := Ground.chain }], guard := none }) rfl (fun K hK => ?_) AllReadyH.nil)
      go_simp
      (go_at_call 58; (with_reducible refine (concat4 (l3 := [x.kind]) HW11.out (((((((HP2.out).below HB5.out)).below HB10.out)).below HB11.out)) (((((HP5.out).below HB10.out)).below HB11.out)) (((((((((HP8.out).below HB2.out)).below HB5.out)).below HB10.out)).below HB11.out)) (((HP10.out).below HB11.out)) HS.out.1 HS.out.2).mono ?_); rintro e w12 ⟨v12, rfl, hr12, hb12⟩; have hz12 := hHeld11.1.2.size; have HB12 := Lib.hid hb12; have HR12 := Lib.hid hr12; clear hb12 hr12)
      refine hK.out _ _ (bx_on hHeld11 HB12.out) (fun hHeld12 => ?_)
      clear hK K hHeld11
      (try simp only [Act.put, List.setIfInBounds_toArray, List.set_cons_zero, List.set_cons_succ])
      (refine heldTake (i := 13) (oi := { dst := some 2, op := Op.assign (Operand.tmp 22), type := 25, pos := "imports.go:53", after := #[{ on := 12, ground := Ground.data }, { on := 12, ground := Ground.chain }, { on := 0, ground := Ground.phase }, { on := 1, ground := Ground.phase }, { on := 2, ground := Ground.phase }, { on := 3, ground := Ground.phase }, { on := 4, ground := Ground.phase }, { on := 5, ground := Ground.phase }, { on := 6, ground := Ground.phase }, { on := 7, ground := Ground.phase }, { on := 8, ground := Ground.phase }, { on := 9, ground := Ground.phase }, { on := 10, ground := Ground.phase }, { on := 11, ground := Ground.phase }, { on := 12, ground := Ground.phase }], guard := none }) (v := ?_) rfl (by kernel_rfl) (by kernel_rfl) (by kernel_rfl) (by assumption) ?_ ?_; rotate_left; focus (refine .inl ⟨by kernel_rfl, ?_⟩; intro w hSw; (try dsimp only at hSw); go_simp; (try with_reducible rfl)); (try simp only [Act.put, List.setIfInBounds_toArray, List.set_cons_zero, List.set_cons_succ]))
      (refine heldTake (i := 14) (oi := { dst := some 3, op := Op.assign (Operand.const (Value.int IntKind.i64 0)), type := 37, pos := "imports.go:53", after := #[{ on := 13, ground := Ground.chain }, { on := 0, ground := Ground.phase }, { on := 1, ground := Ground.phase }, { on := 2, ground := Ground.phase }, { on := 3, ground := Ground.phase }, { on := 4, ground := Ground.phase }, { on := 5, ground := Ground.phase }, { on := 6, ground := Ground.phase }, { on := 7, ground := Ground.phase }, { on := 8, ground := Ground.phase }, { on := 9, ground := Ground.phase }, { on := 10, ground := Ground.phase }, { on := 11, ground := Ground.phase }, { on := 12, ground := Ground.phase }, { on := 13, ground := Ground.phase }], guard := none }) (v := ?_) rfl (by kernel_rfl) (by kernel_rfl) (by kernel_rfl) (by assumption) ?_ ?_; rotate_left; focus (refine .inl ⟨by kernel_rfl, ?_⟩; intro w hSw; (try dsimp only at hSw); go_simp; (try with_reducible rfl)); (try simp only [Act.put, List.setIfInBounds_toArray, List.set_cons_zero, List.set_cons_succ]))
      refine wpAnyH_done (by kernel_rfl) ?_ _
      refine NoPanic.normal ?_
      have hLast := hHeld12
      clear hHeld12
      go_wp2
      go_ret2
      exact ⟨_, rfl, by rw [HSP.out]; exact HR12.out.mono hz12, hLast.1.2⟩
  · rw [if_neg h0]
    have d0 : (z != 0) = true := zb_of (by simpa using h0)
    clear h0 hz hT h1 h2
    go_enter Tryd.func20, Tryd.ntmps20
    go_wp2_with (go_at_call 21; go_must ((with_reducible refine HR.out.mono ?_); rintro e w1 ⟨rfl, hb⟩; have H1 := Lib.hid (bx_on H0.out hb); clear hb))
    go_ret2
    exact ⟨_, rfl, Row.nil _ _, bx_bel H1.out⟩
end Go.Proofs.YtanddfkhokcepaaDoor
