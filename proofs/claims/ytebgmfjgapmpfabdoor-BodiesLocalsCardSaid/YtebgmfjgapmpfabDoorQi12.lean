/- segment.Head, elems.Put. -/
import Derived.Test.YtebgmfjgapmpfabDoorQi10
import Derived.Test.YtebgmfjgapmpfabDoorQi11
import Derived.OwnWalk
import Derived.Deep.LoopGhost
import Derived.RegionTactic
import Derived.Test.YtebgmfjgapmpfabDoorQi03
import Derived.Test.YtebgmfjgapmpfabDoorQi04
import Derived.Test.YtebgmfjgapmpfabDoorQi02
import Derived.Test.YtebgmfjgapmpfabDoorQi01
namespace Go.Proofs.YtebgmfjgapmpfabDoor
open Go.RowKit
set_option linter.unusedVariables false
set_option maxRecDepth 100000

set_option maxHeartbeats 2000000 in
theorem head_ok (i : I) (A : Option Addr) (c : Nat) (w : World) (h : i.Ok) (hT : Tabs w) (h0 : crightZ i = 0) :
    Calls Tryd.prog 24 #[insV i A c] w fun e w' => ∃ v, e = .returned (.tuple #[v, .int .i64 0]) ∧ Row w' w.heap.size v (0 :: cputL i) ∧ Below w.heap.size w w' := by
  have HB := Lib.hid (BoxI.start w i A c)
  have hcl := cputL_len h h0
  have HP := Lib.hid (fun W (hb : Below w.heap.size w W) => show Calls Tryd.prog 44 #[insV i A c] W fun e w' => ∃ v, e = .returned (.tuple #[v, .int .i64 0]) ∧ Row w' W.heap.size v (cputL i) ∧ Below W.heap.size W w' from
    (cput2_any i A c W h (hT.below hb) h0).mono fun e w' ⟨v, h1, h2, h3⟩ => ⟨v, by rw [h0] at h1; exact h1, by rw [if_pos h0] at h2; exact h2, h3⟩)
  obtain ⟨y, hy⟩ : ∃ y, y = cputL i := ⟨_, rfl⟩
  rw [← hy] at hcl HP ⊢
  have HCC := Lib.hid (fun (W : World) (A2 : Option Addr) (k2 : Nat) (hl : Lies W W.heap.size A2 (cells (nums y))) (hA : A2 = none → k2 = 0) => show Calls Tryd.prog 45 #[.slice (some ⟨W.heap.size + 1, 0, none⟩) 2 2] ((W.alloc (.cells #[.int .u8 0] 5)).alloc (.cells #[.slice (some ⟨W.heap.size, 0, none⟩) 1 1, .slice A2 y.length k2] 41)) (BytesL (0 :: y) ((W.alloc (.cells #[.int .u8 0] 5)).alloc (.cells #[.slice (some ⟨W.heap.size, 0, none⟩) 1 1, .slice A2 y.length k2] 41))) from
    cat2 (op := 0) (g1 := W.heap.size) (W := W.alloc (.cells #[.int .u8 0] 5)) (size_box _ _) (Whole.made W 5 #[.int .u8 0]) (lies_box hl _) hA (by omega))
  clear h hT h0 hy hcl
  go_enter Tryd.func24, Tryd.ntmps24
  go_wp2_with (first
    | (go_at_call 44; go_must ((with_reducible refine (HP.out _ HB.out.bel).mono ?_); intro e w2 hq; obtain ⟨v, rfl, hr, hb⟩ := hq; obtain ⟨A2, k2, rfl, hl2, hA2, _⟩ := hr.liesN; have HL2 := Lib.hid hl2; have HA2 := Lib.hid hA2; have HB2 := Lib.hid (HB.out.on hb); clear hl2 hA2 hr hb))
    | (go_at_call 45; go_must ((with_reducible refine (HCC.out w2 A2 k2 HL2.out HA2.out).mono ?_); intro e w4 hq; obtain ⟨v4, rfl, hr4, hb4⟩ := hq; have HR4 := Lib.hid hr4; have HB4 := Lib.hid ((((below_box w2 (.cells #[.int .u8 0] 5)).alloc (below_box w2 _).size (.cells #[.slice (some ⟨w2.heap.size, 0, none⟩) 1 1, .slice A2 y.length k2] 41))).trans (hb4.mono (by simp; omega))); clear hr4 hb4)))
  go_ret2
  have hz := HB2.out.bel.size
  exact ⟨_, rfl, HR4.out.mono (by simp; omega), HB2.out.bel.trans (HB4.out.mono hz)⟩
/-- Its bytes. -/
noncomputable def eputL (x : El) : List UInt8 := (0 :: cputL x.i) ++ labL x.fs
theorem eputL_len {x : El} (h : x.i.Ok) (h0 : crightZ x.i = 0) (hc : ∀ c ∈ x.fs, 0 ≤ c ∧ c ≤ 4294967295) (hn : x.fs.length ≤ 100) : 3 ≤ (eputL x).length ∧ (eputL x).length ≤ 1043 := by
  have h1 := cputL_len h h0
  have h2 := lebL_len (x.fs.length : Int) (by omega)
  have h3 := labsL_len x.fs hc
  unfold eputL labL
  rw [List.length_append, List.length_append, List.length_cons]
  omega
/-- What Put hands back. -/
def PuttedEl (x : El) (w : World) (e : Ending) (w' : World) : Prop := ∃ v, e = .returned (.tuple #[v, .int .i64 (crightZ x.i)]) ∧ Row w' w.heap.size v (if crightZ x.i = 0 then eputL x else []) ∧ Below w.heap.size w w'
end Go.Proofs.YtebgmfjgapmpfabDoor

/- wire.Sized of a string, datas.Put. -/
namespace Go.Proofs.YtebgmfjgapmpfabDoor
open Go.RowKit
set_option linter.unusedVariables false
set_option maxRecDepth 100000

/-- How many bytes there are, and these. -/
noncomputable def szL (s : List UInt8) : List UInt8 := lebL s.length ++ s
theorem szL_len {s : List UInt8} {n : Nat} (h : s.length ≤ n) (hn : n ≤ 100000) : 1 ≤ (szL s).length ∧ (szL s).length ≤ n + 10 := by
  have := lebL_len (s.length : Int) (by omega)
  unfold szL
  rw [List.length_append]
  omega
theorem sizedS_w (s : List UInt8) (w : World) (hs : s.length ≤ 100000) : Calls Tryd.prog 25 #[.string (S s)] w (BytesL (szL s) w) := by
  have HZ := Lib.hid (fun w => size_w s.length w (by omega))
  have hlen := lebL_len (s.length : Int) (by omega)
  have hsz := S_size s
  unfold szL
  generalize lebL (s.length : Int) = y at *
  go_enter Tryd.func25, Tryd.ntmps25
  go_wp2_with (first
    | (go_at_call 46; go_must ((with_reducible refine (HZ.out _).mono ?_); intro e w1 h; obtain ⟨v, rfl, hr, hb⟩ := h; have HR := Lib.hid hr; have HB := Lib.hid hb; have hz1 := hb.size; clear hr hb))
    | (at_builtin; (refine row_str rfl _ _ rfl w.heap.size _ y rfl HR.out s rfl (by omega) hz1 ?_; intro v2 w2 hr2 hb2; have HR2 := Lib.hid hr2; have HB2 := Lib.hid hb2; clear hr2 hb2)))
  go_ret
  exact ⟨_, rfl, HR2.out, HB.out.trans HB2.out⟩
/-- Its bytes. -/
noncomputable def dputL (x : Da) : List UInt8 := (0 :: cputL x.i) ++ szL x.bs
theorem dputL_len {x : Da} (h : x.i.Ok) (h0 : crightZ x.i = 0) (hn : x.bs.length ≤ 200) : 3 ≤ (dputL x).length ∧ (dputL x).length ≤ 243 := by
  have h1 := cputL_len h h0
  have h2 := szL_len hn (by omega)
  unfold dputL
  rw [List.length_append, List.length_cons]
  omega
/-- What Put hands back. -/
def PuttedDa (x : Da) (w : World) (e : Ending) (w' : World) : Prop := ∃ v, e = .returned (.tuple #[v, .int .i64 (crightZ x.i)]) ∧ Row w' w.heap.size v (if crightZ x.i = 0 then dputL x else []) ∧ Below w.heap.size w w'
set_option maxHeartbeats 8000000 in
theorem put_da (x : Da) (A : Option Addr) (c : Nat) (w : World) (oi : x.i.Ok) (hT : Tabs w) (hl : (x.i.l.length : Int) ≤ 9223372036854775807) (hn : x.bs.length ≤ 200) :
    Calls Tryd.prog 12 #[daV x A c] w (PuttedDa x w) := by
  have H0 := Lib.hid (bxDa_start w x A c)
  have HR := Lib.hid (daright_any x A c _ oi (hT.below (below_box w (.cells (daC x A c) 39))) hl (by omega))
  unfold PuttedDa
  by_cases h0 : crightZ x.i = 0
  · rw [if_pos h0]
    have hel := dputL_len oi h0 hn
    have hsp : dputL x = (0 :: cputL x.i) ++ szL x.bs := rfl
    have HH := Lib.hid (fun W (hb : Below w.heap.size w W) => head_ok x.i A c W oi (hT.below hb) h0)
    have HI := Lib.hid (fun W => sizedS_w x.bs W (by omega))
    rw [h0] at HR ⊢
    rw [hsp] at hel ⊢
    rw [List.length_append] at hel
    obtain ⟨g, hg⟩ : ∃ g, g = 0 :: cputL x.i := ⟨_, rfl⟩
    obtain ⟨y, hy⟩ : ∃ y, y = szL x.bs := ⟨_, rfl⟩
    rw [← hg] at HH hel ⊢
    rw [← hy] at HI hel ⊢
    have hgy : g.length + y.length ≤ 1000000 := by omega
    clear hsp hT h0 oi hl hg hy hn
    go_enter Tryd.func12, Tryd.ntmps12
    go_wp2_with (first
      | (go_at_call 13; go_must ((with_reducible refine HR.out.mono ?_); rintro e w1 ⟨rfl, hb⟩; have H1 := Lib.hid (bxDa_on H0.out hb); obtain ⟨c0, c1, c2, c3, c4⟩ := H1.out.2; clear hb))
      | (go_at_call 24; go_must ((with_reducible refine (HH.out _ (bxDa_bel H1.out)).mono ?_); intro e w2 hq; obtain ⟨v2, rfl, hr, hb⟩ := hq; clear c0 c1 c2 c3 c4; have HR2 := Lib.hid hr; have H2 := Lib.hid (bxDa_on H1.out hb); have hz2 := hb.size; obtain ⟨c0, c1, c2, c3, c4⟩ := H2.out.2; clear hb hr))
      | (go_at_call 25; go_must ((with_reducible refine (HI.out _).mono ?_); intro e w3 hq; obtain ⟨v3, rfl, hr, hb⟩ := hq; obtain ⟨A3, cp3, rfl, hpc⟩ := hr.pc; have H3 := Lib.hid (bxDa_on H2.out hb); have HP3 := Lib.hid hpc; have HR3 := Lib.hid (HR2.out.later hb); have hz3 := hb.size; clear hb hr hpc c0 c1 c2 c3 c4))
      | (at_builtin; (refine row_any rfl _ _ rfl w1.heap.size _ g rfl HR3.out A3 y.length cp3 _ y rfl rfl HP3.out.lies HP3.out.nil hgy (Nat.le_trans hz2 hz3) ?_; intro v4 w4 hr4 hb4; have HR4 := Lib.hid hr4; have HB4 := Lib.hid hb4; clear hr4 hb4)))
    go_ret2
    exact ⟨_, rfl, HR4.out.mono (bxDa_bel H1.out).size, (bxDa_bel H3.out).trans (HB4.out.mono (bxDa_bel H1.out).size)⟩
  · rw [if_neg h0]
    have d0 : (crightZ x.i != 0) = true := zb_of (by simpa using h0)
    obtain ⟨z, hz⟩ : ∃ z, z = crightZ x.i := ⟨_, rfl⟩
    rw [← hz] at HR d0 ⊢
    clear h0 hz hT oi hl hn
    go_enter Tryd.func12, Tryd.ntmps12
    go_wp2_with (go_at_call 13; go_must ((with_reducible refine HR.out.mono ?_); rintro e w1 ⟨rfl, hb⟩; have H1 := Lib.hid (bxDa_on H0.out hb); clear hb))
    go_ret2
    exact ⟨_, rfl, Row.nil _ _, bxDa_bel H1.out⟩
end Go.Proofs.YtebgmfjgapmpfabDoor

/- Globals that lie somewhere; rows of segments of the call's own. -/
namespace Go.Proofs.YtebgmfjgapmpfabDoor
open Go.RowKit
set_option linter.unusedVariables false
set_option maxRecDepth 100000

/-- A global and where its labels lie. -/
abbrev SlotDa := Da × Option Addr × Nat
abbrev hC (x : SlotDa) : Array Value := daC x.1 x.2.1 x.2.2
abbrev hV (x : SlotDa) : Value := .agg (hC x)
def hL9 (x : SlotDa) : List Value := (hC x).toList
theorem infoDa : (Tryd.prog.info? 39).map (fun i => (i.zero, i.size, i.bytes)) = some (some (.agg daZ), 5, 64) := by kernel_rfl
/-- A row of segments of the call's own. -/
def RowDa (W : World) (base : Nat) (v : Value) (rows : List SlotDa) : Prop := W.ownsRow base 39 5 v rows.length (rows.flatMap hL9)
theorem RowDa.nil (W : World) (base : Nat) : RowDa W base (.slice none 0 0) [] := World.ownsRow_nil W base _ 5
theorem RowDa.slice {W : World} {base : Nat} {v : Value} {rows : List SlotDa} (h : RowDa W base v rows) : ∃ A c, v = .slice A rows.length c := by
  rcases h.2 with ⟨rfl, h0⟩ | ⟨g, cap, cur, rfl, _⟩
  · exact ⟨none, 0, by rw [h0]⟩
  · exact ⟨_, cap, rfl⟩
theorem RowDa.past {W W' : World} {base b : Nat} {v : Value} {rows : List SlotDa} (h : RowDa W base v rows) (hg : W.grownBy W' (some b)) (hb : b < base) : RowDa W' base v rows :=
  World.ownsRow.kept h hg (by
    cases hv : v.ownBlock with
    | none => exact .inl rfl
    | some k => exact .inr (by have := (World.ownsRow.lt h k hv).1; simp only [ne_eq, Option.some.injEq]; omega))
theorem RowDa.later {W W' : World} {base : Nat} {v : Value} {rows : List SlotDa} (h : RowDa W base v rows) (hb : Below W.heap.size W W') : RowDa W' base v rows :=
  World.ownsRow.kept h (gb_of_below none hb) (by cases v.ownBlock with
    | none => exact .inl rfl
    | some k => exact .inr (by simp))
theorem RowDa.alloc {W : World} {base : Nat} {v : Value} {rows : List SlotDa} (h : RowDa W base v rows) (o : Obj) : RowDa (W.alloc o) base v rows := World.ownsRow.alloc h o
theorem RowDa.mono {W : World} {base base' : Nat} {v : Value} {rows : List SlotDa} (h : RowDa W base v rows) (hb : base' ≤ base) : RowDa W base' v rows := by
  obtain ⟨h1, h2⟩ := h
  refine ⟨h1, ?_⟩
  rcases h2 with h2 | ⟨g, cap, cur, e, hg, r⟩
  · exact .inl h2
  · exact .inr ⟨g, cap, cur, e, Nat.le_trans hb hg, r⟩
/-- Nothing old has turned, and nothing of the row's own is lost. -/
theorem RowDa.below {w W W' : World} {base : Nat} {v : Value} {rows : List SlotDa} (h : RowDa W base v rows) (hB : base ≤ W.heap.size) (hg : W.grownBy W' v.ownBlock) : Below base W W' :=
  Below.grown (Below.refl _ _) hg hB (fun k hk => (World.ownsRow.lt h k hk).1)

/-- The slice at A reads as these datas. -/
def Das (w : World) (A : Option Addr) (l : List SlotDa) : Prop :=
  ∀ j x, l[j]? = some x → ∃ b off, A = some ⟨b, off, none⟩ ∧ b < w.heap.size ∧ ∀ u, u < 5 → w.cell? ⟨b, off + j * 5 + u, none⟩ = (hL9 x)[u]?
theorem Das.below {w w' : World} {A : Option Addr} {l : List SlotDa} (h : Das w A l) (hb : Below w.heap.size w w') : Das w' A l := fun j x hx => by
  obtain ⟨b, off, e, h1, h2⟩ := h j x hx
  exact ⟨b, off, e, Nat.lt_of_lt_of_le h1 hb.size, fun u hu => (hb.cell (p := ⟨b, _, none⟩) h1).trans (h2 u hu)⟩
/-- The five cells of one of them, as a walk writes them. -/
abbrev FiveDAt (w : World) (b : Nat) (o : Nat) (x : SlotDa) : Prop := w.cell? ⟨b, o, none⟩ = some (.int .u8 x.1.i.op.toNat) ∧ w.cell? ⟨b, o + 1, none⟩ = some (.int .u64 x.1.i.a) ∧ w.cell? ⟨b, o + 2, none⟩ = some (.int .u64 x.1.i.b) ∧ w.cell? ⟨b, o + 3, none⟩ = some (.slice x.2.1 x.1.i.l.length x.2.2) ∧ w.cell? ⟨b, o + 4, none⟩ = some (.string (S x.1.bs))
theorem Das.five {w : World} {A : Option Addr} {l : List SlotDa} (h : Das w A l) {k : Nat} {x : SlotDa} (hx : l[k]? = some x) : ∃ b off, A = some ⟨b, off, none⟩ ∧ b < w.heap.size ∧ FiveDAt w b (off + k * 5) x := by
  obtain ⟨b, off, e, h1, h2⟩ := h k x hx
  exact ⟨b, off, e, h1, h2 0 (by omega), h2 1 (by omega), h2 2 (by omega), h2 3 (by omega), h2 4 (by omega)⟩
theorem flatDa_get : ∀ (l : List SlotDa) (j : Nat) (x : SlotDa) (u : Nat), l[j]? = some x → u < 5 → (l.flatMap hL9)[j * 5 + u]? = (hL9 x)[u]?
  | [], j, x, u, h, _ => by cases h
  | y :: l, 0, x, u, h, hu => by
    injection h with h
    subst h
    rw [List.flatMap_cons, Nat.zero_mul, Nat.zero_add, List.getElem?_append_left (by show u < 5; exact hu)]
  | y :: l, j + 1, x, u, h, hu => by
    rw [List.flatMap_cons, List.getElem?_append_right (by show 5 ≤ _; omega)]
    have e : (j + 1) * 5 + u - (hL9 y).length = j * 5 + u := by show (j + 1) * 5 + u - 5 = _; omega
    rw [e]
    exact flatDa_get l j x u h hu
/-- What a row of segments reads as. -/
theorem RowDa.das {W : World} {base : Nat} {A : Option Addr} {n c : Nat} {rows : List SlotDa} (h : RowDa W base (.slice A n c) rows) : Das W A rows := fun j x hx => by
  have hj := (List.getElem?_eq_some_iff.1 hx).1
  rcases h.2 with ⟨_, h0⟩ | ⟨g, cap, cur, e, _, hg, _, _, _, ht⟩
  · omega
  · injection e with e1 e2 e3
    exact ⟨g, 0, e1, (Array.getElem?_eq_some_iff.1 hg).1, fun u hu => by
      rw [cell_of_row W g (0 + j * 5 + u) cur _ _ hg, ← flatDa_get rows j x u hx hu, ← ht, List.getElem?_take, if_pos (by omega)]
      simp⟩
end Go.Proofs.YtebgmfjgapmpfabDoor

/- datas.PutAll. -/
namespace Go.Proofs.YtebgmfjgapmpfabDoor
open Go.RowKit
set_option linter.unusedVariables false
set_option maxRecDepth 100000

/-- May it be? Its bytes. -/
def rDa (x : SlotDa) : Int := crightZ x.1.i
noncomputable def hputL (x : SlotDa) : List UInt8 := dputL x.1
def PuttedH (x : SlotDa) (w : World) (e : Ending) (w' : World) : Prop := ∃ v, e = .returned (.tuple #[v, .int .i64 (rDa x)]) ∧ Row w' w.heap.size v (if rDa x = 0 then hputL x else []) ∧ Below w.heap.size w w'
/-- The numbers are what their kinds hold; the bytes are no more than two hundred. -/
def OkDs (x : SlotDa) : Prop := x.1.i.Ok ∧ (x.1.i.l.length : Int) ≤ 9223372036854775807 ∧ x.1.bs.length ≤ 200
def OkDa (l : List SlotDa) : Prop := ∀ x ∈ l, OkDs x
theorem put_h (x : SlotDa) (w : World) (hT : Tabs w) (h : OkDs x) : Calls Tryd.prog 12 #[hV x] w (PuttedH x w) := put_da x.1 x.2.1 x.2.2 w h.1 hT h.2.1 h.2.2
theorem hputL_len {x : SlotDa} (h : OkDs x) (h0 : rDa x = 0) : 3 ≤ (hputL x).length ∧ (hputL x).length ≤ 243 := dputL_len h.1 h0 h.2.2
/-- The first error. -/
def errDa : List SlotDa → Int
  | [] => 0
  | x :: r => if rDa x ≠ 0 then rDa x else errDa r
theorem errDa_app : ∀ a b : List SlotDa, errDa (a ++ b) = if errDa a ≠ 0 then errDa a else errDa b
  | [], b => by simp [errDa]
  | x :: a, b => by
    simp only [List.cons_append, errDa]
    by_cases h : rDa x = 0
    · simp only [h, ne_eq, not_true_eq_false, if_false, errDa_app a b]
    · simp [h]
theorem errDa_snoc {l : List SlotDa} {k : Nat} {x : SlotDa} (h : l[k]? = some x) : errDa (l.take (k + 1)) = if errDa (l.take k) ≠ 0 then errDa (l.take k) else rDa x := by
  rw [List.take_add_one, h]
  show errDa (l.take k ++ [x]) = _
  rw [errDa_app]
  by_cases e : rDa x = 0 <;> simp [errDa, e]
theorem errDa_bad {l : List SlotDa} {k : Nat} (h : errDa (l.take k) ≠ 0) : errDa l = errDa (l.take k) := by
  conv => lhs; rw [← List.take_append_drop k l]
  rw [errDa_app, if_pos h]
theorem errDa_mem : ∀ {l : List SlotDa}, errDa l = 0 → ∀ x ∈ l, rDa x = 0
  | [], _, x, hx => by cases hx
  | y :: l, h, x, hx => by
    simp only [errDa] at h
    by_cases e : rDa y = 0
    · simp only [e, ne_eq, not_true_eq_false, if_false] at h
      rcases List.mem_cons.1 hx with rfl | hx
      · exact e
      · exact errDa_mem h x hx
    · simp [e] at h
/-- Many segments' bytes. -/
noncomputable def dputsL (l : List SlotDa) : List UInt8 := l.flatMap hputL
theorem dputsL_snoc {l : List SlotDa} {k : Nat} {x : SlotDa} (h : l[k]? = some x) : dputsL (l.take (k + 1)) = dputsL (l.take k) ++ hputL x := by
  unfold dputsL
  rw [List.take_add_one, h, List.flatMap_append]
  simp
theorem dputsL_len : ∀ {l : List SlotDa}, OkDa l → errDa l = 0 → (dputsL l).length ≤ l.length * 243
  | [], _, _ => by simp [dputsL]
  | x :: r, h, h0 => by
    have h4 := errDa_mem h0 x (by simp)
    have h5 : errDa r = 0 := by simpa [errDa, h4] using h0
    have h1 := dputsL_len (l := r) (fun y hy => h y (List.mem_cons_of_mem _ hy)) h5
    have h2 := h x (by simp)
    have h3 := (hputL_len h2 h4).2
    unfold dputsL at h1 ⊢
    rw [List.flatMap_cons, List.length_append, List.length_cons]
    omega
noncomputable def allDa (l : List SlotDa) : List UInt8 := lebL l.length ++ dputsL l
/-- What PutAll hands back. -/
def PuttedAllDa (l : List SlotDa) (w : World) (e : Ending) (w' : World) : Prop := ∃ v, e = .returned (.tuple #[v, .int .i64 (errDa l)]) ∧ Row w' w.heap.size v (if errDa l = 0 then allDa l else []) ∧ Below w.heap.size w w'
theorem cfDaP (a : Array Value) (w : World) : (callFunc 12 a).run Tryd.prog w = .ok (.enter 12 a) w := by kernel_rfl
end Go.Proofs.YtebgmfjgapmpfabDoor

/- datas.GetAll of any bytes; the laws' closures. -/
namespace Go.Proofs.YtebgmfjgapmpfabDoor
open Go.RowKit
set_option linter.unusedVariables false
set_option maxRecDepth 100000

/-- Globals, one behind the other, behind those that are read. -/
noncomputable def dasK (l : List UInt8) : Nat → Nat → List Da → Res (List Da)
  | 0, q, acc => .ok acc q
  | n + 1, q, acc => (daR l q).bind fun x q2 => dasK l n q2 (acc ++ [x])
theorem dasK_more {l : List UInt8} {n j q : Nat} {acc : List Da} (h : j < n) : dasK l (n - j) q acc = (daR l q).bind fun x q2 => dasK l (n - (j + 1)) q2 (acc ++ [x]) := by
  rw [show n - j = n - (j + 1) + 1 by omega]; rfl
/-- A list, and its end. -/
noncomputable def dasR (l : List UInt8) (k : Nat) : Res (List Da) := (countR l k).bind fun n k1 => (dasK l n.toNat k1 []).bind fun xs k2 => if k2 < l.length then .err 14 k2 else .ok xs k2
/-- Without its end. -/
noncomputable def itDaR (l : List UInt8) (k : Nat) : Res (List Da) := (countR l k).bind fun n k1 => dasK l n.toNat k1 []
theorem itDaR_end (l : List UInt8) (k : Nat) : dasR l k = (itDaR l k).bind fun xs k2 => if k2 < l.length then .err 14 k2 else .ok xs k2 := by
  unfold dasR itDaR
  cases countR l k with
  | err c a => rw [Res.bind_err, Res.bind_err, Res.bind_err]
  | ok n k1 => rw [Res.bind_ok, Res.bind_ok]
/-- What holds at the head of GetAll's loop. -/
structure AInDa (w : World) (p : Nat) (l : List UInt8) (k : Nat) (xs : List SlotDa) (v : Value) (W : World) : Prop where
  sc : Sc W p l k
  g : w.grownBy W (some p)
  r : RowDa W w.heap.size v xs
  tb : TbP p W
section
variable {w W W' : World} {p : Nat} {l : List UInt8} {k k' : Nat} {xs : List SlotDa} {x : SlotDa} {v v' : Value}
theorem AInDa.step (h : AInDa w p l k xs v W) (hp : p < w.heap.size) (hg : W.grownBy W' (some p)) (hs : Sc W' p l k') : AInDa w p l k' xs v W' :=
  ⟨hs, gb_trans h.g hg, h.r.past hg hp, h.tb.self hg⟩
theorem AInDa.alloc (h : AInDa w p l k xs v W) (hp : p < w.heap.size) (o : Obj) : AInDa w p l k xs v (W.alloc o) := h.step hp (gb_alloc (gb_refl _ _) o) (h.sc.alloc o)
theorem AInDa.more (h : AInDa w p l k xs v W) (hp : p < w.heap.size) (hg : W.grownBy W' v.ownBlock) (hr : RowDa W' w.heap.size v' (xs ++ [x])) : AInDa w p l k (xs ++ [x]) v' W' := by
  have hlt := World.ownsRow.lt h.r
  exact ⟨h.sc.grown hg (fun e => by have := hlt p e.symm; omega) (fun g e => by have := hlt g e; omega), gb_before h.g hg (fun g e => .inr (hlt g e).1), hr, h.tb.grown hg (fun g e => by have := hlt g e; omega)⟩
end
/-- The list that was read. -/
def GotAllDa (p : Nat) (l : List UInt8) (r : Res (List Da)) (w : World) (e : Ending) (w' : World) : Prop := match r with
  | .ok xs k => ∃ v rows, e = .returned v ∧ RowDa w' w.heap.size v rows ∧ rows.map (·.1) = xs ∧ Sc w' p l k ∧ w.grownBy w' (some p)
  | .err c a => e = .panicked (stopP c a) ∧ w.grownBy w' (some p)
theorem cfDaG (a : Array Value) (w : World) : (callFunc 17 a).run Tryd.prog w = .ok (.enter 17 a) w := by kernel_rfl
end Go.Proofs.YtebgmfjgapmpfabDoor

/- The walk of ConstsPuts. -/
namespace Go.Proofs.YtebgmfjgapmpfabDoor
open Go.RowKit
set_option linter.unusedVariables false
set_option maxRecDepth 100000

/-- What the laws keep of an instruction: its box, its labels; the tables. -/
structure CSt (w : World) (i : I) (A : Option Addr) (c : Nat) (W : World) : Prop where
  tb : Tabs W
  box : BoxI w W i A c
  li : LiesL W A i.l
section
variable {w W W' : World} {i : I} {A : Option Addr} {c : Nat} {v : Value} {xs : List UInt8}
theorem CSt.on (h : CSt w i A c W) (hb : Below W.heap.size W W') : CSt w i A c W' := ⟨h.tb.below hb, h.box.on hb, h.li.below hb⟩
theorem CSt.start (hT : Tabs w) (hi : LiesL w A i.l) : CSt w i A c (w.alloc (.cells (insC i A c) 37)) :=
  ⟨hT.below (below_box _ _), BoxI.start w i A c, hi.below (below_box _ _)⟩
theorem CSt.bel (h : CSt w i A c W) : Below w.heap.size w W := h.box.2
/-- .. and bytes that were made. -/
structure CLb (w : World) (i : I) (A : Option Addr) (c : Nat) (v : Value) (xs : List UInt8) (W : World) : Prop where
  a : CSt w i A c W
  r : Row W w.heap.size v xs
theorem CLb.on (h : CLb w i A c v xs W) (hb : Below W.heap.size W W') : CLb w i A c v xs W' := ⟨h.a.on hb, h.r.later hb⟩
abbrev Five (w : World) (i : I) (A : Option Addr) (c : Nat) (Ab : Option Addr) (cb : Nat) (xs : List UInt8) (W : World) : Prop :=
  (W.cell? ⟨w.heap.size, 0, none⟩ = some (.int .u8 i.op.toNat) ∧ W.cell? ⟨w.heap.size, 1, none⟩ = some (.int .u64 i.a) ∧ W.cell? ⟨w.heap.size, 2, none⟩ = some (.int .u64 i.b) ∧ W.cell? ⟨w.heap.size, 3, none⟩ = some (.slice A i.l.length c)) ∧
  (convert 41 9 (.slice Ab xs.length cb)).run Tryd.prog W = .ok (.string (S xs)) W
theorem CLb.five {Ab : Option Addr} {cb : Nat} (h : CLb w i A c (.slice Ab xs.length cb) xs W) : CLb w i A c (.slice Ab xs.length cb) xs W ∧ Five w i A c Ab cb xs W := by
  obtain ⟨A', c', e, hc⟩ := h.r.str
  injection e with e1 e2 e3
  subst e1; subst e3
  exact ⟨h, ⟨h.a.box.c0, h.a.box.c1, h.a.box.c2, h.a.box.c3⟩, hc 9 Tryd.underlying9⟩
end
theorem same_self (i : I) : sameZ i i = true := by unfold sameZ; simp
theorem gIns_same (n : Int) (w : World) : Calls Tryd.prog 35 #[.agg #[.int .u8 35, .int .u64 n, .int .u64 0, .slice none 0 0], .agg #[.int .u8 35, .int .u64 n, .int .u64 0, .slice none 0 0]] w (BoolPost true w) := by
  have := refSame_any (w := w) (A := none) (B := none) (c := 0) (d := 0) (i := gIns n) (k := gIns n) (fun j v hv => by simp [cells32] at hv) (fun j v hv => by simp [cells32] at hv) (by simp) (by simp)
  rw [same_self] at this
  exact this

end Go.Proofs.YtebgmfjgapmpfabDoor

/- creelref15.GetAll of any bytes; creelref15.Same. -/
namespace Go.Proofs.YtebgmfjgapmpfabDoor
open Go.RowKit
set_option linter.unusedVariables false
set_option maxRecDepth 100000

section
variable {w W W' : World} {q : Nat} {l : List UInt8} {s s' : RSt} {xs : List SlotDa} {x : SlotDa} {v v' : Value}
end
/-- How far the list is. -/
def DaInv (l : List UInt8) (n j : Nat) (s : RSt) (rows : List SlotDa) (R : Res (List Da)) : Prop := match s with
  | .at k => dasK l (n - j) k (rows.map (·.1)) = R
  | .bad c a => R = .err c a
theorem DaInv.step {l : List UInt8} {n j k : Nat} {rows : List SlotDa} {R : Res (List Da)} (h : DaInv l n j (.at k) rows R) (hlt : j < n) {x : Da} {A : Option Addr} {c : Nat} (hv : ∀ y k2, daR l k = .ok y k2 → x = y) :
    DaInv l n (j + 1) (stOf (daR l k)) (rows ++ [(x, A, c)]) R := by
  have h1 : dasK l (n - j) k (rows.map (·.1)) = R := h
  rw [dasK_more hlt] at h1
  cases hg : daR l k with
  | err c a =>
    rw [hg, Res.bind_err] at h1
    exact h1.symm
  | ok y k2 =>
    rw [hg, Res.bind_ok] at h1
    obtain rfl := hv y k2 hg
    show dasK l (n - (j + 1)) k2 ((rows ++ [(x, A, c)]).map (·.1)) = R
    rw [List.map_append]
    exact h1
end Go.Proofs.YtebgmfjgapmpfabDoor

/- abort.Value of a function that ends well, whatever it hands back: []api.Data. Value of one that aborts. -/
namespace Go.Proofs.YtebgmfjgapmpfabDoor
open Go.RowKit
set_option linter.unusedVariables false
set_option maxRecDepth 100000

section
variable {T : (Option Addr × Nat × Nat) → World → Prop}
end
end Go.Proofs.YtebgmfjgapmpfabDoor

/- abort.Value of a function that ends well, whatever it hands back: api.Data. (By gen/genVal.py.) -/
namespace Go.Proofs.YtebgmfjgapmpfabDoor
open Go.RowKit
set_option linter.unusedVariables false
set_option maxRecDepth 100000

theorem cfVDa (cap : Array Value) (w : World) : (callFunc 29 cap).run Tryd.prog w = .ok (.enter 29 cap) w := by kernel_rfl
section
variable {T : SlotDa → World → Prop}
/-- Value's own closure: what the step hands back lies in its cell. -/
theorem valClosDa {g : FuncId} {cap : Array Value} {b1 b4 q : Nat} {w : World} {z : Array Value} (hz : z.size = 5) (hcf : ∀ w : World, (callFunc g cap).run Tryd.prog w = .ok (.enter g cap) w)
    (h1 : Whole w b1 52 #[.func (.func g) #[] cap]) (h4 : Whole w b4 39 #[.int .u8 0, .int .u64 0, .int .u64 0, .slice none 0 0, .string { data := #[] }]) (hb : q < b4) (hT : ∀ x W W', T x W → W.grownBy W' (some b4) → T x W')
    (h : Calls Tryd.prog g cap w fun e w' => ∃ x, e = .returned (hV x) ∧ T x w' ∧ w.grownBy w' (some q)) :
    Calls Tryd.prog 29 #[.pointer (some ⟨b1, 0, none⟩), .pointer (some ⟨b4, 0, none⟩)] w fun e w' =>
      e = .returned (.tuple #[]) ∧ ∃ x, T x w' ∧ Whole w' b4 39 #[.int .u8 x.1.i.op.toNat, .int .u64 x.1.i.a, .int .u64 x.1.i.b, .slice x.2.1 x.1.i.l.length x.2.2, .string (S x.1.bs)] ∧ ∃ w1, w.grownBy w1 (some q) ∧ w1.grownBy w' (some b4) := by
  have hnil : ∀ w : World, (binOp BinOp.neq 52 (.func (.func g) #[] cap) .nilFunc).run Tryd.prog w = .ok (.bool true) w := fun _ => by kernel_rfl
  have c1 := h1.cell 0
  simp only [List.getElem?_toArray, List.getElem?_cons_zero] at c1
  have HH := Lib.hid h
  have H4 := Lib.hid h4
  have HT := Lib.hid hT
  clear h h1 h4 hT
  go_enter Tryd.func29, Tryd.ntmps29
  go_wp2_with fail
  refine HH.out.mono ?_
  rintro e w1 ⟨x, rfl, hs, hg⟩
  have HW := H4.out.grown hg (by simp only [ne_eq, Option.some.injEq]; omega)
  have k0 := HW.cell 0
  have k1 := HW.cell 1
  have k2 := HW.cell 2
  have k3 := HW.cell 3
  have k4 := HW.cell 4
  have f0 := HW.frozen 0
  have f1 := HW.frozen 1
  have f2 := HW.frozen 2
  have f3 := HW.frozen 3
  have f4 := HW.frozen 4
  simp only [List.getElem?_toArray, List.getElem?_cons_zero, List.getElem?_cons_succ] at k0 k1 k2 k3 k4
  obtain ⟨p1, p2⟩ := put5 (u0 := .int .u8 x.1.i.op.toNat) (u1 := .int .u64 x.1.i.a) (u2 := .int .u64 x.1.i.b) (u3 := .slice x.2.1 x.1.i.l.length x.2.2) (u4 := .string (S x.1.bs)) HW
  have F : Hid (T x (((((w1.setCell ⟨b4, 0, none⟩ (.int .u8 x.1.i.op.toNat)).setCell ⟨b4, 1, none⟩ (.int .u64 x.1.i.a)).setCell ⟨b4, 2, none⟩ (.int .u64 x.1.i.b)).setCell ⟨b4, 3, none⟩ (.slice x.2.1 x.1.i.l.length x.2.2)).setCell ⟨b4, 4, none⟩ (.string (S x.1.bs)))) := HT.out _ _ _ hs p2
  have P1 := Lib.hid p1
  have P2 := Lib.hid p2
  have HG := Lib.hid hg
  clear p1 p2 hs hg HW hcf
  go_wp2_with fail
  go_end0
  exact ⟨rfl, x, F.out, P1.out, w1, HG.out, P2.out⟩
/-- What Value's closure leaves behind, seen from Value's beginning. -/
structure VSDa (T : SlotDa → World → Prop) (w : World) (q : Nat) (x : SlotDa) (w1 : World) : Prop where
  kept : T x w1
  grown : w.grownBy w1 (some q)
  val : Whole w1 (w.heap.size + 3) 39 #[.int .u8 x.1.i.op.toNat, .int .u64 x.1.i.a, .int .u64 x.1.i.b, .slice x.2.1 x.1.i.l.length x.2.2, .string (S x.1.bs)]
  r1 : Whole w1 (w.heap.size + 1) 39 #[.int .u8 0, .int .u64 0, .int .u64 0, .slice none 0 0, .string { data := #[] }]
  r2 : Whole w1 (w.heap.size + 2) 48 #[.int .i64 0, .int .i64 0]
/-- The world in which Value calls Out. -/
def vWorldDa (g : FuncId) (cap : Array Value) (w : World) : World :=
  (((w.alloc (.cells #[.func (.func g) #[] cap] 52)).alloc (.cells #[.int .u8 0, .int .u64 0, .int .u64 0, .slice none 0 0, .string { data := #[] }] 39)).alloc (.cells #[.int .i64 0, .int .i64 0] 48)).alloc (.cells #[.int .u8 0, .int .u64 0, .int .u64 0, .slice none 0 0, .string { data := #[] }] 39)
theorem vWorld_factsDa (g : FuncId) (cap : Array Value) (w : World) : (vWorldDa g cap w).heap.size = w.heap.size + 4 ∧ Whole (vWorldDa g cap w) w.heap.size 52 #[.func (.func g) #[] cap] ∧
    Whole (vWorldDa g cap w) (w.heap.size + 1) 39 #[.int .u8 0, .int .u64 0, .int .u64 0, .slice none 0 0, .string { data := #[] }] ∧ Whole (vWorldDa g cap w) (w.heap.size + 2) 48 #[.int .i64 0, .int .i64 0] ∧
    Whole (vWorldDa g cap w) (w.heap.size + 3) 39 #[.int .u8 0, .int .u64 0, .int .u64 0, .slice none 0 0, .string { data := #[] }] ∧ Below w.heap.size w (vWorldDa g cap w) := by
  have b1 := Whole.made w 52 #[.func (.func g) #[] cap]
  have b2 := Whole.made (w.alloc (.cells #[.func (.func g) #[] cap] 52)) 39 #[.int .u8 0, .int .u64 0, .int .u64 0, .slice none 0 0, .string { data := #[] }]
  have b3 := Whole.made ((w.alloc (.cells #[.func (.func g) #[] cap] 52)).alloc (.cells #[.int .u8 0, .int .u64 0, .int .u64 0, .slice none 0 0, .string { data := #[] }] 39)) 48 #[.int .i64 0, .int .i64 0]
  have b4 := Whole.made (((w.alloc (.cells #[.func (.func g) #[] cap] 52)).alloc (.cells #[.int .u8 0, .int .u64 0, .int .u64 0, .slice none 0 0, .string { data := #[] }] 39)).alloc (.cells #[.int .i64 0, .int .i64 0] 48)) 39 #[.int .u8 0, .int .u64 0, .int .u64 0, .slice none 0 0, .string { data := #[] }]
  simp only [World.size_alloc] at b2 b3 b4
  exact ⟨by simp [vWorldDa], ((b1.alloc _).alloc _).alloc _, (b2.alloc _).alloc _, b3.alloc _, b4,
    ((((Below.refl _ _).alloc (Nat.le_refl _) _).alloc (by simp) _).alloc (by simp; omega) _).alloc (by simp; omega) _⟩
theorem value_outDa {g : FuncId} {cap : Array Value} {q : Nat} {w : World} (hcf : ∀ w : World, (callFunc g cap).run Tryd.prog w = .ok (.enter g cap) w) (hq : q < w.heap.size)
    (hT : ∀ x W W' b, w.heap.size ≤ b → b < w.heap.size + 5 → T x W → W.grownBy W' (some b) → T x W')
    (h : ∀ W, Below w.heap.size w W → w.heap.size + 5 ≤ W.heap.size → Calls Tryd.prog g cap W fun e w' => ∃ x, e = .returned (hV x) ∧ T x w' ∧ W.grownBy w' (some q)) :
    Calls Tryd.prog 28 #[.func (.func 29) #[] #[.pointer (some ⟨w.heap.size, 0, none⟩), .pointer (some ⟨w.heap.size + 3, 0, none⟩)]] (vWorldDa g cap w) fun e w' => e = .returned (.agg #[.int .i64 0, .int .i64 0]) ∧ ∃ x, VSDa T w q x w' := by
  obtain ⟨hz, b1, b2, b3, b4, hbe⟩ := vWorld_factsDa g cap w
  have b5 := Whole.made (vWorldDa g cap w) 48 #[.int .i64 0, .int .i64 0]
  have hbe2 : Below w.heap.size w ((vWorldDa g cap w).alloc (.cells #[.int .i64 0, .int .i64 0] 48)) := hbe.alloc (by omega) _
  have hc := valClosDa (T := T) (z := #[.int .u8 0, .int .u64 0, .int .u64 0, .slice none 0 0, .string { data := #[] }]) rfl hcf (b1.alloc (.cells #[.int .i64 0, .int .i64 0] 48)) (b4.alloc _) (by omega : q < w.heap.size + 3) (fun x W W' => hT x W W' _ (by omega) (by omega)) (h _ hbe2 (by rw [size_box]; omega))
  refine (out_any _ _ 0 0 (vWorldDa g cap w) (fun w1 => (∃ x, VSDa T w q x w1) ∧ Whole w1 (vWorldDa g cap w).heap.size 48 #[.int .i64 0, .int .i64 0]) (cfVDa _) (hc.mono ?_) (fun _ h => h.2)).mono ?_
  · rintro e w' ⟨rfl, x, hs, hv, w1, hg1, hg2⟩
    have hz2 : w.heap.size + 5 ≤ w1.heap.size := by have := hg1.size; simp only [World.size_alloc] at this; omega
    refine ⟨.inl ⟨rfl, rfl, rfl⟩, ⟨x, hs, ?_, hv, ?_, ?_⟩, ?_⟩
    · exact gb_before (gb_trans (gb_of_below (some q) hbe2) hg1) hg2 (fun g e => .inr (by injection e with e; omega))
    · exact ((b2.alloc _).grown hg1 (by simp only [ne_eq, Option.some.injEq]; omega)).grown hg2 (by simp only [ne_eq, Option.some.injEq]; omega)
    · exact ((b3.alloc _).grown hg1 (by simp only [ne_eq, Option.some.injEq]; omega)).grown hg2 (by simp only [ne_eq, Option.some.injEq]; omega)
    · exact (b5.grown hg1 (by simp only [ne_eq, Option.some.injEq]; omega)).grown hg2 (by simp only [ne_eq, Option.some.injEq]; omega)
  · rintro e w' ⟨rfl, w1, ⟨⟨x, hs⟩, _⟩, hg⟩
    rw [hz] at hg
    exact ⟨rfl, x, hT x _ _ _ (by omega) (by omega) hs.kept hg, gb_before hs.grown hg (fun g e => .inr (by injection e with e; omega)), hs.val.grown hg (by simp only [ne_eq, Option.some.injEq]; omega), hs.r1.grown hg (by simp only [ne_eq, Option.some.injEq]; omega), hs.r2.grown hg (by simp only [ne_eq, Option.some.injEq]; omega)⟩

set_option maxHeartbeats 800000 in
/-- Value of a function that ends well. -/
theorem valueDa_ok {g : FuncId} {cap : Array Value} {q : Nat} {w : World} (hcf : ∀ w : World, (callFunc g cap).run Tryd.prog w = .ok (.enter g cap) w) (hq : q < w.heap.size)
    (hT : ∀ x W W' b, w.heap.size ≤ b → b < w.heap.size + 5 → T x W → W.grownBy W' (some b) → T x W')
    (h : ∀ W, Below w.heap.size w W → w.heap.size + 5 ≤ W.heap.size → Calls Tryd.prog g cap W fun e w' => ∃ x, e = .returned (hV x) ∧ T x w' ∧ W.grownBy w' (some q)) :
    Calls Tryd.prog 15 #[.func (.func g) #[] cap] w fun e w' => ∃ x, e = .returned (.tuple #[hV x, .agg #[.int .i64 0, .int .i64 0]]) ∧ T x w' ∧ w.grownBy w' (some q) := by
  have hv := value_outDa hcf hq hT h
  unfold vWorldDa at hv
  have HV := Lib.hid hv
  have HT := Lib.hid hT
  have hmf : ∀ (fn : Fn) (first cap : Array Value) (w : World), (Instr.makeFunc fn first cap).run Tryd.prog w = .ok (.func fn first cap) w := fun _ _ _ _ => rfl
  clear h hv hcf hT
  go_enter Tryd.func15, Tryd.ntmps15
  go_wp2_with (go_at_call 28; go_must (refine HV.out.mono ?_; rintro e w2 ⟨rfl, x, hl⟩; have k0 := fun o => (hl.val.alloc o).cell 0; have f0 := fun o => (hl.r1.alloc o).frozen 0; have m0 := fun o => (hl.r1.alloc o).cell 0; have k1 := fun o => (hl.val.alloc o).cell 1; have f1 := fun o => (hl.r1.alloc o).frozen 1; have m1 := fun o => (hl.r1.alloc o).cell 1; have k2 := fun o => (hl.val.alloc o).cell 2; have f2 := fun o => (hl.r1.alloc o).frozen 2; have m2 := fun o => (hl.r1.alloc o).cell 2; have k3 := fun o => (hl.val.alloc o).cell 3; have f3 := fun o => (hl.r1.alloc o).frozen 3; have m3 := fun o => (hl.r1.alloc o).cell 3; have k4 := fun o => (hl.val.alloc o).cell 4; have f4 := fun o => (hl.r1.alloc o).frozen 4; have m4 := fun o => (hl.r1.alloc o).cell 4; have f88 := fun o => (hl.r2.alloc o).frozen 0; have f99 := fun o => (hl.r2.alloc o).frozen 1; have m88 := fun o => (hl.r2.alloc o).cell 0; have m99 := fun o => (hl.r2.alloc o).cell 1; simp only [List.getElem?_toArray, List.getElem?_cons_zero, List.getElem?_cons_succ] at k0 k1 k2 k3 k4 m0 m1 m2 m3 m4 m88 m99; have hz := hl.grown.size; have HL := Lib.hid hl; clear hl))
  have hb : w.heap.size + 1 + 1 = w.heap.size + 2 := by omega
  rw [hb]
  obtain ⟨p1, g1⟩ := put5 (u0 := .int .u8 x.1.i.op.toNat) (u1 := .int .u64 x.1.i.a) (u2 := .int .u64 x.1.i.b) (u3 := .slice x.2.1 x.1.i.l.length x.2.2) (u4 := .string (S x.1.bs)) (HL.out.r1.alloc (.cells #[.int .i64 0, .int .i64 0] 48))
  obtain ⟨p2, g2⟩ := put2 (u0 := .int .i64 0) (u1 := .int .i64 0) ((HL.out.r2.alloc (.cells #[.int .i64 0, .int .i64 0] 48)).grown g1 (by simp only [ne_eq, Option.some.injEq]; omega))
  have p3 := p1.grown g2 (by simp only [ne_eq, Option.some.injEq]; omega)
  have q0 := p3.cell 0
  have q1 := p3.cell 1
  have q2 := p3.cell 2
  have q3 := p3.cell 3
  have q4 := p3.cell 4
  have q88 := p2.cell 0
  have q99 := p2.cell 1
  simp only [List.getElem?_toArray, List.getElem?_cons_zero, List.getElem?_cons_succ] at q0 q1 q2 q3 q4 q88 q99
  refine bodyPost_ret (v := .tuple #[hV x, .agg #[.int .i64 0, .int .i64 0]]) (by simp [results, Tryd.results15, go_sem, q0, q1, q2, q3, q4, q88, q99]) rfl ⟨x, rfl, ?_, ?_⟩
  · exact HT.out _ _ _ _ (by omega) (by omega) (HT.out _ _ _ _ (by omega) (by omega) (HT.out _ _ _ w.heap.size (Nat.le_refl _) (by omega) HL.out.kept (gb_alloc (gb_refl _ _) _)) g1) g2
  · exact gb_before (gb_before (gb_alloc HL.out.grown _) g1 (fun g e => .inr (by injection e with e; omega))) g2 (fun g e => .inr (by injection e with e; omega))
end
end Go.Proofs.YtebgmfjgapmpfabDoor

/- abort.Value of a function that ends well, whatever it hands back: api.Instr. (By gen/genVal.py.) -/
namespace Go.Proofs.YtebgmfjgapmpfabDoor
open Go.RowKit
set_option linter.unusedVariables false
set_option maxRecDepth 100000

section
variable {T : (I × Option Addr × Nat) → World → Prop}
/-- What Value's closure leaves behind, seen from Value's beginning. -/
structure VSI (T : (I × Option Addr × Nat) → World → Prop) (w : World) (q : Nat) (x : (I × Option Addr × Nat)) (w1 : World) : Prop where
  kept : T x w1
  grown : w.grownBy w1 (some q)
  val : Whole w1 (w.heap.size + 3) 37 #[.int .u8 x.1.op.toNat, .int .u64 x.1.a, .int .u64 x.1.b, .slice x.2.1 x.1.l.length x.2.2]
  r1 : Whole w1 (w.heap.size + 1) 37 #[.int .u8 0, .int .u64 0, .int .u64 0, .slice none 0 0]
  r2 : Whole w1 (w.heap.size + 2) 48 #[.int .i64 0, .int .i64 0]
end
end Go.Proofs.YtebgmfjgapmpfabDoor

/- abort.Value of a function that aborts; scan.Over of any bytes. -/
namespace Go.Proofs.YtebgmfjgapmpfabDoor
open Go.RowKit
set_option linter.unusedVariables false
set_option maxRecDepth 100000

/-- bytes.Clone of any bytes. -/
theorem clone_any {w : World} {A : Option Addr} {cap : Nat} {l : List UInt8} (hl : Lies w w.heap.size A (cells (nums l))) (hA : A = none → cap = 0) (hc : l.length ≤ 1000000) :
    Calls Tryd.prog 27 #[.slice A l.length cap] w (BytesL l w) := by
  by_cases h0 : 0 < l.length
  · exact clone_ok hl h0 hc
  · have hl0 : l = [] := List.eq_nil_of_length_eq_zero (by omega)
    subst hl0
    cases A with
    | none =>
      obtain rfl := hA rfl
      show Calls Tryd.prog 27 #[.slice none 0 0] w (BytesL [] w)
      have hnil : ∀ w : World, (binOp BinOp.eql 41 (.slice none 0 0) (.slice none 0 0)).run Tryd.prog w = .ok (.bool true) w := fun w => by
        simp only [binOp]
        simp [run_equal_slice_nil w 41 5 _ _ _ Tryd.underlying41]
      clear hl h0 hc hA
      go_enter Tryd.func27, Tryd.ntmps27
      go_wp2
      go_ret
      exact ⟨_, rfl, Row.nil _ _, Below.refl _ _⟩
    | some ad =>
      show Calls Tryd.prog 27 #[.slice (some ad) 0 cap] w (BytesL [] w)
      have hnil : ∀ w : World, (binOp BinOp.eql 41 (.slice (some ad) 0 cap) (.slice none 0 0)).run Tryd.prog w = .ok (.bool false) w := fun w => by
        simp only [binOp]
        simp [run_equal_slice_nil w 41 5 _ _ _ Tryd.underlying41]
      have R0 := Lib.hid (Row.made w [] w.heap.size w.heap.size rfl (Nat.le_refl _) (by simp))
      have HL := Lib.hid (hl.below (below_box w (.cells #[] 5)) (Nat.le_refl _))
      clear hl h0 hc hA
      go_enter Tryd.func27, Tryd.ntmps27
      go_wp2_with (at_builtin; (refine row_any rfl _ _ rfl w.heap.size _ [] rfl R0.out (some ad) 0 cap _ [] rfl rfl HL.out (fun e => by cases e) (by simp) (by simp) ?_; intro v2 w2 hr2 hb2; have HR2 := Lib.hid hr2; have HB2 := Lib.hid hb2; clear hr2 hb2))
      go_ret
      exact ⟨_, rfl, HR2.out, (below_box w _).trans HB2.out⟩
theorem over_any {w : World} {A : Option Addr} {cap : Nat} {l : List UInt8} (hl : Lies w w.heap.size A (cells (nums l))) (hA : A = none → cap = 0) (hc : l.length ≤ 1000000) :
    Calls Tryd.prog 14 #[.slice A l.length cap] w (Overs l w) := by
  have HC := Lib.hid (clone_any (cap := cap) hl hA hc)
  clear hl hA
  go_enter Tryd.func14, Tryd.ntmps14
  go_wp2_with (go_at_call 27; go_must ((with_reducible refine HC.out.mono ?_); intro e w1 h; obtain ⟨v, rfl, hr, hb⟩ := h; obtain ⟨A1, c1, rfl, h1, h2, hl1, _⟩ := lies_own hr; have HL := Lib.hid hl1; have H1 := Lib.hid h1; have H2 := Lib.hid h2; have HB := Lib.hid hb; clear hl1 hr h1 h2 hb))
  go_ret
  exact ⟨w1.heap.size, rfl, HB.out.size, ⟨A1, c1, Whole.made _ _ _, HL.out.below (below_box w1 _) (Nat.le_refl _), H1.out, H2.out, by simp⟩, HB.out.trans ((below_box w1 _).mono HB.out.size)⟩
end Go.Proofs.YtebgmfjgapmpfabDoor

/- parse and Parse of an instruction's bytes. -/
namespace Go.Proofs.YtebgmfjgapmpfabDoor
open Go.RowKit
set_option linter.unusedVariables false
set_option maxRecDepth 100000

/-- What is kept of an instruction that was read. -/
def KeepI (p : Nat) (l : List UInt8) (i : I) (k lo : Nat) (x : I × Option Addr × Nat) (W : World) : Prop :=
  x.1 = i ∧ Sc W p l k ∧ Lies W W.heap.size x.2.1 (cells32 i.l) ∧ ∀ a, x.2.1 = some a → lo ≤ a.block
theorem KeepI.on {p : Nat} {l : List UInt8} {i : I} {k lo : Nat} {x : I × Option Addr × Nat} {W W' : World} {b : Nat} (h : KeepI p l i k lo x W) (hg : W.grownBy W' (some b)) (h1 : p < b) (h2 : b < lo) : KeepI p l i k lo x W' := by
  obtain ⟨h3, h4, h5, h6⟩ := h
  exact ⟨h3, h4.grown hg (by simp only [ne_eq, Option.some.injEq]; omega) (fun g e => by injection e with e; omega), h5.keep hg (fun a ha => by have := h6 a ha; omega), h6⟩
/-- What parse hands back. -/
def Parsed (i : I) (n : Nat) (w : World) (e : Ending) (w' : World) : Prop :=
  ∃ A c, e = .returned (.tuple #[insV i A c, .int .i64 n, .agg #[.int .i64 0, .int .i64 0]]) ∧ Lies w' w'.heap.size A (cells32 i.l) ∧ Below w.heap.size w w' ∧ ∀ a, A = some a → w.heap.size ≤ a.block
theorem parsed_of {i : I} {A : Option Addr} {c n m : Nat} {w W : World} (hn : n = m) (h : Lies W W.heap.size A (cells32 i.l)) (hb : Below w.heap.size w W) (hf : ∀ a, A = some a → w.heap.size + 3 ≤ a.block) : Parsed i n w (.returned (.tuple #[insV i A c, .int .i64 m, .agg #[.int .i64 0, .int .i64 0]])) W.drew :=
  ⟨A, c, by rw [hn], h, hb.drew, fun a ha => by have := hf a ha; omega⟩
/-- The world in which parse's results are written. -/
structure ParseEnd (i : I) (A : Option Addr) (c p : Nat) (l : List UInt8) (w w1 w2 W : World) (n : Nat) : Prop where
  sc : Sc W p l n
  lab : Lies W W.heap.size A (cells32 i.l) ∧ ∀ a, A = some a → w.heap.size + 3 ≤ a.block
  bel : Below w.heap.size w W
  val : W.cell? ⟨w2.heap.size, 0, none⟩ = some (.int .u8 i.op.toNat) ∧ W.cell? ⟨w2.heap.size, 1, none⟩ = some (.int .u64 i.a) ∧ W.cell? ⟨w2.heap.size, 2, none⟩ = some (.int .u64 i.b) ∧ W.cell? ⟨w2.heap.size, 3, none⟩ = some (.slice A i.l.length c)
  ptr : W.cell? ⟨w1.heap.size, 0, none⟩ = some (.pointer (some ⟨p, 0, none⟩))
  stop : W.cell? ⟨w2.heap.size + 1, 0, none⟩ = some (.int .i64 0) ∧ W.cell? ⟨w2.heap.size + 1, 1, none⟩ = some (.int .i64 0)
  res : W.cell? ⟨w.heap.size + 1, 0, none⟩ = some (.int .u8 0) ∧ W.cell? ⟨w.heap.size + 1, 1, none⟩ = some (.int .u64 0) ∧ W.cell? ⟨w.heap.size + 1, 2, none⟩ = some (.int .u64 0) ∧ W.cell? ⟨w.heap.size + 1, 3, none⟩ = some (.slice none 0 0)
  free : W.frozen? ⟨w.heap.size + 1, 0, none⟩ = false ∧ W.frozen? ⟨w.heap.size + 1, 1, none⟩ = false ∧ W.frozen? ⟨w.heap.size + 1, 2, none⟩ = false ∧ W.frozen? ⟨w.heap.size + 1, 3, none⟩ = false
  res6 : W.cell? ⟨w.heap.size + 1 + 1, 0, none⟩ = some (.int .i64 0) ∧ W.cell? ⟨w.heap.size + 1 + 1, 1, none⟩ = some (.int .i64 0)
  free6 : W.frozen? ⟨w.heap.size + 1 + 1, 0, none⟩ = false ∧ W.frozen? ⟨w.heap.size + 1 + 1, 1, none⟩ = false
  w4 : Whole W (w.heap.size + 1) 37 #[.int .u8 0, .int .u64 0, .int .u64 0, .slice none 0 0]
  w6 : Whole W (w.heap.size + 1 + 1) 48 #[.int .i64 0, .int .i64 0]
  n1 : ¬ w2.heap.size = w.heap.size
  n2 : ¬ w2.heap.size = w.heap.size + 1
  n3 : ¬ w2.heap.size + 1 = w.heap.size
theorem ParseEnd.of {i : I} {A : Option Addr} {c p : Nat} {l : List UInt8} {w w0 w1 w2 : World} {n : Nat} (h0 : w0.heap.size = w.heap.size + 3) (hb0 : Below w.heap.size w w0) (h4 : Whole w0 (w.heap.size + 1) 37 #[.int .u8 0, .int .u64 0, .int .u64 0, .slice none 0 0]) (h6 : Whole w0 (w.heap.size + 2) 48 #[.int .i64 0, .int .i64 0])
    (hb : Below w0.heap.size w0 w1) (hz1 : w0.heap.size ≤ w1.heap.size) (hp : w0.heap.size ≤ p ∧ p < w1.heap.size) (hg : (w1.alloc (.cells #[.pointer (some ⟨p, 0, none⟩)] 45)).grownBy w2 (some p)) (hk : Sc w2 p l n ∧ Lies w2 w2.heap.size A (cells32 i.l) ∧ ∀ a, A = some a → w1.heap.size + 6 ≤ a.block) :
    ParseEnd i A c p l w w1 w2 ((w2.alloc (.cells (insC i A c) 37)).alloc (.cells #[.int .i64 0, .int .i64 0] 48)) n := by
  have hz2 := hg.size
  rw [size_box] at hz2
  obtain ⟨k1, k2, k3⟩ := hk
  have w4 := ((((h4.below hb).alloc (.cells #[.pointer (some ⟨p, 0, none⟩)] 45)).grown hg (by simp only [ne_eq, Option.some.injEq]; omega)).alloc (.cells (insC i A c) 37)).alloc (.cells #[.int .i64 0, .int .i64 0] 48)
  have w6 := ((((h6.below hb).alloc (.cells #[.pointer (some ⟨p, 0, none⟩)] 45)).grown hg (by simp only [ne_eq, Option.some.injEq]; omega)).alloc (.cells (insC i A c) 37)).alloc (.cells #[.int .i64 0, .int .i64 0] 48)
  have w7 := (((Whole.made w1 45 #[.pointer (some ⟨p, 0, none⟩)]).grown hg (by simp only [ne_eq, Option.some.injEq]; omega)).alloc (.cells (insC i A c) 37)).alloc (.cells #[.int .i64 0, .int .i64 0] 48)
  have w8 := (Whole.made w2 37 (insC i A c)).alloc (.cells #[.int .i64 0, .int .i64 0] 48)
  have w9 := Whole.made (w2.alloc (.cells (insC i A c) 37)) 48 #[.int .i64 0, .int .i64 0]
  rw [size_box] at w9
  refine ⟨(k1.alloc _).alloc _, ⟨lies_box (lies_box k2 _) _, fun a ha => by have := k3 a ha; omega⟩, ?_, ⟨w8.cell 0, w8.cell 1, w8.cell 2, w8.cell 3⟩, w7.cell 0, ⟨w9.cell 0, w9.cell 1⟩, ⟨w4.cell 0, w4.cell 1, w4.cell 2, w4.cell 3⟩, ⟨w4.frozen 0, w4.frozen 1, w4.frozen 2, w4.frozen 3⟩, ⟨w6.cell 0, w6.cell 1⟩, ⟨w6.frozen 0, w6.frozen 1⟩, w4, w6, by omega, by omega, by omega⟩
  have b1 : Below w.heap.size w (w1.alloc (.cells #[.pointer (some ⟨p, 0, none⟩)] 45)) := (hb0.trans (hb.mono (by omega))).alloc (by omega) _
  have b2 : Below w.heap.size w w2 := Below.grown b1 hg (by rw [size_box]; omega) (fun g e => by injection e with e; omega)
  exact (b2.alloc (by omega) _).alloc (by rw [size_box]; omega) _
theorem ParseEnd.fin {i : I} {A : Option Addr} {c p : Nat} {l : List UInt8} {w w1 w2 W : World} {n : Nat} (h : ParseEnd i A c p l w w1 w2 W n) (W6 : World)
    (hW : W6 = (((((W.setCell ⟨w.heap.size + 1, 0, none⟩ (.int .u8 i.op.toNat)).setCell ⟨w.heap.size + 1, 1, none⟩ (.int .u64 i.a)).setCell ⟨w.heap.size + 1, 2, none⟩ (.int .u64 i.b)).setCell ⟨w.heap.size + 1, 3, none⟩ (.slice A i.l.length c)).setCell ⟨w.heap.size + 1 + 1, 0, none⟩ (.int .i64 0)).setCell ⟨w.heap.size + 1 + 1, 1, none⟩ (.int .i64 0)) :
    Whole W6 (w.heap.size + 1) 37 (insC i A c) ∧ Whole W6 (w.heap.size + 1 + 1) 48 #[.int .i64 0, .int .i64 0] ∧ Lies W6 W6.heap.size A (cells32 i.l) ∧ Below w.heap.size w W6 := by
  subst hW
  obtain ⟨p1, g1⟩ := put4 (u0 := .int .u8 i.op.toNat) (u1 := .int .u64 i.a) (u2 := .int .u64 i.b) (u3 := .slice A i.l.length c) h.w4
  obtain ⟨p2, g2⟩ := put2 (u0 := .int .i64 0) (u1 := .int .i64 0) (h.w6.grown g1 (by simp only [ne_eq, Option.some.injEq]; omega))
  have hz := g1.size
  have hzw := h.w4.lt
  refine ⟨p1.grown g2 (by simp only [ne_eq, Option.some.injEq]; omega), p2, (h.lab.1.keep g1 (fun a ha => by have := h.lab.2 a ha; omega)).keep g2 (fun a ha => by have := h.lab.2 a ha; omega), ?_⟩
  have b1 : Below w.heap.size w _ := Below.grown h.bel g1 (by omega) (fun g e => by injection e with e; omega)
  exact Below.grown b1 g2 (by omega) (fun g e => by injection e with e; omega)
end Go.Proofs.YtebgmfjgapmpfabDoor

/- types.Cut, Zero; creelref04.Cut; types.EncodeGlobal, creelref04.EncodeGlobal. -/
namespace Go.Proofs.YtebgmfjgapmpfabDoor
set_option linter.unusedVariables false
set_option maxRecDepth 100000
open Go.RowKit

/-- A value, by its type and number. -/
abbrev vv (t n : Int) : Value := .agg #[.int .u8 t, .int .u64 n]
def cutZ (t n : Int) : Int := if t = 127 then n % 4294967296 else n
def rightB (t n : Int) : Bool := decide (valueZ t = 0) && decide (cutZ t n = n)
theorem and_low (n : Int) (h0 : 0 ≤ n) (h1 : n ≤ 18446744073709551615) : bits .and .u64 n 4294967295 = n % 4294967296 := by
  have e1 : (BitVec.ofInt 64 n).toNat = n.toNat := by
    rw [BitVec.toNat_ofInt]
    show (n % 18446744073709551616).toNat = _
    rw [Int.emod_eq_of_lt h0 (by omega)]
  have e2 : (BitVec.ofInt 64 4294967295).toNat = 2 ^ 32 - 1 := by decide
  show IntKind.u64.wrap ((BitVec.ofInt 64 n &&& BitVec.ofInt 64 4294967295).toNat : Nat) = _
  rw [BitVec.toNat_and, e1, e2, Nat.and_two_pow_sub_one_eq_mod]
  simp only [IntKind.wrap, IntKind.bits, IntKind.signed]
  simp
  omega

theorem below_two (w : World) (o o' : Obj) : Below w.heap.size w ((w.alloc o).alloc o') := (below_box w o).alloc (by simp) _
/-- A global's type, by value. -/
abbrev gv (t : Int) (m : Bool) : Value := .agg #[.int .u8 t, .bool m]
theorem two_of {w W W' : World} {u v : Value} {t : TypeId} (h : Boxed w (.cells #[u, v] t) W ∧ W.cell? ⟨w.heap.size, 0, none⟩ = some u ∧ W.cell? ⟨w.heap.size, 1, none⟩ = some v) (hb : Below W.heap.size W W') :
    Boxed w (.cells #[u, v] t) W' ∧ W'.cell? ⟨w.heap.size, 0, none⟩ = some u ∧ W'.cell? ⟨w.heap.size, 1, none⟩ = some v := ⟨h.1.on hb, (h.1.on hb).row 0, (h.1.on hb).row 1⟩
theorem encG_new (w : World) (t : Int) (m : Bool) (h0 : 0 ≤ t) (h1 : t ≤ 255) (B H : Nat) (hH : w.heap.size = H) (hb : B ≤ H) :
    Row (w.alloc (.cells #[.int .u8 t, .int .u8 (if m then 1 else 0)] 5)) B (.slice (some ⟨H, 0, none⟩) 2 2) (encG t m) := by
  have h := Row.made w (encG t m) B H hH hb (by simp [encG])
  rw [nums_encG t m h0 h1] at h
  exact h
theorem encG_str (w : World) (t : Int) (m : Bool) (h0 : 0 ≤ t) (h1 : t ≤ 255) (H : Nat) (hH : w.heap.size = H) :
    ∀ dst, Tryd.prog.underlying dst = some .string → (convert 41 dst (.slice (some ⟨H, 0, none⟩) 2 2)).run Tryd.prog (w.alloc (.cells #[.int .u8 t, .int .u8 (if m then 1 else 0)] 5)) = .ok (.string (S (encG t m))) (w.alloc (.cells #[.int .u8 t, .int .u8 (if m then 1 else 0)] 5)) := by
  obtain ⟨A, c, e, hs⟩ := (encG_new w t m h0 h1 H H hH (Nat.le_refl _)).str
  injection e with e1 e2 e3
  subst e1; subst e3
  exact hs
end Go.Proofs.YtebgmfjgapmpfabDoor
