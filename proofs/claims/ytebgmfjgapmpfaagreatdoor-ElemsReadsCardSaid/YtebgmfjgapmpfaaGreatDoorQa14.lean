/- Element segments that lie somewhere; rows of segments of the call's own, with their functions. -/
import Derived.Test.YtebgmfjgapmpfaaGreatDoorQa13
import Derived.Test.YtebgmfjgapmpfaaGreatDoorQa08
import Derived.OwnWalk
import Derived.Test.YtebgmfjgapmpfaaGreatDoorQa09
import Derived.Deep.LoopGhost
import Derived.Test.YtebgmfjgapmpfaaGreatDoorQa11
import Derived.Test.YtebgmfjgapmpfaaGreatDoorQa07
import Derived.RegionTactic
import Derived.Test.YtebgmfjgapmpfaaGreatDoorQa12
import Derived.Deep.CutBlock
import Derived.Deep.DeepCutAuto
namespace Go.Proofs.YtebgmfjgapmpfaaGreatDoor
open Go.RowKit
set_option linter.unusedVariables false
set_option maxRecDepth 100000

theorem LabT.on {W W' : World} {A : Option Addr} {ls : List Int} (h : LabT W A ls) (hb : Below W.heap.size W W') : LabT W' A ls := h.keep (gb_of_below none hb) (fun a _ => by simp)
/-- A segment, where its labels lie, where its functions lie. -/
abbrev SlotEl := El × (Option Addr × Nat) × (Option Addr × Nat)
abbrev qC (x : SlotEl) : Array Value := elC x.1 x.2.1.1 x.2.1.2 x.2.2.1 x.2.2.2
abbrev qV (x : SlotEl) : Value := .agg (qC x)
def qL (x : SlotEl) : List Value := (qC x).toList
theorem infoEl : (Tryz.prog.info? 62).map (fun i => (i.zero, i.size, i.bytes)) = some (some (.agg elZ), 5, 72) := by kernel_rfl
/-- A row of segments of the call's own; the functions of each lie behind the row's bound. -/
structure RowEl (W : World) (base : Nat) (v : Value) (rows : List SlotEl) : Prop where
  own : W.ownsRow base 62 5 v rows.length (rows.flatMap qL)
  labs : ∀ x ∈ rows, LabT W x.2.2.1 x.1.fs ∧ ∀ a, x.2.2.1 = some a → base ≤ a.block
theorem RowEl.nil (W : World) (base : Nat) : RowEl W base (.slice none 0 0) [] := ⟨World.ownsRow_nil W base _ 5, fun x hx => by cases hx⟩
theorem RowEl.slice {W : World} {base : Nat} {v : Value} {rows : List SlotEl} (h : RowEl W base v rows) : ∃ A c, v = .slice A rows.length c := by
  rcases h.own.2 with ⟨rfl, h0⟩ | ⟨g, cap, cur, rfl, _⟩
  · exact ⟨none, 0, by rw [h0]⟩
  · exact ⟨_, cap, rfl⟩
theorem RowEl.lt {W : World} {base : Nat} {v : Value} {rows : List SlotEl} (h : RowEl W base v rows) : ∀ k, v.ownBlock = some k → base ≤ k ∧ k < W.heap.size := World.ownsRow.lt h.own
theorem RowEl.past {W W' : World} {base b : Nat} {v : Value} {rows : List SlotEl} (h : RowEl W base v rows) (hg : W.grownBy W' (some b)) (hb : b < base) : RowEl W' base v rows :=
  ⟨World.ownsRow.kept h.own hg (by
    cases hv : v.ownBlock with
    | none => exact .inl rfl
    | some k => exact .inr (by have := (World.ownsRow.lt h.own k hv).1; simp only [ne_eq, Option.some.injEq]; omega)),
   fun x hx => ⟨(h.labs x hx).1.keep hg (fun a ha => by have := (h.labs x hx).2 a ha; simp only [ne_eq, Option.some.injEq]; omega), (h.labs x hx).2⟩⟩
theorem RowEl.later {W W' : World} {base : Nat} {v : Value} {rows : List SlotEl} (h : RowEl W base v rows) (hb : Below W.heap.size W W') : RowEl W' base v rows :=
  ⟨World.ownsRow.kept h.own (gb_of_below none hb) (by cases v.ownBlock with
    | none => exact .inl rfl
    | some k => exact .inr (by simp)), fun x hx => ⟨(h.labs x hx).1.on hb, (h.labs x hx).2⟩⟩
theorem RowEl.alloc {W : World} {base : Nat} {v : Value} {rows : List SlotEl} (h : RowEl W base v rows) (o : Obj) : RowEl (W.alloc o) base v rows := h.later (below_box W o)
theorem RowEl.mono {W : World} {base base' : Nat} {v : Value} {rows : List SlotEl} (h : RowEl W base v rows) (hb : base' ≤ base) : RowEl W base' v rows := by
  obtain ⟨⟨h1, h2⟩, h3⟩ := h
  refine ⟨⟨h1, ?_⟩, fun x hx => ⟨(h3 x hx).1, fun a ha => Nat.le_trans hb ((h3 x hx).2 a ha)⟩⟩
  rcases h2 with h2 | ⟨g, cap, cur, e, hg, r⟩
  · exact .inl h2
  · exact .inr ⟨g, cap, cur, e, Nat.le_trans hb hg, r⟩
/-- append of a new block of one segment. -/
theorem rowEl_new {w : World} {ops : Array Oper} {rest : List Oper} {o : Oper} {a : Act} {Q : Exit → Act → World → Prop} (hgd : o.guard = none) (s x : Operand)
    (ho : o.op = .call { callee := .builtin .append, args := #[s, x], argTypes := #[54, 54] })
    (B : Nat) (v : Value) (l : List SlotEl) (hs : a.eval s = v) (hr : RowEl w B v l) (g : Nat) (r : SlotEl) (hx : a.eval x = .slice (some ⟨g, 0, none⟩) 1 1)
    (hg : Whole w g 62 (qC r)) (hlr : LabT w r.2.2.1 r.1.fs) (hlf : ∀ a, r.2.2.1 = some a → B ≤ a.block) (hb : l.length ≤ 10000) (hB : B ≤ w.heap.size)
    (h : ∀ v' w', RowEl w' B v' (l ++ [r]) → w.grownBy w' v.ownBlock → wpList Tryz.prog ops Q rest (a.put o.dst v') w') : wpList Tryz.prog ops Q (o :: rest) a w := by
  obtain ⟨i0, hi0, hz0, hz1, hz2⟩ := info_parts infoEl
  refine wpList_append_own _ hgd s x _ ho B 62 i0 _ 5 72 Tryz.underlying54 hi0 hz0 hz1 hz2 rfl (by omega) v _ _ hs hr.own ⟨g, 0, none⟩ 1 1 (qL r) hx rfl ?_ ?_ (by unfold maxLen; omega) (by omega) hB (fun v' w' h2 h3 _ => h v' w' ⟨?_, ?_⟩ h3)
  · intro j u hu
    rw [Go.WideShapes.add_plain, Nat.zero_add, hg.cell, ← Array.getElem?_toList]
    exact hu
  · intro u hu
    unfold qL at hu
    simp only [List.mem_cons, List.not_mem_nil, or_false] at hu
    rcases hu with rfl | rfl | rfl | rfl | rfl <;> rfl
  · rw [List.length_append, List.flatMap_append]
    simpa using h2
  · intro y hy
    rcases List.mem_append.1 hy with hy | hy
    · exact ⟨(hr.labs y hy).1.keep h3 (lab_own (hr.labs y hy).1 hr.own (by decide)), (hr.labs y hy).2⟩
    · rw [List.mem_singleton] at hy
      subst hy
      exact ⟨hlr.keep h3 (lab_own hlr hr.own (by decide)), hlf⟩

/-- The slice at A reads as these segments, and the functions of each lie. -/
def Es (w : World) (A : Option Addr) (l : List SlotEl) : Prop :=
  ∀ j x, l[j]? = some x → (∃ b off, A = some ⟨b, off, none⟩ ∧ b < w.heap.size ∧ ∀ u, u < 5 → w.cell? ⟨b, off + j * 5 + u, none⟩ = (qL x)[u]?) ∧ LiesL w x.2.2.1 x.1.fs
theorem Es.below {w w' : World} {A : Option Addr} {l : List SlotEl} (h : Es w A l) (hb : Below w.heap.size w w') : Es w' A l := fun j x hx => by
  obtain ⟨⟨b, off, e, h1, h2⟩, h3⟩ := h j x hx
  exact ⟨⟨b, off, e, Nat.lt_of_lt_of_le h1 hb.size, fun u hu => (hb.cell (p := ⟨b, _, none⟩) h1).trans (h2 u hu)⟩, h3.below hb⟩
/-- The five cells of one of them, as a walk writes them. -/
abbrev FiveAt (w : World) (b : Nat) (o : Nat) (x : SlotEl) : Prop := w.cell? ⟨b, o, none⟩ = some (.int .u8 x.1.i.op.toNat) ∧ w.cell? ⟨b, o + 1, none⟩ = some (.int .u64 x.1.i.a) ∧ w.cell? ⟨b, o + 2, none⟩ = some (.int .u64 x.1.i.b) ∧ w.cell? ⟨b, o + 3, none⟩ = some (.slice x.2.1.1 x.1.i.l.length x.2.1.2) ∧ w.cell? ⟨b, o + 4, none⟩ = some (.slice x.2.2.1 x.1.fs.length x.2.2.2)
theorem Es.five {w : World} {A : Option Addr} {l : List SlotEl} (h : Es w A l) {k : Nat} {x : SlotEl} (hx : l[k]? = some x) : ∃ b off, A = some ⟨b, off, none⟩ ∧ b < w.heap.size ∧ FiveAt w b (off + k * 5) x := by
  obtain ⟨⟨b, off, e, h1, h2⟩, _⟩ := h k x hx
  exact ⟨b, off, e, h1, h2 0 (by omega), h2 1 (by omega), h2 2 (by omega), h2 3 (by omega), h2 4 (by omega)⟩
theorem Es.funs {w : World} {A : Option Addr} {l : List SlotEl} (h : Es w A l) {k : Nat} {x : SlotEl} (hx : l[k]? = some x) : LiesL w x.2.2.1 x.1.fs := (h k x hx).2
theorem flatEl_get : ∀ (l : List SlotEl) (j : Nat) (x : SlotEl) (u : Nat), l[j]? = some x → u < 5 → (l.flatMap qL)[j * 5 + u]? = (qL x)[u]?
  | [], j, x, u, h, _ => by cases h
  | y :: l, 0, x, u, h, hu => by
    injection h with h
    subst h
    rw [List.flatMap_cons, Nat.zero_mul, Nat.zero_add, List.getElem?_append_left (by show u < 5; exact hu)]
  | y :: l, j + 1, x, u, h, hu => by
    rw [List.flatMap_cons, List.getElem?_append_right (by show 5 ≤ _; omega)]
    have e : (j + 1) * 5 + u - (qL y).length = j * 5 + u := by show (j + 1) * 5 + u - 5 = _; omega
    rw [e]
    exact flatEl_get l j x u h hu
/-- What a row of segments reads as. -/
theorem RowEl.es {W : World} {base : Nat} {A : Option Addr} {n c : Nat} {rows : List SlotEl} (h : RowEl W base (.slice A n c) rows) : Es W A rows := fun j x hx => by
  have hj := (List.getElem?_eq_some_iff.1 hx).1
  refine ⟨?_, (h.labs x (List.mem_of_getElem? hx)).1.lies⟩
  rcases h.own.2 with ⟨_, h0⟩ | ⟨g, cap, cur, e, _, hg, _, _, _, ht⟩
  · omega
  · injection e with e1 e2 e3
    exact ⟨g, 0, e1, (Array.getElem?_eq_some_iff.1 hg).1, fun u hu => by
      rw [cell_of_row W g (0 + j * 5 + u) cur _ _ hg, ← flatEl_get rows j x u hx hu, ← ht, List.getElem?_take, if_pos (by omega)]
      simp⟩
end Go.Proofs.YtebgmfjgapmpfaaGreatDoor

/- elems.PutAll. -/
namespace Go.Proofs.YtebgmfjgapmpfaaGreatDoor
open Go.RowKit
set_option linter.unusedVariables false
set_option maxRecDepth 100000

/-- May it be? Its bytes. -/
def rEl (x : SlotEl) : Int := crightZ x.1.i
noncomputable def qputL (x : SlotEl) : List UInt8 := eputL x.1
def PuttedQ (x : SlotEl) (w : World) (e : Ending) (w' : World) : Prop := ∃ v, e = .returned (.tuple #[v, .int .i64 (rEl x)]) ∧ Row w' w.heap.size v (if rEl x = 0 then qputL x else []) ∧ Below w.heap.size w w'
/-- The numbers are what their kinds hold; the functions are no more than a hundred. -/
def OkQ (x : SlotEl) : Prop := x.1.i.Ok ∧ (x.1.i.l.length : Int) ≤ 9223372036854775807 ∧ (∀ c ∈ x.1.fs, 0 ≤ c ∧ c ≤ 4294967295) ∧ x.1.fs.length ≤ 100
def OkEl (l : List SlotEl) : Prop := ∀ x ∈ l, OkQ x
theorem put_q (x : SlotEl) (w : World) (hT : Tabs w) (h : OkQ x) (hF : LiesL w x.2.2.1 x.1.fs) : Calls Tryz.prog 59 #[qV x] w (PuttedQ x w) := put_el x.1 x.2.1.1 x.2.1.2 x.2.2.1 x.2.2.2 w h.1 hT h.2.1 hF h.2.2.1 h.2.2.2
theorem qputL_len {x : SlotEl} (h : OkQ x) (h0 : rEl x = 0) : 3 ≤ (qputL x).length ∧ (qputL x).length ≤ 1043 := eputL_len h.1 h0 h.2.2.1 h.2.2.2
/-- The first error. -/
def errEl : List SlotEl → Int
  | [] => 0
  | x :: r => if rEl x ≠ 0 then rEl x else errEl r
theorem errEl_app : ∀ a b : List SlotEl, errEl (a ++ b) = if errEl a ≠ 0 then errEl a else errEl b
  | [], b => by simp [errEl]
  | x :: a, b => by
    simp only [List.cons_append, errEl]
    by_cases h : rEl x = 0
    · simp only [h, ne_eq, not_true_eq_false, if_false, errEl_app a b]
    · simp [h]
theorem errEl_snoc {l : List SlotEl} {k : Nat} {x : SlotEl} (h : l[k]? = some x) : errEl (l.take (k + 1)) = if errEl (l.take k) ≠ 0 then errEl (l.take k) else rEl x := by
  rw [List.take_add_one, h]
  show errEl (l.take k ++ [x]) = _
  rw [errEl_app]
  by_cases e : rEl x = 0 <;> simp [errEl, e]
theorem errEl_bad {l : List SlotEl} {k : Nat} (h : errEl (l.take k) ≠ 0) : errEl l = errEl (l.take k) := by
  conv => lhs; rw [← List.take_append_drop k l]
  rw [errEl_app, if_pos h]
theorem errEl_mem : ∀ {l : List SlotEl}, errEl l = 0 → ∀ x ∈ l, rEl x = 0
  | [], _, x, hx => by cases hx
  | y :: l, h, x, hx => by
    simp only [errEl] at h
    by_cases e : rEl y = 0
    · simp only [e, ne_eq, not_true_eq_false, if_false] at h
      rcases List.mem_cons.1 hx with rfl | hx
      · exact e
      · exact errEl_mem h x hx
    · simp [e] at h
/-- Many globals' bytes. -/
noncomputable def elputsL (l : List SlotEl) : List UInt8 := l.flatMap qputL
theorem elputsL_snoc {l : List SlotEl} {k : Nat} {x : SlotEl} (h : l[k]? = some x) : elputsL (l.take (k + 1)) = elputsL (l.take k) ++ qputL x := by
  unfold elputsL
  rw [List.take_add_one, h, List.flatMap_append]
  simp
theorem elputsL_len : ∀ {l : List SlotEl}, OkEl l → errEl l = 0 → (elputsL l).length ≤ l.length * 1043
  | [], _, _ => by simp [elputsL]
  | x :: r, h, h0 => by
    have h4 := errEl_mem h0 x (by simp)
    have h5 : errEl r = 0 := by simpa [errEl, h4] using h0
    have h1 := elputsL_len (l := r) (fun y hy => h y (List.mem_cons_of_mem _ hy)) h5
    have h2 := h x (by simp)
    have h3 := (qputL_len h2 h4).2
    unfold elputsL at h1 ⊢
    rw [List.flatMap_cons, List.length_append, List.length_cons]
    omega
noncomputable def allEl (l : List SlotEl) : List UInt8 := lebL l.length ++ elputsL l
/-- What PutAll hands back. -/
def PuttedAllEl (l : List SlotEl) (w : World) (e : Ending) (w' : World) : Prop := ∃ v, e = .returned (.tuple #[v, .int .i64 (errEl l)]) ∧ Row w' w.heap.size v (if errEl l = 0 then allEl l else []) ∧ Below w.heap.size w w'
theorem cfElP (a : Array Value) (w : World) : (callFunc 59 a).run Tryz.prog w = .ok (.enter 59 a) w := by kernel_rfl
set_option maxHeartbeats 4000000 in
theorem wputall_el {w : World} {A : Option Addr} {c : Nat} {l : List SlotEl} (hl : Es w A l) (hT : Tabs w) (hs : OkEl l) (h20 : l.length ≤ 100) :
    Calls Tryz.prog 64 #[.slice A l.length c, .func (.func 59) #[] #[]] w (PuttedAllEl l w) := by
  have HL := Lib.hid hl
  have HTb := Lib.hid hT
  have HSh := Lib.hid hs
  have hlb := lebL_len (l.length : Int) (by omega)
  have HZ := Lib.hid (fun W => size_w l.length W (by omega))
  obtain ⟨n, hn⟩ : ∃ n, n = l.length := ⟨_, rfl⟩
  obtain ⟨hd, hhd⟩ : ∃ hd, hd = lebL (l.length : Int) := ⟨_, rfl⟩
  rw [← hhd] at HZ hlb
  have HN := Lib.hid hn
  have HE := Lib.hid (show l.take n = l by rw [hn, List.take_length])
  have HAL := Lib.hid (show allEl l = hd ++ elputsL l by rw [hhd]; rfl)
  have HPL := Lib.hid (fun k (h : errEl (l.take k) = 0) => show (elputsL (l.take k)).length ≤ 100 * 1043 from by
    have h1 := elputsL_len (l := l.take k) (fun y hy => hs y (List.mem_of_mem_take hy)) h
    have h2 : (l.take k).length ≤ l.length := by rw [List.length_take]; omega
    omega)
  rw [← hn] at h20 HZ ⊢
  have d10 : decide ((10000 : Int) < (n : Int)) = false := decide_eq_false (by omega)
  have hcf := cfElP
  clear hl hT hs hn hhd
  go_enter Tryz.func64, Tryz.ntmps64
  go_wp2_with (go_at_call 99; go_must ((with_reducible refine (HZ.out _).mono ?_); intro e w1 h; obtain ⟨v, rfl, hr, hb⟩ := h; have HR := Lib.hid hr; have HB := Lib.hid hb; clear hr hb))
  go_loopw [6, 19] (fun v i wr => ∃ k : Nat, k ≤ n ∧ i = .int .i64 k ∧ errEl (l.take k) = 0 ∧ Row wr w.heap.size v (hd ++ elputsL (l.take k)) ∧ Below w.heap.size w wr) (fun _ i _ => n - (intOf i).toNat)
  case atStart => exact ⟨0, Nat.zero_le _, rfl, rfl, by simpa [elputsL] using HR.out, HB.out⟩
  case round =>
    obtain ⟨k, hk, rfl, he, hr, hb⟩ := hrel
    have hz1 := hb.size
    by_cases hlt : k < n
    · obtain ⟨x, hx⟩ : ∃ x, l[k]? = some x := ⟨_, List.getElem?_eq_getElem (by rw [← HN.out]; exact hlt)⟩
      obtain ⟨b, off, rfl, hbl, m0, m1, m2, m3, m4⟩ := (HL.out.below hb).five hx
      have hfu := (HL.out.below hb).funs hx
      have hxs := HSh.out x (List.mem_of_getElem? hx)
      have hTk := errEl_snoc hx
      have hPk := elputsL_snoc hx
      have HB2 := Lib.hid (hb.alloc hz1 (.cells (qC x) 62))
      have HR2 := Lib.hid (hr.alloc (.cells (qC x) 62))
      have HP := Lib.hid (put_q x (wr.alloc (.cells (qC x) 62)) (HTb.out.below HB2.out) hxs (hfu.below (below_box wr _)))
      have hzb : wr.heap.size ≤ (wr.alloc (.cells (qC x) 62)).heap.size := (below_box wr _).size
      rw [he] at hTk
      simp only [ne_eq, not_true_eq_false, if_false] at hTk
      unfold PuttedQ at HP
      have HTk := Lib.hid hTk
      have HPk := Lib.hid hPk
      by_cases z0 : rEl x = 0
      · rw [if_pos z0, z0] at HP
        have hil := qputL_len hxs z0
        have hsz : (hd ++ elputsL (l.take k)).length + (qputL x).length ≤ 1000000 := by
          have hpl := HPL.out k he
          rw [List.length_append]
          omega
        have HIL := Lib.hid hil
        have HSZ := Lib.hid hsz
        obtain ⟨y, hy⟩ : ∃ y, y = qputL x := ⟨_, rfl⟩
        rw [← hy] at HP HPk HIL HSZ
        have HZ0 := Lib.hid z0
        clear hTk hPk he hr hb z0 hil hsz hy hxs hfu
        go_wp2_with (first
          | (go_at_call 59; go_must ((with_reducible refine HP.out.mono ?_); intro e w3 h; obtain ⟨v3, rfl, hr3, hb3⟩ := h; obtain ⟨A3, c3, rfl, hp3⟩ := hr3.pc; have HP3 := Lib.hid hp3; have HR3 := Lib.hid (HR2.out.later hb3); have HB3 := Lib.hid (HB2.out.trans (hb3.mono HB2.out.size)); have hz3 := HB3.out.size; clear hr3 hb3 hp3))
          | (at_builtin; (refine row_any rfl _ _ rfl w.heap.size _ (hd ++ elputsL (l.take k)) rfl HR3.out A3 y.length c3 w3.heap.size y rfl rfl HP3.out.lies HP3.out.nil HSZ.out hz3 ?_; intro v4 w4 hr4 hb4; have HR4 := Lib.hid hr4; have HB4 := Lib.hid hb4; clear hr4 hb4)))
        go_roundw
        case rel => exact ⟨k + 1, by omega, by go_num, by rw [HTk.out]; exact HZ0.out, by rw [HPk.out, ← List.append_assoc]; exact HR4.out, HB3.out.trans HB4.out⟩
        case measure => simp [intOf]; omega
      · rw [if_neg z0] at HP
        have hbad := errEl_bad (l := l) (k := k + 1) (by rw [hTk]; exact z0)
        rw [hTk] at hbad
        have HBAD := Lib.hid hbad
        have dz : (rEl x != 0) = true := zb_of (by simpa using z0)
        have HZ0 := Lib.hid (show ¬ errEl l = 0 by rw [hbad]; exact z0)
        clear hTk hPk he hr hb z0 hbad hxs hfu
        generalize rEl x = z at *
        go_wp2_with (go_at_call 59; go_must ((with_reducible refine HP.out.mono ?_); intro e w3 h; obtain ⟨v3, rfl, hr3, hb3⟩ := h; have HB3 := Lib.hid (HB2.out.trans (hb3.mono HB2.out.size)); clear hr3 hb3))
        go_ret2
        exact ⟨_, ret_pair HBAD.out.symm, by rw [if_neg HZ0.out]; exact Row.nil _ _, HB3.out⟩
    · obtain rfl : k = n := by omega
      rw [HE.out] at he
      rw [HE.out] at hr
      have HE2 := Lib.hid he
      have HR2 := Lib.hid hr
      have HB2 := Lib.hid hb
      clear hr hb he
      go_wp2
      go_ret2
      exact ⟨_, ret_pair HE2.out.symm, by rw [if_pos HE2.out, HAL.out]; exact HR2.out, HB2.out⟩
theorem putall_el {w : World} {A : Option Addr} {c : Nat} {l : List SlotEl} (hl : Es w A l) (hT : Tabs w) (hs : OkEl l) (h20 : l.length ≤ 100) :
    Calls Tryz.prog 29 #[.slice A l.length c] w (PuttedAllEl l w) := by
  have HP := Lib.hid (wputall_el (c := c) hl hT hs h20)
  unfold PuttedAllEl at HP
  clear hl hT hs h20
  go_enter Tryz.func29, Tryz.ntmps29
  go_wp2_with (go_at_call 64; go_must ((with_reducible refine HP.out.mono ?_); intro e w1 h; obtain ⟨v, rfl, hr, hb⟩ := h; have HR := Lib.hid hr; have HB := Lib.hid hb; clear hr hb))
  go_ret2
  exact ⟨_, rfl, HR.out, HB.out⟩
end Go.Proofs.YtebgmfjgapmpfaaGreatDoor

/- elems.GetAll of any bytes; the laws' closures. -/
namespace Go.Proofs.YtebgmfjgapmpfaaGreatDoor
open Go.RowKit
set_option linter.unusedVariables false
set_option maxRecDepth 100000

/-- Globals, one behind the other, behind those that are read. -/
noncomputable def elsK (l : List UInt8) : Nat → Nat → List El → Res (List El)
  | 0, q, acc => .ok acc q
  | n + 1, q, acc => (elR l q).bind fun x q2 => elsK l n q2 (acc ++ [x])
theorem elsK_more {l : List UInt8} {n j q : Nat} {acc : List El} (h : j < n) : elsK l (n - j) q acc = (elR l q).bind fun x q2 => elsK l (n - (j + 1)) q2 (acc ++ [x]) := by
  rw [show n - j = n - (j + 1) + 1 by omega]; rfl
/-- A list, and its end. -/
noncomputable def elsR (l : List UInt8) (k : Nat) : Res (List El) := (countR l k).bind fun n k1 => (elsK l n.toNat k1 []).bind fun xs k2 => if k2 < l.length then .err 14 k2 else .ok xs k2
/-- Without its end. -/
noncomputable def itElR (l : List UInt8) (k : Nat) : Res (List El) := (countR l k).bind fun n k1 => elsK l n.toNat k1 []
theorem itElR_end (l : List UInt8) (k : Nat) : elsR l k = (itElR l k).bind fun xs k2 => if k2 < l.length then .err 14 k2 else .ok xs k2 := by
  unfold elsR itElR
  cases countR l k with
  | err c a => rw [Res.bind_err, Res.bind_err, Res.bind_err]
  | ok n k1 => rw [Res.bind_ok, Res.bind_ok]
/-- What holds at the head of GetAll's loop. -/
structure AInEl (w : World) (p : Nat) (l : List UInt8) (k : Nat) (xs : List SlotEl) (v : Value) (W : World) : Prop where
  sc : Sc W p l k
  g : w.grownBy W (some p)
  r : RowEl W w.heap.size v xs
  tb : TbP p W
section
variable {w W W' : World} {p : Nat} {l : List UInt8} {k k' : Nat} {xs : List SlotEl} {x : SlotEl} {v v' : Value}
theorem AInEl.step (h : AInEl w p l k xs v W) (hp : p < w.heap.size) (hg : W.grownBy W' (some p)) (hs : Sc W' p l k') : AInEl w p l k' xs v W' :=
  ⟨hs, gb_trans h.g hg, h.r.past hg hp, h.tb.self hg⟩
theorem AInEl.alloc (h : AInEl w p l k xs v W) (hp : p < w.heap.size) (o : Obj) : AInEl w p l k xs v (W.alloc o) := h.step hp (gb_alloc (gb_refl _ _) o) (h.sc.alloc o)
theorem AInEl.more (h : AInEl w p l k xs v W) (hp : p < w.heap.size) (hg : W.grownBy W' v.ownBlock) (hr : RowEl W' w.heap.size v' (xs ++ [x])) : AInEl w p l k (xs ++ [x]) v' W' := by
  have hlt := h.r.lt
  exact ⟨h.sc.grown hg (fun e => by have := hlt p e.symm; omega) (fun g e => by have := hlt g e; omega), gb_before h.g hg (fun g e => .inr (hlt g e).1), hr, h.tb.grown hg (fun g e => by have := hlt g e; omega)⟩
end
/-- The list that was read. -/
def GotAllEl (p : Nat) (l : List UInt8) (r : Res (List El)) (w : World) (e : Ending) (w' : World) : Prop := match r with
  | .ok xs k => ∃ v rows, e = .returned v ∧ RowEl w' w.heap.size v rows ∧ rows.map (·.1) = xs ∧ Sc w' p l k ∧ w.grownBy w' (some p)
  | .err c a => e = .panicked (stopP c a) ∧ w.grownBy w' (some p)
theorem cfElG (a : Array Value) (w : World) : (callFunc 62 a).run Tryz.prog w = .ok (.enter 62 a) w := by kernel_rfl
set_option maxHeartbeats 4000000 in
theorem wgetitems_el {w : World} {p : Nat} {l : List UInt8} {k0 : Nat} (h : Sc w p l k0) (hT : TbP p w) :
    Calls Tryz.prog 103 #[.pointer (some ⟨p, 0, none⟩), .func (.func 62) #[] #[]] w (GotAllEl p l (itElR l k0) w) := by
  have hp := h.lt
  have hc := count_scan h
  have HT := Lib.hid hT
  have hcf := cfElG
  unfold itElR
  cases hr : countR l k0 with
  | err c a =>
    rw [hr] at hc
    rw [Res.bind_err]
    have HC := Lib.hid hc
    clear h hT hc hr
    go_enter Tryz.func103, Tryz.ntmps103
    go_wp2_with (go_at_call 116; go_must ((with_reducible refine HC.out.mono ?_); rintro e w1 ⟨rfl, hg⟩; have HG := Lib.hid hg; clear hg))
    exact ⟨rfl, rfl, HG.out⟩
  | ok c k1 =>
    rw [hr] at hc
    rw [Res.bind_ok]
    obtain ⟨v0, v1⟩ := countR_ok hr
    obtain ⟨n, rfl⟩ : ∃ n : Nat, c = n := ⟨c.toNat, by omega⟩
    rw [Int.toNat_natCast]
    have HC := Lib.hid hc
    obtain ⟨R, hR⟩ : ∃ R, R = elsK l n k1 [] := ⟨_, rfl⟩
    rw [← hR]
    have HR := Lib.hid hR
    clear h hT hc hr hR
    go_enter Tryz.func103, Tryz.ntmps103
    go_wp2_with (go_at_call 116; go_must ((with_reducible refine HC.out.mono ?_); rintro e w1 ⟨rfl, hs, hg⟩; have HS := Lib.hid hs; have HG := Lib.hid hg; clear hs hg))
    go_loopw [5, 8] (fun v i wr => ∃ (j k : Nat) (rows : List SlotEl), j ≤ n ∧ i = .int .i64 j ∧ rows.length = j ∧ AInEl w p l k rows v wr ∧ elsK l (n - j) k (rows.map (·.1)) = R) (fun _ i _ => n - (intOf i).toNat)
    case atStart => exact ⟨0, k1, [], Nat.zero_le _, rfl, rfl, ⟨HS.out, HG.out, RowEl.nil _ _, HT.out.self HG.out⟩, HR.out.symm⟩
    case round =>
      obtain ⟨j, k, rows, hj, rfl, hlen, ha, hgs⟩ := hrel
      by_cases hlt : j < n
      · rw [elsK_more hlt] at hgs
        have hG := get_el ha.sc ha.tb
        cases hg1 : elR l k with
        | err c a =>
          rw [hg1] at hG hgs
          rw [Res.bind_err] at hgs
          have HGe := Lib.hid hG
          have HA := Lib.hid ha
          have HRE := Lib.hid (show R = .err c a from hgs.symm)
          clear ha hG hg1 hlen hgs
          go_wp2_with (go_at_call 62; go_must ((with_reducible refine HGe.out.mono ?_); rintro e w2 ⟨rfl, hg⟩; have HG2 := Lib.hid hg; clear hg))
          exact ⟨rfl, by rw [HRE.out]; exact ⟨rfl, gb_trans HA.out.g HG2.out⟩⟩
        | ok x k2 =>
          rw [hg1] at hG hgs
          rw [Res.bind_ok] at hgs
          have HGe := Lib.hid (show Calls Tryz.prog 62 #[.pointer (some ⟨p, 0, none⟩)] wr (fun e w' => ∃ A c F f, e = .returned (elV x A c F f) ∧ Sc w' p l k2 ∧ wr.grownBy w' (some p) ∧ LabT w' F x.fs ∧ ∀ a, F = some a → wr.heap.size ≤ a.block) from hG)
          have hzr := ha.g.size
          have HA := Lib.hid ha
          have HGS := Lib.hid hgs
          have hle : rows.length ≤ 10000 := by omega
          have HLEN := Lib.hid hlen
          clear ha hG hg1 hgs hlen
          go_wp2_with (first
            | (go_at_call 62; go_must ((with_reducible refine HGe.out.mono ?_); intro e w2 hq; obtain ⟨A, c, F, f, rfl, hs, hg, hlt2, hlf⟩ := hq; have HA2 := Lib.hid (HA.out.step hp hg hs); have hz2 := HA2.out.g.size; have HX := Lib.hid (Whole.made w2 62 (qC (x, (A, c), (F, f)))); have HLT := Lib.hid (hlt2.on (below_box w2 (.cells (qC (x, (A, c), (F, f))) 62))); have HLF := Lib.hid (fun a ha => Nat.le_trans hzr (hlf a ha)); clear hs hg hlt2 hlf))
            | (at_builtin; (refine rowEl_new rfl _ _ rfl w.heap.size _ rows rfl (HA2.out.alloc hp _).r w2.heap.size (x, (A, c), (F, f)) rfl HX.out HLT.out HLF.out hle (Nat.le_trans hz2 (below_box w2 _).size) ?_; intro v3 w3 hr3 hg3; have HA3 := Lib.hid ((HA2.out.alloc hp _).more hp hg3 hr3); clear hr3 hg3)))
          go_roundw
          case rel => exact ⟨j + 1, k2, rows ++ [(x, (A, c), (F, f))], by omega, by go_num, by rw [List.length_append, HLEN.out, List.length_singleton], HA3.out, by rw [List.map_append]; exact HGS.out⟩
          case measure => simp [intOf]; omega
      · obtain rfl : j = n := by omega
        rw [Nat.sub_self] at hgs
        have HA := Lib.hid ha
        have HRE := Lib.hid (show R = .ok (rows.map (·.1)) k from hgs.symm)
        clear ha hgs
        go_wp2
        go_ret
        rw [HRE.out]
        exact ⟨_, rows, rfl, HA.out.r, rfl, HA.out.sc, HA.out.g⟩
theorem wgetall_el {w : World} {p : Nat} {l : List UInt8} {k0 : Nat} (h : Sc w p l k0) (hT : TbP p w) :
    Calls Tryz.prog 61 #[.pointer (some ⟨p, 0, none⟩), .func (.func 62) #[] #[]] w (GotAllEl p l (elsR l k0) w) := by
  have hp := h.lt
  have HI := wgetitems_el h hT
  rw [itElR_end]
  clear h hT
  cases hr : itElR l k0 with
  | err c a =>
    rw [hr] at HI
    rw [Res.bind_err]
    have HI := Lib.hid HI
    clear hr
    go_enter Tryz.func61, Tryz.ntmps61
    go_wp2_with (go_at_call 103; go_must ((with_reducible refine HI.out.mono ?_); rintro e w1 ⟨rfl, hg⟩; have HG := Lib.hid hg; clear hg))
    exact ⟨rfl, rfl, HG.out⟩
  | ok xs k =>
    rw [hr] at HI
    rw [Res.bind_ok]
    have HI := Lib.hid (show Calls Tryz.prog 103 _ w (fun e w' => ∃ v rows, e = .returned v ∧ RowEl w' w.heap.size v rows ∧ rows.map (·.1) = xs ∧ Sc w' p l k ∧ w.grownBy w' (some p)) from HI)
    clear hr
    by_cases hk : k < l.length
    · rw [if_pos hk]
      have HEn := Lib.hid (fun W (hs : Sc W p l k) => end_bad hs hk)
      clear hk
      go_enter Tryz.func61, Tryz.ntmps61
      go_wp2_with (first
        | (go_at_call 103; go_must ((with_reducible refine HI.out.mono ?_); intro e w1 hq; obtain ⟨v, rows, rfl, hr, hm, hs, hg⟩ := hq; have HS := Lib.hid hs; have HG := Lib.hid hg; clear hr hs hg hm))
        | (go_at_call 91; go_must ((with_reducible refine (HEn.out _ HS.out).mono ?_); rintro e w2 ⟨rfl, hg⟩; have HG2 := Lib.hid hg; clear hg)))
      exact ⟨rfl, rfl, gb_trans HG.out HG2.out⟩
    · rw [if_neg hk]
      have HEn := Lib.hid (fun W (hs : Sc W p l k) => show Calls Tryz.prog 91 #[.pointer (some ⟨p, 0, none⟩)] W (fun e w' => e = .returned (.tuple #[]) ∧ ∃ m, w' = W.drewN m) from by
        have hle := hs.le.1
        obtain rfl : k = l.length := by omega
        exact end_ok hs)
      clear hk
      go_enter Tryz.func61, Tryz.ntmps61
      go_wp2_with (first
        | (go_at_call 103; go_must ((with_reducible refine HI.out.mono ?_); intro e w1 hq; obtain ⟨v, rows, rfl, hr, hm, hs, hg⟩ := hq; have HR := Lib.hid hr; have HM := Lib.hid hm; have HS := Lib.hid hs; have HG := Lib.hid hg; clear hr hs hg hm))
        | (go_at_call 91; go_must ((with_reducible refine (HEn.out _ HS.out).mono ?_); rintro e w2 ⟨rfl, m, rfl⟩)))
      go_ret
      exact ⟨_, rows, rfl, HR.out.past (gb_drewN (gb_refl _ (some p)) m) hp, HM.out, HS.out.drewN m, gb_trans HG.out (gb_drewN (gb_refl _ _) m)⟩
theorem getall_el {w : World} {p : Nat} {l : List UInt8} {k0 : Nat} (h : Sc w p l k0) (hT : TbP p w) :
    Calls Tryz.prog 23 #[.pointer (some ⟨p, 0, none⟩)] w (GotAllEl p l (elsR l k0) w) := by
  have HP := wgetall_el h hT
  clear h hT
  cases hr : elsR l k0 with
  | err c a =>
    rw [hr] at HP
    have HP := Lib.hid HP
    clear hr
    go_enter Tryz.func23, Tryz.ntmps23
    go_wp2_with (go_at_call 61; go_must ((with_reducible refine HP.out.mono ?_); rintro e w1 ⟨rfl, hg⟩; have HG := Lib.hid hg; clear hg))
    exact ⟨rfl, rfl, HG.out⟩
  | ok xs k =>
    rw [hr] at HP
    have HP := Lib.hid (show Calls Tryz.prog 61 #[.pointer (some ⟨p, 0, none⟩), .func (.func 62) #[] #[]] w (fun e w' => ∃ v rows, e = .returned v ∧ RowEl w' w.heap.size v rows ∧ rows.map (·.1) = xs ∧ Sc w' p l k ∧ w.grownBy w' (some p)) from HP)
    clear hr
    go_enter Tryz.func23, Tryz.ntmps23
    go_wp2_with (go_at_call 61; go_must ((with_reducible refine HP.out.mono ?_); intro e w1 hq; obtain ⟨v, rows, rfl, hr, hm, hs, hg⟩ := hq; have HR := Lib.hid hr; have HS := Lib.hid hs; have HG := Lib.hid hg; have HM := Lib.hid hm; clear hr hs hg hm))
    go_ret
    exact ⟨_, rows, rfl, HR.out, HM.out, HS.out, HG.out⟩
end Go.Proofs.YtebgmfjgapmpfaaGreatDoor

/- creelref13.GetAll of any bytes; creelref13.Same. -/
namespace Go.Proofs.YtebgmfjgapmpfaaGreatDoor
open Go.RowKit
set_option linter.unusedVariables false
set_option maxRecDepth 100000

/-- What holds at the head of the reference's loop. -/
structure BInEl (w : World) (q : Nat) (l : List UInt8) (s : RSt) (xs : List SlotEl) (v : Value) (W : World) : Prop where
  rs : Rs W q l s
  g : w.grownBy W (some q)
  r : RowEl W w.heap.size v xs
section
variable {w W W' : World} {q : Nat} {l : List UInt8} {s s' : RSt} {xs : List SlotEl} {x : SlotEl} {v v' : Value}
theorem BInEl.step (h : BInEl w q l s xs v W) (hq : q < w.heap.size) (hg : W.grownBy W' (some q)) (hs : Rs W' q l s') : BInEl w q l s' xs v W' :=
  ⟨hs, gb_trans h.g hg, h.r.past hg hq⟩
theorem BInEl.alloc (h : BInEl w q l s xs v W) (hq : q < w.heap.size) (o : Obj) : BInEl w q l s xs v (W.alloc o) := h.step hq (gb_alloc (gb_refl _ _) o) (h.rs.alloc o)
theorem BInEl.more (h : BInEl w q l s xs v W) (hq : q < w.heap.size) (hg : W.grownBy W' v.ownBlock) (hr : RowEl W' w.heap.size v' (xs ++ [x])) : BInEl w q l s (xs ++ [x]) v' W' := by
  have hlt := h.r.lt
  exact ⟨h.rs.grown hg (fun e => by have := hlt q e.symm; omega) (fun g e => by have := hlt g e; omega), gb_before h.g hg (fun g e => .inr (hlt g e).1), hr⟩
end
/-- How far the list is. -/
def ElInv (l : List UInt8) (n j : Nat) (s : RSt) (rows : List SlotEl) (R : Res (List El)) : Prop := match s with
  | .at k => elsK l (n - j) k (rows.map (·.1)) = R
  | .bad c a => R = .err c a
theorem ElInv.step {l : List UInt8} {n j k : Nat} {rows : List SlotEl} {R : Res (List El)} (h : ElInv l n j (.at k) rows R) (hlt : j < n) {x : El} {A : Option Addr} {c : Nat} {F : Option Addr} {f : Nat} (hv : ∀ y k2, elR l k = .ok y k2 → x = y) :
    ElInv l n (j + 1) (stOf (elR l k)) (rows ++ [(x, (A, c), (F, f))]) R := by
  have h1 : elsK l (n - j) k (rows.map (·.1)) = R := h
  rw [elsK_more hlt] at h1
  cases hg : elR l k with
  | err c a =>
    rw [hg, Res.bind_err] at h1
    exact h1.symm
  | ok y k2 =>
    rw [hg, Res.bind_ok] at h1
    obtain rfl := hv y k2 hg
    show elsK l (n - (j + 1)) k2 ((rows ++ [(x, (A, c), (F, f))]).map (·.1)) = R
    rw [List.map_append]
    exact h1
/-- What creelref13.GetAll leaves behind. -/
def RGotAllEl (q : Nat) (l : List UInt8) (r : Res (List El)) (w : World) (e : Ending) (w' : World) : Prop := match r with
  | .ok xs k => ∃ v rows, e = .returned v ∧ RowEl w' w.heap.size v rows ∧ rows.map (·.1) = xs ∧ Rs w' q l (.at k) ∧ w.grownBy w' (some q)
  | .err c a => e = .returned (.slice none 0 0) ∧ Rs w' q l (.bad c a) ∧ w.grownBy w' (some q)
set_option maxHeartbeats 4000000 in
theorem rgetall_el {w : World} {q : Nat} {l : List UInt8} {k0 : Nat} (h : Rs w q l (.at k0)) :
    Calls Tryz.prog 24 #[.pointer (some ⟨q, 0, none⟩)] w (RGotAllEl q l (elsR l k0) w) := by
  have hq := h.lt
  have hC := count_ref h
  have key : ∃ (n : Nat) (s0 : RSt) (R : Res (List El)), vZ (countR l k0) = n ∧ n ≤ 10000 ∧ stOf (countR l k0) = s0 ∧ ElInv l n 0 s0 [] R ∧ elsR l k0 = R.bind fun xs k2 => if k2 < l.length then .err 14 k2 else .ok xs k2 := by
    unfold elsR
    cases hr : countR l k0 with
    | err c a => exact ⟨0, .bad c a, .err c a, rfl, by omega, rfl, rfl, rfl⟩
    | ok v k1 =>
      obtain ⟨v0, v1⟩ := countR_ok hr
      obtain ⟨n, rfl⟩ : ∃ n : Nat, v = n := ⟨v.toNat, by omega⟩
      exact ⟨n, .at k1, elsK l n k1 [], rfl, by omega, rfl, rfl, by rw [Res.bind_ok, Int.toNat_natCast]⟩
  obtain ⟨n, s0, R, e1, e2, e3, hiv, hT⟩ := key
  rw [e1, e3] at hC
  obtain ⟨T, hTe⟩ : ∃ T, T = elsR l k0 := ⟨_, rfl⟩
  rw [← hTe] at hT ⊢
  have HC := Lib.hid hC
  have HTE := Lib.hid hT
  have HIV := Lib.hid hiv
  clear h hC e1 e3 hiv hT hTe
  go_enter Tryz.func24, Tryz.ntmps24
  go_wp2_with (go_at_call 49; go_must ((with_reducible refine HC.out.mono ?_); rintro e w1 ⟨rfl, hs, hg⟩; have HS := Lib.hid hs; have HG := Lib.hid hg; clear hs hg))
  go_loopw [4, 5] (fun v i wr => ∃ (j : Nat) (s : RSt) (rows : List SlotEl), j ≤ n ∧ i = .int .i64 j ∧ rows.length = j ∧ BInEl w q l s rows v wr ∧ ElInv l n j s rows R) (fun _ i _ => n - (intOf i).toNat)
  case atStart => exact ⟨0, s0, [], Nat.zero_le _, rfl, rfl, ⟨HS.out, HG.out, RowEl.nil _ _⟩, HIV.out⟩
  case round =>
    obtain ⟨j, s, rows, hj, rfl, hlen, hb, hiv⟩ := hrel
    have HB := Lib.hid hb
    have HLEN := Lib.hid hlen
    have hle : rows.length ≤ 10000 := by omega
    cases s with
    | bad c a =>
      have x2 := why_bad hb.rs
      have dw : (c != 0) = true := by simpa using hb.rs.nz
      have dw2 : (c == 0) = false := by simpa using hb.rs.nz
      have HRE := Lib.hid (show T = .err c a by rw [HTE.out, show R = .err c a from hiv, Res.bind_err])
      have HEn := Lib.hid (fun W (g : Rs W q l (.bad c a)) => show Calls Tryz.prog 51 #[.pointer (some ⟨q, 0, none⟩)] W fun e w' => e = .returned (.tuple #[]) ∧ Rs w' q l (.bad c a) ∧ W.grownBy w' (some q) from end_ref g)
      clear hb hiv hlen hle
      by_cases hlt : j < n
      all_goals
        go_wp2_with (go_at_call 51; go_must ((with_reducible refine (HEn.out _ HB.out.rs).mono ?_); rintro e w2 ⟨rfl, hs, hg⟩; clear x2; have x2 := why_bad hs; have HS2 := Lib.hid hs; have HG2 := Lib.hid hg; clear hs hg))
        go_ret
        rw [HRE.out]
        exact ⟨rfl, HS2.out, gb_trans HB.out.g HG2.out⟩
    | «at» k =>
      have x2 := why_at hb.rs
      by_cases hlt : j < n
      · have HG := Lib.hid (show Calls Tryz.prog 63 #[.pointer (some ⟨q, 0, none⟩)] wr (fun e w' => ∃ (x : El) (A : Option Addr) (c : Nat) (F : Option Addr) (f : Nat), e = .returned (elV x A c F f) ∧ Rs w' q l (stOf (elR l k)) ∧ (∀ y k2, elR l k = .ok y k2 → x = y) ∧ wr.grownBy w' (some q) ∧ LabT w' F x.fs ∧ ∀ a, F = some a → wr.heap.size ≤ a.block) from rget_el hb.rs)
        have hzr := hb.g.size
        have HST := Lib.hid (fun (x : El) (A : Option Addr) (c : Nat) (F : Option Addr) (f : Nat) (hv : ∀ y k2, elR l k = .ok y k2 → x = y) => ElInv.step (A := A) (c := c) (F := F) (f := f) hiv hlt hv)
        clear hb hiv hlen
        go_wp2_with (first
          | (go_at_call 63; go_must ((with_reducible refine HG.out.mono ?_); intro e w2 hqq; obtain ⟨x, A, c, F, f, rfl, hs, hv, hg, hlt2, hlf⟩ := hqq; have HV := Lib.hid hv; have HA2 := Lib.hid (HB.out.step hq hg hs); have hz2 := HA2.out.g.size; have HX := Lib.hid (Whole.made w2 62 (qC (x, (A, c), (F, f)))); have HLT := Lib.hid (hlt2.on (below_box w2 (.cells (qC (x, (A, c), (F, f))) 62))); have HLF := Lib.hid (fun a ha => Nat.le_trans hzr (hlf a ha)); clear hs hg hv x2 hlt2 hlf))
          | (at_builtin; (refine rowEl_new rfl _ _ rfl w.heap.size _ rows rfl (HA2.out.alloc hq _).r w2.heap.size (x, (A, c), (F, f)) rfl HX.out HLT.out HLF.out hle (Nat.le_trans hz2 (below_box w2 _).size) ?_; intro v3 w3 hr3 hg3; have HA3 := Lib.hid ((HA2.out.alloc hq _).more hq hg3 hr3); clear hr3 hg3)))
        go_roundw
        case rel => exact ⟨j + 1, _, rows ++ [(x, (A, c), (F, f))], by omega, by go_num, by rw [List.length_append, HLEN.out, List.length_singleton], HA3.out, HST.out x A c F f HV.out⟩
        case measure => simp [intOf]; omega
      · obtain rfl : j = n := by omega
        have hR : R = .ok (rows.map (·.1)) k := by
          have h1 : elsK l (j - j) k (rows.map (·.1)) = R := hiv
          rw [Nat.sub_self] at h1
          exact h1.symm
        by_cases hk : k < l.length
        · have HRE := Lib.hid (show T = .err 14 k by rw [HTE.out, hR, Res.bind_ok, if_pos hk])
          have HEn := Lib.hid (fun W (g : Rs W q l (.at k)) => show Calls Tryz.prog 51 #[.pointer (some ⟨q, 0, none⟩)] W fun e w' => e = .returned (.tuple #[]) ∧ Rs w' q l (.bad 14 k) ∧ W.grownBy w' (some q) from by have := end_ref g; rw [show endS l (.at k) = .bad 14 k from if_pos hk] at this; exact this)
          clear hb hiv hlen hle hR hk
          go_wp2_with (go_at_call 51; go_must ((with_reducible refine (HEn.out _ HB.out.rs).mono ?_); rintro e w2 ⟨rfl, hs, hg⟩; clear x2; have x2 := why_bad hs; have HS2 := Lib.hid hs; have HG2 := Lib.hid hg; clear hs hg))
          go_ret
          rw [HRE.out]
          exact ⟨rfl, HS2.out, gb_trans HB.out.g HG2.out⟩
        · have HRE := Lib.hid (show T = .ok (rows.map (·.1)) k by rw [HTE.out, hR, Res.bind_ok, if_neg hk])
          have HEn := Lib.hid (fun W (g : Rs W q l (.at k)) => show Calls Tryz.prog 51 #[.pointer (some ⟨q, 0, none⟩)] W fun e w' => e = .returned (.tuple #[]) ∧ Rs w' q l (.at k) ∧ W.grownBy w' (some q) from by have := end_ref g; rw [show endS l (.at k) = .at k from if_neg hk] at this; exact this)
          clear hb hiv hlen hle hR hk
          go_wp2_with (go_at_call 51; go_must ((with_reducible refine (HEn.out _ HB.out.rs).mono ?_); rintro e w2 ⟨rfl, hs, hg⟩; clear x2; have x2 := why_at hs; have HB2 := Lib.hid (HB.out.step hq hg hs); clear hs hg))
          go_ret
          rw [HRE.out]
          exact ⟨_, rows, rfl, HB2.out.r, rfl, HB2.out.rs, HB2.out.g⟩
end Go.Proofs.YtebgmfjgapmpfaaGreatDoor

/- abort.Value of a function that ends well, whatever it hands back: []api.Elem. Value of one that aborts. -/
namespace Go.Proofs.YtebgmfjgapmpfaaGreatDoor
open Go.RowKit
set_option linter.unusedVariables false
set_option maxRecDepth 100000

theorem cfVEls (cap : Array Value) (w : World) : (callFunc 60 cap).run Tryz.prog w = .ok (.enter 60 cap) w := by kernel_rfl
section
variable {T : (Option Addr × Nat × Nat) → World → Prop}
/-- Value's own closure: what the step hands back lies in its cell. -/
theorem valClosEls {g : FuncId} {cap : Array Value} {b1 b4 q : Nat} {w : World} {z : Array Value} (hz : z.size = 1) (hcf : ∀ w : World, (callFunc g cap).run Tryz.prog w = .ok (.enter g cap) w)
    (h1 : Whole w b1 58 #[.func (.func g) #[] cap]) (h4 : Whole w b4 54 #[.slice none 0 0]) (hb : q < b4) (hT : ∀ x W W', T x W → W.grownBy W' (some b4) → T x W')
    (h : Calls Tryz.prog g cap w fun e w' => ∃ x, e = .returned (.slice x.1 x.2.1 x.2.2) ∧ T x w' ∧ w.grownBy w' (some q)) :
    Calls Tryz.prog 60 #[.pointer (some ⟨b1, 0, none⟩), .pointer (some ⟨b4, 0, none⟩)] w fun e w' =>
      e = .returned (.tuple #[]) ∧ ∃ x, T x w' ∧ Whole w' b4 54 #[.slice x.1 x.2.1 x.2.2] ∧ ∃ w1, w.grownBy w1 (some q) ∧ w1.grownBy w' (some b4) := by
  have hnil : ∀ w : World, (binOp BinOp.neq 58 (.func (.func g) #[] cap) .nilFunc).run Tryz.prog w = .ok (.bool true) w := fun _ => by kernel_rfl
  have c1 := h1.cell 0
  simp only [List.getElem?_toArray, List.getElem?_cons_zero] at c1
  have HH := Lib.hid h
  have H4 := Lib.hid h4
  have HT := Lib.hid hT
  clear h h1 h4 hT
  go_enter Tryz.func60, Tryz.ntmps60
  go_wp2_with fail
  refine HH.out.mono ?_
  rintro e w1 ⟨x, rfl, hs, hg⟩
  have HW := H4.out.grown hg (by simp only [ne_eq, Option.some.injEq]; omega)
  have k0 := HW.cell 0
  have f0 := HW.frozen 0
  simp only [List.getElem?_toArray, List.getElem?_cons_zero] at k0
  obtain ⟨p1, p2⟩ := put1 (u0 := .slice x.1 x.2.1 x.2.2) HW
  have F : Hid (T x (w1.setCell ⟨b4, 0, none⟩ (.slice x.1 x.2.1 x.2.2))) := HT.out _ _ _ hs p2
  have P1 := Lib.hid p1
  have P2 := Lib.hid p2
  have HG := Lib.hid hg
  clear p1 p2 hs hg HW hcf
  go_wp2_with fail
  go_end0
  exact ⟨rfl, x, F.out, P1.out, w1, HG.out, P2.out⟩
/-- What Value's closure leaves behind, seen from Value's beginning. -/
structure VSEls (T : (Option Addr × Nat × Nat) → World → Prop) (w : World) (q : Nat) (x : (Option Addr × Nat × Nat)) (w1 : World) : Prop where
  kept : T x w1
  grown : w.grownBy w1 (some q)
  val : Whole w1 (w.heap.size + 2) 54 #[.slice x.1 x.2.1 x.2.2]
  r2 : Whole w1 (w.heap.size + 1) 32 #[.int .i64 0, .int .i64 0]
/-- The world in which Value calls Out. -/
def vWorldEls (g : FuncId) (cap : Array Value) (w : World) : World :=
  ((w.alloc (.cells #[.func (.func g) #[] cap] 58)).alloc (.cells #[.int .i64 0, .int .i64 0] 32)).alloc (.cells #[.slice none 0 0] 54)
theorem vWorld_factsEls (g : FuncId) (cap : Array Value) (w : World) : (vWorldEls g cap w).heap.size = w.heap.size + 3 ∧ Whole (vWorldEls g cap w) w.heap.size 58 #[.func (.func g) #[] cap] ∧
    Whole (vWorldEls g cap w) (w.heap.size + 1) 32 #[.int .i64 0, .int .i64 0] ∧
    Whole (vWorldEls g cap w) (w.heap.size + 2) 54 #[.slice none 0 0] ∧ Below w.heap.size w (vWorldEls g cap w) := by
  have b1 := Whole.made w 58 #[.func (.func g) #[] cap]
  have b3 := Whole.made (w.alloc (.cells #[.func (.func g) #[] cap] 58)) 32 #[.int .i64 0, .int .i64 0]
  have b4 := Whole.made ((w.alloc (.cells #[.func (.func g) #[] cap] 58)).alloc (.cells #[.int .i64 0, .int .i64 0] 32)) 54 #[.slice none 0 0]
  simp only [World.size_alloc] at b3 b4
  exact ⟨by simp [vWorldEls], (b1.alloc _).alloc _, b3.alloc _, b4,
    (((Below.refl _ _).alloc (Nat.le_refl _) _).alloc (by simp) _).alloc (by simp; omega) _⟩
theorem value_outEls {g : FuncId} {cap : Array Value} {q : Nat} {w : World} (hcf : ∀ w : World, (callFunc g cap).run Tryz.prog w = .ok (.enter g cap) w) (hq : q < w.heap.size)
    (hT : ∀ x W W' b, w.heap.size ≤ b → b < w.heap.size + 4 → T x W → W.grownBy W' (some b) → T x W')
    (h : ∀ W, Below w.heap.size w W → w.heap.size + 4 ≤ W.heap.size → Calls Tryz.prog g cap W fun e w' => ∃ x, e = .returned (.slice x.1 x.2.1 x.2.2) ∧ T x w' ∧ W.grownBy w' (some q)) :
    Calls Tryz.prog 45 #[.func (.func 60) #[] #[.pointer (some ⟨w.heap.size, 0, none⟩), .pointer (some ⟨w.heap.size + 2, 0, none⟩)]] (vWorldEls g cap w) fun e w' => e = .returned (.agg #[.int .i64 0, .int .i64 0]) ∧ ∃ x, VSEls T w q x w' := by
  obtain ⟨hz, b1, b3, b4, hbe⟩ := vWorld_factsEls g cap w
  have b5 := Whole.made (vWorldEls g cap w) 32 #[.int .i64 0, .int .i64 0]
  have hbe2 : Below w.heap.size w ((vWorldEls g cap w).alloc (.cells #[.int .i64 0, .int .i64 0] 32)) := hbe.alloc (by omega) _
  have hc := valClosEls (T := T) (z := #[.slice none 0 0]) rfl hcf (b1.alloc (.cells #[.int .i64 0, .int .i64 0] 32)) (b4.alloc _) (by omega : q < w.heap.size + 2) (fun x W W' => hT x W W' _ (by omega) (by omega)) (h _ hbe2 (by rw [size_box]; omega))
  refine (out_any _ _ 0 0 (vWorldEls g cap w) (fun w1 => (∃ x, VSEls T w q x w1) ∧ Whole w1 (vWorldEls g cap w).heap.size 32 #[.int .i64 0, .int .i64 0]) (cfVEls _) (hc.mono ?_) (fun _ h => h.2)).mono ?_
  · rintro e w' ⟨rfl, x, hs, hv, w1, hg1, hg2⟩
    have hz2 : w.heap.size + 4 ≤ w1.heap.size := by have := hg1.size; simp only [World.size_alloc] at this; omega
    refine ⟨.inl ⟨rfl, rfl, rfl⟩, ⟨x, hs, ?_, hv, ?_⟩, ?_⟩
    · exact gb_before (gb_trans (gb_of_below (some q) hbe2) hg1) hg2 (fun g e => .inr (by injection e with e; omega))
    · exact ((b3.alloc _).grown hg1 (by simp only [ne_eq, Option.some.injEq]; omega)).grown hg2 (by simp only [ne_eq, Option.some.injEq]; omega)
    · exact (b5.grown hg1 (by simp only [ne_eq, Option.some.injEq]; omega)).grown hg2 (by simp only [ne_eq, Option.some.injEq]; omega)
  · rintro e w' ⟨rfl, w1, ⟨⟨x, hs⟩, _⟩, hg⟩
    rw [hz] at hg
    exact ⟨rfl, x, hT x _ _ _ (by omega) (by omega) hs.kept hg, gb_before hs.grown hg (fun g e => .inr (by injection e with e; omega)), hs.val.grown hg (by simp only [ne_eq, Option.some.injEq]; omega), hs.r2.grown hg (by simp only [ne_eq, Option.some.injEq]; omega)⟩

set_option maxHeartbeats 800000 in
/-- Value of a function that ends well. -/
theorem valueEls_ok {g : FuncId} {cap : Array Value} {q : Nat} {w : World} (hcf : ∀ w : World, (callFunc g cap).run Tryz.prog w = .ok (.enter g cap) w) (hq : q < w.heap.size)
    (hT : ∀ x W W' b, w.heap.size ≤ b → b < w.heap.size + 4 → T x W → W.grownBy W' (some b) → T x W')
    (h : ∀ W, Below w.heap.size w W → w.heap.size + 4 ≤ W.heap.size → Calls Tryz.prog g cap W fun e w' => ∃ x, e = .returned (.slice x.1 x.2.1 x.2.2) ∧ T x w' ∧ W.grownBy w' (some q)) :
    Calls Tryz.prog 21 #[.func (.func g) #[] cap] w fun e w' => ∃ x, e = .returned (.tuple #[.slice x.1 x.2.1 x.2.2, .agg #[.int .i64 0, .int .i64 0]]) ∧ T x w' ∧ w.grownBy w' (some q) := by
  have hv := value_outEls hcf hq hT h
  unfold vWorldEls at hv
  have HV := Lib.hid hv
  have HT := Lib.hid hT
  have hmf : ∀ (fn : Fn) (first cap : Array Value) (w : World), (Instr.makeFunc fn first cap).run Tryz.prog w = .ok (.func fn first cap) w := fun _ _ _ _ => rfl
  clear h hv hcf hT
  go_enter Tryz.func21, Tryz.ntmps21
  go_wp2_with (go_at_call 45; go_must (refine HV.out.mono ?_; rintro e w2 ⟨rfl, x, hl⟩; have k0 := fun o => (hl.val.alloc o).cell 0; have f8 := fun o => (hl.r2.alloc o).frozen 0; have f9 := fun o => (hl.r2.alloc o).frozen 1; have m8 := fun o => (hl.r2.alloc o).cell 0; have m9 := fun o => (hl.r2.alloc o).cell 1; simp only [List.getElem?_toArray, List.getElem?_cons_zero, List.getElem?_cons_succ] at k0 m8 m9; have hz := hl.grown.size; have HL := Lib.hid hl; clear hl))
  obtain ⟨p2, g2⟩ := put2 (u0 := .int .i64 0) (u1 := .int .i64 0) (HL.out.r2.alloc (.cells #[.int .i64 0, .int .i64 0] 32))
  have q8 := p2.cell 0
  have q9 := p2.cell 1
  simp only [List.getElem?_toArray, List.getElem?_cons_zero, List.getElem?_cons_succ] at q8 q9
  refine bodyPost_ret (v := .tuple #[.slice x.1 x.2.1 x.2.2, .agg #[.int .i64 0, .int .i64 0]]) (by simp [results, Tryz.results21, go_sem, q8, q9]) rfl ⟨x, rfl, ?_, ?_⟩
  · exact HT.out _ _ _ _ (by omega) (by omega) (HT.out _ _ _ w.heap.size (Nat.le_refl _) (by omega) HL.out.kept (gb_alloc (gb_refl _ _) _)) g2
  · exact gb_before (gb_alloc HL.out.grown _) g2 (fun g e => .inr (by injection e with e; omega))
end
/-- Value's own closure: what aborts goes on. -/
theorem valClosElsE {g : FuncId} {cap : Array Value} {b1 b4 q : Nat} {w : World} {c a : Int} (hcf : ∀ w : World, (callFunc g cap).run Tryz.prog w = .ok (.enter g cap) w)
    (h1 : Whole w b1 58 #[.func (.func g) #[] cap])
    (h : Calls Tryz.prog g cap w fun e w' => e = .panicked (stopP c a) ∧ w.grownBy w' (some q)) :
    Calls Tryz.prog 60 #[.pointer (some ⟨b1, 0, none⟩), .pointer (some ⟨b4, 0, none⟩)] w fun e w' => e = .panicked (stopP c a) ∧ w.grownBy w' (some q) := by
  have hnil : ∀ w : World, (binOp BinOp.neq 58 (.func (.func g) #[] cap) .nilFunc).run Tryz.prog w = .ok (.bool true) w := fun _ => by kernel_rfl
  have c1 := h1.cell 0
  simp only [List.getElem?_toArray, List.getElem?_cons_zero] at c1
  have HH := Lib.hid h
  clear h h1
  go_enter Tryz.func60, Tryz.ntmps60
  go_wp2_with fail
  refine HH.out.mono ?_
  rintro e w1 ⟨rfl, hg⟩
  exact ⟨rfl, rfl, hg⟩
theorem value_outElsE {g : FuncId} {cap : Array Value} {q : Nat} {w : World} {c a : Int} (hc : ¬ c = 0) (hcf : ∀ w : World, (callFunc g cap).run Tryz.prog w = .ok (.enter g cap) w) (hq : q < w.heap.size)
    (h : ∀ W, Below w.heap.size w W → w.heap.size + 4 ≤ W.heap.size → Calls Tryz.prog g cap W fun e w' => e = .panicked (stopP c a) ∧ W.grownBy w' (some q)) :
    Calls Tryz.prog 45 #[.func (.func 60) #[] #[.pointer (some ⟨w.heap.size, 0, none⟩), .pointer (some ⟨w.heap.size + 2, 0, none⟩)]] (vWorldEls g cap w) fun e w' => e = .returned (.agg #[.int .i64 c, .int .i64 a]) ∧
      w.grownBy w' (some q) ∧ w.heap.size + 3 ≤ w'.heap.size ∧ Whole w' (w.heap.size + 2) 54 #[.slice none 0 0] ∧ Whole w' (w.heap.size + 1) 32 #[.int .i64 0, .int .i64 0] := by
  obtain ⟨hz, b1, b3, b4, hbe⟩ := vWorld_factsEls g cap w
  have b5 := Whole.made (vWorldEls g cap w) 32 #[.int .i64 0, .int .i64 0]
  have hbe2 : Below w.heap.size w ((vWorldEls g cap w).alloc (.cells #[.int .i64 0, .int .i64 0] 32)) := hbe.alloc (by omega) _
  have hcl := valClosElsE (b4 := w.heap.size + 2) hcf (b1.alloc (.cells #[.int .i64 0, .int .i64 0] 32)) (h _ hbe2 (by rw [size_box]; omega))
  refine (out_any _ _ c a (vWorldEls g cap w) (fun w1 => ((vWorldEls g cap w).alloc (.cells #[.int .i64 0, .int .i64 0] 32)).grownBy w1 (some q)) (cfVEls _) (hcl.mono ?_) (fun w1 hg => b5.grown hg (by simp only [ne_eq, Option.some.injEq]; omega))).mono ?_
  · rintro e w' ⟨rfl, hg⟩
    exact ⟨.inr ⟨hc, rfl⟩, hg⟩
  · rintro e w' ⟨rfl, w1, hg1, hg2⟩
    have z1 := hg1.size
    have z2 := hg2.size
    rw [size_box] at z1
    rw [hz] at hg2
    exact ⟨rfl, gb_before (gb_trans (gb_of_below (some q) hbe2) hg1) hg2 (fun g e => .inr (by injection e with e; omega)), by omega,
      ((b4.alloc _).grown hg1 (by simp only [ne_eq, Option.some.injEq]; omega)).grown hg2 (by simp only [ne_eq, Option.some.injEq]; omega),
      ((b3.alloc _).grown hg1 (by simp only [ne_eq, Option.some.injEq]; omega)).grown hg2 (by simp only [ne_eq, Option.some.injEq]; omega)⟩
set_option maxHeartbeats 4000000 in
/-- Value of a function that aborts. -/
theorem valueElsE_any {g : FuncId} {cap : Array Value} {q : Nat} {w : World} {c a : Int} (hc : ¬ c = 0) (hcf : ∀ w : World, (callFunc g cap).run Tryz.prog w = .ok (.enter g cap) w) (hq : q < w.heap.size)
    (h : ∀ W, Below w.heap.size w W → w.heap.size + 4 ≤ W.heap.size → Calls Tryz.prog g cap W fun e w' => e = .panicked (stopP c a) ∧ W.grownBy w' (some q)) :
    Calls Tryz.prog 21 #[.func (.func g) #[] cap] w fun e w' => e = .returned (.tuple #[.slice none 0 0, .agg #[.int .i64 c, .int .i64 a]]) ∧ w.grownBy w' (some q) := by
  have hv := value_outElsE hc hcf hq h
  unfold vWorldEls at hv
  have HV := Lib.hid hv
  have dc : (c == 0) = false := by simpa using hc
  have hmf : ∀ (fn : Fn) (first cap : Array Value) (w : World), (Instr.makeFunc fn first cap).run Tryz.prog w = .ok (.func fn first cap) w := fun _ _ _ _ => rfl
  clear h hv hcf hc
  go_enter Tryz.func21, Tryz.ntmps21
  go_wp2_with (go_at_call 45; go_must (refine HV.out.mono ?_; rintro e w2 ⟨rfl, hg, hz, hv, hr2⟩; have HL := Lib.hid (show w.grownBy w2 (some q) ∧ w.heap.size + 3 ≤ w2.heap.size ∧ Whole w2 (w.heap.size + 2) 54 #[.slice none 0 0] ∧ Whole w2 (w.heap.size + 1) 32 #[.int .i64 0, .int .i64 0] from ⟨hg, hz, hv, hr2⟩); clear hg hz hv hr2))
  generalize hW : w2.alloc (.cells #[.int .i64 c, .int .i64 a] 32) = W at *
  have hz2 := HL.out.2.1
  have k3 : Whole W (w.heap.size + 2) 54 #[.slice none 0 0] := by rw [← hW]; exact HL.out.2.2.1.alloc _
  have k2 : Whole W (w.heap.size + 1) 32 #[.int .i64 0, .int .i64 0] := by rw [← hW]; exact HL.out.2.2.2.alloc _
  have k5 : Whole W w2.heap.size 32 #[.int .i64 c, .int .i64 a] := by rw [← hW]; exact Whole.made _ _ _
  have hgW : w.grownBy W (some q) := by rw [← hW]; exact gb_alloc HL.out.1 _
  clear hW
  have K2 := Lib.hid k2
  have KG := Lib.hid hgW
  have v0 := k3.cell 0
  have s0 := k5.cell 0
  have s1 := k5.cell 1
  have n0 := k2.cell 0
  have n1 := k2.cell 1
  have g0 := k2.frozen 0
  have g1 := k2.frozen 1
  have e2 : ¬ w2.heap.size = w.heap.size + 1 := by omega
  simp only [List.getElem?_toArray, List.getElem?_cons_zero, List.getElem?_cons_succ] at v0 s0 s1 n0 n1
  clear k2 k3 k5 hgW
  go_region
  all_goals
    go_wp2
    obtain ⟨p2, j2⟩ := put2 (u0 := .int .i64 c) (u1 := .int .i64 a) K2.out
    have q8 := p2.cell 0
    have q9 := p2.cell 1
    simp only [List.getElem?_toArray, List.getElem?_cons_zero, List.getElem?_cons_succ] at q8 q9
    have hfin := gb_before KG.out j2 (fun g e => .inr (by injection e with e; omega))
    refine bodyPost_ret (v := .tuple #[.slice none 0 0, .agg #[.int .i64 c, .int .i64 a]]) (by simp [results, Tryz.results21, go_sem, q8, q9]) rfl ⟨rfl, ?_⟩
    first | exact hfin | exact gb_drew hfin | exact ⟨hfin.os, hfin.tape, hfin.output, hfin.size, hfin.block⟩
end Go.Proofs.YtebgmfjgapmpfaaGreatDoor

/- abort.Value of a function that ends well, whatever it hands back: api.Elem. (By gen/genVal.py.) -/
namespace Go.Proofs.YtebgmfjgapmpfaaGreatDoor
open Go.RowKit
set_option linter.unusedVariables false
set_option maxRecDepth 100000

section
variable {T : SlotEl → World → Prop}
/-- What Value's closure leaves behind, seen from Value's beginning. -/
structure VSEl (T : SlotEl → World → Prop) (w : World) (q : Nat) (x : SlotEl) (w1 : World) : Prop where
  kept : T x w1
  grown : w.grownBy w1 (some q)
  val : Whole w1 (w.heap.size + 3) 62 #[.int .u8 x.1.i.op.toNat, .int .u64 x.1.i.a, .int .u64 x.1.i.b, .slice x.2.1.1 x.1.i.l.length x.2.1.2, .slice x.2.2.1 x.1.fs.length x.2.2.2]
  r1 : Whole w1 (w.heap.size + 1) 62 #[.int .u8 0, .int .u64 0, .int .u64 0, .slice none 0 0, .slice none 0 0]
  r2 : Whole w1 (w.heap.size + 2) 32 #[.int .i64 0, .int .i64 0]
end
end Go.Proofs.YtebgmfjgapmpfaaGreatDoor

/- creelref13.Put; creelref13.Same of two that are alike. -/
namespace Go.Proofs.YtebgmfjgapmpfaaGreatDoor
open Go.RowKit
set_option linter.unusedVariables false
set_option maxRecDepth 100000

set_option maxHeartbeats 8000000 in
theorem relput_any (x : El) (A : Option Addr) (c : Nat) (F : Option Addr) (f : Nat) (w : World) (oi : x.i.Ok) (h0 : crightZ x.i = 0) (hF : LiesL w F x.fs) (hc : ∀ c ∈ x.fs, 0 ≤ c ∧ c ≤ 4294967295) (hn : x.fs.length ≤ 100) :
    Calls Tryz.prog 28 #[elV x A c F f] w fun e w' => e = .returned (.string (S (eputL x))) ∧ Below w.heap.size w w' := by
  have H0 := Lib.hid (bxEl_start w x A c F f)
  have hcl := cputL_len oi h0
  have hll := lebL_len (x.fs.length : Int) (by omega)
  have HP := Lib.hid (fun W => show Calls Tryz.prog 57 #[insV x.i A c] W fun e w' => e = .returned (.string (S (cputL x.i))) ∧ Below W.heap.size W w' from rcput_any x.i A c W oi (cr_zero h0).1 (by rw [cz_nil h0]; intro j v hv; simp [cells32] at hv))
  have HC := Lib.hid (fun W => count_any (x.fs.length : Int) W (by omega) (by omega))
  have hsp : eputL x = ((0 :: cputL x.i) ++ lebL (x.fs.length : Int)) ++ labsL x.fs := by unfold eputL labL; rw [List.append_assoc]
  rw [hsp]
  obtain ⟨y, hy⟩ : ∃ y, y = cputL x.i := ⟨_, rfl⟩
  obtain ⟨z, hz⟩ : ∃ z, z = lebL (x.fs.length : Int) := ⟨_, rfl⟩
  rw [← hy] at HP hcl ⊢
  rw [← hz] at HC hll ⊢
  have HCB := Lib.hid hc
  have HFl := Lib.hid hF
  have sy := S_size y
  have sz := S_size z
  have e0 : (⟨#[0]⟩ : ByteArray).size = 1 := rfl
  have e1 := S_append [0] y
  have e2 := S_append (0 :: y) z
  have HE : Hid ((⟨#[0]⟩ : ByteArray) ++ S y ++ S z = S ((0 :: y) ++ z)) := by rw [← S_append (0 :: y) z]; exact congrArg (· ++ S z) e1
  have q1b : ¬ 9223372036854775807 < 1 + (S y).size := by omega
  have q2a : ¬ 9223372036854775807 < 1 + (S y).size + (S z).size := by omega
  obtain ⟨P, hP⟩ : ∃ P, P = ((0 :: y) ++ z) ++ labsL x.fs := ⟨_, rfl⟩
  rw [← hP]
  have HPP := Lib.hid hP
  clear hP
  have HL := Lib.hid (fun k => labsL_take_len x.fs hc k (by omega))
  clear hsp h0 oi hy hz hc hF e0 e1 e2 sy sz
  go_enter Tryz.func28, Tryz.ntmps28
  go_wp2
  go_region_held3 (fun W => BxEl w w.heap.size x A c F f W) (first | assumption | exact bxEl_on H0.out (Below.refl _ _).drew)
    (first
      | (go_at_call 57; (with_reducible refine (HP.out _).mono ?_); rintro e w1 ⟨rfl, hb⟩; have hk1 := bxEl_on ‹_› hb; clear hb)
      | (go_at_call 53; (with_reducible refine (HC.out _).mono ?_); rintro e w2 ⟨rfl, hb⟩; have hk2 := bxEl_on ‹_› hb; clear hb))
  go_wp2
  go_loopw [3, 4] (fun s i wr => ∃ (k : Nat), k ≤ x.fs.length ∧ i = .int .i64 k ∧ s = .string (S (((0 :: y) ++ z) ++ labsL (x.fs.take k))) ∧ BxEl w w.heap.size x A c F f wr) (fun _ i _ => x.fs.length - (intOf i).toNat)
  case atStart => exact ⟨0, Nat.zero_le _, rfl, by rw [HE.out]; simp [labsL], hk2⟩
  case round =>
    obtain ⟨k, hk, rfl, rfl, hb⟩ := hrel
    have hb' := hb
    obtain ⟨⟨_, hbel⟩, c0, c1, c2, c3, c4⟩ := hb'
    have HB := Lib.hid hb
    have htl := HL.out k
    obtain ⟨t, ht⟩ : ∃ t, t = ((0 :: y) ++ z) ++ labsL (x.fs.take k) := ⟨_, rfl⟩
    have hlt' : t.length ≤ 200000 := by rw [ht]; simp only [List.length_append, List.length_cons]; omega
    have HT := Lib.hid ht
    rw [← ht]
    by_cases hlt : k < x.fs.length
    · obtain ⟨d, hd⟩ : ∃ d, x.fs[k]? = some d := ⟨_, List.getElem?_eq_getElem hlt⟩
      obtain ⟨b, off, rfl, hbl, hcell⟩ := HFl.out.at hd
      have hcell2 := (hbel.cell (p := ⟨b, off + k, none⟩) hbl).trans hcell
      have hdb := HCB.out d (List.mem_of_getElem? hd)
      have wd : IntKind.i64.wrap d = d := by rw [IntKind.wrap_i64]; omega
      have HCd := Lib.hid (fun W => count_any d W hdb.1 (by omega))
      have hy2 := lebL_len d (by omega)
      have HS := Lib.hid (labsL_snoc hd)
      obtain ⟨v, hv⟩ : ∃ v, v = lebL d := ⟨_, rfl⟩
      rw [← hv] at HCd hy2 HS
      have st := S_size t
      have sv := S_size v
      have q3 : ¬ 9223372036854775807 < (S t).size + (S v).size := by omega
      clear hb hbel hcell hd hv ht htl st sv
      go_wp2_with (go_at_call 53; go_must ((with_reducible refine (HCd.out _).mono ?_); rintro e w3 ⟨rfl, hb⟩; have H3 := Lib.hid (bxEl_on HB.out hb); clear hb))
      go_roundw
      case rel => exact ⟨k + 1, by omega, by go_num, by rw [HS.out, ← List.append_assoc, ← HT.out, S_append], H3.out⟩
      case measure => simp [intOf]; omega
    · have hkn : k = x.fs.length := by omega
      have HTT := Lib.hid (show t = ((0 :: y) ++ z) ++ labsL x.fs by rw [HT.out, hkn, List.take_length])
      clear hb hbel ht htl
      go_wp2
      go_ret
      have e : t = P := HTT.out.trans HPP.out.symm
      subst e
      exact ⟨rfl, bxEl_bel HB.out⟩
set_option maxHeartbeats 2000000 in
/-- Same, of two that are alike and have no labels. -/
theorem rsame_el {w : World} {x : El} {A B : Option Addr} {c d : Nat} {F G : Option Addr} {f g : Nat} (hx : x.i.l = []) (hF : LiesL w F x.fs) (hG : LiesL w G x.fs) (hn : x.fs.length ≤ 100000) :
    Calls Tryz.prog 25 #[elV x A c F f, elV x B d G g] w (BoolPost true w) := by
  have H1 := Whole.made w 62 (elC x A c F f)
  have H2 := made_2 w (.cells (elC x A c F f) 62) 62 (elC x B d G g)
  have hb2 : Below w.heap.size w ((w.alloc (.cells (elC x A c F f) 62)).alloc (.cells (elC x B d G g) 62)) := (below_box w _).alloc (by simp) _
  have hS := refSame_any (w := (w.alloc (.cells (elC x A c F f) 62)).alloc (.cells (elC x B d G g) 62)) (A := A) (B := B) (c := c) (d := d) (i := x.i) (k := x.i) (by rw [hx]; intro j v hv; simp [cells32] at hv) (by rw [hx]; intro j v hv; simp [cells32] at hv) (by rw [hx]; simp) (by rw [hx]; simp)
  rw [same_self] at hS
  have HS := Lib.hid hS
  have HB := Lib.hid hb2
  have HX := Lib.hid (H1.alloc (.cells (elC x B d G g) 62))
  have HY := Lib.hid H2
  have HF := Lib.hid (hF.below hb2)
  have HG := Lib.hid (hG.below hb2)
  have dn : ((x.fs.length : Int) != x.fs.length) = false := by simp
  have dx : ∀ d : Int, (d != d) = false := fun d => by simp
  clear hS hb2 H1 H2 hx hF hG
  go_enter Tryz.func25, Tryz.ntmps25
  go_wp2_with (go_at_call 52; go_must ((with_reducible refine HS.out.mono ?_); rintro e w2 ⟨rfl, hb⟩; have HB2 := Lib.hid hb; clear hb))
  have HX2 := Lib.hid (HX.out.below HB2.out)
  have HY2 := Lib.hid (HY.out.below HB2.out)
  have HF2 := Lib.hid (HF.out.below HB2.out)
  have HG2 := Lib.hid (HG.out.below HB2.out)
  have x4 := HX2.out.cell 4
  have y4 := HY2.out.cell 4
  simp only [List.getElem?_toArray, List.getElem?_cons_zero, List.getElem?_cons_succ] at x4 y4
  go_loopw [5] (fun i wr => ∃ j q : Nat, j ≤ x.fs.length ∧ i = .int .i64 j ∧ wr = w2.drewN q) (fun i _ => x.fs.length - (intOf i).toNat)
  case atStart => exact ⟨0, 0, Nat.zero_le _, rfl, rfl⟩
  case round =>
    obtain ⟨j, q, hj, rfl, rfl⟩ := hrel
    by_cases hlt : j < x.fs.length
    · obtain ⟨v, hv⟩ : ∃ v, x.fs[j]? = some v := ⟨_, List.getElem?_eq_getElem hlt⟩
      obtain ⟨b1, o1, rfl, _, g1⟩ := HF2.out.at hv
      obtain ⟨b2, o2, rfl, _, g2⟩ := HG2.out.at hv
      have hc := dx v
      clear hv
      go_wp2_with fail
      go_region
      go_wp2
      go_roundw
      case measure => simp [intOf]; omega
      case rel => exact ⟨j + 1, q + 1, by omega, by go_num, rfl⟩
    · obtain rfl : j = x.fs.length := by omega
      go_wp2
      go_ret
      exact ⟨rfl, below_drewN (HB.out.trans (HB2.out.mono HB.out.size)) _⟩
end Go.Proofs.YtebgmfjgapmpfaaGreatDoor

/- awake; the laws' closures; two lists side by side. -/
namespace Go.Proofs.YtebgmfjgapmpfaaGreatDoor
open Go.RowKit
set_option linter.unusedVariables false
set_option maxRecDepth 100000

/-- The page's example: two functions, from 5 on. -/
def elEg : El := ⟨cEg, [1, 2]⟩
theorem elEg_put : eputL elEg = [0, 65, 5, 11, 2, 1, 2] := by
  unfold eputL cputL labL labsL
  show (0 :: (putL cEg ++ [11])) ++ (lebL (2 : Int) ++ [(1 : Int), 2].flatMap lebL) = _
  rw [cEg_put, List.flatMap_cons, List.flatMap_cons, List.flatMap_nil, lebL_sm 1 (by omega) (by omega), lebL_sm 2 (by omega) (by omega)]
  rfl
theorem elawake_any (w : World) (hT : Tabs w) : Calls Tryz.prog 20 #[] w fun e w' => e = .returned (.bool true) ∧ Below w.heap.size w w' := by
  have hb0 := below_box w (.cells #[.int .u32 1, .int .u32 2] 97)
  have hF : LiesL (w.alloc (.cells #[.int .u32 1, .int .u32 2] 97)) (some ⟨w.heap.size, 0, none⟩) elEg.fs := (show LabT _ (some ⟨w.heap.size, 0, none⟩) [1, 2] from .inr ⟨w.heap.size, _, rfl, Whole.made w 97 #[.int .u32 1, .int .u32 2], rfl⟩).lies
  have hp := put_el elEg none 0 (some ⟨w.heap.size, 0, none⟩) 2 _ cEg_ok (hT.below hb0) (by decide) hF (by decide) (by decide)
  obtain ⟨l, hl⟩ : ∃ l : List UInt8, l = [0, 65, 5, 11, 2, 1, 2] := ⟨_, rfl⟩
  have HP := Lib.hid (show Calls Tryz.prog 59 #[.agg #[.int .u8 65, .int .u64 5, .int .u64 0, .slice none 0 0, .slice (some ⟨w.heap.size, 0, none⟩) 2 2]] (w.alloc (.cells #[.int .u32 1, .int .u32 2] 97)) fun e w' => ∃ v, e = .returned (.tuple #[v, .int .i64 0]) ∧ Row w' (w.alloc (.cells #[.int .u32 1, .int .u32 2] 97)).heap.size v l ∧ Below (w.alloc (.cells #[.int .u32 1, .int .u32 2] 97)).heap.size (w.alloc (.cells #[.int .u32 1, .int .u32 2] 97)) w' from hp.mono fun e w' ⟨v, h1, h2, h3⟩ => ⟨v, by rw [show crightZ elEg.i = 0 from cEg_zero] at h1; exact h1, by rw [if_pos (show crightZ elEg.i = 0 from cEg_zero), elEg_put] at h2; rw [hl]; exact h2, h3⟩)
  have hcmp : ((S l).toList == [0, 65, 5, 11, 2, 1, 2]) = true := by rw [S_toList, hl]; rfl
  have HB0 := Lib.hid hb0
  clear hl
  clear hp hT hF hb0
  go_enter Tryz.func20, Tryz.ntmps20
  go_wp2_with (go_at_call 59; go_must ((with_reducible refine HP.out.mono ?_); intro e w1 h; obtain ⟨v, rfl, hr, hb⟩ := h; obtain ⟨A, c, rfl, hcv⟩ := hr.str; have hcv2 := hcv 9 Tryz.underlying9; have HB := Lib.hid (HB0.out.trans (hb.mono HB0.out.size)); clear hb hr hcv))
  go_ret
  exact ⟨rfl, HB.out⟩

theorem cfEl2 (cap : Array Value) (w : World) : (callFunc 30 cap).run Tryz.prog w = .ok (.enter 30 cap) w := by kernel_rfl
theorem cfEl3 (cap : Array Value) (w : World) : (callFunc 22 cap).run Tryz.prog w = .ok (.enter 22 cap) w := by kernel_rfl
theorem closEl3 {w : World} {p b : Nat} {l : List UInt8} {k : Nat} (hb : Whole w b 24 #[.pointer (some ⟨p, 0, none⟩)]) (hs : Sc w p l k) (hT : TbP p w) :
    Calls Tryz.prog 22 #[.pointer (some ⟨b, 0, none⟩)] w (GotAllEl p l (elsR l k) w) := by
  have c0 := hb.cell 0
  simp only [List.getElem?_toArray, List.getElem?_cons_zero] at c0
  have hG := getall_el hs hT
  clear hb hs hT
  obtain ⟨R, hR⟩ : ∃ R, R = elsR l k := ⟨_, rfl⟩
  rw [← hR] at hG ⊢
  clear hR
  cases R with
  | err c a =>
    have HG := Lib.hid (show Calls Tryz.prog 23 #[.pointer (some ⟨p, 0, none⟩)] w (fun e w' => e = .panicked (stopP c a) ∧ w.grownBy w' (some p)) from hG)
    clear hG
    go_enter Tryz.func22, Tryz.ntmps22
    go_wp2_with (go_at_call 23; go_must ((with_reducible refine HG.out.mono ?_); rintro e w1 ⟨rfl, hg⟩; have HG1 := Lib.hid hg; clear hg))
    exact ⟨rfl, rfl, HG1.out⟩
  | ok xs k2 =>
    have HG := Lib.hid (show Calls Tryz.prog 23 #[.pointer (some ⟨p, 0, none⟩)] w (fun e w' => ∃ v rows, e = .returned v ∧ RowEl w' w.heap.size v rows ∧ rows.map (·.1) = xs ∧ Sc w' p l k2 ∧ w.grownBy w' (some p)) from hG)
    clear hG
    go_enter Tryz.func22, Tryz.ntmps22
    go_wp2_with (go_at_call 23; go_must ((with_reducible refine HG.out.mono ?_); intro e w1 hq; obtain ⟨v, rows, rfl, hr, hm, hs, hg⟩ := hq; have HR := Lib.hid hr; have HS := Lib.hid hs; have HG1 := Lib.hid hg; have HM := Lib.hid hm; clear hr hs hg hm))
    go_ret
    exact ⟨_, rows, rfl, HR.out, HM.out, HS.out, HG1.out⟩
theorem closEl2 {w : World} {p b : Nat} {l : List UInt8} {k : Nat} (hb : Whole w b 24 #[.pointer (some ⟨p, 0, none⟩)]) (hs : Sc w p l k) (hT : TbP p w) :
    Calls Tryz.prog 30 #[.pointer (some ⟨b, 0, none⟩)] w (GotAllEl p l (elsR l k) w) := by
  have c0 := hb.cell 0
  simp only [List.getElem?_toArray, List.getElem?_cons_zero] at c0
  have hG := getall_el hs hT
  clear hb hs hT
  obtain ⟨R, hR⟩ : ∃ R, R = elsR l k := ⟨_, rfl⟩
  rw [← hR] at hG ⊢
  clear hR
  cases R with
  | err c a =>
    have HG := Lib.hid (show Calls Tryz.prog 23 #[.pointer (some ⟨p, 0, none⟩)] w (fun e w' => e = .panicked (stopP c a) ∧ w.grownBy w' (some p)) from hG)
    clear hG
    go_enter Tryz.func30, Tryz.ntmps30
    go_wp2_with (go_at_call 23; go_must ((with_reducible refine HG.out.mono ?_); rintro e w1 ⟨rfl, hg⟩; have HG1 := Lib.hid hg; clear hg))
    exact ⟨rfl, rfl, HG1.out⟩
  | ok xs k2 =>
    have HG := Lib.hid (show Calls Tryz.prog 23 #[.pointer (some ⟨p, 0, none⟩)] w (fun e w' => ∃ v rows, e = .returned v ∧ RowEl w' w.heap.size v rows ∧ rows.map (·.1) = xs ∧ Sc w' p l k2 ∧ w.grownBy w' (some p)) from hG)
    clear hG
    go_enter Tryz.func30, Tryz.ntmps30
    go_wp2_with (go_at_call 23; go_must ((with_reducible refine HG.out.mono ?_); intro e w1 hq; obtain ⟨v, rows, rfl, hr, hm, hs, hg⟩ := hq; have HR := Lib.hid hr; have HS := Lib.hid hs; have HG1 := Lib.hid hg; have HM := Lib.hid hm; clear hr hs hg hm))
    go_ret
    exact ⟨_, rows, rfl, HR.out, HM.out, HS.out, HG1.out⟩

/-- The five cells of a segment, by its parts. -/
abbrev FiveL (w : World) (b o : Nat) (g : El) (a f : Option Addr × Nat) : Prop := w.cell? ⟨b, o, none⟩ = some (.int .u8 g.i.op.toNat) ∧ w.cell? ⟨b, o + 1, none⟩ = some (.int .u64 g.i.a) ∧ w.cell? ⟨b, o + 2, none⟩ = some (.int .u64 g.i.b) ∧ w.cell? ⟨b, o + 3, none⟩ = some (.slice a.1 g.i.l.length a.2) ∧ w.cell? ⟨b, o + 4, none⟩ = some (.slice f.1 g.fs.length f.2)
/-- One of each of two lists, as a walk reads them; both lists. -/
abbrev TwoEl (w : World) (A A2 : Option Addr) (l l2 : List SlotEl) (b off b2 off2 k : Nat) (g : El) (a1 a2 c1 c2 : Option Addr × Nat) (W : World) : Prop :=
  (Below w.heap.size w W ∧ Es W A l ∧ Es W A2 l2) ∧ FiveL W b (off + k * 5) g a1 c1 ∧ FiveL W b2 (off2 + k * 5) g a2 c2
section
variable {w W W' : World} {A A2 : Option Addr} {l l2 : List SlotEl} {b off b2 off2 k : Nat} {g : El} {a1 a2 c1 c2 : Option Addr × Nat}
theorem twoEl_of (h1 : Below w.heap.size w W) (h2 : Es W A l) (h3 : Es W A2 l2) (hA : A = some ⟨b, off, none⟩) (hA2 : A2 = some ⟨b2, off2, none⟩) (hx : l[k]? = some (g, a1, c1)) (hy : l2[k]? = some (g, a2, c2)) : TwoEl w A A2 l l2 b off b2 off2 k g a1 a2 c1 c2 W := by
  obtain ⟨d1, o1, e1, _, p⟩ := h2.five hx
  obtain ⟨d2, o2, e2, _, q⟩ := h3.five hy
  rw [hA] at e1
  rw [hA2] at e2
  injection e1 with e1
  injection e2 with e2
  injection e1 with a1 a2
  injection e2 with a3 a4
  subst a1; subst a2; subst a3; subst a4
  exact ⟨⟨h1, h2, h3⟩, p, q⟩
theorem twoEl_on (h : TwoEl w A A2 l l2 b off b2 off2 k g a1 a2 c1 c2 W) (hA : A = some ⟨b, off, none⟩) (hA2 : A2 = some ⟨b2, off2, none⟩) (hx : l[k]? = some (g, a1, c1)) (hy : l2[k]? = some (g, a2, c2)) (hb : Below W.heap.size W W') : TwoEl w A A2 l l2 b off b2 off2 k g a1 a2 c1 c2 W' :=
  twoEl_of (h.1.1.trans (hb.mono h.1.1.size)) (h.1.2.1.below hb) (h.1.2.2.below hb) hA hA2 hx hy
/-- Both have one there, and these are alike. -/
theorem bothEl_at (hm : l.map (·.1) = l2.map (·.1)) (hk : k < l.length) : ∃ g a1 a2 c1 c2, l[k]? = some (g, a1, c1) ∧ l2[k]? = some (g, a2, c2) := by
  obtain ⟨⟨g, a1, c1⟩, hx⟩ : ∃ x, l[k]? = some x := ⟨_, List.getElem?_eq_getElem hk⟩
  have hk2 : k < l2.length := by have := congrArg List.length hm; rw [List.length_map, List.length_map] at this; omega
  obtain ⟨⟨g2, a2, c2⟩, hy⟩ : ∃ y, l2[k]? = some y := ⟨_, List.getElem?_eq_getElem hk2⟩
  have e := congrArg (fun l => l[k]?) hm
  simp only [List.getElem?_map, hx, hy, Option.map_some, Option.some.injEq] at e
  subst e
  exact ⟨g, a1, a2, c1, c2, hx, hy⟩
end
end Go.Proofs.YtebgmfjgapmpfaaGreatDoor

/- A segment that was written is read. -/
namespace Go.Proofs.YtebgmfjgapmpfaaGreatDoor
open Go.RowKit
set_option linter.unusedVariables false
set_option maxRecDepth 100000

theorem elR_at {l r : List UInt8} {k : Nat} {x : El} (oi : x.i.Ok) (h0 : crightZ x.i = 0) (hc : ∀ c ∈ x.fs, 0 ≤ c ∧ c ≤ 4294967295) (hn : x.fs.length ≤ 100) (h : l.drop k = eputL x ++ r) : elR l k = .ok x (k + (eputL x).length) := by
  have hd : l.drop k = 0 :: (cputL x.i ++ (labL x.fs ++ r)) := by rw [h]; unfold eputL; simp [List.append_assoc]
  have hd1 : l.drop (k + 1) = cputL x.i ++ (labL x.fs ++ r) := drop_past (a := [0]) hd
  have hd2 := drop_past hd1
  have hh : headR l k = .ok x.i (k + 1 + (cputL x.i).length) := by
    unfold headR noughtR
    rw [byteR_at hd, Res.bind_ok, if_pos rfl, Res.bind_ok, readR_at oi h0 hd1]
  unfold elR
  rw [hh, Res.bind_ok, labelsR_at hd2 (by omega) hc, Res.bind_ok]
  unfold eputL
  rw [List.length_append, List.length_cons]
  congr 1
  omega
theorem headR_nz {l : List UInt8} {k : Nat} {c a : Int} (h : headR l k = .err c a) : c ≠ 0 := by
  unfold headR at h
  exact bind_nz h (fun _ _ => noughtR_nz) (fun _ _ _ _ h => readR_err h)
theorem elR_nz {l : List UInt8} {k : Nat} {c a : Int} (h : elR l k = .err c a) : c ≠ 0 := by
  unfold elR at h
  exact bind_nz h (fun _ _ => headR_nz) (fun _ _ _ _ h => bind_nz h (fun _ _ => labelsR_nz) (fun _ _ _ _ h => by cases h))
/-- What was read has no labels, and no more than 10000 functions. -/
theorem elR_nil {l : List UInt8} {k : Nat} {x : El} {k' : Nat} (h : elR l k = .ok x k') : x.i.l = [] ∧ x.fs.length ≤ 100000 := by
  unfold elR at h
  cases hh : headR l k with
  | err c a => rw [hh, Res.bind_err] at h; cases h
  | ok i k1 =>
    rw [hh, Res.bind_ok] at h
    cases hl : labelsR l k1 with
    | err c a => rw [hl, Res.bind_err] at h; cases h
    | ok fs k2 =>
      rw [hl, Res.bind_ok] at h
      injection h with h1 h2
      subst h1
      have hn := (labelsR_ok hl).2.1
      refine ⟨?_, by show fs.length ≤ _; omega⟩
      unfold headR at hh
      cases hr : noughtR l k with
      | err c a => rw [hr, Res.bind_err] at hh; cases hh
      | ok u k3 =>
        rw [hr, Res.bind_ok] at hh
        exact readR_nil hh
end Go.Proofs.YtebgmfjgapmpfaaGreatDoor

/- The walk of ElemsReads. -/
namespace Go.Proofs.YtebgmfjgapmpfaaGreatDoor
open Go.RowKit
set_option linter.unusedVariables false
set_option maxRecDepth 100000

theorem valueElR_err {w : World} {p q : Nat} {ms : List UInt8} {M : Option Addr} {cm : Nat} {W : World} {c a : Int} (h : LR w p q ms M cm W) (hc : ¬ c = 0) (hr : elsR ms 0 = .err c a) :
    Calls Tryz.prog 21 #[.func (.func 22) #[] #[.pointer (some ⟨q + 1, 0, none⟩)]] W fun e w' => e = .returned (.tuple #[.slice none 0 0, .agg #[.int .i64 c, .int .i64 a]]) ∧ W.grownBy w' (some p) := by
  have h1 := h.pq
  have h2 := h.qz
  exact valueElsE_any hc (cfEl3 _) (by omega) (fun W' hW hz => by
    have := closEl3 (h.vr.below hW) (h.sc.below hW) (h.tb.below hW (by omega))
    rw [hr] at this
    exact this)
/-- What is kept of the list that was read. -/
def KeepEl (base N : Nat) (xs : List El) (v : Option Addr × Nat × Nat) (W : World) : Prop := v.2.1 = N ∧ ∃ rows, RowEl W base (.slice v.1 N v.2.2) rows ∧ rows.map (·.1) = xs
theorem valueElR_ok {w : World} {p q : Nat} {ms : List UInt8} {M : Option Addr} {cm : Nat} {W : World} {xs : List El} {k N : Nat} (h : LR w p q ms M cm W) (hr : elsR ms 0 = .ok xs k) (hN : xs.length = N) :
    Calls Tryz.prog 21 #[.func (.func 22) #[] #[.pointer (some ⟨q + 1, 0, none⟩)]] W fun e w' => ∃ v : Option Addr × Nat × Nat, e = .returned (.tuple #[.slice v.1 v.2.1 v.2.2, .agg #[.int .i64 0, .int .i64 0]]) ∧ KeepEl (W.heap.size + 4) N xs v w' ∧ W.grownBy w' (some p) := by
  have h1 := h.pq
  have h2 := h.qz
  refine valueEls_ok (cfEl3 _) (by omega) (fun v W1 W2 b g1 g2 hx hg => ?_) (fun W' hW hz => ?_)
  · obtain ⟨e1, rows, e2, e3⟩ := hx
    exact ⟨e1, rows, e2.past hg (by omega), e3⟩
  · have := closEl3 (h.vr.below hW) (h.sc.below hW) (h.tb.below hW (by omega))
    rw [hr] at this
    refine this.mono ?_
    rintro e w' ⟨v, rows, rfl, hr, hm, hs, hg⟩
    obtain ⟨A, c, rfl⟩ := hr.slice
    have hl : rows.length = N := by rw [← hN, ← hm, List.length_map]
    rw [hl] at hr ⊢
    exact ⟨(A, N, c), rfl, ⟨rfl, rows, hr.mono hz, hm⟩, hg⟩
theorem elsR_err {l : List UInt8} {k : Nat} {c a : Int} (h : elsR l k = .err c a) : ¬ c = 0 := by
  have hg : ∀ (n q : Nat) (acc : List El) (c a : Int), elsK l n q acc = .err c a → c ≠ 0 := by
    intro n
    induction n with
    | zero => intro q acc c a h; cases h
    | succ n ih =>
      intro q acc c a h
      unfold elsK at h
      exact bind_nz h (fun c a h => elR_nz h) (fun x k2 c a h => ih _ _ c a h)
  unfold elsR at h
  refine bind_nz h (fun c a h => ?_) (fun n k1 c a h => bind_nz h (fun c a h => hg _ _ _ c a h) (fun xs k2 c a h => ?_))
  · unfold countR atMostR at h
    refine bind_nz h (fun _ _ => indexR_nz) (fun v k2 c a h => ?_)
    split at h
    · cases h
    · injection h with h1 h2; omega
  · split at h
    · injection h with h1 h2; omega
    · cases h
/-- What was read has no labels, and not too many functions. -/
theorem elsR_nil {l : List UInt8} {k : Nat} {xs : List El} {k' : Nat} (h : elsR l k = .ok xs k') : ∀ x ∈ xs, x.i.l = [] ∧ x.fs.length ≤ 100000 := by
  have hg : ∀ (n q : Nat) (acc xs : List El) (k' : Nat), (∀ x ∈ acc, x.i.l = [] ∧ x.fs.length ≤ 100000) → elsK l n q acc = .ok xs k' → ∀ x ∈ xs, x.i.l = [] ∧ x.fs.length ≤ 100000 := by
    intro n
    induction n with
    | zero => intro q acc xs k' ha h; injection h with h1 h2; subst h1; exact ha
    | succ n ih =>
      intro q acc xs k' ha h
      unfold elsK at h
      cases hx : elR l q with
      | err c a => rw [hx, Res.bind_err] at h; cases h
      | ok x q2 =>
        rw [hx, Res.bind_ok] at h
        refine ih _ _ xs k' (fun y hy => ?_) h
        rcases List.mem_append.1 hy with hy | hy
        · exact ha y hy
        · rw [List.mem_singleton] at hy
          subst hy
          exact elR_nil hx
  unfold elsR at h
  cases hc : countR l k with
  | err c a => rw [hc, Res.bind_err] at h; cases h
  | ok n k1 =>
    rw [hc, Res.bind_ok] at h
    cases hs : elsK l n.toNat k1 [] with
    | err c a => rw [hs, Res.bind_err] at h; cases h
    | ok ys k2 =>
      rw [hs, Res.bind_ok] at h
      split at h
      · cases h
      · injection h with h1 h2
        subst h1
        exact hg _ _ _ _ _ (fun x hx => by cases hx) hs

theorem elsR_len {l : List UInt8} {k : Nat} {xs : List El} {k' : Nat} (h : elsR l k = .ok xs k') : xs.length ≤ 10000 := by
  have hg : ∀ (n q : Nat) (acc xs : List El) (k' : Nat), elsK l n q acc = .ok xs k' → xs.length = acc.length + n := by
    intro n
    induction n with
    | zero => intro q acc xs k' h; injection h with h1 h2; subst h1; rfl
    | succ n ih =>
      intro q acc xs k' h
      unfold elsK at h
      cases hx : elR l q with
      | err c a => rw [hx, Res.bind_err] at h; cases h
      | ok x q2 =>
        rw [hx, Res.bind_ok] at h
        have := ih _ _ xs k' h
        rw [List.length_append, List.length_singleton] at this
        omega
  unfold elsR at h
  cases hc : countR l k with
  | err c a => rw [hc, Res.bind_err] at h; cases h
  | ok n k1 =>
    obtain ⟨v0, v1⟩ := countR_ok hc
    rw [hc, Res.bind_ok] at h
    cases hs : elsK l n.toNat k1 [] with
    | err c a => rw [hs, Res.bind_err] at h; cases h
    | ok ys k2 =>
      rw [hs, Res.bind_ok] at h
      split at h
      · cases h
      · injection h with h1 h2
        subst h1
        have := hg _ _ _ _ _ hs
        simp at this
        omega
set_option maxHeartbeats 8000000 in
theorem lawElR {w : World} {M : Option Addr} {cm : Nat} {ms : List UInt8} (hT : Tabs w) (hm : Lies w w.heap.size M (cells (nums ms))) (hM : M = none → cm = 0) (hc : ms.length ≤ cm) (hx : cm ≤ maxLen) :
    Calls Tryz.prog 5 #[.slice M ms.length cm] w (BoolPost true w) := by
  have nm : (ms.length : Int) ≤ 9223372036854775807 := by unfold maxLen at hx; omega
  have HAW := Lib.hid (elawake_any w hT)
  by_cases g1 : 600 < ms.length
  · have t1 : decide (600 < (ms.length : Int)) = true := decide_eq_true (by omega)
    clear hm hT hx
    go_enter Tryz.func5, Tryz.ntmps5
    go_wp2_with (go_at_call 20; go_must ((with_reducible refine HAW.out.mono ?_); rintro e w1 ⟨rfl, hb⟩; have HB1 := Lib.hid hb; clear hb))
    go_ret
    exact ⟨rfl, HB1.out⟩
  have t1 : decide (600 < (ms.length : Int)) = false := decide_eq_false (by omega)
  have hmf : ∀ (fn : Fn) (first cap : Array Value) (w : World), (Instr.makeFunc fn first cap).run Tryz.prog w = .ok (.func fn first cap) w := fun _ _ _ _ => rfl
  have HO := Lib.hid (fun W (hb : Below w.heap.size w W) => over_any (cap := cm) ((hm.below hb (Nat.le_refl _)).more hb.size) hM (by omega))
  have HT := Lib.hid hT
  have HM := Lib.hid hm
  have HC := Lib.hid hc
  have HX := Lib.hid hx
  clear hT hm hM hc hx g1
  cases hr : elsR ms 0 with
  | err c a =>
    have HRF := Lib.hid (fun W q (h : Rs W q ms (.at 0)) => show Calls Tryz.prog 24 #[.pointer (some ⟨q, 0, none⟩)] W fun e w' => e = .returned (.slice none 0 0) ∧ Rs w' q ms (.bad c a) ∧ W.grownBy w' (some q) from by have := rgetall_el h; rw [hr] at this; exact this)
    have hne : ¬ c = 0 := elsR_err hr
    have dw : (c != 0) = true := by simpa using hne
    have HNE := Lib.hid hne
    have HRR := Lib.hid hr
    clear hr hne
    go_enter Tryz.func5, Tryz.ntmps5
    go_wp2_with (first
      | (go_at_call 20; go_must ((with_reducible refine HAW.out.mono ?_); rintro e w1 ⟨rfl, hb⟩; have HB1 := Lib.hid hb; clear hb))
      | (go_at_call 9; go_must ((with_reducible refine (HO.out _ HB1.out).mono ?_); intro e w2 hq; obtain ⟨p, rfl, hp, hs, hb⟩ := hq; have H3 := Lib.hid (LR.of (M := M) (cm := cm) (HT.out.below HB1.out) HB1.out hb hp hs); clear hp hs hb))
      | (go_at_call 21; go_must ((with_reducible refine (valueElR_err H3.out HNE.out HRR.out).mono ?_); rintro e w4 ⟨rfl, hg⟩; have H4 := Lib.hid hg; have H5 := Lib.hid (H3.out.ref1 hg HM.out HC.out HX.out (.cells #[.int .i64 c, .int .i64 a] 32)); clear hg))
      | (go_at_call 24; go_must ((with_reducible refine (HRF.out _ _ H5.out.1).mono ?_); rintro e w6 ⟨rfl, hs, hg⟩; have hst := (Whole.made w4 32 #[.int .i64 c, .int .i64 a]).grown hg (by have := H3.out.pq; have := H3.out.qz; have := H4.out.size; simp only [ne_eq, Option.some.injEq]; omega); have s0 := hst.cell 0; have s1 := hst.cell 1; simp only [List.getElem?_toArray, List.getElem?_cons_zero, List.getElem?_cons_succ] at s0 s1; have r2 := hs.cells.1; have r3 : w6.cell? ⟨w2.heap.size, 3, none⟩ = some (.int .i64 a) := (by obtain ⟨_, _, _, hw, _⟩ := hs; exact hw.cell 3); rw [show (RSt.bad c a).why = c from rfl] at r2; have hb6 : Below w.heap.size w w6 := Below.grown H5.out.2 hg H5.out.2.size (fun g e => by have := H3.out.pq; have := H3.out.lo; injection e with e; omega); have HB6 := Lib.hid hb6; clear hs hg hst hb6)))
    go_quiet (fail)
    go_wp2
    go_ret
    exact ⟨rfl, below_drewN HB6.out _⟩
  | ok xs k =>
    obtain ⟨N, hN⟩ : ∃ N, N = xs.length := ⟨_, rfl⟩
    have HRF := Lib.hid (fun W q (h : Rs W q ms (.at 0)) => show Calls Tryz.prog 24 #[.pointer (some ⟨q, 0, none⟩)] W fun e w' => ∃ A c rows, e = .returned (.slice A N c) ∧ RowEl w' W.heap.size (.slice A N c) rows ∧ rows.map (·.1) = xs ∧ Rs w' q ms (.at k) ∧ W.grownBy w' (some q) from by
      have := rgetall_el h
      rw [hr] at this
      refine this.mono ?_
      rintro e w' ⟨v, rows, rfl, h1, h2, h3, h4⟩
      obtain ⟨A, c, rfl⟩ := h1.slice
      have hl : rows.length = N := by rw [hN, ← h2, List.length_map]
      rw [hl] at h1 ⊢
      exact ⟨A, c, rows, rfl, h1, h2, h3, h4⟩)
    have HNL := Lib.hid (elsR_nil hr)
    have HSM := Lib.hid (fun W (g : El) (a1 a2 c1 c2 : Option Addr × Nat) (h : g.i.l = [] ∧ g.fs.length ≤ 100000) (h1 : LiesL W c1.1 g.fs) (h2 : LiesL W c2.1 g.fs) => rsame_el (w := W) (x := g) (A := a1.1) (B := a2.1) (c := a1.2) (d := a2.2) (F := c1.1) (G := c2.1) (f := c1.2) (g := c2.2) h.1 h1 h2 h.2)
    have HRR := Lib.hid hr
    have HN := Lib.hid hN
    have n63 : N ≤ 10000 := by rw [hN]; exact elsR_len hr
    clear hr hN
    go_enter Tryz.func5, Tryz.ntmps5
    go_wp2_with (first
      | (go_at_call 20; go_must ((with_reducible refine HAW.out.mono ?_); rintro e w1 ⟨rfl, hb⟩; have HB1 := Lib.hid hb; clear hb))
      | (go_at_call 9; go_must ((with_reducible refine (HO.out _ HB1.out).mono ?_); intro e w2 hq; obtain ⟨p, rfl, hp, hs, hb⟩ := hq; have H3 := Lib.hid (LR.of (M := M) (cm := cm) (HT.out.below HB1.out) HB1.out hb hp hs); clear hp hs hb))
      | (go_at_call 21; go_must ((with_reducible refine (valueElR_ok H3.out HRR.out HN.out.symm).mono ?_); rintro e w4 ⟨⟨A2, n2, c2⟩, rfl, ⟨hn, rows, hr, hm⟩, hg⟩; obtain rfl : n2 = N := hn; have H4 := Lib.hid hg; have HR4 := Lib.hid hr; have HM4 := Lib.hid hm; have H5 := Lib.hid (H3.out.ref1 hg HM.out HC.out HX.out (.cells #[.int .i64 0, .int .i64 0] 32)); clear hg hr hm))
      | (go_at_call 24; go_must ((with_reducible refine (HRF.out _ _ H5.out.1).mono ?_); rintro e w6 ⟨A3, c3, rows3, rfl, hr3, hm3, hs, hg⟩; have hst := (Whole.made w4 32 #[.int .i64 0, .int .i64 0]).grown hg (by have := H3.out.pq; have := H3.out.qz; have := H4.out.size; simp only [ne_eq, Option.some.injEq]; omega); have s0 := hst.cell 0; simp only [List.getElem?_toArray, List.getElem?_cons_zero] at s0; have x2 := why_at hs; have HB6 := Lib.hid (show Below w.heap.size w w6 from Below.grown H5.out.2 hg H5.out.2.size (fun g e => by have := H3.out.pq; have := H3.out.lo; injection e with e; omega)); have HI := Lib.hid ((HR4.out.alloc (.cells #[.int .i64 0, .int .i64 0] 32)).past hg (by have := H3.out.qz; omega)).es; have HJ := Lib.hid hr3.es; have HM3 := Lib.hid hm3; clear hs hg hst hr3 hm3)))
    go_loopw [8] (fun i wr => ∃ j : Nat, j ≤ n2 ∧ i = .int .i64 j ∧ Below w.heap.size w wr ∧ Es wr A2 rows ∧ Es wr A3 rows3) (fun i _ => n2 - (intOf i).toNat)
    case atStart => exact ⟨0, Nat.zero_le _, rfl, HB6.out, HI.out, HJ.out⟩
    case round =>
      obtain ⟨j, hj, rfl, hb, hi, hjj⟩ := hrel
      by_cases hlt : j < n2
      · have hlen : rows.length = n2 := by rw [HN.out, ← HM4.out, List.length_map]
        obtain ⟨g, a1, a2, d1, d2, hx, hy⟩ := bothEl_at (HM4.out.trans HM3.out.symm) (by omega : j < rows.length)
        have hgn : g.i.l = [] ∧ g.fs.length ≤ 100000 := HNL.out g (by rw [← HM4.out]; exact List.mem_map.2 ⟨_, List.mem_of_getElem? hx, rfl⟩)
        obtain ⟨b, off, hA, _⟩ := hi.five hx
        obtain ⟨b2, off2, hA2, _⟩ := hjj.five hy
        have hS0 := twoEl_of hb hi hjj hA hA2 hx hy
        have HS0 := Lib.hid (twoEl_on hS0 hA hA2 hx hy (Below.refl _ _).drew)
        have HON := Lib.hid (fun W W' (h : TwoEl w A2 A3 rows rows3 b off b2 off2 j g a1 a2 d1 d2 W) (hb : Below W.heap.size W W') => twoEl_on h hA hA2 hx hy hb)
        have HSg := Lib.hid (fun W (h : TwoEl w A2 A3 rows rows3 b off b2 off2 j g a1 a2 d1 d2 W) => HSM.out W g a1 a2 d1 d2 hgn (h.1.2.1.funs hx) (h.1.2.2.funs hy))
        subst hA; subst hA2
        clear hx hy hb hi hjj hS0 hgn hlen
        go_upto_region 15 with fail
        refine wp_region_noPanic ?_
        refine wp_region_held_drew (S := fun W => TwoEl w (some ⟨b, off, none⟩) (some ⟨b2, off2, none⟩) rows rows3 b off b2 off2 j g a1 a2 d1 d2 W) (by kernel_rfl) HS0.out (fun hHeld => ?_)
        (refine heldTake (i := 0) (oi := { dst := some 68, op := Op.move (Operand.tmp 5), type := 54, pos := "law.go:59", after := #[], guard := none }) (v := ?_) rfl (by kernel_rfl) (by kernel_rfl) (by kernel_rfl) (by assumption) ?_ ?_; rotate_left; focus (refine .inl ⟨by kernel_rfl, ?_⟩; intro w hSw; (try dsimp only at hSw); go_simp; (try with_reducible rfl)); (try simp only [Act.put, List.setIfInBounds_toArray, List.set_cons_zero, List.set_cons_succ]))
        (refine heldTake (i := 1) (oi := { dst := some 69, op := Op.move (Operand.tmp 8), type := 3, pos := "law.go:59", after := #[], guard := none }) (v := ?_) rfl (by kernel_rfl) (by kernel_rfl) (by kernel_rfl) (by assumption) ?_ ?_; rotate_left; focus (refine .inl ⟨by kernel_rfl, ?_⟩; intro w hSw; (try dsimp only at hSw); go_simp; (try with_reducible rfl)); (try simp only [Act.put, List.setIfInBounds_toArray, List.set_cons_zero, List.set_cons_succ]))
        (refine heldTake (i := 2) (oi := { dst := some 70, op := Op.indexAddr 54 (Operand.tmp 68) (Operand.tmp 69), type := 0, pos := "law.go:59", after := #[{ on := 0, ground := Ground.data }, { on := 1, ground := Ground.data }], guard := none }) (v := ?_) rfl (by kernel_rfl) (by kernel_rfl) (by kernel_rfl) (by assumption) ?_ ?_; rotate_left; focus (refine .inl ⟨by kernel_rfl, ?_⟩; intro w hSw; (try dsimp only at hSw); go_simp; (try with_reducible rfl)); (try simp only [Act.put, List.setIfInBounds_toArray, List.set_cons_zero, List.set_cons_succ]))
        (refine heldTake (i := 3) (oi := { dst := some 71, op := Op.load 62 (Operand.tmp 70), type := 62, pos := "law.go:59", after := #[{ on := 2, ground := Ground.data }], guard := none }) (v := ?_) rfl (by kernel_rfl) (by kernel_rfl) (by kernel_rfl) (by assumption) ?_ ?_; rotate_left; focus (refine .inl ⟨by kernel_rfl, ?_⟩; intro w hSw; (try dsimp only at hSw); go_simp; (try with_reducible rfl)); (try simp only [Act.put, List.setIfInBounds_toArray, List.set_cons_zero, List.set_cons_succ]))
        (refine heldTake (i := 4) (oi := { dst := some 72, op := Op.move (Operand.tmp 7), type := 54, pos := "law.go:59", after := #[], guard := none }) (v := ?_) rfl (by kernel_rfl) (by kernel_rfl) (by kernel_rfl) (by assumption) ?_ ?_; rotate_left; focus (refine .inl ⟨by kernel_rfl, ?_⟩; intro w hSw; (try dsimp only at hSw); go_simp; (try with_reducible rfl)); (try simp only [Act.put, List.setIfInBounds_toArray, List.set_cons_zero, List.set_cons_succ]))
        (refine heldTake (i := 5) (oi := { dst := some 73, op := Op.move (Operand.tmp 8), type := 3, pos := "law.go:59", after := #[], guard := none }) (v := ?_) rfl (by kernel_rfl) (by kernel_rfl) (by kernel_rfl) (by assumption) ?_ ?_; rotate_left; focus (refine .inl ⟨by kernel_rfl, ?_⟩; intro w hSw; (try dsimp only at hSw); go_simp; (try with_reducible rfl)); (try simp only [Act.put, List.setIfInBounds_toArray, List.set_cons_zero, List.set_cons_succ]))
        (refine heldTake (i := 6) (oi := { dst := some 74, op := Op.indexAddr 54 (Operand.tmp 72) (Operand.tmp 73), type := 0, pos := "law.go:59", after := #[{ on := 4, ground := Ground.data }, { on := 5, ground := Ground.data }], guard := none }) (v := ?_) rfl (by kernel_rfl) (by kernel_rfl) (by kernel_rfl) (by assumption) ?_ ?_; rotate_left; focus (refine .inl ⟨by kernel_rfl, ?_⟩; intro w hSw; (try dsimp only at hSw); go_simp; (try with_reducible rfl)); (try simp only [Act.put, List.setIfInBounds_toArray, List.set_cons_zero, List.set_cons_succ]))
        (refine heldTake (i := 7) (oi := { dst := some 75, op := Op.load 62 (Operand.tmp 74), type := 62, pos := "law.go:59", after := #[{ on := 6, ground := Ground.data }], guard := none }) (v := ?_) rfl (by kernel_rfl) (by kernel_rfl) (by kernel_rfl) (by assumption) ?_ ?_; rotate_left; focus (refine .inl ⟨by kernel_rfl, ?_⟩; intro w hSw; (try dsimp only at hSw); go_simp; (try with_reducible rfl)); (try simp only [Act.put, List.setIfInBounds_toArray, List.set_cons_zero, List.set_cons_succ]))
        refine wpAnyH_ready (rs := [8]) (by kernel_rfl) (by simp) ?_
        refine AllReadyH.cons (o := { dst := some 76, op := Op.call { callee := Callee.value (Operand.func 25), args := #[Operand.tmp 71, Operand.tmp 75], argTypes := #[62, 62] }, type := 4, pos := "law.go:59", after := #[{ on := 3, ground := Ground.data }, { on := 7, ground := Ground.data }], guard := none }) rfl (fun K hK => ?_) AllReadyH.nil
        go_simp
        (go_at_call 25; (with_reducible refine (HSg.out _ hHeld).mono ?_); rintro e w11 ⟨rfl, hb⟩; have hk11 := HON.out _ _ hHeld hb; clear hb)
        refine hK.out _ _ hk11 (fun hHeld8 => ?_)
        clear hK K hHeld
        (try simp only [Act.put, List.setIfInBounds_toArray, List.set_cons_zero, List.set_cons_succ])
        (refine heldTake (i := 9) (oi := { dst := some 77, op := Op.unOp UnOp.not 4 (Operand.tmp 76), type := 4, pos := "law.go:59", after := #[{ on := 8, ground := Ground.data }], guard := none }) (v := ?_) rfl (by kernel_rfl) (by kernel_rfl) (by kernel_rfl) (by assumption) ?_ ?_; rotate_left; focus (refine .inl ⟨by kernel_rfl, ?_⟩; intro w hSw; (try dsimp only at hSw); go_simp; (try with_reducible rfl)); (try simp only [Act.put, List.setIfInBounds_toArray, List.set_cons_zero, List.set_cons_succ]))
        refine wpAnyH_done (by kernel_rfl) ?_ _
        refine NoPanic.normal ?_
        have hLast := hHeld8
        clear hHeld8
        obtain ⟨⟨hb3, hi3, hj3⟩, _⟩ := hLast
        have HB3 := Lib.hid hb3
        have HI3 := Lib.hid hi3
        have HJ3 := Lib.hid hj3
        clear hb3 hi3 hj3
        go_wp2
        go_roundw
        case rel => exact ⟨j + 1, by omega, by go_num, HB3.out, HI3.out, HJ3.out⟩
        case measure => simp [intOf]; omega
      · obtain rfl : j = n2 := by omega
        have HB3 := Lib.hid hb
        clear hb hi hjj
        go_wp2
        go_ret
        exact ⟨rfl, HB3.out⟩
end Go.Proofs.YtebgmfjgapmpfaaGreatDoor
