/- Element segments that lie somewhere; rows of segments of the call's own, with their functions. -/
import Derived.Test.YticgmfeihdankaaDoorZm12
import Derived.Test.YticgmfeihdankaaDoorZm09
import Derived.OwnWalk
import Derived.Test.YticgmfeihdankaaDoorZm10
import Derived.Deep.LoopGhost
import Derived.Test.YticgmfeihdankaaDoorZm11
import Derived.Test.YticgmfeihdankaaDoorZm08
import Derived.RegionTactic
namespace Go.Proofs.YticgmfeihdankaaDoor
open Go.RowKit
set_option linter.unusedVariables false
set_option maxRecDepth 100000

theorem LabT.on {W W' : World} {A : Option Addr} {ls : List Int} (h : LabT W A ls) (hb : Below W.heap.size W W') : LabT W' A ls := h.keep (gb_of_below none hb) (fun a _ => by simp)
/-- A segment, where its labels lie, where its functions lie. -/
abbrev SlotEl := El × (Option Addr × Nat) × (Option Addr × Nat)
abbrev qC (x : SlotEl) : Array Value := elC x.1 x.2.1.1 x.2.1.2 x.2.2.1 x.2.2.2
abbrev qV (x : SlotEl) : Value := .agg (qC x)
def qL (x : SlotEl) : List Value := (qC x).toList
theorem infoEl : (Tryd.prog.info? 27).map (fun i => (i.zero, i.size, i.bytes)) = some (some (.agg elZ), 5, 72) := by kernel_rfl
/-- A row of segments of the call's own; the functions of each lie behind the row's bound. -/
structure RowEl (W : World) (base : Nat) (v : Value) (rows : List SlotEl) : Prop where
  own : W.ownsRow base 27 5 v rows.length (rows.flatMap qL)
  labs : ∀ x ∈ rows, LabT W x.2.2.1 x.1.fs ∧ ∀ a, x.2.2.1 = some a → base ≤ a.block
theorem RowEl.nil (W : World) (base : Nat) : RowEl W base (.slice none 0 0) [] := ⟨World.ownsRow_nil W base _ 5, fun x hx => by cases hx⟩
theorem RowEl.slice {W : World} {base : Nat} {v : Value} {rows : List SlotEl} (h : RowEl W base v rows) : ∃ A c, v = .slice A rows.length c := by
  rcases h.own.2 with ⟨rfl, h0⟩ | ⟨g, cap, cur, rfl, _⟩
  · exact ⟨none, 0, by rw [h0]⟩
  · exact ⟨_, cap, rfl⟩
theorem RowEl.lt {W : World} {base : Nat} {v : Value} {rows : List SlotEl} (h : RowEl W base v rows) : ∀ k, v.ownBlock = some k → base ≤ k ∧ k < W.heap.size := World.ownsRow.lt h.own
theorem RowEl.past {W W' : World} {base b : Nat} {v : Value} {rows : List SlotEl} (h : RowEl W base v rows) (hg : W.grownBy W' (some b)) (hb : b < base) : RowEl W' base v rows :=
  ⟨World.ownsRow.kept h.own hg (by
    cases hv : v.ownBlock with
    | none => exact .inl rfl
    | some k => exact .inr (by have := (World.ownsRow.lt h.own k hv).1; simp only [ne_eq, Option.some.injEq]; omega)),
   fun x hx => ⟨(h.labs x hx).1.keep hg (fun a ha => by have := (h.labs x hx).2 a ha; simp only [ne_eq, Option.some.injEq]; omega), (h.labs x hx).2⟩⟩
theorem RowEl.later {W W' : World} {base : Nat} {v : Value} {rows : List SlotEl} (h : RowEl W base v rows) (hb : Below W.heap.size W W') : RowEl W' base v rows :=
  ⟨World.ownsRow.kept h.own (gb_of_below none hb) (by cases v.ownBlock with
    | none => exact .inl rfl
    | some k => exact .inr (by simp)), fun x hx => ⟨(h.labs x hx).1.on hb, (h.labs x hx).2⟩⟩
theorem RowEl.alloc {W : World} {base : Nat} {v : Value} {rows : List SlotEl} (h : RowEl W base v rows) (o : Obj) : RowEl (W.alloc o) base v rows := h.later (below_box W o)
theorem RowEl.mono {W : World} {base base' : Nat} {v : Value} {rows : List SlotEl} (h : RowEl W base v rows) (hb : base' ≤ base) : RowEl W base' v rows := by
  obtain ⟨⟨h1, h2⟩, h3⟩ := h
  refine ⟨⟨h1, ?_⟩, fun x hx => ⟨(h3 x hx).1, fun a ha => Nat.le_trans hb ((h3 x hx).2 a ha)⟩⟩
  rcases h2 with h2 | ⟨g, cap, cur, e, hg, r⟩
  · exact .inl h2
  · exact .inr ⟨g, cap, cur, e, Nat.le_trans hb hg, r⟩
/-- append of a new block of one segment. -/
theorem rowEl_new {w : World} {ops : Array Oper} {rest : List Oper} {o : Oper} {a : Act} {Q : Exit → Act → World → Prop} (hgd : o.guard = none) (s x : Operand)
    (ho : o.op = .call { callee := .builtin .append, args := #[s, x], argTypes := #[50, 50] })
    (B : Nat) (v : Value) (l : List SlotEl) (hs : a.eval s = v) (hr : RowEl w B v l) (g : Nat) (r : SlotEl) (hx : a.eval x = .slice (some ⟨g, 0, none⟩) 1 1)
    (hg : Whole w g 27 (qC r)) (hlr : LabT w r.2.2.1 r.1.fs) (hlf : ∀ a, r.2.2.1 = some a → B ≤ a.block) (hb : l.length ≤ 10000) (hB : B ≤ w.heap.size)
    (h : ∀ v' w', RowEl w' B v' (l ++ [r]) → w.grownBy w' v.ownBlock → wpList Tryd.prog ops Q rest (a.put o.dst v') w') : wpList Tryd.prog ops Q (o :: rest) a w := by
  obtain ⟨i0, hi0, hz0, hz1, hz2⟩ := info_parts infoEl
  refine wpList_append_own _ hgd s x _ ho B 27 i0 _ 5 72 Tryd.underlying50 hi0 hz0 hz1 hz2 rfl (by omega) v _ _ hs hr.own ⟨g, 0, none⟩ 1 1 (qL r) hx rfl ?_ ?_ (by unfold maxLen; omega) (by omega) hB (fun v' w' h2 h3 _ => h v' w' ⟨?_, ?_⟩ h3)
  · intro j u hu
    rw [Go.WideShapes.add_plain, Nat.zero_add, hg.cell, ← Array.getElem?_toList]
    exact hu
  · intro u hu
    unfold qL at hu
    simp only [List.mem_cons, List.not_mem_nil, or_false] at hu
    rcases hu with rfl | rfl | rfl | rfl | rfl <;> rfl
  · rw [List.length_append, List.flatMap_append]
    simpa using h2
  · intro y hy
    rcases List.mem_append.1 hy with hy | hy
    · exact ⟨(hr.labs y hy).1.keep h3 (lab_own (hr.labs y hy).1 hr.own (by decide)), (hr.labs y hy).2⟩
    · rw [List.mem_singleton] at hy
      subst hy
      exact ⟨hlr.keep h3 (lab_own hlr hr.own (by decide)), hlf⟩

/-- The slice at A reads as these segments, and the functions of each lie. -/
def Es (w : World) (A : Option Addr) (l : List SlotEl) : Prop :=
  ∀ j x, l[j]? = some x → (∃ b off, A = some ⟨b, off, none⟩ ∧ b < w.heap.size ∧ ∀ u, u < 5 → w.cell? ⟨b, off + j * 5 + u, none⟩ = (qL x)[u]?) ∧ LiesL w x.2.2.1 x.1.fs
theorem Es.below {w w' : World} {A : Option Addr} {l : List SlotEl} (h : Es w A l) (hb : Below w.heap.size w w') : Es w' A l := fun j x hx => by
  obtain ⟨⟨b, off, e, h1, h2⟩, h3⟩ := h j x hx
  exact ⟨⟨b, off, e, Nat.lt_of_lt_of_le h1 hb.size, fun u hu => (hb.cell (p := ⟨b, _, none⟩) h1).trans (h2 u hu)⟩, h3.below hb⟩
/-- The five cells of one of them, as a walk writes them. -/
abbrev FiveAt (w : World) (b : Nat) (o : Nat) (x : SlotEl) : Prop := w.cell? ⟨b, o, none⟩ = some (.int .u8 x.1.i.op.toNat) ∧ w.cell? ⟨b, o + 1, none⟩ = some (.int .u64 x.1.i.a) ∧ w.cell? ⟨b, o + 2, none⟩ = some (.int .u64 x.1.i.b) ∧ w.cell? ⟨b, o + 3, none⟩ = some (.slice x.2.1.1 x.1.i.l.length x.2.1.2) ∧ w.cell? ⟨b, o + 4, none⟩ = some (.slice x.2.2.1 x.1.fs.length x.2.2.2)
theorem Es.five {w : World} {A : Option Addr} {l : List SlotEl} (h : Es w A l) {k : Nat} {x : SlotEl} (hx : l[k]? = some x) : ∃ b off, A = some ⟨b, off, none⟩ ∧ b < w.heap.size ∧ FiveAt w b (off + k * 5) x := by
  obtain ⟨⟨b, off, e, h1, h2⟩, _⟩ := h k x hx
  exact ⟨b, off, e, h1, h2 0 (by omega), h2 1 (by omega), h2 2 (by omega), h2 3 (by omega), h2 4 (by omega)⟩
theorem Es.funs {w : World} {A : Option Addr} {l : List SlotEl} (h : Es w A l) {k : Nat} {x : SlotEl} (hx : l[k]? = some x) : LiesL w x.2.2.1 x.1.fs := (h k x hx).2
theorem flatEl_get : ∀ (l : List SlotEl) (j : Nat) (x : SlotEl) (u : Nat), l[j]? = some x → u < 5 → (l.flatMap qL)[j * 5 + u]? = (qL x)[u]?
  | [], j, x, u, h, _ => by cases h
  | y :: l, 0, x, u, h, hu => by
    injection h with h
    subst h
    rw [List.flatMap_cons, Nat.zero_mul, Nat.zero_add, List.getElem?_append_left (by show u < 5; exact hu)]
  | y :: l, j + 1, x, u, h, hu => by
    rw [List.flatMap_cons, List.getElem?_append_right (by show 5 ≤ _; omega)]
    have e : (j + 1) * 5 + u - (qL y).length = j * 5 + u := by show (j + 1) * 5 + u - 5 = _; omega
    rw [e]
    exact flatEl_get l j x u h hu
/-- What a row of segments reads as. -/
theorem RowEl.es {W : World} {base : Nat} {A : Option Addr} {n c : Nat} {rows : List SlotEl} (h : RowEl W base (.slice A n c) rows) : Es W A rows := fun j x hx => by
  have hj := (List.getElem?_eq_some_iff.1 hx).1
  refine ⟨?_, (h.labs x (List.mem_of_getElem? hx)).1.lies⟩
  rcases h.own.2 with ⟨_, h0⟩ | ⟨g, cap, cur, e, _, hg, _, _, _, ht⟩
  · omega
  · injection e with e1 e2 e3
    exact ⟨g, 0, e1, (Array.getElem?_eq_some_iff.1 hg).1, fun u hu => by
      rw [cell_of_row W g (0 + j * 5 + u) cur _ _ hg, ← flatEl_get rows j x u hx hu, ← ht, List.getElem?_take, if_pos (by omega)]
      simp⟩
end Go.Proofs.YticgmfeihdankaaDoor

/- elems.PutAll. -/
namespace Go.Proofs.YticgmfeihdankaaDoor
open Go.RowKit
set_option linter.unusedVariables false
set_option maxRecDepth 100000

/-- May it be? Its bytes. -/
def rEl (x : SlotEl) : Int := crightZ x.1.i
noncomputable def qputL (x : SlotEl) : List UInt8 := eputL x.1
def PuttedQ (x : SlotEl) (w : World) (e : Ending) (w' : World) : Prop := ∃ v, e = .returned (.tuple #[v, .int .i64 (rEl x)]) ∧ Row w' w.heap.size v (if rEl x = 0 then qputL x else []) ∧ Below w.heap.size w w'
/-- The numbers are what their kinds hold; the functions are no more than a hundred. -/
def OkQ (x : SlotEl) : Prop := x.1.i.Ok ∧ (x.1.i.l.length : Int) ≤ 9223372036854775807 ∧ (∀ c ∈ x.1.fs, 0 ≤ c ∧ c ≤ 4294967295) ∧ x.1.fs.length ≤ 100
def OkEl (l : List SlotEl) : Prop := ∀ x ∈ l, OkQ x
theorem put_q (x : SlotEl) (w : World) (hT : Tabs w) (h : OkQ x) (hF : LiesL w x.2.2.1 x.1.fs) : Calls Tryd.prog 14 #[qV x] w (PuttedQ x w) := put_el x.1 x.2.1.1 x.2.1.2 x.2.2.1 x.2.2.2 w h.1 hT h.2.1 hF h.2.2.1 h.2.2.2
theorem qputL_len {x : SlotEl} (h : OkQ x) (h0 : rEl x = 0) : 3 ≤ (qputL x).length ∧ (qputL x).length ≤ 1043 := eputL_len h.1 h0 h.2.2.1 h.2.2.2
/-- The first error. -/
def errEl : List SlotEl → Int
  | [] => 0
  | x :: r => if rEl x ≠ 0 then rEl x else errEl r
theorem errEl_app : ∀ a b : List SlotEl, errEl (a ++ b) = if errEl a ≠ 0 then errEl a else errEl b
  | [], b => by simp [errEl]
  | x :: a, b => by
    simp only [List.cons_append, errEl]
    by_cases h : rEl x = 0
    · simp only [h, ne_eq, not_true_eq_false, if_false, errEl_app a b]
    · simp [h]
theorem errEl_snoc {l : List SlotEl} {k : Nat} {x : SlotEl} (h : l[k]? = some x) : errEl (l.take (k + 1)) = if errEl (l.take k) ≠ 0 then errEl (l.take k) else rEl x := by
  rw [List.take_add_one, h]
  show errEl (l.take k ++ [x]) = _
  rw [errEl_app]
  by_cases e : rEl x = 0 <;> simp [errEl, e]
theorem errEl_bad {l : List SlotEl} {k : Nat} (h : errEl (l.take k) ≠ 0) : errEl l = errEl (l.take k) := by
  conv => lhs; rw [← List.take_append_drop k l]
  rw [errEl_app, if_pos h]
theorem errEl_mem : ∀ {l : List SlotEl}, errEl l = 0 → ∀ x ∈ l, rEl x = 0
  | [], _, x, hx => by cases hx
  | y :: l, h, x, hx => by
    simp only [errEl] at h
    by_cases e : rEl y = 0
    · simp only [e, ne_eq, not_true_eq_false, if_false] at h
      rcases List.mem_cons.1 hx with rfl | hx
      · exact e
      · exact errEl_mem h x hx
    · simp [e] at h
/-- Many globals' bytes. -/
noncomputable def elputsL (l : List SlotEl) : List UInt8 := l.flatMap qputL
theorem elputsL_snoc {l : List SlotEl} {k : Nat} {x : SlotEl} (h : l[k]? = some x) : elputsL (l.take (k + 1)) = elputsL (l.take k) ++ qputL x := by
  unfold elputsL
  rw [List.take_add_one, h, List.flatMap_append]
  simp
theorem elputsL_len : ∀ {l : List SlotEl}, OkEl l → errEl l = 0 → (elputsL l).length ≤ l.length * 1043
  | [], _, _ => by simp [elputsL]
  | x :: r, h, h0 => by
    have h4 := errEl_mem h0 x (by simp)
    have h5 : errEl r = 0 := by simpa [errEl, h4] using h0
    have h1 := elputsL_len (l := r) (fun y hy => h y (List.mem_cons_of_mem _ hy)) h5
    have h2 := h x (by simp)
    have h3 := (qputL_len h2 h4).2
    unfold elputsL at h1 ⊢
    rw [List.flatMap_cons, List.length_append, List.length_cons]
    omega
noncomputable def allEl (l : List SlotEl) : List UInt8 := lebL l.length ++ elputsL l
/-- What PutAll hands back. -/
def PuttedAllEl (l : List SlotEl) (w : World) (e : Ending) (w' : World) : Prop := ∃ v, e = .returned (.tuple #[v, .int .i64 (errEl l)]) ∧ Row w' w.heap.size v (if errEl l = 0 then allEl l else []) ∧ Below w.heap.size w w'
theorem cfElP (a : Array Value) (w : World) : (callFunc 14 a).run Tryd.prog w = .ok (.enter 14 a) w := by kernel_rfl
set_option maxHeartbeats 4000000 in
theorem wputall_el {w : World} {A : Option Addr} {c : Nat} {l : List SlotEl} (hl : Es w A l) (hT : Tabs w) (hs : OkEl l) (h20 : l.length ≤ 100) :
    Calls Tryd.prog 82 #[.slice A l.length c, .func (.func 14) #[] #[]] w (PuttedAllEl l w) := by
  have HL := Lib.hid hl
  have HTb := Lib.hid hT
  have HSh := Lib.hid hs
  have hlb := lebL_len (l.length : Int) (by omega)
  have HZ := Lib.hid (fun W => size_w l.length W (by omega))
  obtain ⟨n, hn⟩ : ∃ n, n = l.length := ⟨_, rfl⟩
  obtain ⟨hd, hhd⟩ : ∃ hd, hd = lebL (l.length : Int) := ⟨_, rfl⟩
  rw [← hhd] at HZ hlb
  have HN := Lib.hid hn
  have HE := Lib.hid (show l.take n = l by rw [hn, List.take_length])
  have HAL := Lib.hid (show allEl l = hd ++ elputsL l by rw [hhd]; rfl)
  have HPL := Lib.hid (fun k (h : errEl (l.take k) = 0) => show (elputsL (l.take k)).length ≤ 100 * 1043 from by
    have h1 := elputsL_len (l := l.take k) (fun y hy => hs y (List.mem_of_mem_take hy)) h
    have h2 : (l.take k).length ≤ l.length := by rw [List.length_take]; omega
    omega)
  rw [← hn] at h20 HZ ⊢
  have d10 : decide ((10000 : Int) < (n : Int)) = false := decide_eq_false (by omega)
  have hcf := cfElP
  clear hl hT hs hn hhd
  go_enter Tryd.func82, Tryd.ntmps82
  go_wp2_with (go_at_call 113; go_must ((with_reducible refine (HZ.out _).mono ?_); intro e w1 h; obtain ⟨v, rfl, hr, hb⟩ := h; have HR := Lib.hid hr; have HB := Lib.hid hb; clear hr hb))
  go_loopw [6, 19] (fun v i wr => ∃ k : Nat, k ≤ n ∧ i = .int .i64 k ∧ errEl (l.take k) = 0 ∧ Row wr w.heap.size v (hd ++ elputsL (l.take k)) ∧ Below w.heap.size w wr) (fun _ i _ => n - (intOf i).toNat)
  case atStart => exact ⟨0, Nat.zero_le _, rfl, rfl, by simpa [elputsL] using HR.out, HB.out⟩
  case round =>
    obtain ⟨k, hk, rfl, he, hr, hb⟩ := hrel
    have hz1 := hb.size
    by_cases hlt : k < n
    · obtain ⟨x, hx⟩ : ∃ x, l[k]? = some x := ⟨_, List.getElem?_eq_getElem (by rw [← HN.out]; exact hlt)⟩
      obtain ⟨b, off, rfl, hbl, m0, m1, m2, m3, m4⟩ := (HL.out.below hb).five hx
      have hfu := (HL.out.below hb).funs hx
      have hxs := HSh.out x (List.mem_of_getElem? hx)
      have hTk := errEl_snoc hx
      have hPk := elputsL_snoc hx
      have HB2 := Lib.hid (hb.alloc hz1 (.cells (qC x) 27))
      have HR2 := Lib.hid (hr.alloc (.cells (qC x) 27))
      have HP := Lib.hid (put_q x (wr.alloc (.cells (qC x) 27)) (HTb.out.below HB2.out) hxs (hfu.below (below_box wr _)))
      have hzb : wr.heap.size ≤ (wr.alloc (.cells (qC x) 27)).heap.size := (below_box wr _).size
      rw [he] at hTk
      simp only [ne_eq, not_true_eq_false, if_false] at hTk
      unfold PuttedQ at HP
      have HTk := Lib.hid hTk
      have HPk := Lib.hid hPk
      by_cases z0 : rEl x = 0
      · rw [if_pos z0, z0] at HP
        have hil := qputL_len hxs z0
        have hsz : (hd ++ elputsL (l.take k)).length + (qputL x).length ≤ 1000000 := by
          have hpl := HPL.out k he
          rw [List.length_append]
          omega
        have HIL := Lib.hid hil
        have HSZ := Lib.hid hsz
        obtain ⟨y, hy⟩ : ∃ y, y = qputL x := ⟨_, rfl⟩
        rw [← hy] at HP HPk HIL HSZ
        have HZ0 := Lib.hid z0
        clear hTk hPk he hr hb z0 hil hsz hy hxs hfu
        go_wp2_with (first
          | (go_at_call 14; go_must ((with_reducible refine HP.out.mono ?_); intro e w3 h; obtain ⟨v3, rfl, hr3, hb3⟩ := h; obtain ⟨A3, c3, rfl, hp3⟩ := hr3.pc; have HP3 := Lib.hid hp3; have HR3 := Lib.hid (HR2.out.later hb3); have HB3 := Lib.hid (HB2.out.trans (hb3.mono HB2.out.size)); have hz3 := HB3.out.size; clear hr3 hb3 hp3))
          | (at_builtin; (refine row_any rfl _ _ rfl w.heap.size _ (hd ++ elputsL (l.take k)) rfl HR3.out A3 y.length c3 w3.heap.size y rfl rfl HP3.out.lies HP3.out.nil HSZ.out hz3 ?_; intro v4 w4 hr4 hb4; have HR4 := Lib.hid hr4; have HB4 := Lib.hid hb4; clear hr4 hb4)))
        go_roundw
        case rel => exact ⟨k + 1, by omega, by go_num, by rw [HTk.out]; exact HZ0.out, by rw [HPk.out, ← List.append_assoc]; exact HR4.out, HB3.out.trans HB4.out⟩
        case measure => simp [intOf]; omega
      · rw [if_neg z0] at HP
        have hbad := errEl_bad (l := l) (k := k + 1) (by rw [hTk]; exact z0)
        rw [hTk] at hbad
        have HBAD := Lib.hid hbad
        have dz : (rEl x != 0) = true := zb_of (by simpa using z0)
        have HZ0 := Lib.hid (show ¬ errEl l = 0 by rw [hbad]; exact z0)
        clear hTk hPk he hr hb z0 hbad hxs hfu
        generalize rEl x = z at *
        go_wp2_with (go_at_call 14; go_must ((with_reducible refine HP.out.mono ?_); intro e w3 h; obtain ⟨v3, rfl, hr3, hb3⟩ := h; have HB3 := Lib.hid (HB2.out.trans (hb3.mono HB2.out.size)); clear hr3 hb3))
        go_ret2
        exact ⟨_, ret_pair HBAD.out.symm, by rw [if_neg HZ0.out]; exact Row.nil _ _, HB3.out⟩
    · obtain rfl : k = n := by omega
      rw [HE.out] at he
      rw [HE.out] at hr
      have HE2 := Lib.hid he
      have HR2 := Lib.hid hr
      have HB2 := Lib.hid hb
      clear hr hb he
      go_wp2
      go_ret2
      exact ⟨_, ret_pair HE2.out.symm, by rw [if_pos HE2.out, HAL.out]; exact HR2.out, HB2.out⟩
theorem putall_el {w : World} {A : Option Addr} {c : Nat} {l : List SlotEl} (hl : Es w A l) (hT : Tabs w) (hs : OkEl l) (h20 : l.length ≤ 100) :
    Calls Tryd.prog 28 #[.slice A l.length c] w (PuttedAllEl l w) := by
  have HP := Lib.hid (wputall_el (c := c) hl hT hs h20)
  unfold PuttedAllEl at HP
  clear hl hT hs h20
  go_enter Tryd.func28, Tryd.ntmps28
  go_wp2_with (go_at_call 82; go_must ((with_reducible refine HP.out.mono ?_); intro e w1 h; obtain ⟨v, rfl, hr, hb⟩ := h; have HR := Lib.hid hr; have HB := Lib.hid hb; clear hr hb))
  go_ret2
  exact ⟨_, rfl, HR.out, HB.out⟩
end Go.Proofs.YticgmfeihdankaaDoor

/- elems.GetAll of any bytes; the laws' closures. -/
namespace Go.Proofs.YticgmfeihdankaaDoor
open Go.RowKit
set_option linter.unusedVariables false
set_option maxRecDepth 100000

/-- Globals, one behind the other, behind those that are read. -/
noncomputable def elsK (l : List UInt8) : Nat → Nat → List El → Res (List El)
  | 0, q, acc => .ok acc q
  | n + 1, q, acc => (elR l q).bind fun x q2 => elsK l n q2 (acc ++ [x])
theorem elsK_more {l : List UInt8} {n j q : Nat} {acc : List El} (h : j < n) : elsK l (n - j) q acc = (elR l q).bind fun x q2 => elsK l (n - (j + 1)) q2 (acc ++ [x]) := by
  rw [show n - j = n - (j + 1) + 1 by omega]; rfl
/-- A list, and its end. -/
noncomputable def elsR (l : List UInt8) (k : Nat) : Res (List El) := (countR l k).bind fun n k1 => (elsK l n.toNat k1 []).bind fun xs k2 => if k2 < l.length then .err 14 k2 else .ok xs k2
/-- What holds at the head of GetAll's loop. -/
structure AInEl (w : World) (p : Nat) (l : List UInt8) (k : Nat) (xs : List SlotEl) (v : Value) (W : World) : Prop where
  sc : Sc W p l k
  g : w.grownBy W (some p)
  r : RowEl W w.heap.size v xs
  tb : TbP p W
section
variable {w W W' : World} {p : Nat} {l : List UInt8} {k k' : Nat} {xs : List SlotEl} {x : SlotEl} {v v' : Value}
theorem AInEl.step (h : AInEl w p l k xs v W) (hp : p < w.heap.size) (hg : W.grownBy W' (some p)) (hs : Sc W' p l k') : AInEl w p l k' xs v W' :=
  ⟨hs, gb_trans h.g hg, h.r.past hg hp, h.tb.self hg⟩
theorem AInEl.alloc (h : AInEl w p l k xs v W) (hp : p < w.heap.size) (o : Obj) : AInEl w p l k xs v (W.alloc o) := h.step hp (gb_alloc (gb_refl _ _) o) (h.sc.alloc o)
theorem AInEl.more (h : AInEl w p l k xs v W) (hp : p < w.heap.size) (hg : W.grownBy W' v.ownBlock) (hr : RowEl W' w.heap.size v' (xs ++ [x])) : AInEl w p l k (xs ++ [x]) v' W' := by
  have hlt := h.r.lt
  exact ⟨h.sc.grown hg (fun e => by have := hlt p e.symm; omega) (fun g e => by have := hlt g e; omega), gb_before h.g hg (fun g e => .inr (hlt g e).1), hr, h.tb.grown hg (fun g e => by have := hlt g e; omega)⟩
end
/-- The list that was read. -/
def GotAllEl (p : Nat) (l : List UInt8) (r : Res (List El)) (w : World) (e : Ending) (w' : World) : Prop := match r with
  | .ok xs k => ∃ v rows, e = .returned v ∧ RowEl w' w.heap.size v rows ∧ rows.map (·.1) = xs ∧ Sc w' p l k ∧ w.grownBy w' (some p)
  | .err c a => e = .panicked (stopP c a) ∧ w.grownBy w' (some p)
theorem cfElG (a : Array Value) (w : World) : (callFunc 19 a).run Tryd.prog w = .ok (.enter 19 a) w := by kernel_rfl
set_option maxHeartbeats 4000000 in
theorem wgetall_el {w : World} {p : Nat} {l : List UInt8} {k0 : Nat} (h : Sc w p l k0) (hT : TbP p w) :
    Calls Tryd.prog 78 #[.pointer (some ⟨p, 0, none⟩), .func (.func 19) #[] #[]] w (GotAllEl p l (elsR l k0) w) := by
  have hp := h.lt
  have hc := count_scan h
  have HT := Lib.hid hT
  have hcf := cfElG
  unfold elsR
  cases hr : countR l k0 with
  | err c a =>
    rw [hr] at hc
    rw [Res.bind_err]
    have HC := Lib.hid hc
    clear h hT hc hr
    go_enter Tryd.func78, Tryd.ntmps78
    go_wp2_with (go_at_call 119; go_must ((with_reducible refine HC.out.mono ?_); rintro e w1 ⟨rfl, hg⟩; have HG := Lib.hid hg; clear hg))
    exact ⟨rfl, rfl, HG.out⟩
  | ok c k1 =>
    rw [hr] at hc
    rw [Res.bind_ok]
    obtain ⟨v0, v1⟩ := countR_ok hr
    obtain ⟨n, rfl⟩ : ∃ n : Nat, c = n := ⟨c.toNat, by omega⟩
    rw [Int.toNat_natCast]
    have HC := Lib.hid hc
    obtain ⟨R, hR⟩ : ∃ R, R = elsK l n k1 [] := ⟨_, rfl⟩
    rw [← hR]
    have HR := Lib.hid hR
    obtain ⟨T, hTe⟩ : ∃ T, T = R.bind fun xs k2 => if k2 < l.length then .err 14 k2 else .ok xs k2 := ⟨_, rfl⟩
    rw [← hTe]
    have HTE := Lib.hid hTe
    clear h hT hc hr hR hTe
    go_enter Tryd.func78, Tryd.ntmps78
    go_wp2_with (go_at_call 119; go_must ((with_reducible refine HC.out.mono ?_); rintro e w1 ⟨rfl, hs, hg⟩; have HS := Lib.hid hs; have HG := Lib.hid hg; clear hs hg))
    go_loopw [5, 8] (fun v i wr => ∃ (j k : Nat) (rows : List SlotEl), j ≤ n ∧ i = .int .i64 j ∧ rows.length = j ∧ AInEl w p l k rows v wr ∧ elsK l (n - j) k (rows.map (·.1)) = R) (fun _ i _ => n - (intOf i).toNat)
    case atStart => exact ⟨0, k1, [], Nat.zero_le _, rfl, rfl, ⟨HS.out, HG.out, RowEl.nil _ _, HT.out.self HG.out⟩, HR.out.symm⟩
    case round =>
      obtain ⟨j, k, rows, hj, rfl, hlen, ha, hgs⟩ := hrel
      by_cases hlt : j < n
      · rw [elsK_more hlt] at hgs
        have hG := get_el ha.sc ha.tb
        cases hg1 : elR l k with
        | err c a =>
          rw [hg1] at hG hgs
          rw [Res.bind_err] at hgs
          have HGe := Lib.hid hG
          have HA := Lib.hid ha
          have HRE := Lib.hid (show T = .err c a by rw [HTE.out, ← hgs, Res.bind_err])
          clear ha hG hg1 hlen hgs
          go_wp2_with (go_at_call 19; go_must ((with_reducible refine HGe.out.mono ?_); rintro e w2 ⟨rfl, hg⟩; have HG2 := Lib.hid hg; clear hg))
          exact ⟨rfl, by rw [HRE.out]; exact ⟨rfl, gb_trans HA.out.g HG2.out⟩⟩
        | ok x k2 =>
          rw [hg1] at hG hgs
          rw [Res.bind_ok] at hgs
          have HGe := Lib.hid (show Calls Tryd.prog 19 #[.pointer (some ⟨p, 0, none⟩)] wr (fun e w' => ∃ A c F f, e = .returned (elV x A c F f) ∧ Sc w' p l k2 ∧ wr.grownBy w' (some p) ∧ LabT w' F x.fs ∧ ∀ a, F = some a → wr.heap.size ≤ a.block) from hG)
          have hzr := ha.g.size
          have HA := Lib.hid ha
          have HGS := Lib.hid hgs
          have hle : rows.length ≤ 10000 := by omega
          have HLEN := Lib.hid hlen
          clear ha hG hg1 hgs hlen
          go_wp2_with (first
            | (go_at_call 19; go_must ((with_reducible refine HGe.out.mono ?_); intro e w2 hq; obtain ⟨A, c, F, f, rfl, hs, hg, hlt2, hlf⟩ := hq; have HA2 := Lib.hid (HA.out.step hp hg hs); have hz2 := HA2.out.g.size; have HX := Lib.hid (Whole.made w2 27 (qC (x, (A, c), (F, f)))); have HLT := Lib.hid (hlt2.on (below_box w2 (.cells (qC (x, (A, c), (F, f))) 27))); have HLF := Lib.hid (fun a ha => Nat.le_trans hzr (hlf a ha)); clear hs hg hlt2 hlf))
            | (at_builtin; (refine rowEl_new rfl _ _ rfl w.heap.size _ rows rfl (HA2.out.alloc hp _).r w2.heap.size (x, (A, c), (F, f)) rfl HX.out HLT.out HLF.out hle (Nat.le_trans hz2 (below_box w2 _).size) ?_; intro v3 w3 hr3 hg3; have HA3 := Lib.hid ((HA2.out.alloc hp _).more hp hg3 hr3); clear hr3 hg3)))
          go_roundw
          case rel => exact ⟨j + 1, k2, rows ++ [(x, (A, c), (F, f))], by omega, by go_num, by rw [List.length_append, HLEN.out, List.length_singleton], HA3.out, by rw [List.map_append]; exact HGS.out⟩
          case measure => simp [intOf]; omega
      · obtain rfl : j = n := by omega
        rw [Nat.sub_self] at hgs
        have HA := Lib.hid ha
        by_cases hk : k < l.length
        · have HRE := Lib.hid (show T = .err 14 k by rw [HTE.out, ← hgs, show elsK l 0 k (rows.map (·.1)) = .ok (rows.map (·.1)) k from rfl, Res.bind_ok, if_pos hk])
          have HEn := Lib.hid (end_bad ha.sc hk)
          clear ha hgs
          go_wp2_with (go_at_call 122; go_must ((with_reducible refine HEn.out.mono ?_); rintro e w2 ⟨rfl, hg⟩; have HG2 := Lib.hid hg; clear hg))
          exact ⟨rfl, by rw [HRE.out]; exact ⟨rfl, gb_trans HA.out.g HG2.out⟩⟩
        · have HRE := Lib.hid (show T = .ok (rows.map (·.1)) k by rw [HTE.out, ← hgs, show elsK l 0 k (rows.map (·.1)) = .ok (rows.map (·.1)) k from rfl, Res.bind_ok, if_neg hk])
          have hle := ha.sc.le.1
          obtain rfl : k = l.length := by omega
          have HEn := Lib.hid (end_ok ha.sc)
          clear ha hk hgs
          go_wp2_with (go_at_call 122; go_must ((with_reducible refine HEn.out.mono ?_); rintro e w2 ⟨rfl, m, rfl⟩))
          go_ret
          have HA2 := HA.out.step hp (gb_drewN (gb_refl _ _) m) (HA.out.sc.drewN m)
          rw [HRE.out]
          exact ⟨_, rows, rfl, HA2.r, rfl, HA2.sc, HA2.g⟩
theorem getall_el {w : World} {p : Nat} {l : List UInt8} {k0 : Nat} (h : Sc w p l k0) (hT : TbP p w) :
    Calls Tryd.prog 25 #[.pointer (some ⟨p, 0, none⟩)] w (GotAllEl p l (elsR l k0) w) := by
  have HP := wgetall_el h hT
  clear h hT
  cases hr : elsR l k0 with
  | err c a =>
    rw [hr] at HP
    have HP := Lib.hid HP
    clear hr
    go_enter Tryd.func25, Tryd.ntmps25
    go_wp2_with (go_at_call 78; go_must ((with_reducible refine HP.out.mono ?_); rintro e w1 ⟨rfl, hg⟩; have HG := Lib.hid hg; clear hg))
    exact ⟨rfl, rfl, HG.out⟩
  | ok xs k =>
    rw [hr] at HP
    have HP := Lib.hid (show Calls Tryd.prog 78 #[.pointer (some ⟨p, 0, none⟩), .func (.func 19) #[] #[]] w (fun e w' => ∃ v rows, e = .returned v ∧ RowEl w' w.heap.size v rows ∧ rows.map (·.1) = xs ∧ Sc w' p l k ∧ w.grownBy w' (some p)) from HP)
    clear hr
    go_enter Tryd.func25, Tryd.ntmps25
    go_wp2_with (go_at_call 78; go_must ((with_reducible refine HP.out.mono ?_); intro e w1 hq; obtain ⟨v, rows, rfl, hr, hm, hs, hg⟩ := hq; have HR := Lib.hid hr; have HS := Lib.hid hs; have HG := Lib.hid hg; have HM := Lib.hid hm; clear hr hs hg hm))
    go_ret
    exact ⟨_, rows, rfl, HR.out, HM.out, HS.out, HG.out⟩
end Go.Proofs.YticgmfeihdankaaDoor

/- The walk of ConstsPuts. -/
namespace Go.Proofs.YticgmfeihdankaaDoor
open Go.RowKit
set_option linter.unusedVariables false
set_option maxRecDepth 100000

/-- What the laws keep of an instruction: its box, its labels; the tables. -/
structure CSt (w : World) (i : I) (A : Option Addr) (c : Nat) (W : World) : Prop where
  tb : Tabs W
  box : BoxI w W i A c
  li : LiesL W A i.l
section
variable {w W W' : World} {i : I} {A : Option Addr} {c : Nat} {v : Value} {xs : List UInt8}
theorem CSt.on (h : CSt w i A c W) (hb : Below W.heap.size W W') : CSt w i A c W' := ⟨h.tb.below hb, h.box.on hb, h.li.below hb⟩
theorem CSt.start (hT : Tabs w) (hi : LiesL w A i.l) : CSt w i A c (w.alloc (.cells (insC i A c) 25)) :=
  ⟨hT.below (below_box _ _), BoxI.start w i A c, hi.below (below_box _ _)⟩
theorem CSt.bel (h : CSt w i A c W) : Below w.heap.size w W := h.box.2
/-- .. and bytes that were made. -/
structure CLb (w : World) (i : I) (A : Option Addr) (c : Nat) (v : Value) (xs : List UInt8) (W : World) : Prop where
  a : CSt w i A c W
  r : Row W w.heap.size v xs
theorem CLb.on (h : CLb w i A c v xs W) (hb : Below W.heap.size W W') : CLb w i A c v xs W' := ⟨h.a.on hb, h.r.later hb⟩
abbrev Five (w : World) (i : I) (A : Option Addr) (c : Nat) (Ab : Option Addr) (cb : Nat) (xs : List UInt8) (W : World) : Prop :=
  (W.cell? ⟨w.heap.size, 0, none⟩ = some (.int .u8 i.op.toNat) ∧ W.cell? ⟨w.heap.size, 1, none⟩ = some (.int .u64 i.a) ∧ W.cell? ⟨w.heap.size, 2, none⟩ = some (.int .u64 i.b) ∧ W.cell? ⟨w.heap.size, 3, none⟩ = some (.slice A i.l.length c)) ∧
  (convert 30 9 (.slice Ab xs.length cb)).run Tryd.prog W = .ok (.string (S xs)) W
theorem CLb.five {Ab : Option Addr} {cb : Nat} (h : CLb w i A c (.slice Ab xs.length cb) xs W) : CLb w i A c (.slice Ab xs.length cb) xs W ∧ Five w i A c Ab cb xs W := by
  obtain ⟨A', c', e, hc⟩ := h.r.str
  injection e with e1 e2 e3
  subst e1; subst e3
  exact ⟨h, ⟨h.a.box.c0, h.a.box.c1, h.a.box.c2, h.a.box.c3⟩, hc 9 Tryd.underlying9⟩
end
theorem same_self (i : I) : sameZ i i = true := by unfold sameZ; simp
theorem gIns_same (n : Int) (w : World) : Calls Tryd.prog 35 #[.agg #[.int .u8 35, .int .u64 n, .int .u64 0, .slice none 0 0], .agg #[.int .u8 35, .int .u64 n, .int .u64 0, .slice none 0 0]] w (BoolPost true w) := by
  have := refSame_any (w := w) (A := none) (B := none) (c := 0) (d := 0) (i := gIns n) (k := gIns n) (fun j v hv => by simp [cells32] at hv) (fun j v hv => by simp [cells32] at hv) (by simp) (by simp)
  rw [same_self] at this
  exact this

set_option maxHeartbeats 3000000 in
theorem lawCP {w : World} {i : I} {A : Option Addr} {c : Nat} {n : Int} (hT : Tabs w) (oi : i.Ok) (hi : LiesL w A i.l) (ni : (i.l.length : Int) ≤ 9223372036854775807) (n0 : 0 ≤ n) (n1 : n ≤ 4294967295) :
    Calls Tryd.prog 8 #[insV i A c, .int .u32 n] w (BoolPost true w) := by
  have h0 : CSt w i A c (w.alloc (.cells (insC i A c) 25)) := .start hT hi
  have HAW := Lib.hid (cawake_any _ h0.tb)
  have H0 := Lib.hid h0
  clear h0 hT hi
  by_cases g1 : 200 < i.l.length
  · have t1 : decide (200 < (i.l.length : Int)) = true := decide_eq_true (by omega)
    go_enter Tryd.func8, Tryd.ntmps8
    go_wp2_with (go_at_call 43; go_must ((with_reducible refine HAW.out.mono ?_); rintro e w1 ⟨rfl, hb⟩; have H1 := Lib.hid (H0.out.on hb); have c3 := H1.out.box.c3; clear hb))
    go_ret
    exact ⟨rfl, H1.out.bel⟩
  have t1 : decide (200 < (i.l.length : Int)) = false := decide_eq_false (by omega)
  have hw : IntKind.u64.wrap n = n := by simp [IntKind.wrap, IntKind.bits, IntKind.signed]; omega
  have HRR := Lib.hid (fun W => rcright_any i A c W oi ni)
  have HCR := Lib.hid (fun W (h : Tabs W) => cright_any i A c W oi h ni)
  have HGL := Lib.hid (fun W => cglobal_any n W n0 n1)
  have HSG := Lib.hid (fun W => gIns_same n W)
  obtain ⟨xs, hxs⟩ : ∃ xs, xs = (if crightZ i = 0 then putL i ++ [11] else []) := ⟨_, rfl⟩
  have HPU := Lib.hid (fun W (h : Tabs W) (hl : LiesL W A i.l) => show Calls Tryd.prog 45 #[insV i A c] W fun e w' => ∃ v, e = .returned (.tuple #[v, .int .i64 (crightZ i)]) ∧ Row w' W.heap.size v xs ∧ Below W.heap.size W w' from
    (cput_any i A c W oi h hl ni).mono fun e w' ⟨v, h1, h2, h3⟩ => ⟨v, h1, by rw [hxs]; exact h2, h3⟩)
  have HZ0 := Lib.hid (fun (h : crightZ i = 0) => show ∀ W, LiesL W A i.l → Calls Tryd.prog 48 #[insV i A c] W (StrPost xs W) from fun W hl => by
    have := rcput_any i A c W oi (cr_zero h).1 hl
    rw [hxs, if_pos h]
    exact this)
  have HZ1 := Lib.hid (fun (h : ¬ crightZ i = 0) => show xs.length = 0 by rw [hxs, if_neg h]; rfl)
  obtain ⟨z, hz⟩ : ∃ z, z = crightZ i := ⟨_, rfl⟩
  rw [← hz] at HRR HCR HPU HZ0 HZ1
  clear hz hxs g1 n0 n1 oi
  go_enter Tryd.func8, Tryd.ntmps8
  go_wp2_with (first
    | (go_at_call 43; go_must ((with_reducible refine HAW.out.mono ?_); rintro e w1 ⟨rfl, hb⟩; have H1 := Lib.hid (H0.out.on hb); have c0 := H1.out.box.c0; have c1 := H1.out.box.c1; have c2 := H1.out.box.c2; have c3 := H1.out.box.c3; clear hb))
    | (go_at_call 44; go_must ((with_reducible refine (HRR.out _).mono ?_); rintro e w2 ⟨rfl, hb⟩; clear c0 c1 c2 c3; have H2 := Lib.hid (H1.out.on hb); have c0 := H2.out.box.c0; have c1 := H2.out.box.c1; have c2 := H2.out.box.c2; have c3 := H2.out.box.c3; clear hb))
    | (go_at_call 45; go_must ((with_reducible refine (HPU.out _ H2.out.tb H2.out.li).mono ?_); intro e w3 hq; obtain ⟨v, rfl, hr, hb⟩ := hq; clear c0 c1 c2 c3; obtain ⟨Ab, cb, rfl, _, _⟩ := hr.liesN; have H3 := Lib.hid (show CLb w i A c (.slice Ab xs.length cb) xs w3 from ⟨H2.out.on hb, hr.mono H2.out.bel.size⟩); clear hb hr))
    | (go_at_call 46; go_must ((with_reducible refine (HGL.out _).mono ?_); rintro e w4 ⟨rfl, hb⟩; have H5 := Lib.hid ((H3.out.on hb).on (below_box w4 (.cells #[.int .u8 35, .int .u64 n, .int .u64 0, .slice none 0 0] 25))); have HX5 := Lib.hid (Whole.made w4 25 #[.int .u8 35, .int .u64 n, .int .u64 0, .slice none 0 0]); have c0 := H5.out.a.box.c0; have c1 := H5.out.a.box.c1; have c2 := H5.out.a.box.c2; have c3 := H5.out.a.box.c3; clear hb))
    | (go_at_call 47; go_must ((with_reducible refine (HCR.out _ H5.out.a.tb).mono ?_); rintro e w6 ⟨rfl, hb⟩; clear c0 c1 c2 c3; have H6 := Lib.hid (H5.out.on hb); have HX6 := Lib.hid (HX5.out.below hb); have x0 := HX6.out.cell 0; have x1 := HX6.out.cell 1; have x2 := HX6.out.cell 2; have x3 := HX6.out.cell 3; simp only [List.getElem?_toArray, List.getElem?_cons_zero, List.getElem?_cons_succ] at x0 x1 x2 x3; clear hb))
    | (go_at_call 35; go_must ((with_reducible refine (HSG.out _).mono ?_); rintro e w7 ⟨rfl, hb⟩; have H7 := Lib.hid (H6.out.on hb); clear hb x0 x1 x2 x3)))
  by_cases h0 : z = 0
  · have HRP := Lib.hid (HZ0.out h0)
    subst h0
    clear HZ0 HZ1 HPU HCR HRR
    refine wp_region_noPanic ?_
    refine wp_region_held_drew (S := fun W => CLb w i A c (.slice Ab xs.length cb) xs W ∧ Five w i A c Ab cb xs W) (by kernel_rfl) (CLb.five (H7.out.on (Below.refl _ _).drew)) (fun hHeld => ?_)
    (refine heldTake (i := 0) (oi := { dst := some 41, op := Op.move (Operand.tmp 5), type := 3, pos := "law.go:35", after := #[], guard := none }) (v := ?_) rfl (by kernel_rfl) (by kernel_rfl) (by kernel_rfl) (by assumption) ?_ ?_; rotate_left; focus (refine .inl ⟨by kernel_rfl, ?_⟩; intro w hSw; (try dsimp only at hSw); go_simp; (try with_reducible rfl)); (try simp only [Act.put, List.setIfInBounds_toArray, List.set_cons_zero, List.set_cons_succ]))
    (refine heldTake (i := 1) (oi := { dst := some 42, op := Op.binOp BinOp.neq 3 (Operand.tmp 41) (Operand.const (Value.int IntKind.i64 0)) 3, type := 4, pos := "law.go:35", after := #[{ on := 0, ground := Ground.data }], guard := none }) (v := ?_) rfl (by kernel_rfl) (by kernel_rfl) (by kernel_rfl) (by assumption) ?_ ?_; rotate_left; focus (refine .inl ⟨by kernel_rfl, ?_⟩; intro w hSw; (try dsimp only at hSw); go_simp; (try with_reducible rfl)); (try simp only [Act.put, List.setIfInBounds_toArray, List.set_cons_zero, List.set_cons_succ]))
    (refine heldTake (i := 2) (oi := { dst := some 43, op := Op.move (Operand.tmp 42), type := 4, pos := "law.go:35", after := #[{ on := 1, ground := Ground.data }], guard := none }) (v := ?_) rfl (by kernel_rfl) (by kernel_rfl) (by kernel_rfl) (by assumption) ?_ ?_; rotate_left; focus (refine .inl ⟨by kernel_rfl, ?_⟩; intro w hSw; (try dsimp only at hSw); go_simp; (try with_reducible rfl)); (try simp only [Act.put, List.setIfInBounds_toArray, List.set_cons_zero, List.set_cons_succ]))
    (refine heldTake (i := 3) (oi := { dst := some 44, op := Op.move (Operand.tmp 6), type := 30, pos := "law.go:35", after := #[{ on := 2, ground := Ground.guard }], guard := some (2, true) }) (v := undef) rfl (by kernel_rfl) (by kernel_rfl) (by kernel_rfl) (by assumption) (.inr ⟨by kernel_rfl, rfl⟩) ?_; (try simp only [Act.put, List.setIfInBounds_toArray, List.set_cons_zero, List.set_cons_succ]))
    (refine heldTake (i := 4) (oi := { dst := some 45, op := Op.call { callee := Callee.builtin Builtin.len, args := #[Operand.tmp 44], argTypes := #[30] }, type := 3, pos := "law.go:35", after := #[{ on := 3, ground := Ground.data }, { on := 2, ground := Ground.guard }], guard := some (2, true) }) (v := undef) rfl (by kernel_rfl) (by kernel_rfl) (by kernel_rfl) (by assumption) (.inr ⟨by kernel_rfl, rfl⟩) ?_; (try simp only [Act.put, List.setIfInBounds_toArray, List.set_cons_zero, List.set_cons_succ]))
    (refine heldTake (i := 5) (oi := { dst := some 46, op := Op.binOp BinOp.eql 3 (Operand.tmp 45) (Operand.const (Value.int IntKind.i64 0)) 3, type := 4, pos := "law.go:35", after := #[{ on := 4, ground := Ground.data }, { on := 2, ground := Ground.guard }], guard := some (2, true) }) (v := undef) rfl (by kernel_rfl) (by kernel_rfl) (by kernel_rfl) (by assumption) (.inr ⟨by kernel_rfl, rfl⟩) ?_; (try simp only [Act.put, List.setIfInBounds_toArray, List.set_cons_zero, List.set_cons_succ]))
    (refine heldTake (i := 6) (oi := { dst := some 47, op := Op.pick (Operand.tmp 43) (Operand.tmp 46) (Operand.const (Value.bool false)), type := 4, pos := "law.go:35", after := #[{ on := 2, ground := Ground.data }, { on := 5, ground := Ground.data }], guard := none }) (v := ?_) rfl (by kernel_rfl) (by kernel_rfl) (by kernel_rfl) (by assumption) ?_ ?_; rotate_left; focus (refine .inl ⟨by kernel_rfl, ?_⟩; intro w hSw; (try dsimp only at hSw); go_simp; (try with_reducible rfl)); (try simp only [Act.put, List.setIfInBounds_toArray, List.set_cons_zero, List.set_cons_succ]))
    (refine heldTake (i := 7) (oi := { dst := some 48, op := Op.move (Operand.tmp 47), type := 4, pos := "law.go:35", after := #[{ on := 6, ground := Ground.data }, { on := 2, ground := Ground.chain }], guard := none }) (v := ?_) rfl (by kernel_rfl) (by kernel_rfl) (by kernel_rfl) (by assumption) ?_ ?_; rotate_left; focus (refine .inl ⟨by kernel_rfl, ?_⟩; intro w hSw; (try dsimp only at hSw); go_simp; (try with_reducible rfl)); (try simp only [Act.put, List.setIfInBounds_toArray, List.set_cons_zero, List.set_cons_succ]))
    (refine heldTake (i := 8) (oi := { dst := some 49, op := Op.move (Operand.tmp 5), type := 3, pos := "law.go:35", after := #[{ on := 7, ground := Ground.guard }], guard := some (7, false) }) (v := ?_) rfl (by kernel_rfl) (by kernel_rfl) (by kernel_rfl) (by assumption) ?_ ?_; rotate_left; focus (refine .inl ⟨by kernel_rfl, ?_⟩; intro w hSw; (try dsimp only at hSw); go_simp; (try with_reducible rfl)); (try simp only [Act.put, List.setIfInBounds_toArray, List.set_cons_zero, List.set_cons_succ]))
    (refine heldTake (i := 9) (oi := { dst := some 50, op := Op.binOp BinOp.eql 3 (Operand.tmp 49) (Operand.const (Value.int IntKind.i64 0)) 3, type := 4, pos := "law.go:35", after := #[{ on := 8, ground := Ground.data }, { on := 7, ground := Ground.guard }], guard := some (7, false) }) (v := ?_) rfl (by kernel_rfl) (by kernel_rfl) (by kernel_rfl) (by assumption) ?_ ?_; rotate_left; focus (refine .inl ⟨by kernel_rfl, ?_⟩; intro w hSw; (try dsimp only at hSw); go_simp; (try with_reducible rfl)); (try simp only [Act.put, List.setIfInBounds_toArray, List.set_cons_zero, List.set_cons_succ]))
    (refine heldTake (i := 10) (oi := { dst := some 51, op := Op.move (Operand.tmp 50), type := 4, pos := "law.go:35", after := #[{ on := 9, ground := Ground.data }, { on := 7, ground := Ground.chain }, { on := 7, ground := Ground.guard }], guard := some (7, false) }) (v := ?_) rfl (by kernel_rfl) (by kernel_rfl) (by kernel_rfl) (by assumption) ?_ ?_; rotate_left; focus (refine .inl ⟨by kernel_rfl, ?_⟩; intro w hSw; (try dsimp only at hSw); go_simp; (try with_reducible rfl)); (try simp only [Act.put, List.setIfInBounds_toArray, List.set_cons_zero, List.set_cons_succ]))
    (refine heldTake (i := 11) (oi := { dst := some 52, op := Op.move (Operand.tmp 6), type := 30, pos := "law.go:35", after := #[{ on := 10, ground := Ground.guard }], guard := some (10, true) }) (v := ?_) rfl (by kernel_rfl) (by kernel_rfl) (by kernel_rfl) (by assumption) ?_ ?_; rotate_left; focus (refine .inl ⟨by kernel_rfl, ?_⟩; intro w hSw; (try dsimp only at hSw); go_simp; (try with_reducible rfl)); (try simp only [Act.put, List.setIfInBounds_toArray, List.set_cons_zero, List.set_cons_succ]))
    (refine heldTake (i := 12) (oi := { dst := some 53, op := Op.convert 30 9 (Operand.tmp 52), type := 9, pos := "law.go:35", after := #[{ on := 11, ground := Ground.data }, { on := 10, ground := Ground.guard }], guard := some (10, true) }) (v := ?_) rfl (by kernel_rfl) (by kernel_rfl) (by kernel_rfl) (by assumption) ?_ ?_; rotate_left; focus (refine .inl ⟨by kernel_rfl, ?_⟩; intro w hSw; (try dsimp only at hSw); go_simp; (try with_reducible rfl)); (try simp only [Act.put, List.setIfInBounds_toArray, List.set_cons_zero, List.set_cons_succ]))
    (refine heldTake (i := 13) (oi := { dst := some 54, op := Op.load 25 (Operand.tmp 2), type := 25, pos := "law.go:35", after := #[{ on := 10, ground := Ground.guard }], guard := some (10, true) }) (v := ?_) rfl (by kernel_rfl) (by kernel_rfl) (by kernel_rfl) (by assumption) ?_ ?_; rotate_left; focus (refine .inl ⟨by kernel_rfl, ?_⟩; intro w hSw; (try dsimp only at hSw); go_simp; (try with_reducible rfl)); (try simp only [Act.put, List.setIfInBounds_toArray, List.set_cons_zero, List.set_cons_succ]))
    refine wpAnyH_ready (rs := [14]) (by kernel_rfl) (by simp) ?_
    refine AllReadyH.cons (o := { dst := some 55, op := Op.call { callee := Callee.value (Operand.func 48), args := #[Operand.tmp 54], argTypes := #[25] }, type := 9, pos := "law.go:35", after := #[{ on := 13, ground := Ground.data }, { on := 10, ground := Ground.chain }, { on := 10, ground := Ground.guard }], guard := some (10, true) }) rfl (fun K hK => ?_) AllReadyH.nil
    go_simp
    (go_at_call 48; (with_reducible refine (HRP.out _ (And.left hHeld).a.li).mono ?_); rintro e w8 ⟨rfl, hb⟩; have hk8 := CLb.five (CLb.on (And.left hHeld) hb); clear hb)
    refine hK.out _ _ hk8 (fun hHeld14 => ?_)
    clear hK K hHeld
    (try simp only [Act.put, List.setIfInBounds_toArray, List.set_cons_zero, List.set_cons_succ])
    (refine heldTake (i := 15) (oi := { dst := some 56, op := Op.binOp BinOp.eql 9 (Operand.tmp 53) (Operand.tmp 55) 9, type := 4, pos := "law.go:35", after := #[{ on := 12, ground := Ground.data }, { on := 14, ground := Ground.data }, { on := 10, ground := Ground.guard }], guard := some (10, true) }) (v := ?_) rfl (by kernel_rfl) (by kernel_rfl) (by kernel_rfl) (by assumption) ?_ ?_; rotate_left; focus (refine .inl ⟨by kernel_rfl, ?_⟩; intro w hSw; (try dsimp only at hSw); go_simp; (try with_reducible rfl)); (try simp only [Act.put, List.setIfInBounds_toArray, List.set_cons_zero, List.set_cons_succ]))
    (refine heldTake (i := 16) (oi := { dst := some 57, op := Op.pick (Operand.tmp 51) (Operand.tmp 56) (Operand.const (Value.bool false)), type := 4, pos := "law.go:35", after := #[{ on := 10, ground := Ground.data }, { on := 15, ground := Ground.data }, { on := 7, ground := Ground.guard }], guard := some (7, false) }) (v := ?_) rfl (by kernel_rfl) (by kernel_rfl) (by kernel_rfl) (by assumption) ?_ ?_; rotate_left; focus (refine .inl ⟨by kernel_rfl, ?_⟩; intro w hSw; (try dsimp only at hSw); go_simp; (try with_reducible rfl)); (try simp only [Act.put, List.setIfInBounds_toArray, List.set_cons_zero, List.set_cons_succ]))
    (refine heldTake (i := 17) (oi := { dst := some 58, op := Op.pick (Operand.tmp 48) (Operand.const (Value.bool true)) (Operand.tmp 57), type := 4, pos := "law.go:35", after := #[{ on := 7, ground := Ground.data }, { on := 16, ground := Ground.data }], guard := none }) (v := ?_) rfl (by kernel_rfl) (by kernel_rfl) (by kernel_rfl) (by assumption) ?_ ?_; rotate_left; focus (refine .inl ⟨by kernel_rfl, ?_⟩; intro w hSw; (try dsimp only at hSw); go_simp; (try with_reducible rfl)); (try simp only [Act.put, List.setIfInBounds_toArray, List.set_cons_zero, List.set_cons_succ]))
    (refine heldTake (i := 18) (oi := { dst := some 4, op := Op.assign (Operand.tmp 58), type := 4, pos := "law.go:35", after := #[{ on := 17, ground := Ground.data }, { on := 14, ground := Ground.chain }, { on := 0, ground := Ground.phase }, { on := 1, ground := Ground.phase }, { on := 2, ground := Ground.phase }, { on := 3, ground := Ground.phase }, { on := 4, ground := Ground.phase }, { on := 5, ground := Ground.phase }, { on := 6, ground := Ground.phase }, { on := 7, ground := Ground.phase }, { on := 8, ground := Ground.phase }, { on := 9, ground := Ground.phase }, { on := 10, ground := Ground.phase }, { on := 11, ground := Ground.phase }, { on := 12, ground := Ground.phase }, { on := 13, ground := Ground.phase }, { on := 14, ground := Ground.phase }, { on := 15, ground := Ground.phase }, { on := 16, ground := Ground.phase }, { on := 17, ground := Ground.phase }], guard := none }) (v := ?_) rfl (by kernel_rfl) (by kernel_rfl) (by kernel_rfl) (by assumption) ?_ ?_; rotate_left; focus (refine .inl ⟨by kernel_rfl, ?_⟩; intro w hSw; (try dsimp only at hSw); go_simp; (try with_reducible rfl)); (try simp only [Act.put, List.setIfInBounds_toArray, List.set_cons_zero, List.set_cons_succ]))
    refine wpAnyH_done (by kernel_rfl) ?_ _
    refine NoPanic.normal ?_
    have hLast := hHeld14
    clear hHeld14
    go_wp2
    go_ret
    exact ⟨rfl, (And.left hLast).a.bel⟩
  · have hx := HZ1.out h0
    have dz : (z != 0) = true := by simpa using h0
    have dx : ((xs.length : Int) == 0) = true := by rw [hx]; rfl
    clear HZ0 HZ1 HPU HCR HRR h0 hx
    go_quiet (fail)
    go_wp2
    go_ret
    exact ⟨rfl, below_drewN H7.out.a.bel _⟩
end Go.Proofs.YticgmfeihdankaaDoor

/- creelref13.GetAll of any bytes; creelref13.Same. -/
namespace Go.Proofs.YticgmfeihdankaaDoor
open Go.RowKit
set_option linter.unusedVariables false
set_option maxRecDepth 100000

/-- What holds at the head of the reference's loop. -/
structure BInEl (w : World) (q : Nat) (l : List UInt8) (s : RSt) (xs : List SlotEl) (v : Value) (W : World) : Prop where
  rs : Rs W q l s
  g : w.grownBy W (some q)
  r : RowEl W w.heap.size v xs
section
variable {w W W' : World} {q : Nat} {l : List UInt8} {s s' : RSt} {xs : List SlotEl} {x : SlotEl} {v v' : Value}
theorem BInEl.step (h : BInEl w q l s xs v W) (hq : q < w.heap.size) (hg : W.grownBy W' (some q)) (hs : Rs W' q l s') : BInEl w q l s' xs v W' :=
  ⟨hs, gb_trans h.g hg, h.r.past hg hq⟩
theorem BInEl.alloc (h : BInEl w q l s xs v W) (hq : q < w.heap.size) (o : Obj) : BInEl w q l s xs v (W.alloc o) := h.step hq (gb_alloc (gb_refl _ _) o) (h.rs.alloc o)
theorem BInEl.more (h : BInEl w q l s xs v W) (hq : q < w.heap.size) (hg : W.grownBy W' v.ownBlock) (hr : RowEl W' w.heap.size v' (xs ++ [x])) : BInEl w q l s (xs ++ [x]) v' W' := by
  have hlt := h.r.lt
  exact ⟨h.rs.grown hg (fun e => by have := hlt q e.symm; omega) (fun g e => by have := hlt g e; omega), gb_before h.g hg (fun g e => .inr (hlt g e).1), hr⟩
end
/-- How far the list is. -/
def ElInv (l : List UInt8) (n j : Nat) (s : RSt) (rows : List SlotEl) (R : Res (List El)) : Prop := match s with
  | .at k => elsK l (n - j) k (rows.map (·.1)) = R
  | .bad c a => R = .err c a
theorem ElInv.step {l : List UInt8} {n j k : Nat} {rows : List SlotEl} {R : Res (List El)} (h : ElInv l n j (.at k) rows R) (hlt : j < n) {x : El} {A : Option Addr} {c : Nat} {F : Option Addr} {f : Nat} (hv : ∀ y k2, elR l k = .ok y k2 → x = y) :
    ElInv l n (j + 1) (stOf (elR l k)) (rows ++ [(x, (A, c), (F, f))]) R := by
  have h1 : elsK l (n - j) k (rows.map (·.1)) = R := h
  rw [elsK_more hlt] at h1
  cases hg : elR l k with
  | err c a =>
    rw [hg, Res.bind_err] at h1
    exact h1.symm
  | ok y k2 =>
    rw [hg, Res.bind_ok] at h1
    obtain rfl := hv y k2 hg
    show elsK l (n - (j + 1)) k2 ((rows ++ [(x, (A, c), (F, f))]).map (·.1)) = R
    rw [List.map_append]
    exact h1
/-- What creelref13.GetAll leaves behind. -/
def RGotAllEl (q : Nat) (l : List UInt8) (r : Res (List El)) (w : World) (e : Ending) (w' : World) : Prop := match r with
  | .ok xs k => ∃ v rows, e = .returned v ∧ RowEl w' w.heap.size v rows ∧ rows.map (·.1) = xs ∧ Rs w' q l (.at k) ∧ w.grownBy w' (some q)
  | .err c a => e = .returned (.slice none 0 0) ∧ Rs w' q l (.bad c a) ∧ w.grownBy w' (some q)
set_option maxHeartbeats 4000000 in
theorem rgetall_el {w : World} {q : Nat} {l : List UInt8} {k0 : Nat} (h : Rs w q l (.at k0)) :
    Calls Tryd.prog 26 #[.pointer (some ⟨q, 0, none⟩)] w (RGotAllEl q l (elsR l k0) w) := by
  have hq := h.lt
  have hC := count_ref h
  have key : ∃ (n : Nat) (s0 : RSt) (R : Res (List El)), vZ (countR l k0) = n ∧ n ≤ 10000 ∧ stOf (countR l k0) = s0 ∧ ElInv l n 0 s0 [] R ∧ elsR l k0 = R.bind fun xs k2 => if k2 < l.length then .err 14 k2 else .ok xs k2 := by
    unfold elsR
    cases hr : countR l k0 with
    | err c a => exact ⟨0, .bad c a, .err c a, rfl, by omega, rfl, rfl, rfl⟩
    | ok v k1 =>
      obtain ⟨v0, v1⟩ := countR_ok hr
      obtain ⟨n, rfl⟩ : ∃ n : Nat, v = n := ⟨v.toNat, by omega⟩
      exact ⟨n, .at k1, elsK l n k1 [], rfl, by omega, rfl, rfl, by rw [Res.bind_ok, Int.toNat_natCast]⟩
  obtain ⟨n, s0, R, e1, e2, e3, hiv, hT⟩ := key
  rw [e1, e3] at hC
  obtain ⟨T, hTe⟩ : ∃ T, T = elsR l k0 := ⟨_, rfl⟩
  rw [← hTe] at hT ⊢
  have HC := Lib.hid hC
  have HTE := Lib.hid hT
  have HIV := Lib.hid hiv
  clear h hC e1 e3 hiv hT hTe
  go_enter Tryd.func26, Tryd.ntmps26
  go_wp2_with (go_at_call 79; go_must ((with_reducible refine HC.out.mono ?_); rintro e w1 ⟨rfl, hs, hg⟩; have HS := Lib.hid hs; have HG := Lib.hid hg; clear hs hg))
  go_loopw [4, 5] (fun v i wr => ∃ (j : Nat) (s : RSt) (rows : List SlotEl), j ≤ n ∧ i = .int .i64 j ∧ rows.length = j ∧ BInEl w q l s rows v wr ∧ ElInv l n j s rows R) (fun _ i _ => n - (intOf i).toNat)
  case atStart => exact ⟨0, s0, [], Nat.zero_le _, rfl, rfl, ⟨HS.out, HG.out, RowEl.nil _ _⟩, HIV.out⟩
  case round =>
    obtain ⟨j, s, rows, hj, rfl, hlen, hb, hiv⟩ := hrel
    have HB := Lib.hid hb
    have HLEN := Lib.hid hlen
    have hle : rows.length ≤ 10000 := by omega
    cases s with
    | bad c a =>
      have x2 := why_bad hb.rs
      have dw : (c != 0) = true := by simpa using hb.rs.nz
      have dw2 : (c == 0) = false := by simpa using hb.rs.nz
      have HRE := Lib.hid (show T = .err c a by rw [HTE.out, show R = .err c a from hiv, Res.bind_err])
      have HEn := Lib.hid (fun W (g : Rs W q l (.bad c a)) => show Calls Tryd.prog 81 #[.pointer (some ⟨q, 0, none⟩)] W fun e w' => e = .returned (.tuple #[]) ∧ Rs w' q l (.bad c a) ∧ W.grownBy w' (some q) from end_ref g)
      clear hb hiv hlen hle
      by_cases hlt : j < n
      all_goals
        go_wp2_with (go_at_call 81; go_must ((with_reducible refine (HEn.out _ HB.out.rs).mono ?_); rintro e w2 ⟨rfl, hs, hg⟩; clear x2; have x2 := why_bad hs; have HS2 := Lib.hid hs; have HG2 := Lib.hid hg; clear hs hg))
        go_ret
        rw [HRE.out]
        exact ⟨rfl, HS2.out, gb_trans HB.out.g HG2.out⟩
    | «at» k =>
      have x2 := why_at hb.rs
      by_cases hlt : j < n
      · have HG := Lib.hid (show Calls Tryd.prog 80 #[.pointer (some ⟨q, 0, none⟩)] wr (fun e w' => ∃ (x : El) (A : Option Addr) (c : Nat) (F : Option Addr) (f : Nat), e = .returned (elV x A c F f) ∧ Rs w' q l (stOf (elR l k)) ∧ (∀ y k2, elR l k = .ok y k2 → x = y) ∧ wr.grownBy w' (some q) ∧ LabT w' F x.fs ∧ ∀ a, F = some a → wr.heap.size ≤ a.block) from rget_el hb.rs)
        have hzr := hb.g.size
        have HST := Lib.hid (fun (x : El) (A : Option Addr) (c : Nat) (F : Option Addr) (f : Nat) (hv : ∀ y k2, elR l k = .ok y k2 → x = y) => ElInv.step (A := A) (c := c) (F := F) (f := f) hiv hlt hv)
        clear hb hiv hlen
        go_wp2_with (first
          | (go_at_call 80; go_must ((with_reducible refine HG.out.mono ?_); intro e w2 hqq; obtain ⟨x, A, c, F, f, rfl, hs, hv, hg, hlt2, hlf⟩ := hqq; have HV := Lib.hid hv; have HA2 := Lib.hid (HB.out.step hq hg hs); have hz2 := HA2.out.g.size; have HX := Lib.hid (Whole.made w2 27 (qC (x, (A, c), (F, f)))); have HLT := Lib.hid (hlt2.on (below_box w2 (.cells (qC (x, (A, c), (F, f))) 27))); have HLF := Lib.hid (fun a ha => Nat.le_trans hzr (hlf a ha)); clear hs hg hv x2 hlt2 hlf))
          | (at_builtin; (refine rowEl_new rfl _ _ rfl w.heap.size _ rows rfl (HA2.out.alloc hq _).r w2.heap.size (x, (A, c), (F, f)) rfl HX.out HLT.out HLF.out hle (Nat.le_trans hz2 (below_box w2 _).size) ?_; intro v3 w3 hr3 hg3; have HA3 := Lib.hid ((HA2.out.alloc hq _).more hq hg3 hr3); clear hr3 hg3)))
        go_roundw
        case rel => exact ⟨j + 1, _, rows ++ [(x, (A, c), (F, f))], by omega, by go_num, by rw [List.length_append, HLEN.out, List.length_singleton], HA3.out, HST.out x A c F f HV.out⟩
        case measure => simp [intOf]; omega
      · obtain rfl : j = n := by omega
        have hR : R = .ok (rows.map (·.1)) k := by
          have h1 : elsK l (j - j) k (rows.map (·.1)) = R := hiv
          rw [Nat.sub_self] at h1
          exact h1.symm
        by_cases hk : k < l.length
        · have HRE := Lib.hid (show T = .err 14 k by rw [HTE.out, hR, Res.bind_ok, if_pos hk])
          have HEn := Lib.hid (fun W (g : Rs W q l (.at k)) => show Calls Tryd.prog 81 #[.pointer (some ⟨q, 0, none⟩)] W fun e w' => e = .returned (.tuple #[]) ∧ Rs w' q l (.bad 14 k) ∧ W.grownBy w' (some q) from by have := end_ref g; rw [show endS l (.at k) = .bad 14 k from if_pos hk] at this; exact this)
          clear hb hiv hlen hle hR hk
          go_wp2_with (go_at_call 81; go_must ((with_reducible refine (HEn.out _ HB.out.rs).mono ?_); rintro e w2 ⟨rfl, hs, hg⟩; clear x2; have x2 := why_bad hs; have HS2 := Lib.hid hs; have HG2 := Lib.hid hg; clear hs hg))
          go_ret
          rw [HRE.out]
          exact ⟨rfl, HS2.out, gb_trans HB.out.g HG2.out⟩
        · have HRE := Lib.hid (show T = .ok (rows.map (·.1)) k by rw [HTE.out, hR, Res.bind_ok, if_neg hk])
          have HEn := Lib.hid (fun W (g : Rs W q l (.at k)) => show Calls Tryd.prog 81 #[.pointer (some ⟨q, 0, none⟩)] W fun e w' => e = .returned (.tuple #[]) ∧ Rs w' q l (.at k) ∧ W.grownBy w' (some q) from by have := end_ref g; rw [show endS l (.at k) = .at k from if_neg hk] at this; exact this)
          clear hb hiv hlen hle hR hk
          go_wp2_with (go_at_call 81; go_must ((with_reducible refine (HEn.out _ HB.out.rs).mono ?_); rintro e w2 ⟨rfl, hs, hg⟩; clear x2; have x2 := why_at hs; have HB2 := Lib.hid (HB.out.step hq hg hs); clear hs hg))
          go_ret
          rw [HRE.out]
          exact ⟨_, rows, rfl, HB2.out.r, rfl, HB2.out.rs, HB2.out.g⟩
end Go.Proofs.YticgmfeihdankaaDoor

/- abort.Value of a function that ends well, whatever it hands back: []api.Elem. Value of one that aborts. -/
namespace Go.Proofs.YticgmfeihdankaaDoor
open Go.RowKit
set_option linter.unusedVariables false
set_option maxRecDepth 100000

theorem cfVEls (cap : Array Value) (w : World) : (callFunc 77 cap).run Tryd.prog w = .ok (.enter 77 cap) w := by kernel_rfl
section
variable {T : (Option Addr × Nat × Nat) → World → Prop}
/-- Value's own closure: what the step hands back lies in its cell. -/
theorem valClosEls {g : FuncId} {cap : Array Value} {b1 b4 q : Nat} {w : World} {z : Array Value} (hz : z.size = 1) (hcf : ∀ w : World, (callFunc g cap).run Tryd.prog w = .ok (.enter g cap) w)
    (h1 : Whole w b1 54 #[.func (.func g) #[] cap]) (h4 : Whole w b4 50 #[.slice none 0 0]) (hb : q < b4) (hT : ∀ x W W', T x W → W.grownBy W' (some b4) → T x W')
    (h : Calls Tryd.prog g cap w fun e w' => ∃ x, e = .returned (.slice x.1 x.2.1 x.2.2) ∧ T x w' ∧ w.grownBy w' (some q)) :
    Calls Tryd.prog 77 #[.pointer (some ⟨b1, 0, none⟩), .pointer (some ⟨b4, 0, none⟩)] w fun e w' =>
      e = .returned (.tuple #[]) ∧ ∃ x, T x w' ∧ Whole w' b4 50 #[.slice x.1 x.2.1 x.2.2] ∧ ∃ w1, w.grownBy w1 (some q) ∧ w1.grownBy w' (some b4) := by
  have hnil : ∀ w : World, (binOp BinOp.neq 54 (.func (.func g) #[] cap) .nilFunc).run Tryd.prog w = .ok (.bool true) w := fun _ => by kernel_rfl
  have c1 := h1.cell 0
  simp only [List.getElem?_toArray, List.getElem?_cons_zero] at c1
  have HH := Lib.hid h
  have H4 := Lib.hid h4
  have HT := Lib.hid hT
  clear h h1 h4 hT
  go_enter Tryd.func77, Tryd.ntmps77
  go_wp2_with fail
  refine HH.out.mono ?_
  rintro e w1 ⟨x, rfl, hs, hg⟩
  have HW := H4.out.grown hg (by simp only [ne_eq, Option.some.injEq]; omega)
  have k0 := HW.cell 0
  have f0 := HW.frozen 0
  simp only [List.getElem?_toArray, List.getElem?_cons_zero] at k0
  obtain ⟨p1, p2⟩ := put1 (u0 := .slice x.1 x.2.1 x.2.2) HW
  have F : Hid (T x (w1.setCell ⟨b4, 0, none⟩ (.slice x.1 x.2.1 x.2.2))) := HT.out _ _ _ hs p2
  have P1 := Lib.hid p1
  have P2 := Lib.hid p2
  have HG := Lib.hid hg
  clear p1 p2 hs hg HW hcf
  go_wp2_with fail
  go_end0
  exact ⟨rfl, x, F.out, P1.out, w1, HG.out, P2.out⟩
/-- What Value's closure leaves behind, seen from Value's beginning. -/
structure VSEls (T : (Option Addr × Nat × Nat) → World → Prop) (w : World) (q : Nat) (x : (Option Addr × Nat × Nat)) (w1 : World) : Prop where
  kept : T x w1
  grown : w.grownBy w1 (some q)
  val : Whole w1 (w.heap.size + 2) 50 #[.slice x.1 x.2.1 x.2.2]
  r2 : Whole w1 (w.heap.size + 1) 38 #[.int .i64 0, .int .i64 0]
/-- The world in which Value calls Out. -/
def vWorldEls (g : FuncId) (cap : Array Value) (w : World) : World :=
  ((w.alloc (.cells #[.func (.func g) #[] cap] 54)).alloc (.cells #[.int .i64 0, .int .i64 0] 38)).alloc (.cells #[.slice none 0 0] 50)
theorem vWorld_factsEls (g : FuncId) (cap : Array Value) (w : World) : (vWorldEls g cap w).heap.size = w.heap.size + 3 ∧ Whole (vWorldEls g cap w) w.heap.size 54 #[.func (.func g) #[] cap] ∧
    Whole (vWorldEls g cap w) (w.heap.size + 1) 38 #[.int .i64 0, .int .i64 0] ∧
    Whole (vWorldEls g cap w) (w.heap.size + 2) 50 #[.slice none 0 0] ∧ Below w.heap.size w (vWorldEls g cap w) := by
  have b1 := Whole.made w 54 #[.func (.func g) #[] cap]
  have b3 := Whole.made (w.alloc (.cells #[.func (.func g) #[] cap] 54)) 38 #[.int .i64 0, .int .i64 0]
  have b4 := Whole.made ((w.alloc (.cells #[.func (.func g) #[] cap] 54)).alloc (.cells #[.int .i64 0, .int .i64 0] 38)) 50 #[.slice none 0 0]
  simp only [World.size_alloc] at b3 b4
  exact ⟨by simp [vWorldEls], (b1.alloc _).alloc _, b3.alloc _, b4,
    (((Below.refl _ _).alloc (Nat.le_refl _) _).alloc (by simp) _).alloc (by simp; omega) _⟩
theorem value_outEls {g : FuncId} {cap : Array Value} {q : Nat} {w : World} (hcf : ∀ w : World, (callFunc g cap).run Tryd.prog w = .ok (.enter g cap) w) (hq : q < w.heap.size)
    (hT : ∀ x W W' b, w.heap.size ≤ b → b < w.heap.size + 4 → T x W → W.grownBy W' (some b) → T x W')
    (h : ∀ W, Below w.heap.size w W → w.heap.size + 4 ≤ W.heap.size → Calls Tryd.prog g cap W fun e w' => ∃ x, e = .returned (.slice x.1 x.2.1 x.2.2) ∧ T x w' ∧ W.grownBy w' (some q)) :
    Calls Tryd.prog 72 #[.func (.func 77) #[] #[.pointer (some ⟨w.heap.size, 0, none⟩), .pointer (some ⟨w.heap.size + 2, 0, none⟩)]] (vWorldEls g cap w) fun e w' => e = .returned (.agg #[.int .i64 0, .int .i64 0]) ∧ ∃ x, VSEls T w q x w' := by
  obtain ⟨hz, b1, b3, b4, hbe⟩ := vWorld_factsEls g cap w
  have b5 := Whole.made (vWorldEls g cap w) 38 #[.int .i64 0, .int .i64 0]
  have hbe2 : Below w.heap.size w ((vWorldEls g cap w).alloc (.cells #[.int .i64 0, .int .i64 0] 38)) := hbe.alloc (by omega) _
  have hc := valClosEls (T := T) (z := #[.slice none 0 0]) rfl hcf (b1.alloc (.cells #[.int .i64 0, .int .i64 0] 38)) (b4.alloc _) (by omega : q < w.heap.size + 2) (fun x W W' => hT x W W' _ (by omega) (by omega)) (h _ hbe2 (by rw [size_box]; omega))
  refine (out_any _ _ 0 0 (vWorldEls g cap w) (fun w1 => (∃ x, VSEls T w q x w1) ∧ Whole w1 (vWorldEls g cap w).heap.size 38 #[.int .i64 0, .int .i64 0]) (cfVEls _) (hc.mono ?_) (fun _ h => h.2)).mono ?_
  · rintro e w' ⟨rfl, x, hs, hv, w1, hg1, hg2⟩
    have hz2 : w.heap.size + 4 ≤ w1.heap.size := by have := hg1.size; simp only [World.size_alloc] at this; omega
    refine ⟨.inl ⟨rfl, rfl, rfl⟩, ⟨x, hs, ?_, hv, ?_⟩, ?_⟩
    · exact gb_before (gb_trans (gb_of_below (some q) hbe2) hg1) hg2 (fun g e => .inr (by injection e with e; omega))
    · exact ((b3.alloc _).grown hg1 (by simp only [ne_eq, Option.some.injEq]; omega)).grown hg2 (by simp only [ne_eq, Option.some.injEq]; omega)
    · exact (b5.grown hg1 (by simp only [ne_eq, Option.some.injEq]; omega)).grown hg2 (by simp only [ne_eq, Option.some.injEq]; omega)
  · rintro e w' ⟨rfl, w1, ⟨⟨x, hs⟩, _⟩, hg⟩
    rw [hz] at hg
    exact ⟨rfl, x, hT x _ _ _ (by omega) (by omega) hs.kept hg, gb_before hs.grown hg (fun g e => .inr (by injection e with e; omega)), hs.val.grown hg (by simp only [ne_eq, Option.some.injEq]; omega), hs.r2.grown hg (by simp only [ne_eq, Option.some.injEq]; omega)⟩

set_option maxHeartbeats 800000 in
/-- Value of a function that ends well. -/
theorem valueEls_ok {g : FuncId} {cap : Array Value} {q : Nat} {w : World} (hcf : ∀ w : World, (callFunc g cap).run Tryd.prog w = .ok (.enter g cap) w) (hq : q < w.heap.size)
    (hT : ∀ x W W' b, w.heap.size ≤ b → b < w.heap.size + 4 → T x W → W.grownBy W' (some b) → T x W')
    (h : ∀ W, Below w.heap.size w W → w.heap.size + 4 ≤ W.heap.size → Calls Tryd.prog g cap W fun e w' => ∃ x, e = .returned (.slice x.1 x.2.1 x.2.2) ∧ T x w' ∧ W.grownBy w' (some q)) :
    Calls Tryd.prog 23 #[.func (.func g) #[] cap] w fun e w' => ∃ x, e = .returned (.tuple #[.slice x.1 x.2.1 x.2.2, .agg #[.int .i64 0, .int .i64 0]]) ∧ T x w' ∧ w.grownBy w' (some q) := by
  have hv := value_outEls hcf hq hT h
  unfold vWorldEls at hv
  have HV := Lib.hid hv
  have HT := Lib.hid hT
  have hmf : ∀ (fn : Fn) (first cap : Array Value) (w : World), (Instr.makeFunc fn first cap).run Tryd.prog w = .ok (.func fn first cap) w := fun _ _ _ _ => rfl
  clear h hv hcf hT
  go_enter Tryd.func23, Tryd.ntmps23
  go_wp2_with (go_at_call 72; go_must (refine HV.out.mono ?_; rintro e w2 ⟨rfl, x, hl⟩; have k0 := fun o => (hl.val.alloc o).cell 0; have f8 := fun o => (hl.r2.alloc o).frozen 0; have f9 := fun o => (hl.r2.alloc o).frozen 1; have m8 := fun o => (hl.r2.alloc o).cell 0; have m9 := fun o => (hl.r2.alloc o).cell 1; simp only [List.getElem?_toArray, List.getElem?_cons_zero, List.getElem?_cons_succ] at k0 m8 m9; have hz := hl.grown.size; have HL := Lib.hid hl; clear hl))
  obtain ⟨p2, g2⟩ := put2 (u0 := .int .i64 0) (u1 := .int .i64 0) (HL.out.r2.alloc (.cells #[.int .i64 0, .int .i64 0] 38))
  have q8 := p2.cell 0
  have q9 := p2.cell 1
  simp only [List.getElem?_toArray, List.getElem?_cons_zero, List.getElem?_cons_succ] at q8 q9
  refine bodyPost_ret (v := .tuple #[.slice x.1 x.2.1 x.2.2, .agg #[.int .i64 0, .int .i64 0]]) (by simp [results, Tryd.results23, go_sem, q8, q9]) rfl ⟨x, rfl, ?_, ?_⟩
  · exact HT.out _ _ _ _ (by omega) (by omega) (HT.out _ _ _ w.heap.size (Nat.le_refl _) (by omega) HL.out.kept (gb_alloc (gb_refl _ _) _)) g2
  · exact gb_before (gb_alloc HL.out.grown _) g2 (fun g e => .inr (by injection e with e; omega))
end
/-- Value's own closure: what aborts goes on. -/
theorem valClosElsE {g : FuncId} {cap : Array Value} {b1 b4 q : Nat} {w : World} {c a : Int} (hcf : ∀ w : World, (callFunc g cap).run Tryd.prog w = .ok (.enter g cap) w)
    (h1 : Whole w b1 54 #[.func (.func g) #[] cap])
    (h : Calls Tryd.prog g cap w fun e w' => e = .panicked (stopP c a) ∧ w.grownBy w' (some q)) :
    Calls Tryd.prog 77 #[.pointer (some ⟨b1, 0, none⟩), .pointer (some ⟨b4, 0, none⟩)] w fun e w' => e = .panicked (stopP c a) ∧ w.grownBy w' (some q) := by
  have hnil : ∀ w : World, (binOp BinOp.neq 54 (.func (.func g) #[] cap) .nilFunc).run Tryd.prog w = .ok (.bool true) w := fun _ => by kernel_rfl
  have c1 := h1.cell 0
  simp only [List.getElem?_toArray, List.getElem?_cons_zero] at c1
  have HH := Lib.hid h
  clear h h1
  go_enter Tryd.func77, Tryd.ntmps77
  go_wp2_with fail
  refine HH.out.mono ?_
  rintro e w1 ⟨rfl, hg⟩
  exact ⟨rfl, rfl, hg⟩
theorem value_outElsE {g : FuncId} {cap : Array Value} {q : Nat} {w : World} {c a : Int} (hc : ¬ c = 0) (hcf : ∀ w : World, (callFunc g cap).run Tryd.prog w = .ok (.enter g cap) w) (hq : q < w.heap.size)
    (h : ∀ W, Below w.heap.size w W → w.heap.size + 4 ≤ W.heap.size → Calls Tryd.prog g cap W fun e w' => e = .panicked (stopP c a) ∧ W.grownBy w' (some q)) :
    Calls Tryd.prog 72 #[.func (.func 77) #[] #[.pointer (some ⟨w.heap.size, 0, none⟩), .pointer (some ⟨w.heap.size + 2, 0, none⟩)]] (vWorldEls g cap w) fun e w' => e = .returned (.agg #[.int .i64 c, .int .i64 a]) ∧
      w.grownBy w' (some q) ∧ w.heap.size + 3 ≤ w'.heap.size ∧ Whole w' (w.heap.size + 2) 50 #[.slice none 0 0] ∧ Whole w' (w.heap.size + 1) 38 #[.int .i64 0, .int .i64 0] := by
  obtain ⟨hz, b1, b3, b4, hbe⟩ := vWorld_factsEls g cap w
  have b5 := Whole.made (vWorldEls g cap w) 38 #[.int .i64 0, .int .i64 0]
  have hbe2 : Below w.heap.size w ((vWorldEls g cap w).alloc (.cells #[.int .i64 0, .int .i64 0] 38)) := hbe.alloc (by omega) _
  have hcl := valClosElsE (b4 := w.heap.size + 2) hcf (b1.alloc (.cells #[.int .i64 0, .int .i64 0] 38)) (h _ hbe2 (by rw [size_box]; omega))
  refine (out_any _ _ c a (vWorldEls g cap w) (fun w1 => ((vWorldEls g cap w).alloc (.cells #[.int .i64 0, .int .i64 0] 38)).grownBy w1 (some q)) (cfVEls _) (hcl.mono ?_) (fun w1 hg => b5.grown hg (by simp only [ne_eq, Option.some.injEq]; omega))).mono ?_
  · rintro e w' ⟨rfl, hg⟩
    exact ⟨.inr ⟨hc, rfl⟩, hg⟩
  · rintro e w' ⟨rfl, w1, hg1, hg2⟩
    have z1 := hg1.size
    have z2 := hg2.size
    rw [size_box] at z1
    rw [hz] at hg2
    exact ⟨rfl, gb_before (gb_trans (gb_of_below (some q) hbe2) hg1) hg2 (fun g e => .inr (by injection e with e; omega)), by omega,
      ((b4.alloc _).grown hg1 (by simp only [ne_eq, Option.some.injEq]; omega)).grown hg2 (by simp only [ne_eq, Option.some.injEq]; omega),
      ((b3.alloc _).grown hg1 (by simp only [ne_eq, Option.some.injEq]; omega)).grown hg2 (by simp only [ne_eq, Option.some.injEq]; omega)⟩
set_option maxHeartbeats 4000000 in
/-- Value of a function that aborts. -/
theorem valueElsE_any {g : FuncId} {cap : Array Value} {q : Nat} {w : World} {c a : Int} (hc : ¬ c = 0) (hcf : ∀ w : World, (callFunc g cap).run Tryd.prog w = .ok (.enter g cap) w) (hq : q < w.heap.size)
    (h : ∀ W, Below w.heap.size w W → w.heap.size + 4 ≤ W.heap.size → Calls Tryd.prog g cap W fun e w' => e = .panicked (stopP c a) ∧ W.grownBy w' (some q)) :
    Calls Tryd.prog 23 #[.func (.func g) #[] cap] w fun e w' => e = .returned (.tuple #[.slice none 0 0, .agg #[.int .i64 c, .int .i64 a]]) ∧ w.grownBy w' (some q) := by
  have hv := value_outElsE hc hcf hq h
  unfold vWorldEls at hv
  have HV := Lib.hid hv
  have dc : (c == 0) = false := by simpa using hc
  have hmf : ∀ (fn : Fn) (first cap : Array Value) (w : World), (Instr.makeFunc fn first cap).run Tryd.prog w = .ok (.func fn first cap) w := fun _ _ _ _ => rfl
  clear h hv hcf hc
  go_enter Tryd.func23, Tryd.ntmps23
  go_wp2_with (go_at_call 72; go_must (refine HV.out.mono ?_; rintro e w2 ⟨rfl, hg, hz, hv, hr2⟩; have HL := Lib.hid (show w.grownBy w2 (some q) ∧ w.heap.size + 3 ≤ w2.heap.size ∧ Whole w2 (w.heap.size + 2) 50 #[.slice none 0 0] ∧ Whole w2 (w.heap.size + 1) 38 #[.int .i64 0, .int .i64 0] from ⟨hg, hz, hv, hr2⟩); clear hg hz hv hr2))
  generalize hW : w2.alloc (.cells #[.int .i64 c, .int .i64 a] 38) = W at *
  have hz2 := HL.out.2.1
  have k3 : Whole W (w.heap.size + 2) 50 #[.slice none 0 0] := by rw [← hW]; exact HL.out.2.2.1.alloc _
  have k2 : Whole W (w.heap.size + 1) 38 #[.int .i64 0, .int .i64 0] := by rw [← hW]; exact HL.out.2.2.2.alloc _
  have k5 : Whole W w2.heap.size 38 #[.int .i64 c, .int .i64 a] := by rw [← hW]; exact Whole.made _ _ _
  have hgW : w.grownBy W (some q) := by rw [← hW]; exact gb_alloc HL.out.1 _
  clear hW
  have K2 := Lib.hid k2
  have KG := Lib.hid hgW
  have v0 := k3.cell 0
  have s0 := k5.cell 0
  have s1 := k5.cell 1
  have n0 := k2.cell 0
  have n1 := k2.cell 1
  have g0 := k2.frozen 0
  have g1 := k2.frozen 1
  have e2 : ¬ w2.heap.size = w.heap.size + 1 := by omega
  simp only [List.getElem?_toArray, List.getElem?_cons_zero, List.getElem?_cons_succ] at v0 s0 s1 n0 n1
  clear k2 k3 k5 hgW
  go_region
  all_goals
    go_wp2
    obtain ⟨p2, j2⟩ := put2 (u0 := .int .i64 c) (u1 := .int .i64 a) K2.out
    have q8 := p2.cell 0
    have q9 := p2.cell 1
    simp only [List.getElem?_toArray, List.getElem?_cons_zero, List.getElem?_cons_succ] at q8 q9
    have hfin := gb_before KG.out j2 (fun g e => .inr (by injection e with e; omega))
    refine bodyPost_ret (v := .tuple #[.slice none 0 0, .agg #[.int .i64 c, .int .i64 a]]) (by simp [results, Tryd.results23, go_sem, q8, q9]) rfl ⟨rfl, ?_⟩
    first | exact hfin | exact gb_drew hfin | exact ⟨hfin.os, hfin.tape, hfin.output, hfin.size, hfin.block⟩
end Go.Proofs.YticgmfeihdankaaDoor
