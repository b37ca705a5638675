/- abort.Value of a function that ends well, whatever it hands back: []api.Instr. (By gen/genVal.py.) -/
import Derived.Test.YtebgmfjgapmpfaaDoorQg07
import Derived.Test.YtebgmfjgapmpfaaDoorQg06
namespace Go.Proofs.YtebgmfjgapmpfaaDoor
open Go.RowKit
set_option linter.unusedVariables false
set_option maxRecDepth 100000

theorem cfVL (cap : Array Value) (w : World) : (callFunc 148 cap).run Tryd.prog w = .ok (.enter 148 cap) w := by kernel_rfl
section
variable {T : (Option Addr × Nat × Nat) → World → Prop}
/-- Value's own closure: what the step hands back lies in its cell. -/
theorem valClosL {g : FuncId} {cap : Array Value} {b1 b4 q : Nat} {w : World} {z : Array Value} (hz : z.size = 1) (hcf : ∀ w : World, (callFunc g cap).run Tryd.prog w = .ok (.enter g cap) w)
    (h1 : Whole w b1 166 #[.func (.func g) #[] cap]) (h4 : Whole w b4 40 #[.slice none 0 0]) (hb : q < b4) (hT : ∀ x W W', T x W → W.grownBy W' (some b4) → T x W')
    (h : Calls Tryd.prog g cap w fun e w' => ∃ x, e = .returned (.slice x.1 x.2.1 x.2.2) ∧ T x w' ∧ w.grownBy w' (some q)) :
    Calls Tryd.prog 148 #[.pointer (some ⟨b1, 0, none⟩), .pointer (some ⟨b4, 0, none⟩)] w fun e w' =>
      e = .returned (.tuple #[]) ∧ ∃ x, T x w' ∧ Whole w' b4 40 #[.slice x.1 x.2.1 x.2.2] ∧ ∃ w1, w.grownBy w1 (some q) ∧ w1.grownBy w' (some b4) := by
  have hnil : ∀ w : World, (binOp BinOp.neq 166 (.func (.func g) #[] cap) .nilFunc).run Tryd.prog w = .ok (.bool true) w := fun _ => by kernel_rfl
  have c1 := h1.cell 0
  simp only [List.getElem?_toArray, List.getElem?_cons_zero] at c1
  have HH := Lib.hid h
  have H4 := Lib.hid h4
  have HT := Lib.hid hT
  clear h h1 h4 hT
  go_enter Tryd.func148, Tryd.ntmps148
  go_wp2_with fail
  refine HH.out.mono ?_
  rintro e w1 ⟨x, rfl, hs, hg⟩
  have HW := H4.out.grown hg (by simp only [ne_eq, Option.some.injEq]; omega)
  have k0 := HW.cell 0
  have f0 := HW.frozen 0
  simp only [List.getElem?_toArray, List.getElem?_cons_zero, List.getElem?_cons_succ] at k0
  obtain ⟨p1, p2⟩ := put1 (u0 := .slice x.1 x.2.1 x.2.2) HW
  have F : Hid (T x (w1.setCell ⟨b4, 0, none⟩ (.slice x.1 x.2.1 x.2.2))) := HT.out _ _ _ hs p2
  have P1 := Lib.hid p1
  have P2 := Lib.hid p2
  have HG := Lib.hid hg
  clear p1 p2 hs hg HW hcf
  go_wp2_with fail
  go_end0
  exact ⟨rfl, x, F.out, P1.out, w1, HG.out, P2.out⟩
/-- What Value's closure leaves behind, seen from Value's beginning. -/
structure VSL (T : (Option Addr × Nat × Nat) → World → Prop) (w : World) (q : Nat) (x : (Option Addr × Nat × Nat)) (w1 : World) : Prop where
  kept : T x w1
  grown : w.grownBy w1 (some q)
  val : Whole w1 (w.heap.size + 2) 40 #[.slice x.1 x.2.1 x.2.2]
  r2 : Whole w1 (w.heap.size + 1) 35 #[.int .i64 0, .int .i64 0]
/-- The world in which Value calls Out. -/
def vWorldL (g : FuncId) (cap : Array Value) (w : World) : World :=
  ((w.alloc (.cells #[.func (.func g) #[] cap] 166)).alloc (.cells #[.int .i64 0, .int .i64 0] 35)).alloc (.cells #[.slice none 0 0] 40)
theorem vWorld_factsL (g : FuncId) (cap : Array Value) (w : World) : (vWorldL g cap w).heap.size = w.heap.size + 3 ∧ Whole (vWorldL g cap w) w.heap.size 166 #[.func (.func g) #[] cap] ∧
    Whole (vWorldL g cap w) (w.heap.size + 1) 35 #[.int .i64 0, .int .i64 0] ∧
    Whole (vWorldL g cap w) (w.heap.size + 2) 40 #[.slice none 0 0] ∧ Below w.heap.size w (vWorldL g cap w) := by
  have b1 := Whole.made w 166 #[.func (.func g) #[] cap]
  have b3 := Whole.made (w.alloc (.cells #[.func (.func g) #[] cap] 166)) 35 #[.int .i64 0, .int .i64 0]
  have b4 := Whole.made ((w.alloc (.cells #[.func (.func g) #[] cap] 166)).alloc (.cells #[.int .i64 0, .int .i64 0] 35)) 40 #[.slice none 0 0]
  simp only [World.size_alloc] at b3 b4
  exact ⟨by simp [vWorldL], (b1.alloc _).alloc _, b3.alloc _, b4,
    (((Below.refl _ _).alloc (Nat.le_refl _) _).alloc (by simp) _).alloc (by simp; omega) _⟩
theorem value_outL {g : FuncId} {cap : Array Value} {q : Nat} {w : World} (hcf : ∀ w : World, (callFunc g cap).run Tryd.prog w = .ok (.enter g cap) w) (hq : q < w.heap.size)
    (hT : ∀ x W W' b, w.heap.size ≤ b → b < w.heap.size + 4 → T x W → W.grownBy W' (some b) → T x W')
    (h : ∀ W, Below w.heap.size w W → w.heap.size + 4 ≤ W.heap.size → Calls Tryd.prog g cap W fun e w' => ∃ x, e = .returned (.slice x.1 x.2.1 x.2.2) ∧ T x w' ∧ W.grownBy w' (some q)) :
    Calls Tryd.prog 78 #[.func (.func 148) #[] #[.pointer (some ⟨w.heap.size, 0, none⟩), .pointer (some ⟨w.heap.size + 2, 0, none⟩)]] (vWorldL g cap w) fun e w' => e = .returned (.agg #[.int .i64 0, .int .i64 0]) ∧ ∃ x, VSL T w q x w' := by
  obtain ⟨hz, b1, b3, b4, hbe⟩ := vWorld_factsL g cap w
  have b5 := Whole.made (vWorldL g cap w) 35 #[.int .i64 0, .int .i64 0]
  have hbe2 : Below w.heap.size w ((vWorldL g cap w).alloc (.cells #[.int .i64 0, .int .i64 0] 35)) := hbe.alloc (by omega) _
  have hc := valClosL (T := T) (z := #[.slice none 0 0]) rfl hcf (b1.alloc (.cells #[.int .i64 0, .int .i64 0] 35)) (b4.alloc _) (by omega : q < w.heap.size + 2) (fun x W W' => hT x W W' _ (by omega) (by omega)) (h _ hbe2 (by rw [size_box]; omega))
  refine (out_any _ _ 0 0 (vWorldL g cap w) (fun w1 => (∃ x, VSL T w q x w1) ∧ Whole w1 (vWorldL g cap w).heap.size 35 #[.int .i64 0, .int .i64 0]) (cfVL _) (hc.mono ?_) (fun _ h => h.2)).mono ?_
  · rintro e w' ⟨rfl, x, hs, hv, w1, hg1, hg2⟩
    have hz2 : w.heap.size + 4 ≤ w1.heap.size := by have := hg1.size; simp only [World.size_alloc] at this; omega
    refine ⟨.inl ⟨rfl, rfl, rfl⟩, ⟨x, hs, ?_, hv, ?_⟩, ?_⟩
    · exact gb_before (gb_trans (gb_of_below (some q) hbe2) hg1) hg2 (fun g e => .inr (by injection e with e; omega))
    · exact ((b3.alloc _).grown hg1 (by simp only [ne_eq, Option.some.injEq]; omega)).grown hg2 (by simp only [ne_eq, Option.some.injEq]; omega)
    · exact (b5.grown hg1 (by simp only [ne_eq, Option.some.injEq]; omega)).grown hg2 (by simp only [ne_eq, Option.some.injEq]; omega)
  · rintro e w' ⟨rfl, w1, ⟨⟨x, hs⟩, _⟩, hg⟩
    rw [hz] at hg
    exact ⟨rfl, x, hT x _ _ _ (by omega) (by omega) hs.kept hg, gb_before hs.grown hg (fun g e => .inr (by injection e with e; omega)), hs.val.grown hg (by simp only [ne_eq, Option.some.injEq]; omega), hs.r2.grown hg (by simp only [ne_eq, Option.some.injEq]; omega)⟩

set_option maxHeartbeats 800000 in
/-- Value of a function that ends well. -/
theorem valueL_ok {g : FuncId} {cap : Array Value} {q : Nat} {w : World} (hcf : ∀ w : World, (callFunc g cap).run Tryd.prog w = .ok (.enter g cap) w) (hq : q < w.heap.size)
    (hT : ∀ x W W' b, w.heap.size ≤ b → b < w.heap.size + 4 → T x W → W.grownBy W' (some b) → T x W')
    (h : ∀ W, Below w.heap.size w W → w.heap.size + 4 ≤ W.heap.size → Calls Tryd.prog g cap W fun e w' => ∃ x, e = .returned (.slice x.1 x.2.1 x.2.2) ∧ T x w' ∧ W.grownBy w' (some q)) :
    Calls Tryd.prog 122 #[.func (.func g) #[] cap] w fun e w' => ∃ x, e = .returned (.tuple #[.slice x.1 x.2.1 x.2.2, .agg #[.int .i64 0, .int .i64 0]]) ∧ T x w' ∧ w.grownBy w' (some q) := by
  have hv := value_outL hcf hq hT h
  unfold vWorldL at hv
  have HV := Lib.hid hv
  have HT := Lib.hid hT
  have hmf : ∀ (fn : Fn) (first cap : Array Value) (w : World), (Instr.makeFunc fn first cap).run Tryd.prog w = .ok (.func fn first cap) w := fun _ _ _ _ => rfl
  clear h hv hcf hT
  go_enter Tryd.func122, Tryd.ntmps122
  go_wp2_with (go_at_call 78; go_must (refine HV.out.mono ?_; rintro e w2 ⟨rfl, x, hl⟩; have k0 := fun o => (hl.val.alloc o).cell 0; have f8 := fun o => (hl.r2.alloc o).frozen 0; have f9 := fun o => (hl.r2.alloc o).frozen 1; have m8 := fun o => (hl.r2.alloc o).cell 0; have m9 := fun o => (hl.r2.alloc o).cell 1; simp only [List.getElem?_toArray, List.getElem?_cons_zero, List.getElem?_cons_succ] at k0 m8 m9; have hz := hl.grown.size; have HL := Lib.hid hl; clear hl))
  obtain ⟨p2, g2⟩ := put2 (u0 := .int .i64 0) (u1 := .int .i64 0) (HL.out.r2.alloc (.cells #[.int .i64 0, .int .i64 0] 35))
  have q8 := p2.cell 0
  have q9 := p2.cell 1
  simp only [List.getElem?_toArray, List.getElem?_cons_zero, List.getElem?_cons_succ] at q8 q9
  refine bodyPost_ret (v := .tuple #[.slice x.1 x.2.1 x.2.2, .agg #[.int .i64 0, .int .i64 0]]) (by simp [results, Tryd.results122, go_sem, q8, q9]) rfl ⟨x, rfl, ?_, ?_⟩
  · exact HT.out _ _ _ _ (by omega) (by omega) (HT.out _ _ _ w.heap.size (Nat.le_refl _) (by omega) HL.out.kept (gb_alloc (gb_refl _ _) _)) g2
  · exact gb_before (gb_alloc HL.out.grown _) g2 (fun g e => .inr (by injection e with e; omega))
end
end Go.Proofs.YtebgmfjgapmpfaaDoor

/- How far a body has come: nest's add, turn, close. -/
namespace Go.Proofs.YtebgmfjgapmpfaaDoor
open Go.RowKit
set_option linter.unusedVariables false
set_option maxRecDepth 100000

/-- Are the opcodes the rest of a body in which these blocks are open? -/
def shapeGo : List UInt8 → List UInt8 → Bool
  | st, [] => false
  | st, op :: r =>
    if immR op.toNat = 1 then shapeGo (st ++ [op]) r
    else if op = 5 then (if st.getLast? = some 4 then shapeGo (st.dropLast ++ [5]) r else false)
    else if op = 11 then (if st = [] then r.isEmpty else shapeGo st.dropLast r)
    else shapeGo st r
/-- One more: the open blocks, and is it the end of all? -/
def addZ (st : List UInt8) (op : UInt8) : Option (List UInt8 × Bool) :=
  if immR op.toNat = 1 then some (st ++ [op], false)
  else if op = 5 then (if st.getLast? = some 4 then some (st.dropLast ++ [5], false) else none)
  else if op = 11 then (if st = [] then some (st, true) else some (st.dropLast, false))
  else some (st, false)
theorem shape_add (st : List UInt8) (op : UInt8) (r : List UInt8) : shapeGo st (op :: r) = match addZ st op with
    | none => false
    | some (st', false) => shapeGo st' r
    | some (st', true) => r.isEmpty := by
  unfold addZ
  show (if immR op.toNat = 1 then _ else _) = _
  by_cases h1 : immR op.toNat = 1
  · rw [if_pos h1, if_pos h1]
  · rw [if_neg h1, if_neg h1]
    by_cases h2 : op = 5
    · rw [if_pos h2, if_pos h2]
      by_cases h3 : st.getLast? = some 4
      · rw [if_pos h3, if_pos h3]
      · rw [if_neg h3, if_neg h3]
    · rw [if_neg h2, if_neg h2]
      by_cases h3 : op = 11
      · rw [if_pos h3, if_pos h3]
        by_cases h4 : st = []
        · rw [if_pos h4, if_pos h4]
        · rw [if_neg h4, if_neg h4]
      · rw [if_neg h3, if_neg h3]
theorem Row.cut {w : World} {base : Nat} {A : Option Addr} {n c : Nat} {xs : List UInt8} (h : Row w base (.slice A n c) xs) (hne : xs ≠ []) : ∃ g, A = some ⟨g, 0, none⟩ ∧ n = xs.length ∧ base ≤ g ∧ g < w.heap.size ∧ Row w base (.slice A (n - 1) c) xs.dropLast ∧ xs.length ≤ c ∧ c ≤ maxLen := by
  obtain ⟨h1, h2⟩ := h
  rcases h2 with ⟨e, e2⟩ | ⟨g, cap, cur, e, hb, hg, hc, hm, hs, ht⟩
  · exact absurd (List.eq_nil_of_length_eq_zero e2) hne
  · injection e with e1 e2 e3
    subst e1; subst e2; subst e3
    have hl : 0 < xs.length := List.length_pos_iff.2 hne
    refine ⟨g, rfl, rfl, hb, (Array.getElem?_eq_some_iff.1 hg).1, ⟨by rw [cells_length, nums_length]; omega, .inr ⟨g, c, cur, by rw [List.length_dropLast], hb, hg, by rw [List.length_dropLast]; omega, hm, hs, ?_⟩⟩, hc, hm⟩
    rw [List.length_dropLast]
    have : cur.toList.take ((xs.length - 1) * 1) = (cur.toList.take (xs.length * 1)).take (xs.length - 1) := by rw [List.take_take]; congr 1; omega
    rw [this, ht]
    unfold cells nums
    rw [← List.map_take, ← List.map_take, List.dropLast_eq_take]
theorem Row.last {w : World} {base : Nat} {g c : Nat} {xs : List UInt8} (h : Row w base (.slice (some ⟨g, 0, none⟩) xs.length c) xs) {x : UInt8} (hx : xs.getLast? = some x) : w.cell? ⟨g, xs.length - 1, none⟩ = some (.int .u8 x.toNat) ∧ w.frozen? ⟨g, xs.length - 1, none⟩ = false ∧
    ∀ y : UInt8, Row (w.setCell ⟨g, xs.length - 1, none⟩ (.int .u8 y.toNat)) base (.slice (some ⟨g, 0, none⟩) xs.length c) (xs.dropLast ++ [y]) ∧ w.grownBy (w.setCell ⟨g, xs.length - 1, none⟩ (.int .u8 y.toNat)) (some g) := by
  have hne : xs ≠ [] := fun e => by rw [e] at hx; cases hx
  have hl : 0 < xs.length := List.length_pos_iff.2 hne
  have hxi : xs[xs.length - 1]? = some x := by rw [← hx, List.getLast?_eq_getElem?]
  obtain ⟨A, c', e, hli, _⟩ := h.liesN
  injection e with e1 e2 e3
  subst e1
  obtain ⟨b, off, e4, _, hc⟩ := hli (xs.length - 1) (.int .u8 x.toNat) (by unfold cells nums; rw [List.map_map, List.getElem?_map, hxi]; rfl)
  injection e4 with e4
  injection e4 with e5 e6
  subst e5; subst e6
  rw [Nat.zero_add] at hc
  have hfr : w.frozen? ⟨g, xs.length - 1, none⟩ = false := by
    rcases h.2 with ⟨e, _⟩ | ⟨g', cap, cur, e, hb, hg, _⟩
    · cases e
    · injection e with e1 _ _
      injection e1 with e1
      injection e1 with e1
      subst e1
      exact frozen_of_row w _ _ cur _ hg
  refine ⟨hc, hfr, fun y => ?_⟩
  obtain ⟨h1, h2⟩ := World.ownsRow.stored h (xs.length - 1) (.int .u8 y.toNat)
  refine ⟨?_, h2⟩
  have e : (cells (nums xs)).set (xs.length - 1) (.int .u8 y.toNat) = cells (nums (xs.dropLast ++ [y])) := by
    have hd : xs = xs.dropLast ++ [x] := by
      obtain ⟨ys, rfl⟩ := List.getLast?_eq_some_iff.1 hx
      simp
    conv => lhs; rw [hd]
    unfold cells nums
    rw [List.map_append, List.map_append, List.map_append, List.map_append]
    rw [List.set_append_right _ _ (by simp)]
    simp
  unfold Row
  rw [← e]
  have hl2 : (xs.dropLast ++ [y]).length = xs.length := by simp; omega
  rw [hl2]
  exact h1
/-- What add leaves: nest's two cells, the row of open blocks. -/
def Added (nb base : Nat) (v : Value) (st : List UInt8) (en : Bool) (W : World) (e : Ending) (W' : World) : Prop :=
  e = .returned (.bool true) ∧ ∃ v' Wm, Whole W' nb 125 #[v', .bool en] ∧ Row W' base v' st ∧ W.grownBy Wm v.ownBlock ∧ Wm.grownBy W' (some nb)
theorem Row.apart {w : World} {base n nb : Nat} {a : Addr} {c : Nat} {xs : List UInt8} {t : TypeId} {cs : Array Value} (h : Row w base (.slice (some a) n c) xs) (hw : Whole w nb t cs) (hne : t ≠ 5) : nb ≠ a.block := by
  rcases h.2 with ⟨e, _⟩ | ⟨g, cap, cur, e, hb, hg, _⟩
  · cases e
  · injection e with e1 _ _
    injection e1 with e1
    subst e1
    exact hw.apart (show Whole w g 5 cur from hg) hne
section
variable {W : World} {nb base : Nat} {v : Value} {st : List UInt8}
theorem turn_no (hn : Whole W nb 125 #[v, .bool false]) (hr : Row W base v st) (hs : st.length ≤ 100000) (hno : st.getLast? ≠ some 4) :
    Calls Tryd.prog 120 #[.pointer (some ⟨nb, 0, none⟩)] W fun e W' => e = .returned (.bool false) ∧ W = W' := by
  obtain ⟨A, c, rfl, _⟩ := hr.liesN
  have c0 := hn.cell 0
  simp only [List.getElem?_toArray, List.getElem?_cons_zero] at c0
  by_cases h0 : st = []
  · subst h0
    clear hn hr
    go_enter Tryd.func120, Tryd.ntmps120
    go_wp2
    go_ret
    exact ⟨rfl, rfl⟩
  · obtain ⟨g, rfl, _, hbg, hglt, hcut, hc1, hc2⟩ := hr.cut h0
    obtain ⟨x, hx⟩ : ∃ x, st.getLast? = some x := by cases h : st.getLast? with
      | none => exact absurd (List.getLast?_eq_none_iff.1 h) h0
      | some x => exact ⟨x, rfl⟩
    obtain ⟨hcell, hfr, hset⟩ := hr.last hx
    have h4 : x ≠ 4 := fun e => hno (by rw [hx, e])
    have d4 : ((x.toNat : Int) != 4) = true := by
      have : x.toNat ≠ (4 : UInt8).toNat := fun e => h4 (UInt8.toNat_inj.1 e)
      have e4 : (4 : UInt8).toNat = 4 := rfl
      rw [e4] at this
      simp
      omega
    obtain ⟨n, hnn⟩ : ∃ n, st.length = n + 1 := ⟨st.length - 1, by have := List.length_pos_iff.2 h0; omega⟩
    rw [hnn] at c0 hcell hfr hs hc1
    rw [Nat.add_sub_cancel] at hcell hfr
    have e1 : ((n + 1 : Nat) : Int) - 1 = n := by omega
    clear hset hn hr hx hcut hnn hno
    unfold maxLen at hc2
    go_enter Tryd.func120, Tryd.ntmps120
    go_wp2
    go_ret
    exact ⟨rfl, rfl⟩
theorem turn_yes (hn : Whole W nb 125 #[v, .bool false]) (hr : Row W base v st) (hs : st.length ≤ 100000) (hx : st.getLast? = some 4) :
    Calls Tryd.prog 120 #[.pointer (some ⟨nb, 0, none⟩)] W (Added nb base v (st.dropLast ++ [5]) false W) := by
  obtain ⟨A, c, rfl, _⟩ := hr.liesN
  have c0 := hn.cell 0
  simp only [List.getElem?_toArray, List.getElem?_cons_zero] at c0
  have h0 : st ≠ [] := fun e => by rw [e] at hx; cases hx
  obtain ⟨g, rfl, _, hbg, hglt, hcut, hc1, hc2⟩ := hr.cut h0
  obtain ⟨hcell, hfr, hset⟩ := hr.last hx
  have HAP := Lib.hid (hr.apart hn (by decide))
  obtain ⟨n, hnn⟩ : ∃ n, st.length = n + 1 := ⟨st.length - 1, by have := List.length_pos_iff.2 h0; omega⟩
  rw [hnn] at c0 hcell hfr hs hc1 hset ⊢
  rw [Nat.add_sub_cancel] at hcell hfr hset
  have e1 : ((n + 1 : Nat) : Int) - 1 = n := by omega
  have e4 : ((4 : UInt8).toNat : Int) = 4 := rfl
  rw [e4] at hcell
  have HS := Lib.hid (hset 5)
  have HN := Lib.hid hn
  rw [hnn] at HN
  clear hset hn hr hx hcut hnn h0
  unfold maxLen at hc2
  go_enter Tryd.func120, Tryd.ntmps120
  go_wp2
  go_ret
  exact ⟨rfl, _, _, HN.out.far HAP.out _, HS.out.1, HS.out.2, gb_refl _ _⟩
end
end Go.Proofs.YtebgmfjgapmpfaaDoor

/- nest's close and add. -/
namespace Go.Proofs.YtebgmfjgapmpfaaDoor
open Go.RowKit
set_option linter.unusedVariables false
set_option maxRecDepth 100000

/-- What a step leaves: nest's two cells, the row of open blocks. -/
def Moved (nb base : Nat) (v : Value) (st : List UInt8) (en : Bool) (W W' : World) : Prop :=
  ∃ v' Wm, Whole W' nb 125 #[v', .bool en] ∧ Row W' base v' st ∧ W.grownBy Wm v.ownBlock ∧ Wm.grownBy W' (some nb)
/-- append of a new block of bytes: what is old stays, but for the row. -/
theorem row_newG {w : World} {ops : Array Oper} {rest : List Oper} {o : Oper} {a : Act} {Q : Exit → Act → World → Prop} (hgd : o.guard = none) (s x : Operand)
    (ho : o.op = .call { callee := .builtin .append, args := #[s, x], argTypes := #[26, 26] })
    (B : Nat) (v : Value) (xs : List UInt8) (hs : a.eval s = v) (hr : Row w B v xs)
    (g m : Nat) (news : List UInt8) (hx : a.eval x = .slice (some ⟨g, 0, none⟩) m m) (hl : news.length = m) (hg : w.heap[g]? = some (.cells (cells (nums news)).toArray 5 (0, 0)))
    (hm : 0 < m) (hb : xs.length + news.length ≤ 1000000) (hB : B ≤ w.heap.size)
    (h : ∀ v' w', Row w' B v' (xs ++ news) → w.grownBy w' v.ownBlock → wpList Tryd.prog ops Q rest (a.put o.dst v') w') : wpList Tryd.prog ops Q (o :: rest) a w :=
  wpList_app hgd s x ho B v _ (nums xs) hs hr g m (nums news) hx (by rw [nums_length]; exact hl) hg hm (by omega) hB fun v' w' h2 h3 =>
    h v' w' (by unfold Row; rw [nums_append, List.length_append, hl]; exact h2) h3
section
variable {W : World} {nb base : Nat} {v : Value} {st : List UInt8}
theorem Moved.after {W1 W' : World} {en : Bool} (h : Moved nb base v st en W1 W') (hb : Below W.heap.size W W1) : Moved nb base v st en W W' := by
  obtain ⟨v', Wm, h1, h2, h3, h4⟩ := h
  exact ⟨v', Wm, h1, h2, gb_trans (gb_of_below _ hb) h3, h4⟩
theorem close_ok (hn : Whole W nb 125 #[v, .bool false]) (hr : Row W base v st) (hs : st.length ≤ 100000) :
    Calls Tryd.prog 121 #[.pointer (some ⟨nb, 0, none⟩)] W fun e W' => e = .returned (.tuple #[]) ∧ Moved nb base v (if st = [] then st else st.dropLast) (if st = [] then true else false) W W' := by
  obtain ⟨A, c, rfl, _⟩ := hr.liesN
  have c0 := hn.cell 0
  have c1 := hn.cell 1
  have f0 := hn.frozen 0
  have f1 := hn.frozen 1
  simp only [List.getElem?_toArray, List.getElem?_cons_zero, List.getElem?_cons_succ] at c0 c1
  by_cases h0 : st = []
  · subst h0
    have hp := hn.put 1 (.bool true)
    have HP := Lib.hid hp
    have HR := Lib.hid (hr.later (Below.refl _ _))
    have HAP := Lib.hid (fun (a : Addr) (e : A = some a) => (by subst e; exact hr.apart hn (by decide) : nb ≠ a.block))
    have hgb : W.grownBy (W.setCell ⟨nb, 1, none⟩ (.bool true)) (some nb) := gb_put (p := ⟨nb, 1, none⟩) (gb_refl W _) (.inl rfl) _
    have HG := Lib.hid hgb
    clear hn hr hp hgb
    go_enter Tryd.func121, Tryd.ntmps121
    go_wp2
    refine bodyPost_ret (v := .tuple #[]) (by simp [results, Tryd.results121]) rfl ?_
    refine ⟨rfl, _, W, HP.out, ?_, gb_refl _ _, HG.out⟩
    exact World.ownsRow.kept HR.out HG.out (by
      cases A with
      | none => exact .inl rfl
      | some a => exact .inr (by have := HAP.out a rfl; simp only [Value.ownBlock, ne_eq, Option.some.injEq]; exact fun e => this e.symm))
  · obtain ⟨g, rfl, _, hbg, hglt, hcut, hc1, hc2⟩ := hr.cut h0
    obtain ⟨n, hnn⟩ : ∃ n, st.length = n + 1 := ⟨st.length - 1, by have := List.length_pos_iff.2 h0; omega⟩
    have HAP := Lib.hid (hr.apart hn (by decide))
    have HH := Lib.hid h0
    rw [hnn] at c0 hs hc1 hcut hn
    rw [Nat.add_sub_cancel] at hcut
    have e1 : ((n + 1 : Nat) : Int) - 1 = n := by omega
    have HP := Lib.hid (hn.put 0 (.slice (some ⟨g, 0, none⟩) n c))
    have HC := Lib.hid hcut
    have hgb : W.grownBy (W.setCell ⟨nb, 0, none⟩ (.slice (some ⟨g, 0, none⟩) n c)) (some nb) := gb_put (p := ⟨nb, 0, none⟩) (gb_refl W _) (.inl rfl) _
    have HG := Lib.hid hgb
    rw [hnn]
    clear hn hr hcut hnn h0 hgb
    unfold maxLen at hc2
    have hc3 : ¬ (c : Int) < n := by omega
    go_enter Tryd.func121, Tryd.ntmps121
    go_wp2
    go_end0
    refine ⟨rfl, ?_⟩
    refine ⟨_, W, HP.out, ?_, gb_refl _ _, HG.out⟩
    exact World.ownsRow.kept HC.out HG.out (.inr (by simp only [Value.ownBlock, ne_eq, Option.some.injEq]; exact fun e => HAP.out e.symm))
theorem add_ended (hn : Whole W nb 125 #[v, .bool true]) (op : UInt8) : Calls Tryd.prog 74 #[.pointer (some ⟨nb, 0, none⟩), .int .u8 op.toNat] W fun e W' => e = .returned (.bool false) ∧ W = W' := by
  have c1 := hn.cell 1
  simp only [List.getElem?_toArray, List.getElem?_cons_zero, List.getElem?_cons_succ] at c1
  clear hn
  go_enter Tryd.func74, Tryd.ntmps74
  go_wp2
  go_ret
  exact ⟨rfl, rfl⟩
theorem addZ_11 {st : List UInt8} : addZ st 11 = some (if st = [] then st else st.dropLast, if st = [] then true else false) := by
  unfold addZ
  rw [if_neg (by decide +kernel), if_neg (by decide), if_pos rfl]
  by_cases h : st = []
  · rw [if_pos h, if_pos h, if_pos h]
  · rw [if_neg h, if_neg h, if_neg h]
set_option maxHeartbeats 1000000 in
theorem add_ok {op : UInt8} {st' : List UInt8} {en : Bool} (hT : Tabs W) (hn : Whole W nb 125 #[v, .bool false]) (hr : Row W base v st) (hb : base ≤ W.heap.size) (hs : st.length ≤ 100000) (ha : addZ st op = some (st', en)) :
    Calls Tryd.prog 74 #[.pointer (some ⟨nb, 0, none⟩), .int .u8 op.toNat] W fun e W' => e = .returned (.bool true) ∧ Moved nb base v st' en W W' := by
  have HO := Lib.hid (opens_any op.toNat W hT (by have := op.toNat_lt; omega))
  have c1 := hn.cell 1
  simp only [List.getElem?_toArray, List.getElem?_cons_zero, List.getElem?_cons_succ] at c1
  have HN := Lib.hid hn
  have HR := Lib.hid hr
  clear hn hr
  by_cases h1 : immR op.toNat = 1
  · have hd : (immR op.toNat == 1) = true := by simpa using h1
    rw [hd] at HO
    unfold addZ at ha
    rw [if_pos h1] at ha
    injection ha with ha
    injection ha with ha1 ha2
    subst ha2
    have HST := Lib.hid ha1
    clear ha1
    have HAP := Lib.hid (fun (w1 : World) (h1 : Whole w1 nb 125 #[v, .bool false]) (h2 : Row w1 base v st) => (by
      cases v with
      | slice A n c => cases A with
        | none => simp [Value.ownBlock]
        | some a => have := h2.apart h1 (by decide); simp only [Value.ownBlock, ne_eq, Option.some.injEq]; exact this
      | _ => simp [Value.ownBlock] : some nb ≠ v.ownBlock))
    clear h1 hd
    go_enter Tryd.func74, Tryd.ntmps74
    go_wp2_with (first
      | (at_builtin; (refine row_newG rfl _ _ rfl base v st rfl (HR1.out.alloc _) w1.heap.size 1 [op] rfl rfl (heap_alloc_new w1 _) (by omega) (by simp; omega) (by have := HB1.out.size; simp; omega) ?_; intro v3 w3 hr3 hg3; rw [HST.out] at hr3; have hn3 : Whole w3 nb 125 #[v, .bool false] := (HN1.out.alloc _).grown hg3 (HAP.out _ HN1.out HR1.out); have k3 := hn3.cell 0; have k4 := hn3.frozen 0; simp only [List.getElem?_toArray, List.getElem?_cons_zero] at k3; obtain ⟨A3, c3, rfl, _⟩ := hr3.liesN; have HR3 := Lib.hid hr3; have HG3 := Lib.hid hg3; have HN3 := Lib.hid hn3; clear hr3 hg3 hn3))
      | (go_at_call 119; go_must ((with_reducible refine HO.out.mono ?_); rintro e w1 ⟨rfl, hb1⟩; have HB1 := Lib.hid hb1; have HR1 := Lib.hid (HR.out.later hb1); have HN1 := Lib.hid (HN.out.below hb1); have k0 := HN1.out.cell 0; have g0 := HN1.out.frozen 0; simp only [List.getElem?_toArray, List.getElem?_cons_zero] at k0; clear hb1)))
    go_ret
    have hgb : w3.grownBy (w3.setCell ⟨nb, 0, none⟩ (.slice A3 st'.length c3)) (some nb) := gb_put (p := ⟨nb, 0, none⟩) (gb_refl w3 _) (.inl rfl) _
    refine ⟨rfl, _, w3, HN3.out.put 0 _, ?_, gb_trans (gb_alloc (gb_of_below _ HB1.out) _) HG3.out, hgb⟩
    exact World.ownsRow.kept HR3.out hgb (by
      cases A3 with
      | none => exact .inl rfl
      | some a => exact .inr (by have := HR3.out.apart HN3.out (by decide); simp only [Value.ownBlock, ne_eq, Option.some.injEq]; omega))
  · have hd : (immR op.toNat == 1) = false := by simpa using h1
    rw [hd] at HO
    by_cases h5 : op = 5
    · subst h5
      have hl4 : st.getLast? = some 4 := by
        unfold addZ at ha
        rw [if_neg h1, if_pos rfl] at ha
        by_cases h4 : st.getLast? = some 4
        · exact h4
        · rw [if_neg h4] at ha; cases ha
      have ha2 : st' = st.dropLast ++ [5] ∧ en = false := by
        unfold addZ at ha
        rw [if_neg h1, if_pos rfl, if_pos hl4] at ha
        injection ha with ha
        injection ha with ha1 ha2
        exact ⟨ha1.symm, ha2.symm⟩
      obtain ⟨rfl, rfl⟩ := ha2
      have e5 : (((5 : UInt8).toNat : Int) == 5) = true := rfl
      have HTU := Lib.hid (fun w1 h1 h2 => turn_yes (W := w1) (nb := nb) (base := base) (v := v) (st := st) h1 h2 hs hl4)
      have HO5 := Lib.hid (show Calls Tryd.prog 119 #[.int .u8 5] W (fun e w' => e = .returned (.bool false) ∧ Below W.heap.size W w') from HO.out)
      clear h1 hd ha hl4
      go_enter Tryd.func74, Tryd.ntmps74
      go_wp2_with (first
        | (go_at_call 120; go_must ((with_reducible refine (HTU.out _ HN1.out HR1.out).mono ?_); intro e w2 hq; obtain ⟨rfl, hmv⟩ := hq; have HM := Lib.hid hmv; clear hmv))
        | (go_at_call 119; go_must ((with_reducible refine HO5.out.mono ?_); rintro e w1 ⟨rfl, hb1⟩; have HB1 := Lib.hid hb1; have HR1 := Lib.hid (HR.out.later hb1); have HN1 := Lib.hid (HN.out.below hb1); clear hb1)))
      go_ret
      exact ⟨rfl, Moved.after HM.out HB1.out⟩
    · have d5 : ((op.toNat : Int) == 5) = false := by
        have : op.toNat ≠ (5 : UInt8).toNat := fun e => h5 (UInt8.toNat_inj.1 e)
        have e5 : (5 : UInt8).toNat = 5 := rfl
        rw [e5] at this
        simp; omega
      by_cases h11 : op = 11
      · subst h11
        rw [addZ_11] at ha
        injection ha with ha
        injection ha with ha1 ha2
        have HE1 := Lib.hid ha1
        have HE2 := Lib.hid ha2
        clear ha1 ha2
        have e11 : (((11 : UInt8).toNat : Int) == 11) = true := rfl
        have HCL := Lib.hid (fun w1 h1 h2 => close_ok (W := w1) (nb := nb) (base := base) (v := v) (st := st) h1 h2 hs)
        have HO5 := Lib.hid (show Calls Tryd.prog 119 #[.int .u8 11] W (fun e w' => e = .returned (.bool false) ∧ Below W.heap.size W w') from HO.out)
        clear h1 hd h5
        go_enter Tryd.func74, Tryd.ntmps74
        go_wp2_with (first
          | (go_at_call 121; go_must ((with_reducible refine (HCL.out _ HN1.out HR1.out).mono ?_); rintro e w2 ⟨rfl, hmv⟩; have HM := Lib.hid hmv; clear hmv))
          | (go_at_call 119; go_must ((with_reducible refine HO5.out.mono ?_); rintro e w1 ⟨rfl, hb1⟩; have HB1 := Lib.hid hb1; have HR1 := Lib.hid (HR.out.later hb1); have HN1 := Lib.hid (HN.out.below hb1); clear hb1)))
        go_ret
        refine ⟨rfl, ?_⟩
        rw [← HE1.out, ← HE2.out]
        exact Moved.after HM.out HB1.out
      · have d11 : ((op.toNat : Int) == 11) = false := by
          have : op.toNat ≠ (11 : UInt8).toNat := fun e => h11 (UInt8.toNat_inj.1 e)
          have e11 : (11 : UInt8).toNat = 11 := rfl
          rw [e11] at this
          simp; omega
        unfold addZ at ha
        rw [if_neg h1, if_neg h5, if_neg h11] at ha
        injection ha with ha
        injection ha with ha1 ha2
        subst ha1; subst ha2
        clear h1 hd h5 h11
        go_enter Tryd.func74, Tryd.ntmps74
        go_wp2_with (go_at_call 119; go_must ((with_reducible refine HO.out.mono ?_); rintro e w1 ⟨rfl, hb1⟩; have HB1 := Lib.hid hb1; have HR1 := Lib.hid (HR.out.later hb1); have HN1 := Lib.hid (HN.out.below hb1); clear hb1))
        go_ret
        exact ⟨rfl, v, w1, HN1.out, HR1.out, gb_of_below _ HB1.out, gb_refl _ _⟩
theorem add_no {op : UInt8} (hT : Tabs W) (hn : Whole W nb 125 #[v, .bool false]) (hr : Row W base v st) (hs : st.length ≤ 100000) (ha : addZ st op = none) :
    Calls Tryd.prog 74 #[.pointer (some ⟨nb, 0, none⟩), .int .u8 op.toNat] W fun e W' => e = .returned (.bool false) ∧ Below W.heap.size W W' := by
  unfold addZ at ha
  by_cases h1 : immR op.toNat = 1
  · rw [if_pos h1] at ha; cases ha
  · rw [if_neg h1] at ha
    by_cases h5 : op = 5
    · rw [if_pos h5] at ha
      have hl4 : st.getLast? ≠ some 4 := fun e => by rw [if_pos e] at ha; cases ha
      subst h5
      have HO := Lib.hid (opens_any (5 : UInt8).toNat W hT (by decide))
      have hd : (immR (5 : UInt8).toNat == 1) = false := by simpa using h1
      rw [hd] at HO
      have c1 := hn.cell 1
      simp only [List.getElem?_toArray, List.getElem?_cons_zero, List.getElem?_cons_succ] at c1
      have HN := Lib.hid hn
      have HR := Lib.hid hr
      have e5 : (((5 : UInt8).toNat : Int) == 5) = true := rfl
      have HTU := Lib.hid (fun w1 h1 h2 => turn_no (W := w1) (nb := nb) (base := base) (v := v) (st := st) h1 h2 hs hl4)
      have HO5 := Lib.hid (show Calls Tryd.prog 119 #[.int .u8 5] W (fun e w' => e = .returned (.bool false) ∧ Below W.heap.size W w') from HO.out)
      clear h1 hd ha hl4 hn hr
      go_enter Tryd.func74, Tryd.ntmps74
      go_wp2_with (first
        | (go_at_call 120; go_must ((with_reducible refine (HTU.out _ HN1.out HR1.out).mono ?_); rintro e w2 ⟨rfl, rfl⟩))
        | (go_at_call 119; go_must ((with_reducible refine HO5.out.mono ?_); rintro e w1 ⟨rfl, hb1⟩; have HB1 := Lib.hid hb1; have HR1 := Lib.hid (HR.out.later hb1); have HN1 := Lib.hid (HN.out.below hb1); clear hb1)))
      go_ret
      exact ⟨rfl, HB1.out⟩
    · rw [if_neg h5] at ha
      by_cases h11 : op = 11
      · rw [if_pos h11] at ha
        by_cases h0 : st = []
        · rw [if_pos h0] at ha; cases ha
        · rw [if_neg h0] at ha; cases ha
      · rw [if_neg h11] at ha; cases ha
end
end Go.Proofs.YtebgmfjgapmpfaaDoor
