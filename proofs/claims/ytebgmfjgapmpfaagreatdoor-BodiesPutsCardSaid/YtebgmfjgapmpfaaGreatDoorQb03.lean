/- The reference's Walk and Shape. -/
import Derived.Test.YtebgmfjgapmpfaaGreatDoorQb02
import Derived.Test.YtebgmfjgapmpfaaGreatDoorQa07
import Derived.OwnWalk
namespace Go.Proofs.YtebgmfjgapmpfaaGreatDoor
open Go.RowKit
set_option linter.unusedVariables false
set_option maxRecDepth 100000

def opc (c : UInt8) : UInt8 := if c = 4 then 105 else if c = 5 then 101 else 98
def opens (n : Nat) : Bool := decide (n = 2 ∨ n = 3 ∨ n = 4)
theorem opens_all : ∀ n, n < 256 → (immR n == 1) = opens n := by decide +kernel
theorem opens_iff {op : UInt8} : immR op.toNat = 1 ↔ (op.toNat = 2 ∨ op.toNat = 3 ∨ op.toNat = 4) := by
  have := opens_all op.toNat op.toNat_lt
  constructor
  · intro h
    have h2 : (immR op.toNat == 1) = true := by simpa using h
    rw [h2] at this
    unfold opens at this
    simpa using this.symm
  · intro h
    have h2 : opens op.toNat = true := by unfold opens; simpa using h
    rw [h2] at this
    simpa using this
/-- Only what opens a block, or an else, stands there. -/
def Clean (st : List UInt8) : Prop := ∀ c ∈ st, c.toNat = 2 ∨ c.toNat = 3 ∨ c.toNat = 4 ∨ c.toNat = 5
theorem clean_add {st st' : List UInt8} {op : UInt8} {en : Bool} (h : Clean st) (ha : addZ st op = some (st', en)) : Clean st' := by
  unfold addZ at ha
  by_cases h1 : immR op.toNat = 1
  · rw [if_pos h1] at ha
    injection ha with ha; injection ha with ha1 ha2
    subst ha1
    intro c hc
    rcases List.mem_append.1 hc with hc | hc
    · exact h c hc
    · rw [List.mem_singleton] at hc
      subst hc
      have := opens_iff.1 h1
      omega
  · rw [if_neg h1] at ha
    by_cases h5 : op = 5
    · rw [if_pos h5] at ha
      by_cases h4 : st.getLast? = some 4
      · rw [if_pos h4] at ha
        injection ha with ha; injection ha with ha1 ha2
        subst ha1
        intro c hc
        rcases List.mem_append.1 hc with hc | hc
        · exact h c ((List.dropLast_sublist st).subset hc)
        · rw [List.mem_singleton] at hc
          subst hc
          exact .inr (.inr (.inr rfl))
      · rw [if_neg h4] at ha; cases ha
    · rw [if_neg h5] at ha
      by_cases h11 : op = 11
      · rw [if_pos h11] at ha
        by_cases h0 : st = []
        · rw [if_pos h0] at ha
          injection ha with ha; injection ha with ha1 ha2
          subst ha1
          exact h
        · rw [if_neg h0] at ha
          injection ha with ha; injection ha with ha1 ha2
          subst ha1
          exact fun c hc => h c ((List.dropLast_sublist st).subset hc)
      · rw [if_neg h11] at ha
        injection ha with ha; injection ha with ha1 ha2
        subst ha1
        exact h
theorem op_is {op : UInt8} {n : Nat} (h : op.toNat = n) (hn : n < 256) : op = UInt8.ofNat n := by
  apply u8_ext
  rw [h, UInt8.toNat_ofNat']
  omega
theorem last_map {st : List UInt8} {x : UInt8} (h : st.getLast? = some x) : (st.map opc)[st.length - 1]? = some (opc x) := by
  rw [List.getElem?_map, ← List.getLast?_eq_getElem?, h]
  rfl
theorem opc_i {st : List UInt8} {x : UInt8} (hc : Clean st) (h : st.getLast? = some x) : (((opc x).toNat : Int) != 105) = decide (x ≠ 4) := by
  have hx : x ∈ st := List.mem_of_getLast? h
  have := hc x hx
  unfold opc
  by_cases h4 : x = 4
  · subst h4; rfl
  · rw [if_neg h4]
    by_cases h5 : x = 5
    · subst h5; rfl
    · rw [if_neg h5]
      simp [h4]
theorem map_dropLast (st : List UInt8) : (st.map opc).take (st.length - 1) = st.dropLast.map opc := by
  rw [← List.map_take, List.dropLast_eq_take]
/-- What Walk tells: is it a body? -/
def WalkPost (l : List I) (w : World) (e : Ending) (w' : World) : Prop :=
  ∃ m x : Int, e = .returned (.tuple #[.int .i64 m, .int .i64 x]) ∧ (shapeGo [] (opsOf l) = true ↔ (m ≠ 0 ∧ m = l.length)) ∧ Below w.heap.size w w'
set_option maxHeartbeats 3000000 in
theorem walk_any {w : World} {A : Option Addr} {c : Nat} {l : List I} (hl : Ins w A l) (hn : l.length ≤ 20000) :
    Calls Tryz.prog 112 #[.slice A l.length c] w (WalkPost l w) := by
  have HL := Lib.hid hl
  obtain ⟨n, hnn⟩ : ∃ n, n = l.length := ⟨_, rfl⟩
  have HNN := Lib.hid hnn
  rw [← hnn] at hn ⊢
  clear hl hnn
  go_enter Tryz.func112, Tryz.ntmps112
  go_wp2
  go_loopw [4, 5] (fun s i wr => ∃ (k : Nat) (st : List UInt8), k ≤ n ∧ i = .int .i64 k ∧ s = .string (S (st.map opc)) ∧ st.length ≤ k ∧ Clean st ∧ Stand l k st false ∧ Below w.heap.size w wr) (fun _ i _ => n - (intOf i).toNat)
  case atStart => exact ⟨0, [], Nat.zero_le _, rfl, rfl, Nat.le_refl _, (fun c h => by cases h), rfl, Below.refl _ _⟩
  case round =>
    obtain ⟨k, st, hk, rfl, rfl, hsl, hcl, hst, hb⟩ := hrel
    have HB := Lib.hid hb
    by_cases hlt : k < n
    · obtain ⟨i, hi⟩ : ∃ i, l[k]? = some i := ⟨_, List.getElem?_eq_getElem (by rw [← HNN.out]; exact hlt)⟩
      obtain ⟨b, off, B, cc, rfl, hbl, ⟨k0, _, _, _⟩, _⟩ := HL.out k i hi
      have m0 := (hb.cell (p := ⟨b, off + k * 4, none⟩) hbl).trans k0
      have hstep := hst.step hi
      obtain ⟨t, ht⟩ : ∃ t, t = st.map opc := ⟨_, rfl⟩
      have htl : t.length = st.length := by rw [ht, List.length_map]
      have hsz := S_size t
      rw [← ht]
      have HTT := Lib.hid ht
      by_cases h23 : i.op.toNat = 2 ∨ i.op.toNat = 3
      · have ha : addZ st i.op = some (st ++ [i.op], false) := by unfold addZ; rw [if_pos (opens_iff.2 (by omega))]
        rw [ha] at hstep
        have hc2 := clean_add hcl ha
        have HS := Lib.hid hstep
        have HC := Lib.hid hc2
        have HO : Hid (S t ++ { data := #[98] } = S ((st ++ [i.op]).map opc)) := by
          show S t ++ S [98] = _
          rw [S_append, List.map_append, HTT.out]
          congr 2
          unfold opc
          rw [List.map_cons, List.map_nil, if_neg (by intro e; rw [e] at h23; revert h23; decide), if_neg (by intro e; rw [e] at h23; revert h23; decide)]
        have q : (S t).size + 1 ≤ 9223372036854775807 := by omega
        clear hst hb k0 hi hstep ha hc2 hcl ht
        rcases h23 with h2 | h2
        all_goals
          rw [h2] at m0
          go_wp2
          go_roundw
          case rel => exact ⟨k + 1, st ++ [i.op], by omega, by go_num, by rw [HO.out], by simp; omega, HC.out, HS.out, HB.out⟩
          case measure => simp [intOf]; omega
      · by_cases h4 : i.op.toNat = 4
        · have ha : addZ st i.op = some (st ++ [i.op], false) := by unfold addZ; rw [if_pos (opens_iff.2 (by omega))]
          rw [ha] at hstep
          have hc2 := clean_add hcl ha
          have HS := Lib.hid hstep
          have HC := Lib.hid hc2
          have HO : Hid (S t ++ { data := #[105] } = S ((st ++ [i.op]).map opc)) := by
            show S t ++ S [105] = _
            rw [S_append, List.map_append, HTT.out, op_is (n := 4) h4 (by decide)]
            rfl
          have q : (S t).size + 1 ≤ 9223372036854775807 := by omega
          clear hst hb k0 hi hstep ha hc2 hcl ht
          rw [h4] at m0
          go_wp2
          go_roundw
          case rel => exact ⟨k + 1, st ++ [i.op], by omega, by go_num, by rw [HO.out], by simp; omega, HC.out, HS.out, HB.out⟩
          case measure => simp [intOf]; omega
        · have d2 : ((i.op.toNat : Int) == 2) = false := by simp; omega
          have d3 : ((i.op.toNat : Int) == 3) = false := by simp; omega
          have d4 : ((i.op.toNat : Int) == 4) = false := by simp; omega
          have himm : ¬ immR i.op.toNat = 1 := fun e => by have := opens_iff.1 e; omega
          by_cases h5 : i.op.toNat = 5
          · have e5 : i.op = 5 := op_is (n := 5) h5 (by decide)
            rw [e5] at hstep himm
            by_cases h0 : st = []
            · have ha : addZ st 5 = none := by unfold addZ; rw [if_neg himm, if_pos rfl, h0, if_neg (by simp)]
              rw [ha] at hstep
              have HS := Lib.hid hstep
              have z0 : (S t).toList.isEmpty = true := by rw [S_toList, HTT.out, h0]; rfl
              clear hst hb k0 hi hstep ha hcl ht h0
              rw [h5] at m0
              go_wp2
              go_ret2
              exact ⟨0, k, rfl, by rw [HS.out]; simp, HB.out⟩
            · obtain ⟨x, hx⟩ : ∃ x, st.getLast? = some x := by cases h : st.getLast? with
                | none => exact absurd (List.getLast?_eq_none_iff.1 h) h0
                | some x => exact ⟨x, rfl⟩
              have z0 : (S t).toList.isEmpty = false := by
                rw [S_toList, HTT.out]
                cases st with
                | nil => exact absurd rfl h0
                | cons a r => rfl
              obtain ⟨u, hu⟩ : ∃ u, st.length = u + 1 := ⟨st.length - 1, by have := List.length_pos_iff.2 h0; omega⟩
              have hsu : (S t).size = u + 1 := by omega
              have hlu : u < (S t).size := by omega
              have hgl : t[u]? = some (opc x) := by have := last_map hx; rw [hu, Nat.add_sub_cancel] at this; rw [HTT.out]; exact this
              have hgx : (S t)[u]'hlu = opc x := by
                rw [S_get t u hlu]
                exact (List.getElem?_eq_some_iff.1 hgl).2
              have hcmp : ((((S t)[u]'hlu).toNat : Int) != 105) = decide (x ≠ 4) := by rw [hgx]; exact opc_i hcl hx
              have e1 : ((u + 1 : Nat) : Int) - 1 = u := by omega
              by_cases hx4 : x = 4
              · have hl4 : st.getLast? = some 4 := by rw [hx, hx4]
                have ha : addZ st 5 = some (st.dropLast ++ [5], false) := by unfold addZ; rw [if_neg himm, if_pos rfl, if_pos hl4]
                rw [ha] at hstep
                have hc2 := clean_add hcl ha
                have HS := Lib.hid hstep
                have HC := Lib.hid hc2
                have hcm : ((((S t)[u]'hlu).toNat : Int) != 105) = false := by rw [hcmp, hx4]; rfl
                have hsl2 : ∀ wx, (Instr.slice 9 (.string (S t)) none (some (.int .i64 (u : Int))) none).run Tryz.prog wx = .ok (.string (S (t.take u))) wx := fun wx => by
                  have := run_slice_string_h (P := Tryz.prog) wx 9 (S t) Tryz.underlying9 .i64 (u : Int) (by omega) (by omega)
                  rw [this, S_extract]
                  simp
                have htk : t.take u = st.dropLast.map opc := by rw [HTT.out, ← map_dropLast, hu, Nat.add_sub_cancel]
                obtain ⟨t2, ht2⟩ : ∃ t2, t2 = t.take u := ⟨_, rfl⟩
                rw [← ht2] at hsl2 htk
                have HTK := Lib.hid htk
                have hs2 := S_size t2
                have hl2 : t2.length ≤ 20000 := by rw [ht2, List.length_take]; omega
                have q : (S t2).size + 1 ≤ 9223372036854775807 := by omega
                have HO : Hid (S t2 ++ { data := #[101] } = S ((st.dropLast ++ [5]).map opc)) := by
                  show S t2 ++ S [101] = _
                  rw [S_append, List.map_append, HTK.out]
                  rfl
                have HLU := Lib.hid hu
                clear hst hb k0 hi hstep ha hc2 hcl ht ht2 htk hx hgl hgx hcmp hl4 h0 hx4
                rw [h5] at m0
                go_wp2
                go_roundw
                case rel => exact ⟨k + 1, st.dropLast ++ [5], by omega, by go_num, by rw [HO.out], by simp; have := HLU.out; omega, HC.out, HS.out, HB.out⟩
                case measure => simp [intOf]; omega
              · have ha : addZ st 5 = none := by unfold addZ; rw [if_neg himm, if_pos rfl, hx, if_neg (by simpa using hx4)]
                rw [ha] at hstep
                have HS := Lib.hid hstep
                have hcm : ((((S t)[u]'hlu).toNat : Int) != 105) = true := by rw [hcmp]; simpa using hx4
                clear hst hb k0 hi hstep ha hcl ht hx hgl hgx hcmp h0 hx4
                rw [h5] at m0
                go_wp2
                go_ret2
                exact ⟨0, k, rfl, by rw [HS.out]; simp, HB.out⟩
          · have d5 : ((i.op.toNat : Int) == 5) = false := by simp; omega
            have n5 : i.op ≠ 5 := fun e => h5 (by rw [e]; rfl)
            by_cases h11 : i.op.toNat = 11
            · have e11 : i.op = 11 := op_is (n := 11) h11 (by decide)
              rw [e11] at hstep himm
              by_cases h0 : st = []
              · have ha : addZ st 11 = some (st, true) := by rw [addZ_11, if_pos h0, if_pos h0]
                rw [ha] at hstep
                have z0 : (S t).toList.isEmpty = true := by rw [S_toList, HTT.out, h0]; rfl
                have HS : Hid (shapeGo [] (opsOf l) = true ↔ (((k : Int) + 1 ≠ 0) ∧ (k : Int) + 1 = n)) := by
                  have h : Stand l (k + 1) st true := hstep
                  unfold Stand at h
                  rw [if_pos rfl] at h
                  show _ ↔ _
                  rw [h, List.isEmpty_iff, List.drop_eq_nil_iff]
                  unfold opsOf
                  rw [List.length_map, ← HNN.out]
                  omega
                clear hst hb k0 hi hstep ha hcl ht h0
                rw [h11] at m0
                go_wp2
                go_ret2
                exact ⟨(k : Int) + 1, -1, rfl, by rw [← HNN.out]; exact HS.out, HB.out⟩
              · have ha : addZ st 11 = some (st.dropLast, false) := by rw [addZ_11, if_neg h0, if_neg h0]
                rw [ha] at hstep
                have hc2 := clean_add hcl ha
                have HS := Lib.hid hstep
                have HC := Lib.hid hc2
                have z0 : (S t).toList.isEmpty = false := by
                  rw [S_toList, HTT.out]
                  cases st with
                  | nil => exact absurd rfl h0
                  | cons a r => rfl
                obtain ⟨u, hu⟩ : ∃ u, st.length = u + 1 := ⟨st.length - 1, by have := List.length_pos_iff.2 h0; omega⟩
                have hsu : (S t).size = u + 1 := by omega
                have e1 : ((u + 1 : Nat) : Int) - 1 = u := by omega
                have hsl2 : ∀ wx, (Instr.slice 9 (.string (S t)) none (some (.int .i64 (u : Int))) none).run Tryz.prog wx = .ok (.string (S (t.take u))) wx := fun wx => by
                  have := run_slice_string_h (P := Tryz.prog) wx 9 (S t) Tryz.underlying9 .i64 (u : Int) (by omega) (by omega)
                  rw [this, S_extract]
                  simp
                have HTK := Lib.hid (show t.take u = st.dropLast.map opc by rw [HTT.out, ← map_dropLast, hu, Nat.add_sub_cancel])
                have HLU := Lib.hid hu
                clear hst hb k0 hi hstep ha hc2 hcl ht h0
                rw [h11] at m0
                go_wp2
                go_roundw
                case rel => exact ⟨k + 1, st.dropLast, by omega, by go_num, by rw [HTK.out], by simp; have := HLU.out; omega, HC.out, HS.out, HB.out⟩
                case measure => simp [intOf]; omega
            · have d11 : ((i.op.toNat : Int) == 11) = false := by simp; omega
              have n11 : i.op ≠ 11 := fun e => h11 (by rw [e]; rfl)
              have ha : addZ st i.op = some (st, false) := by unfold addZ; rw [if_neg himm, if_neg n5, if_neg n11]
              rw [ha] at hstep
              have HS := Lib.hid hstep
              have HC := Lib.hid hcl
              clear hst hb k0 hi hstep ha hcl
              rw [ht]
              go_wp2
              go_roundw
              case rel => exact ⟨k + 1, st, by omega, by go_num, rfl, by omega, HC.out, HS.out, HB.out⟩
              case measure => simp [intOf]; omega
    · obtain rfl : k = n := by omega
      have HS : Hid (shapeGo [] (opsOf l) = false) := by
        have h := hst
        unfold Stand at h
        rw [if_neg (by simp), List.drop_eq_nil_of_le (by unfold opsOf; rw [List.length_map, HNN.out]; exact Nat.le_refl _)] at h
        show _ = _
        rw [h]
        unfold shapeGo
        rfl
      clear hst hb hcl
      go_wp2
      go_ret2
      exact ⟨0, -1, rfl, by rw [HS.out]; simp, HB.out⟩
theorem refShape_any {w : World} {A : Option Addr} {c : Nat} {l : List I} (hl : Ins w A l) (hn : l.length ≤ 20000) :
    Calls Tryz.prog 74 #[.slice A l.length c] w (IntPost (shapeZ l) w) := by
  have HW := Lib.hid (walk_any (c := c) hl hn)
  have g0 : decide (20000 < (l.length : Int)) = false := decide_eq_false (by omega)
  by_cases hs : shapeGo [] (opsOf l) = true
  · have HE := Lib.hid (show shapeZ l = 0 by unfold shapeZ; rw [if_pos hs])
    have HW2 := Lib.hid (show Calls Tryz.prog 112 #[.slice A l.length c] w fun e w' => ∃ m x : Int, e = .returned (.tuple #[.int .i64 m, .int .i64 x]) ∧ (m ≠ 0 ∧ m = l.length) ∧ Below w.heap.size w w' from HW.out.mono fun e w' ⟨m, x, h1, h2, h3⟩ => ⟨m, x, h1, h2.1 hs, h3⟩)
    clear hs hl HW
    go_enter Tryz.func74, Tryz.ntmps74
    go_wp2_with (go_at_call 112; go_must ((with_reducible refine HW2.out.mono ?_); intro e w1 hq; obtain ⟨m, x, rfl, ⟨hm0, hm1⟩, hb⟩ := hq; have z1 : (m == 0) = false := (by simpa using hm0); have z2 : (m != (l.length : Int)) = false := (by simpa using hm1); have HB := Lib.hid hb; clear hb hm0 hm1))
    go_ret
    exact ret_below HE.out.symm HB.out
  · have HE := Lib.hid (show shapeZ l = 30 by unfold shapeZ; rw [if_neg hs])
    have HW2 := Lib.hid (show Calls Tryz.prog 112 #[.slice A l.length c] w fun e w' => ∃ m x : Int, e = .returned (.tuple #[.int .i64 m, .int .i64 x]) ∧ (m = 0 ∨ m ≠ l.length) ∧ Below w.heap.size w w' from HW.out.mono fun e w' ⟨m, x, h1, h2, h3⟩ => ⟨m, x, h1, by
      by_cases g : m = 0
      · exact .inl g
      · exact .inr (fun g2 => hs (h2.2 ⟨g, g2⟩)), h3⟩)
    clear hs hl HW
    go_enter Tryz.func74, Tryz.ntmps74
    go_wp2_with (go_at_call 112; go_must ((with_reducible refine HW2.out.mono ?_); intro e w1 hq; obtain ⟨m, x, rfl, hm, hb⟩ := hq; have HB := Lib.hid hb; clear hb))
    all_goals first
      | (go_ret; exact ret_below HE.out.symm HB.out)
      | (go_wp2; go_ret; exact ret_below HE.out.symm HB.out)
      | (exfalso; rename_i h1 h2; have h3 : m = l.length := (by simpa using h2.2); omega)
end Go.Proofs.YtebgmfjgapmpfaaGreatDoor

/- Instructions in a row of the call's own; blocks that are apart by their types; what is read lies behind a bound. -/
namespace Go.Proofs.YtebgmfjgapmpfaaGreatDoor
open Go.RowKit
set_option linter.unusedVariables false
set_option maxRecDepth 100000

theorem infoIns : (Tryz.prog.info? 44).map (fun i => (i.zero, i.size, i.bytes)) = some (some (.agg #[.int .u8 0, .int .u64 0, .int .u64 0, .slice none 0 0]), 4, 48) := by kernel_rfl
abbrev Slot := I × Option Addr × Nat
def rowC (x : Slot) : List Value := [.int .u8 x.1.op.toNat, .int .u64 x.1.a, .int .u64 x.1.b, .slice x.2.1 x.1.l.length x.2.2]
def RowI (W : World) (base : Nat) (v : Value) (rows : List Slot) : Prop := W.ownsRow base 44 4 v rows.length (rows.flatMap rowC)
theorem own_own {W : World} {b b' : Nat} {e e' : TypeId} {s s' n n' : Nat} {v v' : Value} {xs xs' : List Value} (h : W.ownsRow b e s v n xs) (h' : W.ownsRow b' e' s' v' n' xs') (ht : e ≠ e') : v.ownBlock = none ∨ v.ownBlock ≠ v'.ownBlock := by
  rcases h.2 with ⟨rfl, _⟩ | ⟨g, cap, cur, rfl, _, hg, _⟩
  · exact .inl rfl
  · exact .inr (own_whole h' (show Whole W g e cur from hg) ht)
theorem own_far {W : World} {b : Nat} {e : TypeId} {s n q : Nat} {v : Value} {xs : List Value} {t : TypeId} {cs : Array Value} (h : W.ownsRow b e s v n xs) (hw : Whole W q t cs) (ht : t ≠ e) : v.ownBlock = none ∨ v.ownBlock ≠ some q := .inr (fun e2 => own_whole h hw ht e2.symm)
/-- append of a new block of one instruction. -/
theorem rowsI_new {w : World} {ops : Array Oper} {rest : List Oper} {o : Oper} {a : Act} {Q : Exit → Act → World → Prop} (hgd : o.guard = none) (s x : Operand)
    (ho : o.op = .call { callee := .builtin .append, args := #[s, x], argTypes := #[68, 68] })
    (B : Nat) (v : Value) (l : List Slot) (hs : a.eval s = v) (hr : RowI w B v l) (g : Nat) (r : Slot) (hx : a.eval x = .slice (some ⟨g, 0, none⟩) 1 1)
    (hg : Whole w g 44 (rowC r).toArray) (hb : l.length ≤ 1000) (hB : B ≤ w.heap.size)
    (h : ∀ v' w', RowI w' B v' (l ++ [r]) → w.grownBy w' v.ownBlock → wpList Tryz.prog ops Q rest (a.put o.dst v') w') : wpList Tryz.prog ops Q (o :: rest) a w := by
  obtain ⟨i0, hi0, hz0, hz1, hz2⟩ := info_parts infoIns
  refine wpList_append_own _ hgd s x _ ho B 44 i0 _ 4 48 Tryz.underlying68 hi0 hz0 hz1 hz2 rfl (by omega) v _ _ hs hr ⟨g, 0, none⟩ 1 1 (rowC r) hx rfl ?_ ?_ (by unfold maxLen; omega) (by omega) hB (fun v' w' h2 h3 _ => h v' w' ?_ h3)
  · intro j u hu
    rw [Go.WideShapes.add_plain, Nat.zero_add, hg.cell]
    simpa using hu
  · intro u hu
    unfold rowC at hu
    simp only [List.mem_cons, List.not_mem_nil, or_false] at hu
    rcases hu with rfl | rfl | rfl | rfl <;> rfl
  · unfold RowI
    rw [List.length_append, List.flatMap_append]
    simpa using h2
theorem flatI_get : ∀ (l : List Slot) (j : Nat) (x : Slot) (u : Nat), l[j]? = some x → u < 4 → (l.flatMap rowC)[j * 4 + u]? = (rowC x)[u]?
  | [], j, x, u, h, _ => by cases h
  | y :: l, 0, x, u, h, hu => by
    injection h with h
    subst h
    rw [List.flatMap_cons, Nat.zero_mul, Nat.zero_add, List.getElem?_append_left (by show u < 4; exact hu)]
  | y :: l, j + 1, x, u, h, hu => by
    rw [List.flatMap_cons, List.getElem?_append_right (by show 4 ≤ _; omega)]
    have e : (j + 1) * 4 + u - (rowC y).length = j * 4 + u := by show (j + 1) * 4 + u - 4 = _; omega
    rw [e]
    exact flatI_get l j x u h hu
/-- Instructions that lie behind a bound. -/
def InsF (lo : Nat) (w : World) (A : Option Addr) (l : List I) : Prop :=
  ∀ j i, l[j]? = some i → ∃ b off B c, A = some ⟨b, off, none⟩ ∧ lo ≤ b ∧ b < w.heap.size ∧ (w.cell? ⟨b, off + j * 4, none⟩ = some (.int .u8 i.op.toNat) ∧ w.cell? ⟨b, off + j * 4 + 1, none⟩ = some (.int .u64 i.a) ∧
    w.cell? ⟨b, off + j * 4 + 2, none⟩ = some (.int .u64 i.b) ∧ w.cell? ⟨b, off + j * 4 + 3, none⟩ = some (.slice B i.l.length c)) ∧ LiesL w B i.l ∧ ∀ a, B = some a → lo ≤ a.block
theorem InsF.ins {lo : Nat} {w : World} {A : Option Addr} {l : List I} (h : InsF lo w A l) : Ins w A l := fun j i hi => by
  obtain ⟨b, off, B, c, e, h1, h2, hk, hl, _⟩ := h j i hi
  exact ⟨b, off, B, c, e, h2, hk, hl⟩
theorem InsF.mono {lo lo' : Nat} {w : World} {A : Option Addr} {l : List I} (h : InsF lo w A l) (hle : lo' ≤ lo) : InsF lo' w A l := fun j i hi => by
  obtain ⟨b, off, B, c, e, h1, h2, hk, hl, hf⟩ := h j i hi
  exact ⟨b, off, B, c, e, by omega, h2, hk, hl, fun a ha => Nat.le_trans hle (hf a ha)⟩
theorem InsF.keep {lo : Nat} {w w' : World} {A : Option Addr} {l : List I} {q : Nat} (h : InsF lo w A l) (hg : w.grownBy w' (some q)) (hq : q < lo) : InsF lo w' A l := fun j i hi => by
  obtain ⟨b, off, B, c, e, h1, h2, ⟨k0, k1, k2, k3⟩, hl, hf⟩ := h j i hi
  have hc : ∀ o, w'.cell? ⟨b, o, none⟩ = w.cell? ⟨b, o, none⟩ := fun o => by
    unfold World.cell?
    rw [hg.block b h2 (by simp only [ne_eq, Option.some.injEq]; omega)]
  exact ⟨b, off, B, c, e, h1, Nat.lt_of_lt_of_le h2 hg.size, ⟨(hc _).trans k0, (hc _).trans k1, (hc _).trans k2, (hc _).trans k3⟩, Lies.keep hl hg (fun a ha => by have := hf a ha; omega), hf⟩
/-- What a row of instructions reads as. -/
theorem RowI.insF {W : World} {base : Nat} {v : Value} {rows : List Slot} (h : RowI W base v rows) (hl : ∀ x ∈ rows, LabT W x.2.1 x.1.l ∧ ∀ a, x.2.1 = some a → base ≤ a.block) : ∃ A c, v = .slice A rows.length c ∧ InsF base W A (rows.map (·.1)) := by
  rcases h.2 with ⟨rfl, h0⟩ | ⟨g, cap, cur, rfl, hb, hg, _, _, _, ht⟩
  · have : rows = [] := List.eq_nil_of_length_eq_zero h0
    subst this
    exact ⟨none, 0, rfl, fun j i hi => by cases hi⟩
  · refine ⟨some ⟨g, 0, none⟩, cap, rfl, fun j i hi => ?_⟩
    obtain ⟨x, hx, rfl⟩ : ∃ x, rows[j]? = some x ∧ x.1 = i := by
      rw [List.getElem?_map] at hi
      cases hx : rows[j]? with
      | none => rw [hx] at hi; cases hi
      | some x => rw [hx] at hi; injection hi with hi; exact ⟨x, rfl, hi⟩
    have hj := (List.getElem?_eq_some_iff.1 hx).1
    have key : ∀ u, u < 4 → W.cell? ⟨g, 0 + j * 4 + u, none⟩ = (rowC x)[u]? := fun u hu => by
      rw [cell_of_row W g (0 + j * 4 + u) cur _ _ hg, ← flatI_get rows j x u hx hu, ← ht, List.getElem?_take, if_pos (by omega)]
      simp
    obtain ⟨h1, h2⟩ := hl x (List.mem_of_getElem? hx)
    exact ⟨g, 0, x.2.1, x.2.2, rfl, hb, (Array.getElem?_eq_some_iff.1 hg).1, ⟨key 0 (by omega), key 1 (by omega), key 2 (by omega), key 3 (by omega)⟩, h1.lies, h2⟩
end Go.Proofs.YtebgmfjgapmpfaaGreatDoor
