/- The reference's Walk and Shape. -/
import Derived.Test.YtlicdmbmgjflpaaDoorMb15
import Derived.Test.YtlicdmbmgjflpaaDoorMb16
import Derived.Test.YtlicdmbmgjflpaaDoorMb12
namespace Go.Proofs.YtlicdmbmgjflpaaDoor
open Go.RowKit
set_option linter.unusedVariables false
set_option maxRecDepth 100000

def opc (c : UInt8) : UInt8 := if c = 4 then 105 else if c = 5 then 101 else 98
def opens (n : Nat) : Bool := decide (n = 2 ∨ n = 3 ∨ n = 4)
theorem opens_all : ∀ n, n < 256 → (immR n == 1) = opens n := by decide +kernel
theorem opens_iff {op : UInt8} : immR op.toNat = 1 ↔ (op.toNat = 2 ∨ op.toNat = 3 ∨ op.toNat = 4) := by
  have := opens_all op.toNat op.toNat_lt
  constructor
  · intro h
    have h2 : (immR op.toNat == 1) = true := by simpa using h
    rw [h2] at this
    unfold opens at this
    simpa using this.symm
  · intro h
    have h2 : opens op.toNat = true := by unfold opens; simpa using h
    rw [h2] at this
    simpa using this
/-- Only what opens a block, or an else, stands there. -/
def Clean (st : List UInt8) : Prop := ∀ c ∈ st, c.toNat = 2 ∨ c.toNat = 3 ∨ c.toNat = 4 ∨ c.toNat = 5
theorem clean_add {st st' : List UInt8} {op : UInt8} {en : Bool} (h : Clean st) (ha : addZ st op = some (st', en)) : Clean st' := by
  unfold addZ at ha
  by_cases h1 : immR op.toNat = 1
  · rw [if_pos h1] at ha
    injection ha with ha; injection ha with ha1 ha2
    subst ha1
    intro c hc
    rcases List.mem_append.1 hc with hc | hc
    · exact h c hc
    · rw [List.mem_singleton] at hc
      subst hc
      have := opens_iff.1 h1
      omega
  · rw [if_neg h1] at ha
    by_cases h5 : op = 5
    · rw [if_pos h5] at ha
      by_cases h4 : st.getLast? = some 4
      · rw [if_pos h4] at ha
        injection ha with ha; injection ha with ha1 ha2
        subst ha1
        intro c hc
        rcases List.mem_append.1 hc with hc | hc
        · exact h c ((List.dropLast_sublist st).subset hc)
        · rw [List.mem_singleton] at hc
          subst hc
          exact .inr (.inr (.inr rfl))
      · rw [if_neg h4] at ha; cases ha
    · rw [if_neg h5] at ha
      by_cases h11 : op = 11
      · rw [if_pos h11] at ha
        by_cases h0 : st = []
        · rw [if_pos h0] at ha
          injection ha with ha; injection ha with ha1 ha2
          subst ha1
          exact h
        · rw [if_neg h0] at ha
          injection ha with ha; injection ha with ha1 ha2
          subst ha1
          exact fun c hc => h c ((List.dropLast_sublist st).subset hc)
      · rw [if_neg h11] at ha
        injection ha with ha; injection ha with ha1 ha2
        subst ha1
        exact h
theorem op_is {op : UInt8} {n : Nat} (h : op.toNat = n) (hn : n < 256) : op = UInt8.ofNat n := by
  apply u8_ext
  rw [h, UInt8.toNat_ofNat']
  omega
theorem last_map {st : List UInt8} {x : UInt8} (h : st.getLast? = some x) : (st.map opc)[st.length - 1]? = some (opc x) := by
  rw [List.getElem?_map, ← List.getLast?_eq_getElem?, h]
  rfl
theorem opc_i {st : List UInt8} {x : UInt8} (hc : Clean st) (h : st.getLast? = some x) : (((opc x).toNat : Int) != 105) = decide (x ≠ 4) := by
  have hx : x ∈ st := List.mem_of_getLast? h
  have := hc x hx
  unfold opc
  by_cases h4 : x = 4
  · subst h4; rfl
  · rw [if_neg h4]
    by_cases h5 : x = 5
    · subst h5; rfl
    · rw [if_neg h5]
      simp [h4]
theorem map_dropLast (st : List UInt8) : (st.map opc).take (st.length - 1) = st.dropLast.map opc := by
  rw [← List.map_take, List.dropLast_eq_take]
/-- What Walk tells: is it a body? -/
def WalkPost (l : List I) (w : World) (e : Ending) (w' : World) : Prop :=
  ∃ m x : Int, e = .returned (.tuple #[.int .i64 m, .int .i64 x]) ∧ (shapeGo [] (opsOf l) = true ↔ (m ≠ 0 ∧ m = l.length)) ∧ Below w.heap.size w w'
set_option maxHeartbeats 3000000 in
theorem walk_any {w : World} {A : Option Addr} {c : Nat} {l : List I} (hl : Ins w A l) (hn : l.length ≤ 20000) :
    Calls Tryd.prog 31 #[.slice A l.length c] w (WalkPost l w) := by
  have HL := Lib.hid hl
  obtain ⟨n, hnn⟩ : ∃ n, n = l.length := ⟨_, rfl⟩
  have HNN := Lib.hid hnn
  rw [← hnn] at hn ⊢
  clear hl hnn
  go_enter Tryd.func31, Tryd.ntmps31
  go_wp2
  go_loopw [4, 5] (fun s i wr => ∃ (k : Nat) (st : List UInt8), k ≤ n ∧ i = .int .i64 k ∧ s = .string (S (st.map opc)) ∧ st.length ≤ k ∧ Clean st ∧ Stand l k st false ∧ Below w.heap.size w wr) (fun _ i _ => n - (intOf i).toNat)
  case atStart => exact ⟨0, [], Nat.zero_le _, rfl, rfl, Nat.le_refl _, (fun c h => by cases h), rfl, Below.refl _ _⟩
  case round =>
    obtain ⟨k, st, hk, rfl, rfl, hsl, hcl, hst, hb⟩ := hrel
    have HB := Lib.hid hb
    by_cases hlt : k < n
    · obtain ⟨i, hi⟩ : ∃ i, l[k]? = some i := ⟨_, List.getElem?_eq_getElem (by rw [← HNN.out]; exact hlt)⟩
      obtain ⟨b, off, B, cc, rfl, hbl, ⟨k0, _, _, _⟩, _⟩ := HL.out k i hi
      have m0 := (hb.cell (p := ⟨b, off + k * 4, none⟩) hbl).trans k0
      have hstep := hst.step hi
      obtain ⟨t, ht⟩ : ∃ t, t = st.map opc := ⟨_, rfl⟩
      have htl : t.length = st.length := by rw [ht, List.length_map]
      have hsz := S_size t
      rw [← ht]
      have HTT := Lib.hid ht
      by_cases h23 : i.op.toNat = 2 ∨ i.op.toNat = 3
      · have ha : addZ st i.op = some (st ++ [i.op], false) := by unfold addZ; rw [if_pos (opens_iff.2 (by omega))]
        rw [ha] at hstep
        have hc2 := clean_add hcl ha
        have HS := Lib.hid hstep
        have HC := Lib.hid hc2
        have HO : Hid (S t ++ { data := #[98] } = S ((st ++ [i.op]).map opc)) := by
          show S t ++ S [98] = _
          rw [S_append, List.map_append, HTT.out]
          congr 2
          unfold opc
          rw [List.map_cons, List.map_nil, if_neg (by intro e; rw [e] at h23; revert h23; decide), if_neg (by intro e; rw [e] at h23; revert h23; decide)]
        have q : (S t).size + 1 ≤ 9223372036854775807 := by omega
        clear hst hb k0 hi hstep ha hc2 hcl ht
        rcases h23 with h2 | h2
        all_goals
          rw [h2] at m0
          go_wp2
          go_roundw
          case rel => exact ⟨k + 1, st ++ [i.op], by omega, by go_num, by rw [HO.out], by simp; omega, HC.out, HS.out, HB.out⟩
          case measure => simp [intOf]; omega
      · by_cases h4 : i.op.toNat = 4
        · have ha : addZ st i.op = some (st ++ [i.op], false) := by unfold addZ; rw [if_pos (opens_iff.2 (by omega))]
          rw [ha] at hstep
          have hc2 := clean_add hcl ha
          have HS := Lib.hid hstep
          have HC := Lib.hid hc2
          have HO : Hid (S t ++ { data := #[105] } = S ((st ++ [i.op]).map opc)) := by
            show S t ++ S [105] = _
            rw [S_append, List.map_append, HTT.out, op_is (n := 4) h4 (by decide)]
            rfl
          have q : (S t).size + 1 ≤ 9223372036854775807 := by omega
          clear hst hb k0 hi hstep ha hc2 hcl ht
          rw [h4] at m0
          go_wp2
          go_roundw
          case rel => exact ⟨k + 1, st ++ [i.op], by omega, by go_num, by rw [HO.out], by simp; omega, HC.out, HS.out, HB.out⟩
          case measure => simp [intOf]; omega
        · have d2 : ((i.op.toNat : Int) == 2) = false := by simp; omega
          have d3 : ((i.op.toNat : Int) == 3) = false := by simp; omega
          have d4 : ((i.op.toNat : Int) == 4) = false := by simp; omega
          have himm : ¬ immR i.op.toNat = 1 := fun e => by have := opens_iff.1 e; omega
          by_cases h5 : i.op.toNat = 5
          · have e5 : i.op = 5 := op_is (n := 5) h5 (by decide)
            rw [e5] at hstep himm
            by_cases h0 : st = []
            · have ha : addZ st 5 = none := by unfold addZ; rw [if_neg himm, if_pos rfl, h0, if_neg (by simp)]
              rw [ha] at hstep
              have HS := Lib.hid hstep
              have z0 : (S t).toList.isEmpty = true := by rw [S_toList, HTT.out, h0]; rfl
              clear hst hb k0 hi hstep ha hcl ht h0
              rw [h5] at m0
              go_wp2
              go_ret2
              exact ⟨0, k, rfl, by rw [HS.out]; simp, HB.out⟩
            · obtain ⟨x, hx⟩ : ∃ x, st.getLast? = some x := by cases h : st.getLast? with
                | none => exact absurd (List.getLast?_eq_none_iff.1 h) h0
                | some x => exact ⟨x, rfl⟩
              have z0 : (S t).toList.isEmpty = false := by
                rw [S_toList, HTT.out]
                cases st with
                | nil => exact absurd rfl h0
                | cons a r => rfl
              obtain ⟨u, hu⟩ : ∃ u, st.length = u + 1 := ⟨st.length - 1, by have := List.length_pos_iff.2 h0; omega⟩
              have hsu : (S t).size = u + 1 := by omega
              have hlu : u < (S t).size := by omega
              have hgl : t[u]? = some (opc x) := by have := last_map hx; rw [hu, Nat.add_sub_cancel] at this; rw [HTT.out]; exact this
              have hgx : (S t)[u]'hlu = opc x := by
                rw [S_get t u hlu]
                exact (List.getElem?_eq_some_iff.1 hgl).2
              have hcmp : ((((S t)[u]'hlu).toNat : Int) != 105) = decide (x ≠ 4) := by rw [hgx]; exact opc_i hcl hx
              have e1 : ((u + 1 : Nat) : Int) - 1 = u := by omega
              by_cases hx4 : x = 4
              · have hl4 : st.getLast? = some 4 := by rw [hx, hx4]
                have ha : addZ st 5 = some (st.dropLast ++ [5], false) := by unfold addZ; rw [if_neg himm, if_pos rfl, if_pos hl4]
                rw [ha] at hstep
                have hc2 := clean_add hcl ha
                have HS := Lib.hid hstep
                have HC := Lib.hid hc2
                have hcm : ((((S t)[u]'hlu).toNat : Int) != 105) = false := by rw [hcmp, hx4]; rfl
                have hsl2 : ∀ wx, (Instr.slice 9 (.string (S t)) none (some (.int .i64 (u : Int))) none).run Tryd.prog wx = .ok (.string (S (t.take u))) wx := fun wx => by
                  have := run_slice_string_h (P := Tryd.prog) wx 9 (S t) Tryd.underlying9 .i64 (u : Int) (by omega) (by omega)
                  rw [this, S_extract]
                  simp
                have htk : t.take u = st.dropLast.map opc := by rw [HTT.out, ← map_dropLast, hu, Nat.add_sub_cancel]
                obtain ⟨t2, ht2⟩ : ∃ t2, t2 = t.take u := ⟨_, rfl⟩
                rw [← ht2] at hsl2 htk
                have HTK := Lib.hid htk
                have hs2 := S_size t2
                have hl2 : t2.length ≤ 20000 := by rw [ht2, List.length_take]; omega
                have q : (S t2).size + 1 ≤ 9223372036854775807 := by omega
                have HO : Hid (S t2 ++ { data := #[101] } = S ((st.dropLast ++ [5]).map opc)) := by
                  show S t2 ++ S [101] = _
                  rw [S_append, List.map_append, HTK.out]
                  rfl
                have HLU := Lib.hid hu
                clear hst hb k0 hi hstep ha hc2 hcl ht ht2 htk hx hgl hgx hcmp hl4 h0 hx4
                rw [h5] at m0
                go_wp2
                go_roundw
                case rel => exact ⟨k + 1, st.dropLast ++ [5], by omega, by go_num, by rw [HO.out], by simp; have := HLU.out; omega, HC.out, HS.out, HB.out⟩
                case measure => simp [intOf]; omega
              · have ha : addZ st 5 = none := by unfold addZ; rw [if_neg himm, if_pos rfl, hx, if_neg (by simpa using hx4)]
                rw [ha] at hstep
                have HS := Lib.hid hstep
                have hcm : ((((S t)[u]'hlu).toNat : Int) != 105) = true := by rw [hcmp]; simpa using hx4
                clear hst hb k0 hi hstep ha hcl ht hx hgl hgx hcmp h0 hx4
                rw [h5] at m0
                go_wp2
                go_ret2
                exact ⟨0, k, rfl, by rw [HS.out]; simp, HB.out⟩
          · have d5 : ((i.op.toNat : Int) == 5) = false := by simp; omega
            have n5 : i.op ≠ 5 := fun e => h5 (by rw [e]; rfl)
            by_cases h11 : i.op.toNat = 11
            · have e11 : i.op = 11 := op_is (n := 11) h11 (by decide)
              rw [e11] at hstep himm
              by_cases h0 : st = []
              · have ha : addZ st 11 = some (st, true) := by rw [addZ_11, if_pos h0, if_pos h0]
                rw [ha] at hstep
                have z0 : (S t).toList.isEmpty = true := by rw [S_toList, HTT.out, h0]; rfl
                have HS : Hid (shapeGo [] (opsOf l) = true ↔ (((k : Int) + 1 ≠ 0) ∧ (k : Int) + 1 = n)) := by
                  have h : Stand l (k + 1) st true := hstep
                  unfold Stand at h
                  rw [if_pos rfl] at h
                  show _ ↔ _
                  rw [h, List.isEmpty_iff, List.drop_eq_nil_iff]
                  unfold opsOf
                  rw [List.length_map, ← HNN.out]
                  omega
                clear hst hb k0 hi hstep ha hcl ht h0
                rw [h11] at m0
                go_wp2
                go_ret2
                exact ⟨(k : Int) + 1, -1, rfl, by rw [← HNN.out]; exact HS.out, HB.out⟩
              · have ha : addZ st 11 = some (st.dropLast, false) := by rw [addZ_11, if_neg h0, if_neg h0]
                rw [ha] at hstep
                have hc2 := clean_add hcl ha
                have HS := Lib.hid hstep
                have HC := Lib.hid hc2
                have z0 : (S t).toList.isEmpty = false := by
                  rw [S_toList, HTT.out]
                  cases st with
                  | nil => exact absurd rfl h0
                  | cons a r => rfl
                obtain ⟨u, hu⟩ : ∃ u, st.length = u + 1 := ⟨st.length - 1, by have := List.length_pos_iff.2 h0; omega⟩
                have hsu : (S t).size = u + 1 := by omega
                have e1 : ((u + 1 : Nat) : Int) - 1 = u := by omega
                have hsl2 : ∀ wx, (Instr.slice 9 (.string (S t)) none (some (.int .i64 (u : Int))) none).run Tryd.prog wx = .ok (.string (S (t.take u))) wx := fun wx => by
                  have := run_slice_string_h (P := Tryd.prog) wx 9 (S t) Tryd.underlying9 .i64 (u : Int) (by omega) (by omega)
                  rw [this, S_extract]
                  simp
                have HTK := Lib.hid (show t.take u = st.dropLast.map opc by rw [HTT.out, ← map_dropLast, hu, Nat.add_sub_cancel])
                have HLU := Lib.hid hu
                clear hst hb k0 hi hstep ha hc2 hcl ht h0
                rw [h11] at m0
                go_wp2
                go_roundw
                case rel => exact ⟨k + 1, st.dropLast, by omega, by go_num, by rw [HTK.out], by simp; have := HLU.out; omega, HC.out, HS.out, HB.out⟩
                case measure => simp [intOf]; omega
            · have d11 : ((i.op.toNat : Int) == 11) = false := by simp; omega
              have n11 : i.op ≠ 11 := fun e => h11 (by rw [e]; rfl)
              have ha : addZ st i.op = some (st, false) := by unfold addZ; rw [if_neg himm, if_neg n5, if_neg n11]
              rw [ha] at hstep
              have HS := Lib.hid hstep
              have HC := Lib.hid hcl
              clear hst hb k0 hi hstep ha hcl
              rw [ht]
              go_wp2
              go_roundw
              case rel => exact ⟨k + 1, st, by omega, by go_num, rfl, by omega, HC.out, HS.out, HB.out⟩
              case measure => simp [intOf]; omega
    · obtain rfl : k = n := by omega
      have HS : Hid (shapeGo [] (opsOf l) = false) := by
        have h := hst
        unfold Stand at h
        rw [if_neg (by simp), List.drop_eq_nil_of_le (by unfold opsOf; rw [List.length_map, HNN.out]; exact Nat.le_refl _)] at h
        show _ = _
        rw [h]
        unfold shapeGo
        rfl
      clear hst hb hcl
      go_wp2
      go_ret2
      exact ⟨0, -1, rfl, by rw [HS.out]; simp, HB.out⟩
theorem refShape_any {w : World} {A : Option Addr} {c : Nat} {l : List I} (hl : Ins w A l) (hn : l.length ≤ 20000) :
    Calls Tryd.prog 13 #[.slice A l.length c] w (IntPost (shapeZ l) w) := by
  have HW := Lib.hid (walk_any (c := c) hl hn)
  have g0 : decide (20000 < (l.length : Int)) = false := decide_eq_false (by omega)
  by_cases hs : shapeGo [] (opsOf l) = true
  · have HE := Lib.hid (show shapeZ l = 0 by unfold shapeZ; rw [if_pos hs])
    have HW2 := Lib.hid (show Calls Tryd.prog 31 #[.slice A l.length c] w fun e w' => ∃ m x : Int, e = .returned (.tuple #[.int .i64 m, .int .i64 x]) ∧ (m ≠ 0 ∧ m = l.length) ∧ Below w.heap.size w w' from HW.out.mono fun e w' ⟨m, x, h1, h2, h3⟩ => ⟨m, x, h1, h2.1 hs, h3⟩)
    clear hs hl HW
    go_enter Tryd.func13, Tryd.ntmps13
    go_wp2_with (go_at_call 31; go_must ((with_reducible refine HW2.out.mono ?_); intro e w1 hq; obtain ⟨m, x, rfl, ⟨hm0, hm1⟩, hb⟩ := hq; have z1 : (m == 0) = false := (by simpa using hm0); have z2 : (m != (l.length : Int)) = false := (by simpa using hm1); have HB := Lib.hid hb; clear hb hm0 hm1))
    go_ret
    exact ret_below HE.out.symm HB.out
  · have HE := Lib.hid (show shapeZ l = 30 by unfold shapeZ; rw [if_neg hs])
    have HW2 := Lib.hid (show Calls Tryd.prog 31 #[.slice A l.length c] w fun e w' => ∃ m x : Int, e = .returned (.tuple #[.int .i64 m, .int .i64 x]) ∧ (m = 0 ∨ m ≠ l.length) ∧ Below w.heap.size w w' from HW.out.mono fun e w' ⟨m, x, h1, h2, h3⟩ => ⟨m, x, h1, by
      by_cases g : m = 0
      · exact .inl g
      · exact .inr (fun g2 => hs (h2.2 ⟨g, g2⟩)), h3⟩)
    clear hs hl HW
    go_enter Tryd.func13, Tryd.ntmps13
    go_wp2_with (go_at_call 31; go_must ((with_reducible refine HW2.out.mono ?_); intro e w1 hq; obtain ⟨m, x, rfl, hm, hb⟩ := hq; have HB := Lib.hid hb; clear hb))
    all_goals first
      | (go_ret; exact ret_below HE.out.symm HB.out)
      | (go_wp2; go_ret; exact ret_below HE.out.symm HB.out)
      | (exfalso; rename_i h1 h2; have h3 : m = l.length := (by simpa using h2.2); omega)
end Go.Proofs.YtlicdmbmgjflpaaDoor

/- PutBody; the reference's SameAll. -/
namespace Go.Proofs.YtlicdmbmgjflpaaDoor
open Go.RowKit
set_option linter.unusedVariables false
set_option maxRecDepth 100000

/-- The first error of one. -/
def errZ : List I → Int
  | [] => 0
  | i :: r => if rightZ i ≠ 0 then rightZ i else errZ r
theorem errZ_drop {l : List I} {k : Nat} {i : I} (h : l[k]? = some i) : errZ (l.drop k) = if rightZ i ≠ 0 then rightZ i else errZ (l.drop (k + 1)) := by
  obtain ⟨hj3, hj4⟩ := List.getElem?_eq_some_iff.1 h
  rw [List.drop_eq_getElem_cons hj3, hj4]
  rfl
theorem errZ_all : ∀ {l : List I}, errZ l = 0 → ∀ i ∈ l, rightZ i = 0
  | [], _, i, hi => by cases hi
  | j :: r, h, i, hi => by
    unfold errZ at h
    by_cases hj : rightZ j ≠ 0
    · rw [if_pos hj] at h; exact absurd h hj
    · rw [if_neg hj] at h
      rcases List.mem_cons.1 hi with rfl | hi
      · omega
      · exact errZ_all h i hi
/-- What PutBody tells. -/
def codeZ (l : List I) : Int := if shapeZ l = 0 then errZ l else shapeZ l
theorem putL_len {i : I} (h : i.Ok) (hl : i.l.length ≤ 100) : (putL i).length ≤ 1100 := by
  obtain ⟨a0, a1, b0, b1, hl0⟩ := h
  have k1 := lebL_len i.a (by omega)
  have k2 := lebL_len i.b (by omega)
  have k3 := lebL_len (i.l.length : Int) (by omega)
  have k4 := labsL_len i.l hl0
  have k5 := sebL_len (s32 i.a) (by unfold s32; omega) (by unfold s32; omega)
  have k6 := sebL_len (s64 i.a) (by unfold s64; omega) (by unfold s64; omega)
  have key : (immL i).length ≤ 1050 := by
    unfold immL immB labL
    repeat' split
    all_goals (try simp only [List.length_append, List.length_cons, List.length_nil])
    all_goals omega
  unfold putL
  rw [List.length_cons]
  omega
theorem bodyL_len : ∀ l : List I, (∀ i ∈ l, i.Ok ∧ i.l.length ≤ 100) → (bodyL l).length ≤ l.length * 1100
  | [], _ => by simp [bodyL]
  | i :: r, h => by
    have h1 := bodyL_len r (fun j hj => h j (List.mem_cons_of_mem _ hj))
    have h2 := putL_len (h i (by simp)).1 (h i (by simp)).2
    unfold bodyL at h1 ⊢
    rw [List.flatMap_cons, List.length_append, List.length_cons]
    omega
def PutBPost (l : List I) (w : World) (e : Ending) (w' : World) : Prop :=
  ∃ v, e = .returned (.tuple #[v, .int .i64 (codeZ l)]) ∧ Row w' w.heap.size v (if codeZ l = 0 then bodyL l else []) ∧ Below w.heap.size w w'
theorem putB_no {l : List I} {c : Int} {w w' : World} (h : codeZ l = c) (hc : c ≠ 0) (hb : Below w.heap.size w w') : PutBPost l w (.returned (.tuple #[.slice none 0 0, .int .i64 c])) w' := by
  subst h
  exact ⟨_, rfl, by rw [if_neg hc]; exact Row.nil _ _, hb⟩
theorem putB_yes {l : List I} {v : Value} {w w' : World} (h : codeZ l = 0) (hr : Row w' w.heap.size v (bodyL l)) (hb : Below w.heap.size w w') : PutBPost l w (.returned (.tuple #[v, .int .i64 0])) w' :=
  ⟨v, by rw [h], by rw [if_pos h]; exact hr, hb⟩
set_option maxHeartbeats 1000000 in
theorem putBody_any {w : World} {A : Option Addr} {c : Nat} {l : List I} (hT : Tabs w) (hl : Ins w A l) (hn : l.length ≤ 60) (hok : ∀ i ∈ l, i.Ok ∧ i.l.length ≤ 100) :
    Calls Tryd.prog 14 #[.slice A l.length c] w (PutBPost l w) := by
  have HL := Lib.hid hl
  have HT := Lib.hid hT
  have HOK := Lib.hid hok
  have HSH := Lib.hid (shape_any (c := c) hT hl (by omega))
  obtain ⟨z, hz⟩ : ∃ z, z = shapeZ l := ⟨_, rfl⟩
  rw [← hz] at HSH
  obtain ⟨n, hnn⟩ : ∃ n, n = l.length := ⟨_, rfl⟩
  rw [← hnn] at HSH hn ⊢
  have HNN := Lib.hid hnn
  clear hT hl hok hnn
  by_cases hz0 : z = 0
  · have HC : Hid (codeZ l = errZ l) := by show _ = _; unfold codeZ; rw [← hz, if_pos hz0]
    subst hz0
    clear hz
    go_enter Tryd.func14, Tryd.ntmps14
    go_wp2_with (go_at_call 15; go_must ((with_reducible refine HSH.out.mono ?_); rintro e w1 ⟨rfl, hb⟩; have HB1 := Lib.hid hb; clear hb))
    go_loopw [5, 17] (fun v i wr => ∃ k : Nat, k ≤ n ∧ i = .int .i64 k ∧ Row wr w.heap.size v (bodyL (l.take k)) ∧ errZ l = errZ (l.drop k) ∧ Below w.heap.size w wr) (fun _ i _ => n - (intOf i).toNat)
    case atStart => exact ⟨0, Nat.zero_le _, rfl, Row.nil _ _, rfl, HB1.out⟩
    case round =>
      obtain ⟨k, hk, rfl, hr, he, hb⟩ := hrel
      have hz1 := hb.size
      by_cases hlt : k < n
      · obtain ⟨i, hi⟩ : ∃ i, l[k]? = some i := ⟨_, List.getElem?_eq_getElem (by rw [← HNN.out]; exact hlt)⟩
        obtain ⟨b, off, B, cc, rfl, hbl, ⟨k0, k1, k2, k3⟩, hlab⟩ := HL.out k i hi
        have m0 := (hb.cell (p := ⟨b, off + k * 4, none⟩) hbl).trans k0
        have m1 := (hb.cell (p := ⟨b, off + k * 4 + 1, none⟩) hbl).trans k1
        have m2 := (hb.cell (p := ⟨b, off + k * 4 + 2, none⟩) hbl).trans k2
        have m3 := (hb.cell (p := ⟨b, off + k * 4 + 3, none⟩) hbl).trans k3
        obtain ⟨hok, hll⟩ := HOK.out i (List.mem_of_getElem? hi)
        have HB := Lib.hid (hb.alloc hz1 (.cells (insC i B cc) 25))
        have HR := Lib.hid (hr.alloc (.cells (insC i B cc) 25))
        have HPU := Lib.hid (put_any i B cc (wr.alloc (.cells (insC i B cc) 25)) hok (HT.out.below HB.out) (hlab.below HB.out) (by omega))
        have hlen : (bodyL (l.take k)).length ≤ 66000 := by
          have h1 := bodyL_len (l.take k) (fun j hj => HOK.out j (List.mem_of_mem_take hj))
          have h2 : (l.take k).length ≤ k := by rw [List.length_take]; omega
          omega
        have hpl := putL_len hok hll
        have hs1 : w.heap.size ≤ (wr.alloc (.cells (insC i B cc) 25)).heap.size := by rw [size_box]; omega
        rw [errZ_drop hi] at he
        have HSN := Lib.hid (bodyL_snoc hi)
        by_cases hri : rightZ i = 0
        · rw [if_neg (by omega)] at he
          have HE := Lib.hid he
          have HP2 := Lib.hid (show Calls Tryd.prog 7 #[insV i B cc] (wr.alloc (.cells (insC i B cc) 25)) fun e w' => ∃ v, e = .returned (.tuple #[v, .int .i64 0]) ∧ Row w' (wr.alloc (.cells (insC i B cc) 25)).heap.size v (putL i) ∧ Below (wr.alloc (.cells (insC i B cc) 25)).heap.size (wr.alloc (.cells (insC i B cc) 25)) w' from HPU.out.mono fun e w' ⟨v, h1, h2, h3⟩ => ⟨v, by rw [hri] at h1; exact h1, by rw [if_pos hri] at h2; exact h2, h3⟩)
          obtain ⟨y, hy⟩ : ∃ y, y = putL i := ⟨_, rfl⟩
          rw [← hy] at HP2 hpl HSN
          clear hr he hb k0 k1 k2 k3 hi hlab hok HPU hri hy
          go_wp2_with (first
            | (at_builtin; (refine row_any rfl _ _ rfl w.heap.size _ (bodyL (l.take k)) rfl HR2.out A2 y.length c2 _ y rfl rfl HL2.out HA2.out (by omega) hs2 ?_; intro v3 w3 hr3 hb3; have HR3 := Lib.hid hr3; have HB3 := Lib.hid hb3; clear hr3 hb3))
            | (go_at_call 7; go_must ((with_reducible refine HP2.out.mono ?_); intro e w2 hq; obtain ⟨v2, rfl, hr2, hb2⟩ := hq; obtain ⟨A2, c2, rfl, hl2, hA2, _⟩ := hr2.liesN; have HR2 := Lib.hid (HR.out.later hb2); have HB2 := Lib.hid (HB.out.trans (hb2.mono hs1)); have HL2 := Lib.hid hl2; have HA2 := Lib.hid hA2; have hs2 : w.heap.size ≤ w2.heap.size := Nat.le_trans hs1 hb2.size; clear hr2 hb2 hl2 hA2)))
          go_roundw
          case rel => exact ⟨k + 1, by omega, by go_num, by rw [HSN.out]; exact HR3.out, HE.out, HB2.out.trans HB3.out⟩
          case measure => simp [intOf]; omega
        · rw [if_pos hri] at he
          have HE := Lib.hid (show codeZ l = rightZ i from HC.out.trans he)
          have HZN := Lib.hid hri
          have hzb : (rightZ i != 0) = true := by simpa using hri
          have HP2 := Lib.hid (show Calls Tryd.prog 7 #[insV i B cc] (wr.alloc (.cells (insC i B cc) 25)) fun e w' => ∃ v, e = .returned (.tuple #[v, .int .i64 (rightZ i)]) ∧ Below (wr.alloc (.cells (insC i B cc) 25)).heap.size (wr.alloc (.cells (insC i B cc) 25)) w' from HPU.out.mono fun e w' ⟨v, h1, h2, h3⟩ => ⟨v, h1, h3⟩)
          obtain ⟨zi, hzi⟩ : ∃ zi, zi = rightZ i := ⟨_, rfl⟩
          rw [← hzi] at HE HZN hzb HP2
          clear hr he hb k0 k1 k2 k3 hi hlab hok HPU hri hzi
          go_wp2_with (go_at_call 7; go_must ((with_reducible refine HP2.out.mono ?_); intro e w2 hq; obtain ⟨v2, rfl, hb2⟩ := hq; have HB2 := Lib.hid (HB.out.trans (hb2.mono hs1)); clear hb2))
          go_ret2
          exact putB_no HE.out HZN.out HB2.out
      · obtain rfl : k = n := by omega
        have HE : Hid (codeZ l = 0) := by
          show _ = _
          rw [HC.out, he, List.drop_eq_nil_of_le (by rw [← HNN.out]; exact Nat.le_refl _)]
          rfl
        rw [List.take_of_length_le (by rw [← HNN.out]; exact Nat.le_refl _)] at hr
        have HR := Lib.hid hr
        have HB := Lib.hid hb
        clear hr he hb
        go_wp2
        go_ret2
        exact putB_yes HE.out HR.out HB.out
  · have HC := Lib.hid (show codeZ l = z by unfold codeZ; rw [← hz, if_neg hz0])
    have HZN := Lib.hid hz0
    have hzb : (z != 0) = true := by simpa using hz0
    clear hz hz0
    go_enter Tryd.func14, Tryd.ntmps14
    go_wp2_with (go_at_call 15; go_must ((with_reducible refine HSH.out.mono ?_); rintro e w1 ⟨rfl, hb⟩; have HB1 := Lib.hid hb; clear hb))
    go_ret2
    exact putB_no HC.out HZN.out HB1.out
/-- Both lists, wherever they lie. -/
def Two (A B : Option Addr) (l : List I) (W : World) : Prop := Ins W A l ∧ Ins W B l
theorem Two.on {A B : Option Addr} {l : List I} {W W' : World} (h : Two A B l W) (hb : Below W.heap.size W W') : Two A B l W' := ⟨h.1.below hb, h.2.below hb⟩
/-- .. and what they read as at k. -/
abbrev TwoAt (b1 o1 b2 o2 : Nat) (B1 B2 : Option Addr) (c1 c2 : Nat) (i : I) (k : Nat) (W : World) : Prop :=
  (W.cell? ⟨b1, o1 + k * 4, none⟩ = some (.int .u8 i.op.toNat) ∧ W.cell? ⟨b1, o1 + k * 4 + 1, none⟩ = some (.int .u64 i.a) ∧ W.cell? ⟨b1, o1 + k * 4 + 2, none⟩ = some (.int .u64 i.b) ∧ W.cell? ⟨b1, o1 + k * 4 + 3, none⟩ = some (.slice B1 i.l.length c1)) ∧
  (W.cell? ⟨b2, o2 + k * 4, none⟩ = some (.int .u8 i.op.toNat) ∧ W.cell? ⟨b2, o2 + k * 4 + 1, none⟩ = some (.int .u64 i.a) ∧ W.cell? ⟨b2, o2 + k * 4 + 2, none⟩ = some (.int .u64 i.b) ∧ W.cell? ⟨b2, o2 + k * 4 + 3, none⟩ = some (.slice B2 i.l.length c2))
set_option maxHeartbeats 1000000 in
theorem sameAll_any {w : World} {A B : Option Addr} {c d : Nat} {l : List I} (h1 : Ins w A l) (h2 : Ins w B l) (hn : l.length ≤ 1000) (hll : ∀ i ∈ l, i.l.length ≤ 100) :
    Calls Tryd.prog 17 #[.slice A l.length c, .slice B l.length d] w (BoolPost true w) := by
  have H1 := Lib.hid h1
  have H2 := Lib.hid h2
  have HLL := Lib.hid hll
  obtain ⟨n, hnn⟩ : ∃ n, n = l.length := ⟨_, rfl⟩
  rw [← hnn] at hn ⊢
  have HNN := Lib.hid hnn
  clear h1 h2 hll hnn
  go_enter Tryd.func17, Tryd.ntmps17
  go_wp2
  go_loopw [5] (fun i wr => ∃ k : Nat, k ≤ n ∧ i = .int .i64 k ∧ Below w.heap.size w wr) (fun i _ => n - (intOf i).toNat)
  case atStart => exact ⟨0, Nat.zero_le _, rfl, Below.refl _ _⟩
  case round =>
    obtain ⟨k, hk, rfl, hb⟩ := hrel
    by_cases hlt : k < n
    · obtain ⟨i, hi⟩ : ∃ i, l[k]? = some i := ⟨_, List.getElem?_eq_getElem (by rw [← HNN.out]; exact hlt)⟩
      obtain ⟨b1, o1, B1, c1, rfl, hb1, ⟨k0, k1, k2, k3⟩, hl1⟩ := H1.out k i hi
      obtain ⟨b2, o2, B2, c2, rfl, hb2, ⟨q0, q1, q2, q3⟩, hl2⟩ := H2.out k i hi
      have hat : ∀ W, Below w.heap.size w W → TwoAt b1 o1 b2 o2 B1 B2 c1 c2 i k W := fun W h =>
        ⟨⟨(h.cell (p := ⟨b1, _, none⟩) hb1).trans k0, (h.cell (p := ⟨b1, _, none⟩) hb1).trans k1, (h.cell (p := ⟨b1, _, none⟩) hb1).trans k2, (h.cell (p := ⟨b1, _, none⟩) hb1).trans k3⟩,
          ⟨(h.cell (p := ⟨b2, _, none⟩) hb2).trans q0, (h.cell (p := ⟨b2, _, none⟩) hb2).trans q1, (h.cell (p := ⟨b2, _, none⟩) hb2).trans q2, (h.cell (p := ⟨b2, _, none⟩) hb2).trans q3⟩⟩
      have HAT := Lib.hid hat
      have HS := Lib.hid (fun W (h : Below w.heap.size w W) => (by
        have hll := HLL.out i (List.mem_of_getElem? hi)
        have := refSame_any (w := W) (c := c1) (d := c2) (i := i) (k := i) (hl1.below h) (hl2.below h) (by omega) (by omega)
        have e : sameZ i i = true := by unfold sameZ; simp
        rw [e] at this
        exact this : Calls Tryd.prog 10 #[insV i B1 c1, insV i B2 c2] W (BoolPost true W)))
      have HB := Lib.hid hb
      clear hi k0 k1 k2 k3 q0 q1 q2 q3 hl1 hl2 hat hb
      go_wp2_with fail
      refine wp_region_noPanic ?_
      refine wp_region_held_drew (S := fun W => Below w.heap.size w W ∧ TwoAt b1 o1 b2 o2 B1 B2 c1 c2 i k W) (by kernel_rfl) ⟨HB.out.drew, HAT.out _ HB.out.drew⟩ (fun hHeld => ?_)
      (refine heldTake (i := 0) (oi := { dst := some 17, op := Op.move (Operand.tmp 0), type := 40, pos := "ref.go:216", after := #[], guard := none }) (v := ?_) rfl (by kernel_rfl) (by kernel_rfl) (by kernel_rfl) (by assumption) ?_ ?_; rotate_left; focus (refine .inl ⟨by kernel_rfl, ?_⟩; intro w hSw; (try dsimp only at hSw); go_simp; (try with_reducible rfl)); (try simp only [Act.put, List.setIfInBounds_toArray, List.set_cons_zero, List.set_cons_succ]))
      (refine heldTake (i := 1) (oi := { dst := some 18, op := Op.move (Operand.tmp 5), type := 3, pos := "ref.go:216", after := #[], guard := none }) (v := ?_) rfl (by kernel_rfl) (by kernel_rfl) (by kernel_rfl) (by assumption) ?_ ?_; rotate_left; focus (refine .inl ⟨by kernel_rfl, ?_⟩; intro w hSw; (try dsimp only at hSw); go_simp; (try with_reducible rfl)); (try simp only [Act.put, List.setIfInBounds_toArray, List.set_cons_zero, List.set_cons_succ]))
      (refine heldTake (i := 2) (oi := { dst := some 19, op := Op.indexAddr 40 (Operand.tmp 17) (Operand.tmp 18), type := 0, pos := "ref.go:216", after := #[{ on := 0, ground := Ground.data }, { on := 1, ground := Ground.data }], guard := none }) (v := ?_) rfl (by kernel_rfl) (by kernel_rfl) (by kernel_rfl) (by assumption) ?_ ?_; rotate_left; focus (refine .inl ⟨by kernel_rfl, ?_⟩; intro w hSw; (try dsimp only at hSw); go_simp; (try with_reducible rfl)); (try simp only [Act.put, List.setIfInBounds_toArray, List.set_cons_zero, List.set_cons_succ]))
      (refine heldTake (i := 3) (oi := { dst := some 20, op := Op.load 25 (Operand.tmp 19), type := 25, pos := "ref.go:216", after := #[{ on := 2, ground := Ground.data }], guard := none }) (v := ?_) rfl (by kernel_rfl) (by kernel_rfl) (by kernel_rfl) (by assumption) ?_ ?_; rotate_left; focus (refine .inl ⟨by kernel_rfl, ?_⟩; intro w hSw; (try dsimp only at hSw); go_simp; (try with_reducible rfl)); (try simp only [Act.put, List.setIfInBounds_toArray, List.set_cons_zero, List.set_cons_succ]))
      (refine heldTake (i := 4) (oi := { dst := some 21, op := Op.move (Operand.tmp 1), type := 40, pos := "ref.go:216", after := #[], guard := none }) (v := ?_) rfl (by kernel_rfl) (by kernel_rfl) (by kernel_rfl) (by assumption) ?_ ?_; rotate_left; focus (refine .inl ⟨by kernel_rfl, ?_⟩; intro w hSw; (try dsimp only at hSw); go_simp; (try with_reducible rfl)); (try simp only [Act.put, List.setIfInBounds_toArray, List.set_cons_zero, List.set_cons_succ]))
      (refine heldTake (i := 5) (oi := { dst := some 22, op := Op.move (Operand.tmp 5), type := 3, pos := "ref.go:216", after := #[], guard := none }) (v := ?_) rfl (by kernel_rfl) (by kernel_rfl) (by kernel_rfl) (by assumption) ?_ ?_; rotate_left; focus (refine .inl ⟨by kernel_rfl, ?_⟩; intro w hSw; (try dsimp only at hSw); go_simp; (try with_reducible rfl)); (try simp only [Act.put, List.setIfInBounds_toArray, List.set_cons_zero, List.set_cons_succ]))
      (refine heldTake (i := 6) (oi := { dst := some 23, op := Op.indexAddr 40 (Operand.tmp 21) (Operand.tmp 22), type := 0, pos := "ref.go:216", after := #[{ on := 4, ground := Ground.data }, { on := 5, ground := Ground.data }], guard := none }) (v := ?_) rfl (by kernel_rfl) (by kernel_rfl) (by kernel_rfl) (by assumption) ?_ ?_; rotate_left; focus (refine .inl ⟨by kernel_rfl, ?_⟩; intro w hSw; (try dsimp only at hSw); go_simp; (try with_reducible rfl)); (try simp only [Act.put, List.setIfInBounds_toArray, List.set_cons_zero, List.set_cons_succ]))
      (refine heldTake (i := 7) (oi := { dst := some 24, op := Op.load 25 (Operand.tmp 23), type := 25, pos := "ref.go:216", after := #[{ on := 6, ground := Ground.data }], guard := none }) (v := ?_) rfl (by kernel_rfl) (by kernel_rfl) (by kernel_rfl) (by assumption) ?_ ?_; rotate_left; focus (refine .inl ⟨by kernel_rfl, ?_⟩; intro w hSw; (try dsimp only at hSw); go_simp; (try with_reducible rfl)); (try simp only [Act.put, List.setIfInBounds_toArray, List.set_cons_zero, List.set_cons_succ]))
      refine wpAnyH_ready (rs := [8]) (by kernel_rfl) (by simp) ?_
      refine AllReadyH.cons (o := { dst := some 25, op := Op.call { callee := Callee.value (Operand.func 10), args := #[Operand.tmp 20, Operand.tmp 24], argTypes := #[25, 25] }, type := 4, pos := "ref.go:216", after := #[{ on := 3, ground := Ground.data }, { on := 7, ground := Ground.data }], guard := none }) rfl (fun K hK => ?_) AllReadyH.nil
      go_simp
      (go_at_call 10; (with_reducible refine (HS.out _ (And.left hHeld)).mono ?_); rintro e w3 ⟨rfl, hb3⟩; have hk3 := And.left hHeld; have hz3 := hk3.size; have hk4 := hk3.trans (hb3.mono hz3); clear hb3 hk3)
      refine hK.out _ _ ⟨hk4, HAT.out _ hk4⟩ (fun hHeld8 => ?_)
      clear hK K hHeld
      (try simp only [Act.put, List.setIfInBounds_toArray, List.set_cons_zero, List.set_cons_succ])
      (refine heldTake (i := 9) (oi := { dst := some 26, op := Op.unOp UnOp.not 4 (Operand.tmp 25), type := 4, pos := "ref.go:216", after := #[{ on := 8, ground := Ground.data }], guard := none }) (v := ?_) rfl (by kernel_rfl) (by kernel_rfl) (by kernel_rfl) (by assumption) ?_ ?_; rotate_left; focus (refine .inl ⟨by kernel_rfl, ?_⟩; intro w hSw; (try dsimp only at hSw); go_simp; (try with_reducible rfl)); (try simp only [Act.put, List.setIfInBounds_toArray, List.set_cons_zero, List.set_cons_succ]))
      refine wpAnyH_done (by kernel_rfl) ?_ _
      refine NoPanic.normal ?_
      have hLast := hHeld8
      clear hHeld8
      go_wp2
      go_roundw
      case rel => exact ⟨k + 1, by omega, by go_num, And.left hLast⟩
      case measure => simp [intOf]; omega
    · obtain rfl : k = n := by omega
      have HB := Lib.hid hb
      clear hb
      go_wp2
      go_ret
      exact ⟨rfl, HB.out⟩
end Go.Proofs.YtlicdmbmgjflpaaDoor
