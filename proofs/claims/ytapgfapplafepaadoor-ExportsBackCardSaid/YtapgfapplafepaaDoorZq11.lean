/- exports.Find, Twice (with its set of names), Names; creelref11.Twice, Names, SameTexts. -/
import Derived.Test.YtapgfapplafepaaDoorZq10
import Derived.Maps.OwnSet
import Derived.Maps.AppendAt
import Derived.StringKeys
import Derived.Deep.QuietTactic
import Derived.BigQuiet
import Derived.StillTailTactics
import Derived.Deep.DeepMust
namespace Go.Proofs.YtapgfapplafepaaDoor
open Go.RowKit Go.Maps
set_option linter.unusedVariables false
set_option maxRecDepth 100000

/-- The first of a name. -/
def fdE (nm : List UInt8) : List Ex → Option Ex
  | [] => none
  | x :: r => if x.nam = nm then some x else fdE nm r
theorem fdE_drop {nm : List UInt8} {l : List Ex} {k : Nat} {x : Ex} (h : l[k]? = some x) : fdE nm (l.drop k) = if x.nam = nm then some x else fdE nm (l.drop (k + 1)) := by
  obtain ⟨h1, h2⟩ := List.getElem?_eq_some_iff.1 h
  rw [List.drop_eq_getElem_cons h1, h2]
  rfl
def fdV (r : Option Ex) : Value := match r with
  | some x => .tuple #[exV x, .bool true]
  | none => .tuple #[.agg #[.string { data := #[] }, .int .u8 0, .int .u32 0], .bool false]
set_option maxHeartbeats 2000000 in
theorem find_ex {w : World} {A : Option Addr} {c : Nat} {l : List Ex} (nm : List UInt8) (hl : Exs w A l) (hn1 : l.length ≤ 10000) :
    Calls Tryd.prog 42 #[.slice A l.length c, .string (S nm)] w fun e w' => e = .returned (fdV (fdE nm l)) ∧ Below w.heap.size w w' := by
  have HL := Lib.hid hl
  obtain ⟨n, hn⟩ : ∃ n, n = l.length := ⟨_, rfl⟩
  have HN := Lib.hid hn
  rw [← hn] at hn1 ⊢
  obtain ⟨an, han⟩ : ∃ an, an = fdE nm l := ⟨_, rfl⟩
  rw [← han]
  have HE := Lib.hid (show l.drop n = [] by rw [hn, List.drop_length])
  have HA := Lib.hid han
  have HZ0 := Lib.hid (Whole.made w 62 #[.string { data := #[] }, .int .u8 0, .int .u32 0])
  have HB0 := Lib.hid (below_box w (.cells #[.string { data := #[] }, .int .u8 0, .int .u32 0] 62))
  have hz0 : w.heap.size < (w.alloc (.cells #[.string { data := #[] }, .int .u8 0, .int .u32 0] 62)).heap.size := by rw [size_box]; omega
  clear hl hn han
  go_enter Tryd.func42, Tryd.ntmps42
  go_wp2
  go_loopw [10] (fun i wr => ∃ k : Nat, k ≤ n ∧ i = .int .i64 k ∧ an = fdE nm (l.drop k) ∧ Below w.heap.size w wr ∧ Whole wr w.heap.size 62 #[.string { data := #[] }, .int .u8 0, .int .u32 0]) (fun i _ => n - (intOf i).toNat)
  case atStart => exact ⟨0, Nat.zero_le _, rfl, HA.out, HB0.out, HZ0.out⟩
  case round =>
    obtain ⟨k, hk, rfl, han, hb, hw⟩ := hrel
    have hz1 := hb.size
    have hwz := hw.lt
    by_cases hlt : k < n
    · obtain ⟨x, hx⟩ : ∃ x, l[k]? = some x := ⟨_, List.getElem?_eq_getElem (by rw [← HN.out]; exact hlt)⟩
      obtain ⟨b, off, rfl, hbl, m0, m1, m2⟩ := (HL.out.below hb).three hx
      have hst := fdE_drop (nm := nm) hx
      have HB := Lib.hid (hb.alloc hz1 (.cells (exC x) 62))
      have HW := Lib.hid (hw.alloc (.cells (exC x) 62))
      by_cases e : x.nam = nm
      · rw [if_pos e] at hst
        have HAN := Lib.hid (han.trans hst)
        have d1 : ((S x.nam).toList == (S nm).toList) = true := by rw [S_beqM, decide_eq_true e]
        have z0 := hw.cell 0
        have z1 := hw.cell 1
        have z2 := hw.cell 2
        have f0 := hw.frozen 0
        have f1 := hw.frozen 1
        have f2 := hw.frozen 2
        simp only [List.getElem?_toArray, List.getElem?_cons_zero, List.getElem?_cons_succ] at z0 z1 z2
        have HB0 := Lib.hid hb
        have HW0 := Lib.hid hw
        clear e hst han hb hw
        go_wp2
        obtain ⟨p0, g0⟩ := put3 (u0 := .string (S x.nam)) (u1 := .int .u8 x.kind.toNat) (u2 := .int .u32 x.idx.toNat) HW0.out
        have p1 := p0.alloc (.cells (exC x) 62)
        have g1 := gb_alloc g0 (.cells (exC x) 62)
        obtain ⟨q0, q1, q2⟩ := Whole.ex (x := x) p1
        refine bodyPost_ret (v := .tuple #[exV x, .bool true]) (by simp [results, Tryd.results42, go_sem, q0, q1, q2]) rfl ⟨?_, below_new HB0.out g1 (Nat.le_refl _)⟩
        rw [HAN.out]; rfl
      · rw [if_neg e] at hst
        have HAN := Lib.hid (han.trans hst)
        have d1 : ((S x.nam).toList == (S nm).toList) = false := by rw [S_beqM, decide_eq_false e]
        clear e hst han hb hw
        go_wp2
        go_roundw
        case rel => exact ⟨k + 1, by omega, by go_num, HAN.out, HB.out, HW.out⟩
        case measure => simp [intOf]; omega
    · obtain rfl : k = n := by omega
      have HB := Lib.hid hb
      have HW := Lib.hid hw
      rw [HE.out] at han
      have HAN := Lib.hid han
      have z0 := hw.cell 0
      have z1 := hw.cell 1
      have z2 := hw.cell 2
      have f0 := hw.frozen 0
      have f1 := hw.frozen 1
      have f2 := hw.frozen 2
      simp only [List.getElem?_toArray, List.getElem?_cons_zero, List.getElem?_cons_succ] at z0 z1 z2
      clear hb hw han
      go_wp2
      obtain ⟨p1, g1⟩ := put3 (u0 := .string { data := #[] }) (u1 := .int .u8 0) (u2 := .int .u32 0) HW.out
      have q0 := p1.cell 0
      have q1 := p1.cell 1
      have q2 := p1.cell 2
      simp only [List.getElem?_toArray, List.getElem?_cons_zero, List.getElem?_cons_succ] at q0 q1 q2
      refine bodyPost_ret (v := .tuple #[.agg #[.string { data := #[] }, .int .u8 0, .int .u32 0], .bool false]) (by simp [results, Tryd.results42, go_sem, q0, q1, q2]) rfl ⟨?_, below_new HB.out g1 (Nat.le_refl _)⟩
      rw [HAN.out]; rfl

/-! ### Twice -/
theorem lawStr : Keyed Tryd.prog 9 := string_keyed Tryd.underlying9
theorem zeroUnit (w : World) : (zeroValue 116).run Tryd.prog w = .ok (.agg #[]) w := by kernel_rfl
/-- The set of these names, as the map reads. -/
def setN (seen : List (List UInt8)) : DataW Unit := setOf (.agg []) (seen.map Lit.string)
theorem any_str (s : List UInt8) : ∀ l : List (List UInt8), (l.map Lit.string).any (fun y => y.sameKey (.string s)) = decide (s ∈ l)
  | [] => rfl
  | a :: r => by
    rw [List.map_cons, List.any_cons, any_str s r]
    have e1 : (Lit.string a).sameKey (.string s) = decide (s = a) := by
      show (a == s) = decide (s = a)
      by_cases e : a = s
      · subst e; simp
      · have e2 : ¬ s = a := fun h => e h.symm
        simp [e, e2]
    rw [e1]
    by_cases h1 : s = a <;> by_cases h2 : s ∈ r <;> simp [h1, h2]
theorem has_setN (seen : List (List UInt8)) (s : List UInt8) : Maps.has (setN seen) (.string s) = decide (s ∈ seen) := by
  unfold setN
  rw [has_setOf _ _ _ (fun y hy => by obtain ⟨_, _, rfl⟩ := List.mem_map.1 hy; trivial)]
  exact any_str s seen
theorem setN_snoc (seen : List (List UInt8)) (s : List UInt8) : setN (seen ++ [s]) = (setN seen).put (.string s) (.agg []) := by
  unfold setN
  rw [List.map_append, List.map_singleton, setOf_snoc]
/-- The first name that is there already. -/
def twG (seen : List (List UInt8)) : List Ex → Option (List UInt8)
  | [] => none
  | x :: r => if x.nam ∈ seen then some x.nam else twG (seen ++ [x.nam]) r
/-- .. and where it stands. -/
def twN (seen : List (List UInt8)) (i : Nat) : List Ex → Option Nat
  | [] => none
  | x :: r => if x.nam ∈ seen then some i else twN (seen ++ [x.nam]) (i + 1) r
def nms (l : List Ex) : List (List UInt8) := l.map (·.nam)
theorem nms_take {l : List Ex} {k : Nat} {x : Ex} (h : l[k]? = some x) : nms (l.take (k + 1)) = nms (l.take k) ++ [x.nam] := by
  unfold nms
  rw [List.take_add_one, h, List.map_append]
  rfl
theorem twG_drop {l : List Ex} {k : Nat} {x : Ex} (h : l[k]? = some x) (seen : List (List UInt8)) : twG seen (l.drop k) = if x.nam ∈ seen then some x.nam else twG (seen ++ [x.nam]) (l.drop (k + 1)) := by
  obtain ⟨h1, h2⟩ := List.getElem?_eq_some_iff.1 h
  rw [List.drop_eq_getElem_cons h1, h2]
  rfl
theorem twN_drop {l : List Ex} {k : Nat} {x : Ex} (h : l[k]? = some x) (seen : List (List UInt8)) (i : Nat) : twN seen i (l.drop k) = if x.nam ∈ seen then some i else twN (seen ++ [x.nam]) (i + 1) (l.drop (k + 1)) := by
  obtain ⟨h1, h2⟩ := List.getElem?_eq_some_iff.1 h
  rw [List.drop_eq_getElem_cons h1, h2]
  rfl
/-- The two tell the same. -/
theorem tw_both : ∀ (r : List Ex) (seen : List (List UInt8)) (i : Nat), (twN seen i r = none ∧ twG seen r = none) ∨ ∃ j x, twN seen i r = some (i + j) ∧ r[j]? = some x ∧ twG seen r = some x.nam
  | [], _, _ => .inl ⟨rfl, rfl⟩
  | y :: r, seen, i => by
    by_cases h : y.nam ∈ seen
    · exact .inr ⟨0, y, by simp [twN, h], rfl, by simp [twG, h]⟩
    · rcases tw_both r (seen ++ [y.nam]) (i + 1) with ⟨h1, h2⟩ | ⟨j, x, h1, h2, h3⟩
      · exact .inl ⟨by simp [twN, h, h1], by simp [twG, h, h2]⟩
      · refine .inr ⟨j + 1, x, ?_, by simpa using h2, by simp [twG, h, h3]⟩
        simp [twN, h, h1]
        omega
def twV (r : Option (List UInt8)) : Value := match r with
  | some s => .tuple #[.string (S s), .bool true]
  | none => .tuple #[.string { data := #[] }, .bool false]
/-- The names are no longer than a string can be. -/
def FitsE (l : List Ex) : Prop := ∀ x ∈ l, x.nam.length ≤ maxLen
set_option maxHeartbeats 2000000 in
theorem twice_ex {w : World} {A : Option Addr} {c : Nat} {l : List Ex} (hl : Exs w A l) (hn1 : l.length ≤ 10000) (hf : FitsE l) :
    Calls Tryd.prog 43 #[.slice A l.length c] w fun e w' => e = .returned (twV (twG [] l)) ∧ Below w.heap.size w w' := by
  have hmm := @run_makeMap Tryd.prog
  have HL := Lib.hid hl
  have HF := Lib.hid hf
  obtain ⟨n, hn⟩ : ∃ n, n = l.length := ⟨_, rfl⟩
  have HN := Lib.hid hn
  rw [← hn] at hn1 ⊢
  obtain ⟨an, han⟩ : ∃ an, an = twG [] l := ⟨_, rfl⟩
  rw [← han]
  have HE := Lib.hid (show l.drop n = [] by rw [hn, List.drop_length])
  have HA := Lib.hid han
  have HM0 := Lib.hid (World.ownsMap_made w Tryd.prog 9 (unitElem (H := Unit)))
  have HB0 := Lib.hid (below_box w (.map #[] 0))
  clear hl hn han hf
  go_enter Tryd.func43, Tryd.ntmps43
  go_wp2
  go_loopw [12] (fun i wr => ∃ k : Nat, k ≤ n ∧ i = .int .i64 k ∧ an = twG (nms (l.take k)) (l.drop k) ∧ wr.ownsMap Tryd.prog 9 (unitElem (H := Unit)) w.heap.size k (setN (nms (l.take k))) ∧ Below w.heap.size w wr) (fun i _ => n - (intOf i).toNat)
  case atStart => exact ⟨0, Nat.zero_le _, rfl, HA.out, HM0.out, HB0.out⟩
  case round =>
    obtain ⟨k, hk, rfl, han, hown, hb⟩ := hrel
    have hz1 := hb.size
    by_cases hlt : k < n
    · obtain ⟨x, hx⟩ : ∃ x, l[k]? = some x := ⟨_, List.getElem?_eq_getElem (by rw [← HN.out]; exact hlt)⟩
      obtain ⟨b, off, rfl, hbl, m0, m1, m2⟩ := (HL.out.below hb).three hx
      have hst := twG_drop hx (nms (l.take k))
      have hnt := nms_take hx
      have hkey : keyOf Tryd.prog 9 (.string (S x.nam)) = some (.string x.nam) := by
        have := Go.WideMaps.keyOf_string_mk (P := Tryd.prog) (k := 9) Tryd.underlying9 (s := S x.nam) (by rw [S_size]; exact HF.out x (List.mem_of_getElem? hx))
        simpa [S] using this
      have hha := has_setN (nms (l.take k)) x.nam
      obtain ⟨D, hD⟩ : ∃ D, D = setN (nms (l.take k)) := ⟨_, rfl⟩
      rw [← hD] at hown hha
      have HO := Lib.hid (hown.alloc (.cells (exC x) 62))
      have HOS := Lib.hid (show Hid ((D.put (.string x.nam) (.agg [])) = setN (nms (l.take (k + 1)))) from Lib.hid (by rw [hnt, setN_snoc, hD]))
      have hb2 := hb.alloc hz1 (.cells (exC x) 62)
      have HB2 := Lib.hid (hb2.alloc (hb2.size) (.cells #[] 116))
      have hnew := (Whole.made wr 62 (exC x)).ex
      have e0 : ∀ o, ((wr.alloc (.cells (exC x) 62)).alloc o).cell? ⟨wr.heap.size, 0, none⟩ = some (.string (S x.nam)) := fun o => ((Whole.made wr 62 (exC x)).alloc o).ex.1
      by_cases e : x.nam ∈ nms (l.take k)
      · rw [if_pos e] at hst
        have HAN := Lib.hid (han.trans hst)
        rw [decide_eq_true e] at hha
        clear e hst han hown hb hb2 hnt hnew hx hD
        go_wp2_with (first
          | (at_lookup; refine wpList_lookup_own_unit _ rfl _ _ 115 rfl 9 116 lawStr Tryd.underlying115 (zeroUnit _) w.heap.size k D rfl HO.out _ _ rfl hkey ?_)
          | go_in)
        go_ret2
        exact ⟨by rw [HAN.out]; rfl, HB2.out⟩
      · rw [if_neg e] at hst
        have HAN := Lib.hid (han.trans hst)
        rw [decide_eq_false e] at hha
        have HNT := Lib.hid hnt
        clear e hst han hown hb hb2 hnt hnew hx hD
        go_wp2_with (first
          | (at_lookup; refine wpList_lookup_own_unit _ rfl _ _ 115 rfl 9 116 lawStr Tryd.underlying115 (zeroUnit _) w.heap.size k D rfl HO.out _ _ rfl hkey ?_)
          | (at_mapUpdate; refine wpList_mapUpdate_own _ rfl _ _ _ 115 rfl 9 116 lawStr Tryd.underlying115 (unitElem (H := Unit)) w.heap.size k D rfl (HO.out.alloc _) (by unfold maxLen; omega) _ _ _ rfl rfl hkey _ [] unitElem_mk ?_; intro w3 hown3 hgrow3; have HO3 := Lib.hid hown3; have HB3 := Lib.hid (HB2.out.grown hgrow3 (HB2.out.size) (fun j hj => by cases hj; exact Nat.le_refl _)); clear hown3 hgrow3)
          | go_in)
        go_roundw
        case rel => exact ⟨k + 1, by omega, by go_num, by rw [HNT.out]; exact HAN.out, by rw [← HOS.out.out]; exact HO3.out, HB3.out⟩
        case measure => simp [intOf]; omega
    · obtain rfl : k = n := by omega
      have HB := Lib.hid hb
      rw [HE.out] at han
      have HAN := Lib.hid han
      clear hb hown han
      go_wp2
      go_ret2
      exact ⟨by rw [HAN.out]; rfl, HB.out⟩
def twZ (r : Option Nat) : Int := match r with
  | some i => i
  | none => -1
set_option maxHeartbeats 2000000 in
theorem rtwice_ex {w : World} {A : Option Addr} {c : Nat} {l : List Ex} (hl : Exs w A l) (hn1 : l.length ≤ 10000) :
    Calls Tryd.prog 44 #[.slice A l.length c] w fun e w' => e = .returned (.int .i64 (twZ (twN [] 0 l))) ∧ Below w.heap.size w w' := by
  have HL := Lib.hid hl
  obtain ⟨n, hn⟩ : ∃ n, n = l.length := ⟨_, rfl⟩
  have HN := Lib.hid hn
  rw [← hn] at hn1 ⊢
  obtain ⟨an, han⟩ : ∃ an, an = twN [] 0 l := ⟨_, rfl⟩
  rw [← han]
  have HE := Lib.hid (show l.drop n = [] by rw [hn, List.drop_length])
  have HA := Lib.hid han
  clear hl hn han
  go_enter Tryd.func44, Tryd.ntmps44
  go_wp2
  go_loopw [3] (fun i wr => ∃ k : Nat, k ≤ n ∧ i = .int .i64 k ∧ an = twN (nms (l.take k)) k (l.drop k) ∧ Below w.heap.size w wr) (fun i _ => n - (intOf i).toNat)
  case atStart => exact ⟨0, Nat.zero_le _, rfl, HA.out, Below.refl _ _⟩
  case round =>
    obtain ⟨k, hk, rfl, han, hb⟩ := hrel
    by_cases hlt : k < n
    · obtain ⟨x, hx⟩ : ∃ x, l[k]? = some x := ⟨_, List.getElem?_eq_getElem (by rw [← HN.out]; exact hlt)⟩
      have HX := Lib.hid hx
      have HNT := Lib.hid (nms_take hx)
      have HST := Lib.hid (han.trans (twN_drop hx (nms (l.take k)) k))
      have HB := Lib.hid hb
      clear han hx hb
      go_wp2
      go_loopw [4] (fun i wr2 => ∃ m : Nat, m ≤ k ∧ i = .int .i64 m ∧ x.nam ∉ nms (l.take m) ∧ Below w.heap.size w wr2) (fun i _ => k - (intOf i).toNat)
      case atStart => exact ⟨0, Nat.zero_le _, rfl, by simp [nms], HB.out⟩
      case round =>
        obtain ⟨m, hm, rfl, hno, hb⟩ := hrel
        by_cases hlt2 : m < k
        · obtain ⟨y, hy⟩ : ∃ y, l[m]? = some y := ⟨_, List.getElem?_eq_getElem (by rw [← HN.out]; omega)⟩
          obtain ⟨b, off, rfl, hbl, m0, m1, m2⟩ := (HL.out.below hb).three HX.out
          obtain ⟨b', off', hA', hbl', p0, p1, p2⟩ := (HL.out.below hb).three hy
          injection hA' with hA'
          injection hA' with e1 e2
          subst e1; subst e2
          have hnt := nms_take hy
          have HB2 := Lib.hid hb
          have hmn : m < n := by omega
          by_cases e : x.nam = y.nam
          · have d1 : ((S x.nam).toList == (S y.nam).toList) = true := by rw [S_beqM, decide_eq_true e]
            have hin : x.nam ∈ nms (l.take k) := by
              have : y.nam ∈ nms (l.take k) := List.mem_map.2 ⟨y, List.mem_of_getElem? (i := m) (by rw [List.getElem?_take, if_pos hlt2]; exact hy), rfl⟩
              rwa [e]
            have HAN := Lib.hid (HST.out.trans (if_pos hin))
            clear e hin hnt hno hb hy
            go_wp2
            go_quiet (fail)
            go_wp2
            go_ret
            exact ⟨by rw [HAN.out]; rfl, below_drewN HB2.out _⟩
          · have d1 : ((S x.nam).toList == (S y.nam).toList) = false := by rw [S_beqM, decide_eq_false e]
            have HNO := Lib.hid (show x.nam ∉ nms (l.take (m + 1)) by rw [hnt]; simp [hno, e])
            clear e hnt hno hb hy
            go_wp2
            go_quiet (fail)
            go_wp2
            go_roundw
            case rel => exact ⟨m + 1, by omega, by go_num, HNO.out, below_drewN HB2.out _⟩
            case measure => simp [intOf]; omega
        · obtain rfl : m = k := by omega
          have HAN := Lib.hid (HST.out.trans (if_neg hno))
          have HB2 := Lib.hid hb
          clear hno hb
          go_wp2
          go_roundw
          case rel => exact ⟨m + 1, by omega, by go_num, by rw [HNT.out]; exact HAN.out, HB2.out⟩
          case measure => simp [intOf]; omega
    · obtain rfl : k = n := by omega
      have HB := Lib.hid hb
      rw [HE.out] at han
      have HAN := Lib.hid han
      clear hb han
      go_wp2
      go_ret
      exact ⟨by rw [HAN.out]; rfl, HB.out⟩
end Go.Proofs.YtapgfapplafepaaDoor

/- Rows of strings of the call's own; exports.Names; creelref11.Names, SameTexts. -/
namespace Go.Proofs.YtapgfapplafepaaDoor
open Go.RowKit
set_option linter.unusedVariables false
set_option maxRecDepth 100000

theorem infoStr : (Tryd.prog.info? 9).map (fun i => (i.zero, i.size, i.bytes)) = some (some (.string { data := #[] }), 1, 16) := by kernel_rfl
/-- A row of strings of the call's own. -/
def RowT (W : World) (base : Nat) (v : Value) (rows : List (List UInt8)) : Prop := W.ownsRow base 9 1 v rows.length (rows.map fun s => .string (S s))
theorem RowT.nil (W : World) (base : Nat) : RowT W base (.slice none 0 0) [] := World.ownsRow_nil W base _ 1
theorem RowT.slice {W : World} {base : Nat} {v : Value} {rows : List (List UInt8)} (h : RowT W base v rows) : ∃ A c, v = .slice A rows.length c := by
  rcases h.2 with ⟨rfl, h0⟩ | ⟨g, cap, cur, rfl, _⟩
  · exact ⟨none, 0, by rw [h0]⟩
  · exact ⟨_, cap, rfl⟩
theorem RowT.later {W W' : World} {base : Nat} {v : Value} {rows : List (List UInt8)} (h : RowT W base v rows) (hb : Below W.heap.size W W') : RowT W' base v rows :=
  World.ownsRow.kept h (gb_of_below none hb) (by cases v.ownBlock with
    | none => exact .inl rfl
    | some k => exact .inr (by simp))
theorem RowT.alloc {W : World} {base : Nat} {v : Value} {rows : List (List UInt8)} (h : RowT W base v rows) (o : Obj) : RowT (W.alloc o) base v rows := World.ownsRow.alloc h o
/-- append of a new block of one string. -/
theorem rowT_new {w : World} {ops : Array Oper} {rest : List Oper} {o : Oper} {a : Act} {Q : Exit → Act → World → Prop} (hgd : o.guard = none) (s x : Operand)
    (ho : o.op = .call { callee := .builtin .append, args := #[s, x], argTypes := #[86, 86] })
    (B : Nat) (v : Value) (l : List (List UInt8)) (hs : a.eval s = v) (hr : RowT w B v l) (g : Nat) (r : List UInt8) (hx : a.eval x = .slice (some ⟨g, 0, none⟩) 1 1)
    (hg : Whole w g 9 #[.string (S r)]) (hb : l.length ≤ 10000) (hB : B ≤ w.heap.size)
    (h : ∀ v' w', RowT w' B v' (l ++ [r]) → w.grownBy w' v.ownBlock → wpList Tryd.prog ops Q rest (a.put o.dst v') w') : wpList Tryd.prog ops Q (o :: rest) a w := by
  obtain ⟨i0, hi0, hz0, hz1, hz2⟩ := info_parts infoStr
  refine wpList_append_own _ hgd s x _ ho B 9 i0 _ 1 16 Tryd.underlying86 hi0 hz0 hz1 hz2 rfl (by omega) v _ _ hs hr ⟨g, 0, none⟩ 1 1 [.string (S r)] hx rfl ?_ ?_ (by unfold maxLen; omega) (by omega) hB (fun v' w' h2 h3 _ => h v' w' ?_ h3)
  · intro j u hu
    rw [Go.WideShapes.add_plain, Nat.zero_add, hg.cell, ← Array.getElem?_toList]
    exact hu
  · intro u hu
    simp only [List.mem_cons, List.not_mem_nil, or_false] at hu
    rcases hu with rfl
    rfl
  · unfold RowT
    rw [List.length_append, List.map_append]
    simpa using h2
/-- Nothing old has turned, and nothing of the row's own is lost. -/
theorem RowT.below {w W W' : World} {base : Nat} {v : Value} {rows : List (List UInt8)} (h : RowT W base v rows) (hB : base ≤ W.heap.size) (hg : W.grownBy W' v.ownBlock) : Below base W W' :=
  Below.grown (Below.refl _ _) hg hB (fun k hk => (World.ownsRow.lt h k hk).1)
/-- The slice at A reads as these strings. -/
def SlT (w : World) (A : Option Addr) (l : List (List UInt8)) : Prop :=
  ∀ j s, l[j]? = some s → ∃ b off, A = some ⟨b, off, none⟩ ∧ b < w.heap.size ∧ w.cell? ⟨b, off + j, none⟩ = some (.string (S s))
theorem SlT.below {w w' : World} {A : Option Addr} {l : List (List UInt8)} (h : SlT w A l) (hb : Below w.heap.size w w') : SlT w' A l := fun j x hx => by
  obtain ⟨b, off, e, h1, h2⟩ := h j x hx
  exact ⟨b, off, e, Nat.lt_of_lt_of_le h1 hb.size, (hb.cell (p := ⟨b, _, none⟩) h1).trans h2⟩
theorem RowT.slt {W : World} {base : Nat} {A : Option Addr} {n c : Nat} {rows : List (List UInt8)} (h : RowT W base (.slice A n c) rows) : SlT W A rows := fun j x hx => by
  have hj := (List.getElem?_eq_some_iff.1 hx).1
  rcases h.2 with ⟨_, h0⟩ | ⟨g, cap, cur, e, _, hg, _, _, _, ht⟩
  · omega
  · injection e with e1 e2 e3
    refine ⟨g, 0, e1, (Array.getElem?_eq_some_iff.1 hg).1, ?_⟩
    rw [cell_of_row W g (0 + j) cur _ _ hg]
    have h2 : (rows.map fun s => Value.string (S s))[j]? = some (.string (S x)) := by rw [List.getElem?_map, hx]; rfl
    rw [← ht, List.getElem?_take, if_pos (by omega)] at h2
    simpa using h2
/-- The names of those of a kind. -/
def nmsK (kd : Int) (l : List Ex) : List (List UInt8) := (l.filter fun x => decide ((x.kind.toNat : Int) = kd)).map (·.nam)
theorem nmsK_take {kd : Int} {l : List Ex} {k : Nat} {x : Ex} (h : l[k]? = some x) : nmsK kd (l.take (k + 1)) = if (x.kind.toNat : Int) = kd then nmsK kd (l.take k) ++ [x.nam] else nmsK kd (l.take k) := by
  unfold nmsK
  rw [List.take_add_one, h, List.filter_append]
  by_cases e : (x.kind.toNat : Int) = kd <;> simp [e]
theorem nmsK_len (kd : Int) (l : List Ex) (k : Nat) : (nmsK kd (l.take k)).length ≤ k := by
  unfold nmsK
  rw [List.length_map]
  have h1 : ((l.take k).filter fun x => decide ((x.kind.toNat : Int) = kd)).length ≤ (l.take k).length := List.length_filter_le _ _
  rw [List.length_take] at h1
  omega
set_option maxHeartbeats 2000000 in
theorem names_ex {w : World} {A : Option Addr} {c : Nat} {l : List Ex} (kd : Int) (hl : Exs w A l) (hn1 : l.length ≤ 10000) :
    Calls Tryd.prog 46 #[.slice A l.length c, .int .u8 kd] w fun e w' => ∃ v, e = .returned v ∧ RowT w' w.heap.size v (nmsK kd l) ∧ Below w.heap.size w w' := by
  have HL := Lib.hid hl
  obtain ⟨n, hn⟩ : ∃ n, n = l.length := ⟨_, rfl⟩
  have HN := Lib.hid hn
  rw [← hn] at hn1 ⊢
  have HE := Lib.hid (show nmsK kd (l.take n) = nmsK kd l by rw [hn, List.take_length])
  clear hl hn
  go_enter Tryd.func46, Tryd.ntmps46
  go_wp2
  go_loopw [5, 10] (fun v i wr => ∃ k : Nat, k ≤ n ∧ i = .int .i64 k ∧ RowT wr w.heap.size v (nmsK kd (l.take k)) ∧ Below w.heap.size w wr) (fun _ i _ => n - (intOf i).toNat)
  case atStart => exact ⟨0, Nat.zero_le _, rfl, RowT.nil _ _, Below.refl _ _⟩
  case round =>
    obtain ⟨k, hk, rfl, hr, hb⟩ := hrel
    have hz1 := hb.size
    by_cases hlt : k < n
    · obtain ⟨x, hx⟩ : ∃ x, l[k]? = some x := ⟨_, List.getElem?_eq_getElem (by rw [← HN.out]; exact hlt)⟩
      obtain ⟨b, off, rfl, hbl, m0, m1, m2⟩ := (HL.out.below hb).three hx
      have hTk := nmsK_take (kd := kd) hx
      have hlen := nmsK_len kd l k
      have HB := Lib.hid hb
      have HR := Lib.hid hr
      by_cases e : (x.kind.toNat : Int) = kd
      · rw [if_pos e] at hTk
        have HTk := Lib.hid hTk
        have d1 : ((x.kind.toNat : Int) == kd) = true := by simpa using e
        have HX := Lib.hid (Whole.made (wr.alloc (.cells (exC x) 62)) 9 #[.string (S x.nam)])
        have HRA := Lib.hid ((hr.alloc (.cells (exC x) 62)).alloc (.cells #[.string (S x.nam)] 9))
        have HBA := Lib.hid ((hb.alloc hz1 (.cells (exC x) 62)).alloc (by simp; omega) (.cells #[.string (S x.nam)] 9))
        have hsz : ((wr.alloc (.cells (exC x) 62)).alloc (.cells #[.string (S x.nam)] 9)).heap.size = wr.heap.size + 2 := by simp
        simp only [World.size_alloc] at HX
        clear e hTk hr hb
        go_wp2_with (at_builtin; (refine rowT_new rfl _ _ rfl w.heap.size _ (nmsK kd (l.take k)) rfl HRA.out (wr.heap.size + 1) x.nam rfl HX.out (by omega) (by rw [hsz]; omega) ?_; intro v2 w2 hr2 hg2; have HR2 := Lib.hid hr2; have HB2 := Lib.hid (HBA.out.trans (HRA.out.below (w := w) (by rw [hsz]; omega) hg2)); clear hr2 hg2))
        go_roundw
        case rel => exact ⟨k + 1, by omega, by go_num, by rw [HTk.out]; exact HR2.out, HB2.out⟩
        case measure => simp [intOf]; omega
      · rw [if_neg e] at hTk
        have HTk := Lib.hid hTk
        have d1 : ((x.kind.toNat : Int) == kd) = false := by simpa using e
        clear e hTk hr hb
        go_wp2
        go_roundw
        case rel => exact ⟨k + 1, by omega, by go_num, by rw [HTk.out]; exact HR.out.alloc _, HB.out.alloc hz1 _⟩
        case measure => simp [intOf]; omega
    · obtain rfl : k = n := by omega
      have HR := Lib.hid hr
      have HB := Lib.hid hb
      clear hr hb
      go_wp2
      go_ret
      exact ⟨_, rfl, by rw [← HE.out]; exact HR.out, HB.out⟩
set_option maxHeartbeats 2000000 in
theorem rnames_ex {w : World} {A : Option Addr} {c : Nat} {l : List Ex} (kd : Int) (hl : Exs w A l) (hn1 : l.length ≤ 10000) :
    Calls Tryd.prog 47 #[.slice A l.length c, .int .u8 kd] w fun e w' => ∃ v, e = .returned v ∧ RowT w' w.heap.size v (nmsK kd l) ∧ Below w.heap.size w w' := by
  have HL := Lib.hid hl
  obtain ⟨n, hn⟩ : ∃ n, n = l.length := ⟨_, rfl⟩
  have HN := Lib.hid hn
  rw [← hn] at hn1 ⊢
  have HE := Lib.hid (show nmsK kd (l.take n) = nmsK kd l by rw [hn, List.take_length])
  clear hl hn
  go_enter Tryd.func47, Tryd.ntmps47
  go_wp2
  go_loopw [5, 6] (fun v i wr => ∃ k : Nat, k ≤ n ∧ i = .int .i64 k ∧ RowT wr w.heap.size v (nmsK kd (l.take k)) ∧ Below w.heap.size w wr) (fun _ i _ => n - (intOf i).toNat)
  case atStart => exact ⟨0, Nat.zero_le _, rfl, RowT.nil _ _, Below.refl _ _⟩
  case round =>
    obtain ⟨k, hk, rfl, hr, hb⟩ := hrel
    have hz1 := hb.size
    by_cases hlt : k < n
    · obtain ⟨x, hx⟩ : ∃ x, l[k]? = some x := ⟨_, List.getElem?_eq_getElem (by rw [← HN.out]; exact hlt)⟩
      obtain ⟨b, off, rfl, hbl, m0, m1, m2⟩ := (HL.out.below hb).three hx
      have hTk := nmsK_take (kd := kd) hx
      have hlen := nmsK_len kd l k
      have HB := Lib.hid hb
      have HR := Lib.hid hr
      by_cases e : (x.kind.toNat : Int) = kd
      · rw [if_pos e] at hTk
        have HTk := Lib.hid hTk
        have d1 : ((x.kind.toNat : Int) == kd) = true := by simpa using e
        have HX := Lib.hid (Whole.made wr 9 #[.string (S x.nam)])
        have HRA := Lib.hid (hr.alloc (.cells #[.string (S x.nam)] 9))
        have HBA := Lib.hid (hb.alloc hz1 (.cells #[.string (S x.nam)] 9))
        have hsz : (wr.alloc (.cells #[.string (S x.nam)] 9)).heap.size = wr.heap.size + 1 := by simp
        clear e hTk hr hb
        go_wp2_with (at_builtin; (refine rowT_new rfl _ _ rfl w.heap.size _ (nmsK kd (l.take k)) rfl HRA.out wr.heap.size x.nam rfl HX.out (by omega) (by rw [hsz]; omega) ?_; intro v2 w2 hr2 hg2; have HR2 := Lib.hid hr2; have HB2 := Lib.hid (HBA.out.trans (HRA.out.below (w := w) (by rw [hsz]; omega) hg2)); clear hr2 hg2))
        go_roundw
        case rel => exact ⟨k + 1, by omega, by go_num, by rw [HTk.out]; exact HR2.out, HB2.out⟩
        case measure => simp [intOf]; omega
      · rw [if_neg e] at hTk
        have HTk := Lib.hid hTk
        have d1 : ((x.kind.toNat : Int) == kd) = false := by simpa using e
        clear e hTk hr hb
        go_wp2
        go_roundw
        case rel => exact ⟨k + 1, by omega, by go_num, by rw [HTk.out]; exact HR.out, HB.out⟩
        case measure => simp [intOf]; omega
    · obtain rfl : k = n := by omega
      have HR := Lib.hid hr
      have HB := Lib.hid hb
      clear hr hb
      go_wp2
      go_ret
      exact ⟨_, rfl, by rw [← HE.out]; exact HR.out, HB.out⟩
set_option maxHeartbeats 2000000 in
/-- SameTexts of two slices that read alike. -/
theorem same_texts {w : World} {A A2 : Option Addr} {c c2 n : Nat} {l : List (List UInt8)} (hl : SlT w A l) (hl2 : SlT w A2 l) (hn : n = l.length) (hn1 : n ≤ 10000) :
    Calls Tryd.prog 45 #[.slice A n c, .slice A2 n c2] w fun e w' => e = .returned (.bool true) ∧ Below w.heap.size w w' := by
  have HL := Lib.hid hl
  have HL2 := Lib.hid hl2
  have HN := Lib.hid hn
  clear hl hl2 hn
  go_enter Tryd.func45, Tryd.ntmps45
  go_wp2
  go_loopw [5] (fun i wr => ∃ k : Nat, k ≤ n ∧ i = .int .i64 k ∧ Below w.heap.size w wr) (fun i _ => n - (intOf i).toNat)
  case atStart => exact ⟨0, Nat.zero_le _, rfl, Below.refl _ _⟩
  case round =>
    obtain ⟨k, hk, rfl, hb⟩ := hrel
    by_cases hlt : k < n
    · obtain ⟨s, hs⟩ : ∃ s, l[k]? = some s := ⟨_, List.getElem?_eq_getElem (by rw [← HN.out]; exact hlt)⟩
      obtain ⟨b, off, rfl, hbl, m0⟩ := HL.out.below hb k s hs
      obtain ⟨b2, off2, rfl, hbl2, p0⟩ := HL2.out.below hb k s hs
      have HB := Lib.hid hb
      clear hb hs
      go_wp2
      go_quiet (fail)
      go_wp2
      go_roundw
      case rel => exact ⟨k + 1, by omega, by go_num, below_drewN HB.out _⟩
      case measure => simp [intOf]; omega
    · obtain rfl : k = n := by omega
      have HB := Lib.hid hb
      clear hb
      go_wp2
      go_ret
      exact ⟨rfl, HB.out⟩
end Go.Proofs.YtapgfapplafepaaDoor

/- awake; the walk of ExportsFinds. -/
namespace Go.Proofs.YtapgfapplafepaaDoor
open Go.RowKit
set_option linter.unusedVariables false
set_option maxRecDepth 100000

/-- The chapter's example. -/
def exE : Ex := ⟨[102], 0, 3⟩
theorem exE_right : rE exE = 0 := by decide +kernel
theorem exE_put : eputL exE = [1, 102, 0, 3] := by
  have e1 : lebL (exE.nam.length : Int) = [1] := lebL_sm 1 (by omega) (by omega)
  have e3 : lebL (exE.idx.toNat : Int) = [3] := lebL_sm 3 (by omega) (by omega)
  unfold eputL nmL
  rw [e1, e3]
  rfl
theorem awake_ex (w : World) (hT : Tabs w) : Calls Tryd.prog 28 #[] w fun e w' => e = .returned (.bool true) ∧ Below w.heap.size w w' := by
  have hp := put_ex exE w hT (by decide)
  obtain ⟨l, hl⟩ : ∃ l : List UInt8, l = [1, 102, 0, 3] := ⟨_, rfl⟩
  have HP := Lib.hid (show Calls Tryd.prog 30 #[.agg #[.string { data := #[102] }, .int .u8 0, .int .u32 3]] w fun e w' => ∃ v, e = .returned (.tuple #[v, .int .i64 0]) ∧ Row w' w.heap.size v l ∧ Below w.heap.size w w' from hp.mono fun e w' ⟨v, h1, h2, h3⟩ => ⟨v, by rw [exE_right] at h1; exact h1, by rw [if_pos exE_right, exE_put] at h2; rw [hl]; exact h2, h3⟩)
  have hcmp : ((S l).toList == [1, 102, 0, 3]) = true := by rw [S_toList, hl]; rfl
  clear hl
  clear hp hT
  go_enter Tryd.func28, Tryd.ntmps28
  go_wp2_with (go_at_call 30; go_must ((with_reducible refine HP.out.mono ?_); intro e w1 h; obtain ⟨v, rfl, hr, hb⟩ := h; obtain ⟨A, c, rfl, hcv⟩ := hr.str; have hcv2 := hcv 9 Tryd.underlying9; have HB := Lib.hid hb; clear hb hr hcv))
  go_ret
  exact ⟨rfl, HB.out⟩
/-- Where the first of a name stands. -/
def fdN (nm : List UInt8) (i : Nat) : List Ex → Option Nat
  | [] => none
  | x :: r => if x.nam = nm then some i else fdN nm (i + 1) r
theorem fdN_drop {nm : List UInt8} {l : List Ex} {k : Nat} {x : Ex} (h : l[k]? = some x) (i : Nat) : fdN nm i (l.drop k) = if x.nam = nm then some i else fdN nm (i + 1) (l.drop (k + 1)) := by
  obtain ⟨h1, h2⟩ := List.getElem?_eq_some_iff.1 h
  rw [List.drop_eq_getElem_cons h1, h2]
  rfl
/-- The two tell the same. -/
theorem fd_both (nm : List UInt8) : ∀ (r : List Ex) (i : Nat), (fdN nm i r = none ∧ fdE nm r = none) ∨ ∃ j x, fdN nm i r = some (i + j) ∧ r[j]? = some x ∧ fdE nm r = some x
  | [], _ => .inl ⟨rfl, rfl⟩
  | y :: r, i => by
    by_cases h : y.nam = nm
    · exact .inr ⟨0, y, by simp [fdN, h], rfl, by simp [fdE, h]⟩
    · rcases fd_both nm r (i + 1) with ⟨h1, h2⟩ | ⟨j, x, h1, h2, h3⟩
      · exact .inl ⟨by simp [fdN, h, h1], by simp [fdE, h, h2]⟩
      · refine .inr ⟨j + 1, x, ?_, by simpa using h2, by simp [fdE, h, h3]⟩
        simp [fdN, h, h1]
        omega
theorem fdV_none : fdV none = .tuple #[.agg #[.string { data := #[] }, .int .u8 0, .int .u32 0], .bool false] := rfl
theorem fdV_some (x : Ex) : fdV (some x) = .tuple #[exV x, .bool true] := rfl
theorem twV_none : twV none = .tuple #[.string { data := #[] }, .bool false] := rfl
theorem twV_some (s : List UInt8) : twV (some s) = .tuple #[.string (S s), .bool true] := rfl
theorem twZ_none : twZ none = -1 := rfl
theorem twZ_some (k : Nat) : twZ (some k) = k := rfl
set_option maxHeartbeats 8000000 in
theorem lawXF {w : World} {A : Option Addr} {c : Nat} {l : List Ex} (kd : Int) (nm : List UInt8) (hl : Exs w A l) (hT : Tabs w) (nl : (l.length : Int) ≤ 9223372036854775807) (hf : FitsE l) :
    Calls Tryd.prog 8 #[.slice A l.length c, .int .u8 kd, .string (S nm)] w fun e w' => e = .returned (.bool true) ∧ Below w.heap.size w w' := by
  have HAW := Lib.hid (awake_ex w hT)
  have HL := Lib.hid hl
  have HF := Lib.hid hf
  clear hl hT hf
  by_cases g1 : 40 < l.length
  · have t1 : decide ((40 : Int) < (l.length : Int)) = true := decide_eq_true (by omega)
    clear g1
    go_enter Tryd.func8, Tryd.ntmps8
    go_wp2_with (go_at_call 28; go_must ((with_reducible refine HAW.out.mono ?_); rintro e w1 ⟨rfl, hb⟩; have H1 := Lib.hid hb; clear hb))
    go_ret
    exact ⟨rfl, H1.out⟩
  have t1 : decide ((40 : Int) < (l.length : Int)) = false := decide_eq_false (by omega)
  obtain ⟨n, hn⟩ : ∃ n, n = l.length := ⟨_, rfl⟩
  have HN := Lib.hid hn
  have HE := Lib.hid (show l.drop n = [] by rw [hn, List.drop_length])
  have HFD := Lib.hid (fun W (h : Exs W A l) => find_ex (c := c) nm h (by omega))
  have HTW := Lib.hid (fun W (h : Exs W A l) => twice_ex (c := c) h (by omega) HF.out)
  have HRT := Lib.hid (fun W (h : Exs W A l) => rtwice_ex (c := c) h (by omega))
  have HNM := Lib.hid (fun W (h : Exs W A l) => names_ex (c := c) kd h (by omega))
  have HRN := Lib.hid (fun W (h : Exs W A l) => rnames_ex (c := c) kd h (by omega))
  have hk := nmsK_len kd l l.length
  rw [List.take_length] at hk
  have HST := Lib.hid (fun W A1 c1 A2 c2 (h1 : SlT W A1 (nmsK kd l)) (h2 : SlT W A2 (nmsK kd l)) => same_texts (c := c1) (c2 := c2) h1 h2 rfl (by omega))
  have hfd := fd_both nm l 0
  have htw := tw_both l [] 0
  simp only [Nat.zero_add] at hfd htw
  rw [← hn] at HFD HTW HRT HNM HRN t1 nl g1 ⊢
  have h40 : n ≤ 40 := by omega
  clear hk hn g1 HF
  have HBO := Lib.hid hfd
  have HBT := Lib.hid htw
  clear hfd htw
  go_enter Tryd.func8, Tryd.ntmps8
  go_wp2_with (go_at_call 28; go_must ((with_reducible refine HAW.out.mono ?_); rintro e w1 ⟨rfl, hb⟩; have H1 := Lib.hid hb; clear hb))
  clear HAW
  go_loopw [7, 8] (fun at_ i wr => ∃ k : Nat, k ≤ n ∧ i = .int .i64 ((k : Int) - 1) ∧ at_ = .int .i64 (twZ (fdN nm k (l.drop k))) ∧ Below w.heap.size w wr) (fun _ i _ => (intOf i + 1).toNat)
  case atStart => exact ⟨n, Nat.le_refl _, by go_num, by rw [HE.out]; rfl, H1.out⟩
  case round =>
    obtain ⟨k, hk, hi, rfl, hb⟩ := hrel
    cases k with
    | succ k =>
      have e1 : (((k + 1 : Nat) : Int) - 1) = k := by omega
      rw [e1] at hi
      subst hi
      clear e1
      have hlt : k < n := by omega
      obtain ⟨x, hx⟩ : ∃ x, l[k]? = some x := ⟨_, List.getElem?_eq_getElem (by rw [← HN.out]; exact hlt)⟩
      obtain ⟨b, off, rfl, hbl, m0, m1, m2⟩ := (HL.out.below hb).three hx
      have hst := fdN_drop (nm := nm) hx k
      have HB := Lib.hid hb
      by_cases e : x.nam = nm
      · rw [if_pos e] at hst
        have HST2 := Lib.hid hst
        have d1 : ((S x.nam).toList == (S nm).toList) = true := by rw [S_beqM, decide_eq_true e]
        clear e hst hb hx
        generalize fdN nm (k + 1) (l.drop (k + 1)) = z at *
        go_wp2
        go_roundw
        case rel => exact ⟨k, by omega, by go_num, by rw [HST2.out, twZ_some], HB.out⟩
        case measure => simp [intOf]
      · rw [if_neg e] at hst
        have HST2 := Lib.hid hst
        have d1 : ((S x.nam).toList == (S nm).toList) = false := by rw [S_beqM, decide_eq_false e]
        clear e hst hb hx
        generalize fdN nm (k + 1) (l.drop (k + 1)) = z at *
        go_wp2
        go_roundw
        case rel => exact ⟨k, by omega, by go_num, by rw [HST2.out], HB.out⟩
        case measure => simp [intOf]
    | zero =>
      have e1 : (((0 : Nat) : Int) - 1) = -1 := by omega
      rw [e1] at hi
      subst hi
      clear e1
      have HB := Lib.hid hb
      have HLA := Lib.hid (HL.out.below hb)
      have hfdw := HFD.out wr HLA.out
      have htww := fun W (h : Exs W A l) => HTW.out W h
      have hrtw := fun W (h : Exs W A l) => HRT.out W h
      rw [List.drop_zero]
      clear hb hk HFD HTW HRT H1
      rcases HBO.out with ⟨hf1, hf2⟩ | ⟨j, x, hf1, hf2, hf3⟩
      · rcases HBT.out with ⟨ht1, ht2⟩ | ⟨m, y, ht1, ht2, ht3⟩
        · rw [hf1, twZ_none]
          rw [hf2, fdV_none] at hfdw
          rw [ht1, twZ_none] at hrtw
          rw [ht2, twV_none] at htww
          have HFW := Lib.hid hfdw
          have HTW := Lib.hid htww
          have HRT := Lib.hid hrtw
          clear hfdw htww hrtw
          have he : ∀ W, (binOp BinOp.neq 62 (.agg #[.string { data := #[] }, .int .u8 0, .int .u32 0]) (.agg #[.string { data := #[] }, .int .u8 0, .int .u32 0])).run Tryd.prog W = .ok (.bool false) W := fun W => by have h := neq_ex exZ exZ W; rw [decide_eq_true rfl] at h; exact h
          clear hf1 hf2
          clear ht1 ht2
          go_upto_region 14 with (first
            | (go_at_call 42; go_must ((with_reducible refine HFW.out.mono ?_); rintro e w2 ⟨rfl, hb⟩; have HB2 := Lib.hid (HB.out.trans (hb.mono HB.out.size)); have HL2 := Lib.hid (HLA.out.below hb); clear hb))
            | (go_at_call 43; go_must ((with_reducible refine (HTW.out _ (HL2.out.below (below_box w2 (.cells #[.string { data := #[] }, .int .u8 0, .int .u32 0] 62)))).mono ?_); rintro e w3 ⟨rfl, hb⟩; have HX3 := Lib.hid ((Whole.made w2 62 #[.string { data := #[] }, .int .u8 0, .int .u32 0]).below hb); have HL3 := Lib.hid ((HL2.out.below (below_box w2 (.cells #[.string { data := #[] }, .int .u8 0, .int .u32 0] 62))).below hb); have HB3 := Lib.hid (HB2.out.trans (((below_box w2 (.cells #[.string { data := #[] }, .int .u8 0, .int .u32 0] 62)).trans (hb.mono (below_box w2 (.cells #[.string { data := #[] }, .int .u8 0, .int .u32 0] 62)).size)).mono HB2.out.size)); clear hb))
            | (go_at_call 44; go_must ((with_reducible refine (HRT.out _ HL3.out).mono ?_); rintro e w4 ⟨rfl, hb⟩; have HX4 := Lib.hid (HX3.out.below hb); have HL4 := Lib.hid (HL3.out.below hb); have HB4 := Lib.hid (HB3.out.trans (hb.mono HB3.out.size)); clear hb)))
          have z0 := HX4.out.cell 0
          have z1 := HX4.out.cell 1
          have z2 := HX4.out.cell 2
          simp only [List.getElem?_toArray, List.getElem?_cons_zero, List.getElem?_cons_succ] at z0 z1 z2
          clear HFW HTW HRT HB HB2 HB3 HLA HL2 HL3 HX3
          go_quiet (fail)
          have HL6 := Lib.hid (HL4.out.below (below_drewN (Below.refl _ w4) nq))
          have HB6 := Lib.hid (below_drewN HB4.out nq)
          clear HL4 HB4 HX4 z0 z1 z2
          generalize w4.drewN nq = W6 at *
          go_wp2_with (first
            | (go_at_call 46; go_must ((with_reducible refine (HNM.out _ HL6.out).mono ?_); intro e w7 h; obtain ⟨v7, rfl, hr, hb⟩ := h; obtain ⟨A7, c7, rfl⟩ := hr.slice; have HR7 := Lib.hid hr.slt; have HB7 := Lib.hid (HB6.out.trans (hb.mono HB6.out.size)); have HL7 := Lib.hid (HL6.out.below hb); clear hr hb))
            | (go_at_call 47; go_must ((with_reducible refine (HRN.out _ HL7.out).mono ?_); intro e w8 h; obtain ⟨v8, rfl, hr, hb⟩ := h; obtain ⟨A8, c8, rfl⟩ := hr.slice; have HR8 := Lib.hid hr.slt; have HR78 := Lib.hid (HR7.out.below hb); have HB8 := Lib.hid (HB7.out.trans (hb.mono HB7.out.size)); clear hr hb))
            | (go_at_call 45; go_must ((with_reducible refine (HST.out _ _ _ _ _ HR78.out HR8.out).mono ?_); rintro e w9 ⟨rfl, hb⟩; have HB9 := Lib.hid (HB8.out.trans (hb.mono HB8.out.size)); clear hb)))
          go_ret
          exact ⟨rfl, HB9.out⟩
        · rw [hf1, twZ_none]
          rw [hf2, fdV_none] at hfdw
          rw [ht1, twZ_some] at hrtw
          rw [ht3, twV_some] at htww
          have HFW := Lib.hid hfdw
          have HTW := Lib.hid htww
          have HRT := Lib.hid hrtw
          clear hfdw htww hrtw
          have he : ∀ W, (binOp BinOp.neq 62 (.agg #[.string { data := #[] }, .int .u8 0, .int .u32 0]) (.agg #[.string { data := #[] }, .int .u8 0, .int .u32 0])).run Tryd.prog W = .ok (.bool false) W := fun W => by have h := neq_ex exZ exZ W; rw [decide_eq_true rfl] at h; exact h
          clear hf1 hf2
          have HM := Lib.hid ht2
          have dm : decide ((0 : Int) ≤ (m : Int)) = true := decide_eq_true (by omega)
          clear ht1 ht2 ht3
          go_upto_region 14 with (first
            | (go_at_call 42; go_must ((with_reducible refine HFW.out.mono ?_); rintro e w2 ⟨rfl, hb⟩; have HB2 := Lib.hid (HB.out.trans (hb.mono HB.out.size)); have HL2 := Lib.hid (HLA.out.below hb); clear hb))
            | (go_at_call 43; go_must ((with_reducible refine (HTW.out _ (HL2.out.below (below_box w2 (.cells #[.string { data := #[] }, .int .u8 0, .int .u32 0] 62)))).mono ?_); rintro e w3 ⟨rfl, hb⟩; have HX3 := Lib.hid ((Whole.made w2 62 #[.string { data := #[] }, .int .u8 0, .int .u32 0]).below hb); have HL3 := Lib.hid ((HL2.out.below (below_box w2 (.cells #[.string { data := #[] }, .int .u8 0, .int .u32 0] 62))).below hb); have HB3 := Lib.hid (HB2.out.trans (((below_box w2 (.cells #[.string { data := #[] }, .int .u8 0, .int .u32 0] 62)).trans (hb.mono (below_box w2 (.cells #[.string { data := #[] }, .int .u8 0, .int .u32 0] 62)).size)).mono HB2.out.size)); clear hb))
            | (go_at_call 44; go_must ((with_reducible refine (HRT.out _ HL3.out).mono ?_); rintro e w4 ⟨rfl, hb⟩; have HX4 := Lib.hid (HX3.out.below hb); have HL4 := Lib.hid (HL3.out.below hb); have HB4 := Lib.hid (HB3.out.trans (hb.mono HB3.out.size)); clear hb)))
          have z0 := HX4.out.cell 0
          have z1 := HX4.out.cell 1
          have z2 := HX4.out.cell 2
          simp only [List.getElem?_toArray, List.getElem?_cons_zero, List.getElem?_cons_succ] at z0 z1 z2
          have hmn : m < n := by rw [HN.out]; exact (List.getElem?_eq_some_iff.1 HM.out).1
          obtain ⟨bq, offq, hAq, _, q0, q1, q2⟩ := HL4.out.three HM.out
          subst hAq
          clear HFW HTW HRT HB HB2 HB3 HLA HL2 HL3 HX3
          go_quiet (fail)
          have HL6 := Lib.hid (HL4.out.below (below_drewN (Below.refl _ w4) nq))
          have HB6 := Lib.hid (below_drewN HB4.out nq)
          clear HL4 HB4 HX4 z0 z1 z2
          generalize w4.drewN nq = W6 at *
          go_wp2_with (first
            | (go_at_call 46; go_must ((with_reducible refine (HNM.out _ HL6.out).mono ?_); intro e w7 h; obtain ⟨v7, rfl, hr, hb⟩ := h; obtain ⟨A7, c7, rfl⟩ := hr.slice; have HR7 := Lib.hid hr.slt; have HB7 := Lib.hid (HB6.out.trans (hb.mono HB6.out.size)); have HL7 := Lib.hid (HL6.out.below hb); clear hr hb))
            | (go_at_call 47; go_must ((with_reducible refine (HRN.out _ HL7.out).mono ?_); intro e w8 h; obtain ⟨v8, rfl, hr, hb⟩ := h; obtain ⟨A8, c8, rfl⟩ := hr.slice; have HR8 := Lib.hid hr.slt; have HR78 := Lib.hid (HR7.out.below hb); have HB8 := Lib.hid (HB7.out.trans (hb.mono HB7.out.size)); clear hr hb))
            | (go_at_call 45; go_must ((with_reducible refine (HST.out _ _ _ _ _ HR78.out HR8.out).mono ?_); rintro e w9 ⟨rfl, hb⟩; have HB9 := Lib.hid (HB8.out.trans (hb.mono HB8.out.size)); clear hb)))
          go_ret
          exact ⟨rfl, HB9.out⟩
      · rcases HBT.out with ⟨ht1, ht2⟩ | ⟨m, y, ht1, ht2, ht3⟩
        · rw [hf1, twZ_some]
          rw [hf3, fdV_some] at hfdw
          rw [ht1, twZ_none] at hrtw
          rw [ht2, twV_none] at htww
          have HFW := Lib.hid hfdw
          have HTW := Lib.hid htww
          have HRT := Lib.hid hrtw
          clear hfdw htww hrtw
          have HJ := Lib.hid hf2
          have he : ∀ W, (binOp BinOp.neq 62 (exV x) (exV x)).run Tryd.prog W = .ok (.bool false) W := fun W => by rw [neq_ex, decide_eq_true rfl]; rfl
          have dj : decide ((0 : Int) ≤ (j : Int)) = true := decide_eq_true (by omega)
          clear hf1 hf2 hf3
          clear ht1 ht2
          go_upto_region 14 with (first
            | (go_at_call 42; go_must ((with_reducible refine HFW.out.mono ?_); rintro e w2 ⟨rfl, hb⟩; have HB2 := Lib.hid (HB.out.trans (hb.mono HB.out.size)); have HL2 := Lib.hid (HLA.out.below hb); clear hb))
            | (go_at_call 43; go_must ((with_reducible refine (HTW.out _ (HL2.out.below (below_box w2 (.cells (exC x) 62)))).mono ?_); rintro e w3 ⟨rfl, hb⟩; have HX3 := Lib.hid ((Whole.made w2 62 (exC x)).below hb); have HL3 := Lib.hid ((HL2.out.below (below_box w2 (.cells (exC x) 62))).below hb); have HB3 := Lib.hid (HB2.out.trans (((below_box w2 (.cells (exC x) 62)).trans (hb.mono (below_box w2 (.cells (exC x) 62)).size)).mono HB2.out.size)); clear hb))
            | (go_at_call 44; go_must ((with_reducible refine (HRT.out _ HL3.out).mono ?_); rintro e w4 ⟨rfl, hb⟩; have HX4 := Lib.hid (HX3.out.below hb); have HL4 := Lib.hid (HL3.out.below hb); have HB4 := Lib.hid (HB3.out.trans (hb.mono HB3.out.size)); clear hb)))
          have z0 := HX4.out.cell 0
          have z1 := HX4.out.cell 1
          have z2 := HX4.out.cell 2
          simp only [List.getElem?_toArray, List.getElem?_cons_zero, List.getElem?_cons_succ] at z0 z1 z2
          have hjn : j < n := by rw [HN.out]; exact (List.getElem?_eq_some_iff.1 HJ.out).1
          obtain ⟨bp, offp, hAp, _, p0, p1, p2⟩ := HL4.out.three HJ.out
          subst hAp
          clear HFW HTW HRT HB HB2 HB3 HLA HL2 HL3 HX3
          go_quiet (fail)
          have HL6 := Lib.hid (HL4.out.below (below_drewN (Below.refl _ w4) nq))
          have HB6 := Lib.hid (below_drewN HB4.out nq)
          clear HL4 HB4 HX4 z0 z1 z2
          generalize w4.drewN nq = W6 at *
          go_wp2_with (first
            | (go_at_call 46; go_must ((with_reducible refine (HNM.out _ HL6.out).mono ?_); intro e w7 h; obtain ⟨v7, rfl, hr, hb⟩ := h; obtain ⟨A7, c7, rfl⟩ := hr.slice; have HR7 := Lib.hid hr.slt; have HB7 := Lib.hid (HB6.out.trans (hb.mono HB6.out.size)); have HL7 := Lib.hid (HL6.out.below hb); clear hr hb))
            | (go_at_call 47; go_must ((with_reducible refine (HRN.out _ HL7.out).mono ?_); intro e w8 h; obtain ⟨v8, rfl, hr, hb⟩ := h; obtain ⟨A8, c8, rfl⟩ := hr.slice; have HR8 := Lib.hid hr.slt; have HR78 := Lib.hid (HR7.out.below hb); have HB8 := Lib.hid (HB7.out.trans (hb.mono HB7.out.size)); clear hr hb))
            | (go_at_call 45; go_must ((with_reducible refine (HST.out _ _ _ _ _ HR78.out HR8.out).mono ?_); rintro e w9 ⟨rfl, hb⟩; have HB9 := Lib.hid (HB8.out.trans (hb.mono HB8.out.size)); clear hb)))
          go_ret
          exact ⟨rfl, HB9.out⟩
        · rw [hf1, twZ_some]
          rw [hf3, fdV_some] at hfdw
          rw [ht1, twZ_some] at hrtw
          rw [ht3, twV_some] at htww
          have HFW := Lib.hid hfdw
          have HTW := Lib.hid htww
          have HRT := Lib.hid hrtw
          clear hfdw htww hrtw
          have HJ := Lib.hid hf2
          have he : ∀ W, (binOp BinOp.neq 62 (exV x) (exV x)).run Tryd.prog W = .ok (.bool false) W := fun W => by rw [neq_ex, decide_eq_true rfl]; rfl
          have dj : decide ((0 : Int) ≤ (j : Int)) = true := decide_eq_true (by omega)
          clear hf1 hf2 hf3
          have HM := Lib.hid ht2
          have dm : decide ((0 : Int) ≤ (m : Int)) = true := decide_eq_true (by omega)
          clear ht1 ht2 ht3
          go_upto_region 14 with (first
            | (go_at_call 42; go_must ((with_reducible refine HFW.out.mono ?_); rintro e w2 ⟨rfl, hb⟩; have HB2 := Lib.hid (HB.out.trans (hb.mono HB.out.size)); have HL2 := Lib.hid (HLA.out.below hb); clear hb))
            | (go_at_call 43; go_must ((with_reducible refine (HTW.out _ (HL2.out.below (below_box w2 (.cells (exC x) 62)))).mono ?_); rintro e w3 ⟨rfl, hb⟩; have HX3 := Lib.hid ((Whole.made w2 62 (exC x)).below hb); have HL3 := Lib.hid ((HL2.out.below (below_box w2 (.cells (exC x) 62))).below hb); have HB3 := Lib.hid (HB2.out.trans (((below_box w2 (.cells (exC x) 62)).trans (hb.mono (below_box w2 (.cells (exC x) 62)).size)).mono HB2.out.size)); clear hb))
            | (go_at_call 44; go_must ((with_reducible refine (HRT.out _ HL3.out).mono ?_); rintro e w4 ⟨rfl, hb⟩; have HX4 := Lib.hid (HX3.out.below hb); have HL4 := Lib.hid (HL3.out.below hb); have HB4 := Lib.hid (HB3.out.trans (hb.mono HB3.out.size)); clear hb)))
          have z0 := HX4.out.cell 0
          have z1 := HX4.out.cell 1
          have z2 := HX4.out.cell 2
          simp only [List.getElem?_toArray, List.getElem?_cons_zero, List.getElem?_cons_succ] at z0 z1 z2
          have hjn : j < n := by rw [HN.out]; exact (List.getElem?_eq_some_iff.1 HJ.out).1
          have hmn : m < n := by rw [HN.out]; exact (List.getElem?_eq_some_iff.1 HM.out).1
          obtain ⟨bp, offp, hAp, _, p0, p1, p2⟩ := HL4.out.three HJ.out
          subst hAp
          obtain ⟨bq, offq, hAq, _, q0, q1, q2⟩ := HL4.out.three HM.out
          injection hAq with hAq
          injection hAq with e1 e2
          subst e1; subst e2
          clear HFW HTW HRT HB HB2 HB3 HLA HL2 HL3 HX3
          go_quiet (fail)
          have HL6 := Lib.hid (HL4.out.below (below_drewN (Below.refl _ w4) nq))
          have HB6 := Lib.hid (below_drewN HB4.out nq)
          clear HL4 HB4 HX4 z0 z1 z2
          generalize w4.drewN nq = W6 at *
          go_wp2_with (first
            | (go_at_call 46; go_must ((with_reducible refine (HNM.out _ HL6.out).mono ?_); intro e w7 h; obtain ⟨v7, rfl, hr, hb⟩ := h; obtain ⟨A7, c7, rfl⟩ := hr.slice; have HR7 := Lib.hid hr.slt; have HB7 := Lib.hid (HB6.out.trans (hb.mono HB6.out.size)); have HL7 := Lib.hid (HL6.out.below hb); clear hr hb))
            | (go_at_call 47; go_must ((with_reducible refine (HRN.out _ HL7.out).mono ?_); intro e w8 h; obtain ⟨v8, rfl, hr, hb⟩ := h; obtain ⟨A8, c8, rfl⟩ := hr.slice; have HR8 := Lib.hid hr.slt; have HR78 := Lib.hid (HR7.out.below hb); have HB8 := Lib.hid (HB7.out.trans (hb.mono HB7.out.size)); clear hr hb))
            | (go_at_call 45; go_must ((with_reducible refine (HST.out _ _ _ _ _ HR78.out HR8.out).mono ?_); rintro e w9 ⟨rfl, hb⟩; have HB9 := Lib.hid (HB8.out.trans (hb.mono HB8.out.size)); clear hb)))
          go_ret
          exact ⟨rfl, HB9.out⟩
end Go.Proofs.YtapgfapplafepaaDoor
