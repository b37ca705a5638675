/- consts.Type, Of; the reference's Type. (By gen/genCTyp.py.) -/
import Derived.Test.YtebgmfjgapmpfaaDoorQh05
import Derived.Test.YtebgmfjgapmpfaaDoorQg09
import Derived.Test.YtebgmfjgapmpfaaDoorQg08
namespace Go.Proofs.YtebgmfjgapmpfaaDoor
open Go.RowKit
set_option linter.unusedVariables false
set_option maxRecDepth 100000

theorem take_snocV {α : Type} {l : List α} {k : Nat} {c : α} (h : l[k]? = some c) : l.take (k + 1) = l.take k ++ [c] := by
  rw [List.take_add_one, h]
  rfl
def TPost (r : Int × Int) (k : IntKind) (w : World) (e : Ending) (w' : World) : Prop := e = .returned (.tuple #[.int k r.1, .int .i64 r.2]) ∧ Below w.heap.size w w'
theorem tpost {r : Int × Int} {k : IntKind} {w w' : World} {t e : Int} (h : r = (t, e)) (hb : Below w.heap.size w w') : TPost r k w (.returned (.tuple #[.int k t, .int .i64 e])) w' := ⟨by rw [h], hb⟩
theorem isC_35 {i : I} (h : crightZ i = 0) (h65 : ¬ i.n = 65) (h66 : ¬ i.n = 66) : i.n = 35 := by
  have := (cr_zero h).2
  unfold IsC at this
  omega

set_option maxHeartbeats 1000000 in
theorem ctype_any {w : World} {i : I} {A M : Option Addr} {c cm : Nat} {gs : List (Int × Bool)} (oi : i.Ok) (hT : Tabs w) (hl : LiesG w M gs) (ni : (i.l.length : Int) ≤ 9223372036854775807) (nl : (gs.length : Int) ≤ 9223372036854775807) :
    Calls Tryd.prog 35 #[insV i A c, .slice M gs.length cm] w (TPost (typZ i gs) .u8 w) := by
  have H0 := Lib.hid (BoxI.start w i A c)
  have HR := Lib.hid (cright_any i A c _ oi (hT.below H0.out.bel) ni)
  obtain ⟨j, hj⟩ : ∃ j : Nat, i.a = j := ⟨i.a.toNat, by have := oi.a0; omega⟩
  by_cases h0 : crightZ i = 0
  · rw [h0] at HR
    by_cases h65 : i.n = 65
    · have HE := Lib.hid (show typZ i gs = (127, 0) by unfold typZ; rw [if_pos h0, if_pos h65])
      have d65 : ((i.op.toNat : Int) == 65) = true := op_isV h65
      clear h0 h65 hj hl oi hT
      go_enter Tryd.func35, Tryd.ntmps35
      go_wp2_with (go_at_call 27; go_must ((with_reducible refine HR.out.mono ?_); rintro e w1 ⟨rfl, hb⟩; have H1 := Lib.hid (H0.out.on hb); have c0 := H1.out.c0; have c1 := H1.out.c1; have c2 := H1.out.c2; have c3 := H1.out.c3; clear hb))
      go_ret2
      exact tpost HE.out H1.out.bel
    have d65 : ((i.op.toNat : Int) == 65) = false := op_not h65
    by_cases h66 : i.n = 66
    · have HE := Lib.hid (show typZ i gs = (126, 0) by unfold typZ; rw [if_pos h0, if_neg h65, if_pos h66])
      have d66 : ((i.op.toNat : Int) == 66) = true := op_isV h66
      clear h0 h65 h66 hj hl oi hT
      go_enter Tryd.func35, Tryd.ntmps35
      go_wp2_with (go_at_call 27; go_must ((with_reducible refine HR.out.mono ?_); rintro e w1 ⟨rfl, hb⟩; have H1 := Lib.hid (H0.out.on hb); have c0 := H1.out.c0; have c1 := H1.out.c1; have c2 := H1.out.c2; have c3 := H1.out.c3; clear hb))
      go_ret2
      exact tpost HE.out H1.out.bel
    have d66 : ((i.op.toNat : Int) == 66) = false := op_not h66
    obtain ⟨r, hr⟩ : ∃ r, r = getG gs j := ⟨_, rfl⟩
    have HG := Lib.hid (fun W (hb : Below w.heap.size w W) => show Calls Tryd.prog 85 #[insV i A c, .slice M gs.length cm] W (GPost r W) from by
      have := globalG_any (Ai := A) (c := cm) (n := i.l.length) (ci := c) (o := i.op.toNat) (b := i.b) (j := j) (hl.below hb) nl
      rw [← hr, ← hj] at this
      exact this)
    obtain ⟨⟨rt, rm⟩, re⟩ := r
    have HG := Lib.hid (fun W (hb : Below w.heap.size w W) => show Calls Tryd.prog 85 #[insV i A c, .slice M gs.length cm] W (fun e w' => e = .returned (.tuple #[.agg #[.int .u8 rt, .bool rm], .int .i64 re]) ∧ Below W.heap.size W w') from HG.out W hb)
    have hv : typZ i gs = if re = 0 ∧ rm = false then (rt, 0) else (0, 24) := by
      unfold typZ
      rw [if_pos h0, if_neg h65, if_neg h66, hj, Int.toNat_natCast]
      unfold getG at hr
      cases hx : gs[j]? with
      | none => rw [hx] at hr; injection hr with g1 g2; injection g1 with g3 g4; subst g2; subst g3; subst g4; simp
      | some x =>
        obtain ⟨t, m⟩ := x
        rw [hx] at hr
        injection hr with g1 g2
        injection g1 with g3 g4
        subst g2; subst g3; subst g4
        cases rm <;> simp
    have hre : re = 0 ∨ (re = 24 ∧ rt = 0 ∧ rm = false) := by
      unfold getG at hr
      cases hx : gs[j]? with
      | none => rw [hx] at hr; injection hr with g1 g2; injection g1 with g3 g4; exact .inr ⟨g2, g3, g4⟩
      | some x => rw [hx] at hr; injection hr with g1 g2; exact .inl g2
    clear h0 h65 h66 hj hl oi hT hr
    rcases hre with rfl | ⟨rfl, rfl, rfl⟩
    · cases rm
      · have HE := Lib.hid (show typZ i gs = (rt, 0) by rw [hv]; simp)
        clear hv
        go_enter Tryd.func35, Tryd.ntmps35
        go_wp2_with (first
          | (go_at_call 27; go_must ((with_reducible refine HR.out.mono ?_); rintro e w1 ⟨rfl, hb⟩; have H1 := Lib.hid (H0.out.on hb); have c0 := H1.out.c0; have c1 := H1.out.c1; have c2 := H1.out.c2; have c3 := H1.out.c3; clear hb))
          | (go_at_call 85; go_must ((with_reducible refine (HG.out _ H1.out.bel).mono ?_); rintro e w2 ⟨rfl, hb⟩; clear c0 c1 c2 c3; have HB2 := Lib.hid (H1.out.bel.trans (hb.mono H1.out.bel.size)); have HB3 := Lib.hid (HB2.out.alloc HB2.out.size (.cells #[.int .u8 rt, .bool false] 68)); clear hb)))
        go_ret2
        exact tpost HE.out HB3.out
      · have HE := Lib.hid (show typZ i gs = (0, 24) by rw [hv]; simp)
        clear hv
        go_enter Tryd.func35, Tryd.ntmps35
        go_wp2_with (first
          | (go_at_call 27; go_must ((with_reducible refine HR.out.mono ?_); rintro e w1 ⟨rfl, hb⟩; have H1 := Lib.hid (H0.out.on hb); have c0 := H1.out.c0; have c1 := H1.out.c1; have c2 := H1.out.c2; have c3 := H1.out.c3; clear hb))
          | (go_at_call 85; go_must ((with_reducible refine (HG.out _ H1.out.bel).mono ?_); rintro e w2 ⟨rfl, hb⟩; clear c0 c1 c2 c3; have HB2 := Lib.hid (H1.out.bel.trans (hb.mono H1.out.bel.size)); have HB3 := Lib.hid (HB2.out.alloc HB2.out.size (.cells #[.int .u8 rt, .bool true] 68)); clear hb)))
        go_ret2
        exact tpost HE.out HB3.out
    · have HE := Lib.hid (show typZ i gs = (0, 24) by rw [hv]; simp)
      clear hv
      go_enter Tryd.func35, Tryd.ntmps35
      go_wp2_with (first
        | (go_at_call 27; go_must ((with_reducible refine HR.out.mono ?_); rintro e w1 ⟨rfl, hb⟩; have H1 := Lib.hid (H0.out.on hb); have c0 := H1.out.c0; have c1 := H1.out.c1; have c2 := H1.out.c2; have c3 := H1.out.c3; clear hb))
        | (go_at_call 85; go_must ((with_reducible refine (HG.out _ H1.out.bel).mono ?_); rintro e w2 ⟨rfl, hb⟩; clear c0 c1 c2 c3; have HB2 := Lib.hid (H1.out.bel.trans (hb.mono H1.out.bel.size)); have HB3 := Lib.hid (HB2.out.alloc HB2.out.size (.cells #[.int .u8 0, .bool false] 68)); clear hb)))
      go_ret2
      exact tpost HE.out HB3.out
  · have hv : typZ i gs = (0, crightZ i) := by unfold typZ; rw [if_neg h0]
    obtain ⟨z, hz⟩ : ∃ z, z = crightZ i := ⟨_, rfl⟩
    rw [← hz] at HR hv h0
    have HE := Lib.hid hv
    have dz : (z != 0) = true := by simpa using h0
    clear h0 hj hl oi hT hv hz
    go_enter Tryd.func35, Tryd.ntmps35
    go_wp2_with (go_at_call 27; go_must ((with_reducible refine HR.out.mono ?_); rintro e w1 ⟨rfl, hb⟩; have H1 := Lib.hid (H0.out.on hb); have c0 := H1.out.c0; have c1 := H1.out.c1; have c2 := H1.out.c2; have c3 := H1.out.c3; clear hb))
    go_ret2
    exact tpost HE.out H1.out.bel
theorem of_int (n x : Int) (w : World) (hx : x = n % 4294967296) :
    Calls Tryd.prog 39 #[.agg #[.int .u8 127, .int .u64 n]] w fun e w' => e = .returned (.tuple #[.agg #[.int .u8 65, .int .u64 x, .int .u64 0, .slice none 0 0], .int .i64 0]) ∧ Below w.heap.size w w' := by
  have hw : IntKind.u32.wrap n = x := by rw [hx]; simp [IntKind.wrap, IntKind.bits, IntKind.signed]
  have hw2 : IntKind.u64.wrap x = x := by rw [hx]; simp [IntKind.wrap, IntKind.bits, IntKind.signed]; omega
  clear hx
  go_enter Tryd.func39, Tryd.ntmps39
  go_wp2
  exact bodyPost_ret (v := .tuple #[.agg #[.int .u8 65, .int .u64 x, .int .u64 0, .slice none 0 0], .int .i64 0]) (by simp [results, Tryd.results39, go_sem]) rfl ⟨rfl, below_two _ _ _⟩
theorem of_long (n : Int) (w : World) :
    Calls Tryd.prog 39 #[.agg #[.int .u8 126, .int .u64 n]] w fun e w' => e = .returned (.tuple #[.agg #[.int .u8 66, .int .u64 n, .int .u64 0, .slice none 0 0], .int .i64 0]) ∧ Below w.heap.size w w' := by
  go_enter Tryd.func39, Tryd.ntmps39
  go_wp2
  exact bodyPost_ret (v := .tuple #[.agg #[.int .u8 66, .int .u64 n, .int .u64 0, .slice none 0 0], .int .i64 0]) (by simp [results, Tryd.results39, go_sem]) rfl ⟨rfl, below_two _ _ _⟩
theorem of_no (t n : Int) (w : World) (h1 : (t == 127) = false) (h2 : (t == 126) = false) :
    Calls Tryd.prog 39 #[.agg #[.int .u8 t, .int .u64 n]] w fun e w' => e = .returned (.tuple #[.agg #[.int .u8 0, .int .u64 0, .int .u64 0, .slice none 0 0], .int .i64 7]) ∧ Below w.heap.size w w' := by
  go_enter Tryd.func39, Tryd.ntmps39
  go_wp2
  exact bodyPost_ret (v := .tuple #[.agg #[.int .u8 0, .int .u64 0, .int .u64 0, .slice none 0 0], .int .i64 7]) (by simp [results, Tryd.results39, go_sem]) rfl ⟨rfl, below_two _ _ _⟩

/-- Behind an append to a row of the call's own. -/
theorem box_app {w wr w2 : World} {i : I} {A : Option Addr} {c : Nat} {o : Obj} (h : BoxI w wr i A c) (hb : Below (w.heap.size + 1) (wr.alloc o) w2) : BoxI w w2 i A c :=
  ⟨(hb.block w.heap.size (by omega)).trans (h.1.alloc o), (h.2.alloc h.2.size _).trans (hb.mono (by omega))⟩
/-- The types alone, as values of number 0; with their places as numbers. -/
def zerG (gs : List (Int × Bool)) : List (Int × Int) := gs.map fun g => (g.1, 0)
theorem zerG_get {gs : List (Int × Bool)} {k : Nat} {t : Int} {m : Bool} (h : gs[k]? = some (t, m)) : (zerG gs)[k]? = some (t, 0) := by
  unfold zerG
  rw [List.getElem?_map, h]
  rfl
theorem zerG_length (gs : List (Int × Bool)) : (zerG gs).length = gs.length := by unfold zerG; simp
def numG : List (Int × Bool) → Nat → List (Int × Int)
  | [], _ => []
  | g :: gs, k => (g.1, (k : Int)) :: numG gs (k + 1)
theorem numG_length : ∀ (gs : List (Int × Bool)) (k : Nat), (numG gs k).length = gs.length
  | [], _ => rfl
  | g :: gs, k => by unfold numG; rw [List.length_cons, numG_length gs (k + 1), List.length_cons]
theorem numG_get : ∀ (gs : List (Int × Bool)) (d k : Nat) (t : Int) (m : Bool), gs[k]? = some (t, m) → (numG gs d)[k]? = some (t, ((d + k : Nat) : Int))
  | [], _, _, _, _, h => by cases h
  | g :: gs, d, 0, t, m, h => by
    injection h with h
    subst h
    rfl
  | g :: gs, d, k + 1, t, m, h => by
    have := numG_get gs (d + 1) k t m h
    unfold numG
    rw [show d + (k + 1) = d + 1 + k by omega]
    exact this
set_option maxHeartbeats 2000000 in
theorem rtype_any {w : World} {i : I} {A M : Option Addr} {c cm : Nat} {gs : List (Int × Bool)} (oi : i.Ok) (hl : LiesG w M gs) (ni : (i.l.length : Int) ≤ 9223372036854775807) (nl : gs.length ≤ 100) (wg : ∀ q ∈ gs, 0 ≤ q.1 ∧ q.1 ≤ 255) :
    Calls Tryd.prog 37 #[insV i A c, .slice M gs.length cm] w (TPost (typZ i gs) .i64 w) := by
  have H0 := Lib.hid (BoxI.start w i A c)
  have HL := Lib.hid hl
  have hzl := zerG_length gs
  have HTK := Lib.hid (fun (k : Nat) (t : Int) (m : Bool) (h : gs[k]? = some (t, m)) => take_snocV (zerG_get h))
  have HZL := Lib.hid hzl
  have HV := Lib.hid (fun W (Av : Option Addr) (cv : Nat) (h : LiesP W Av (zerG gs)) => show Calls Tryd.prog 38 #[insV i A c, .slice Av (zerG gs).length cv] W (PPost (valZ i (zerG gs)) W) from rvalue_any (cv := cv) oi h ni (by omega))
  have HS := Lib.hid (fun (k : Nat) (hk : k < gs.length) => show ∃ t m, gs[k]? = some (t, m) from ⟨gs[k].1, gs[k].2, List.getElem?_eq_getElem hk⟩)
  have hcase : (∃ z, z ≠ 0 ∧ valZ i (zerG gs) = ((0, 0), z) ∧ typZ i gs = (0, z)) ∨ (∃ t, (t = 127 ∨ t = 126) ∧ valZ i (zerG gs) = ((t, i.a), 0) ∧ typZ i gs = (t, 0) ∧ ¬ i.n = 35) ∨
      (i.n = 35 ∧ ∃ j : Nat, i.a = j ∧ ((∃ t m, gs[j]? = some (t, m) ∧ (0 ≤ t ∧ t ≤ 255) ∧ valZ i (zerG gs) = ((t, 0), 0) ∧ typZ i gs = if m then (0, 24) else (t, 0)) ∨ (valZ i (zerG gs) = ((0, 0), 24) ∧ typZ i gs = (0, 24)))) := by
    by_cases h0 : crightZ i = 0
    · by_cases h65 : i.n = 65
      · exact .inr (.inl ⟨127, .inl rfl, by unfold valZ; rw [if_pos h0, if_pos h65], by unfold typZ; rw [if_pos h0, if_pos h65], by omega⟩)
      · by_cases h66 : i.n = 66
        · exact .inr (.inl ⟨126, .inr rfl, by unfold valZ; rw [if_pos h0, if_neg h65, if_pos h66], by unfold typZ; rw [if_pos h0, if_neg h65, if_pos h66], by omega⟩)
        · obtain ⟨j, hj⟩ : ∃ j : Nat, i.a = j := ⟨i.a.toNat, by have := oi.a0; omega⟩
          have hv : valZ i (zerG gs) = getP (zerG gs) j := by unfold valZ; rw [if_pos h0, if_neg h65, if_neg h66, hj, Int.toNat_natCast]
          have ht : typZ i gs = match gs[j]? with
              | some (t, m) => if m then (0, 24) else (t, 0)
              | none => (0, 24) := by unfold typZ; rw [if_pos h0, if_neg h65, if_neg h66, hj, Int.toNat_natCast] <;> rfl
          refine .inr (.inr ⟨isC_35 h0 h65 h66, j, hj, ?_⟩)
          cases hx : gs[j]? with
          | none =>
            rw [hx] at ht
            have : ¬ j < (zerG gs).length := by
              rw [hzl]
              intro hlt
              rw [List.getElem?_eq_getElem hlt] at hx
              cases hx
            exact .inr ⟨by rw [hv, getP_out this], ht⟩
          | some x =>
            obtain ⟨t, m⟩ := x
            rw [hx] at ht
            exact .inl ⟨t, m, rfl, wg _ (List.mem_of_getElem? hx), by rw [hv, getP_in (zerG_get hx)], ht⟩
    · exact .inl ⟨crightZ i, h0, by unfold valZ; rw [if_neg h0], by unfold typZ; rw [if_neg h0]⟩
  have HCASE := Lib.hid hcase
  obtain ⟨T, hT⟩ : ∃ T, T = typZ i gs := ⟨_, rfl⟩
  rw [← hT] at HCASE ⊢
  clear hcase hl hT oi wg hzl
  go_enter Tryd.func37, Tryd.ntmps37
  go_wp2
  go_loopw [6, 7] (fun v x wr => ∃ k : Nat, k ≤ gs.length ∧ x = .int .i64 k ∧ RowV wr (w.heap.size + 1) v ((zerG gs).take k) ∧ BoxI w wr i A c) (fun _ x _ => gs.length - (intOf x).toNat)
  case atStart => exact ⟨0, Nat.zero_le _, rfl, RowV.nil _ _, H0.out⟩
  case round =>
    obtain ⟨k, hk, rfl, hrow, hbox⟩ := hrel
    have HB := Lib.hid hbox
    have HROW := Lib.hid hrow
    have c0 := hbox.c0
    have c1 := hbox.c1
    have c2 := hbox.c2
    have c3 := hbox.c3
    by_cases hlt : k < gs.length
    · obtain ⟨t, m, hx⟩ := HS.out k hlt
      obtain ⟨bb, off, rfl, hbb, g0, g1⟩ := (HL.out.below hbox.bel) k t m hx
      have HTX := Lib.hid (HTK.out k t m hx)
      have hlen : ((zerG gs).take k).length ≤ 1000 := by rw [List.length_take]; omega
      clear hrow hbox hx
      go_wp2_with (at_builtin; (refine rowsV_new rfl _ _ rfl (w.heap.size + 1) _ ((zerG gs).take k) rfl (HROW.out.alloc _) wr.heap.size (t, 0) rfl (Whole.made wr _ _) hlen (Nat.le_trans HB.out.lt (below_box wr _).size) ?_; intro v2 w2 hr2 hb2; rw [← HTX.out] at hr2; have HR2 := Lib.hid hr2; have HB2 := Lib.hid hb2; clear hr2 hb2))
      go_roundw
      case rel => exact ⟨k + 1, by omega, by go_num, HR2.out, box_app HB.out HB2.out⟩
      case measure => simp [intOf]; omega
    · obtain rfl : k = gs.length := by omega
      have htk : (zerG gs).take gs.length = zerG gs := List.take_of_length_le (by rw [HZL.out]; exact Nat.le_refl _)
      rw [htk] at hrow
      obtain ⟨Av, cv, hav, hlv⟩ := hrow.lies
      subst hav
      have HV1 := Lib.hid (HV.out wr Av cv hlv)
      clear hrow hlv HROW htk HV
      rcases HCASE.out with ⟨z, hz0, hv, ht⟩ | ⟨t, ht1, hv, ht, hn⟩ | ⟨hn, j, hj, ⟨t, m, hx, ⟨t0, t1⟩, hv, ht⟩ | ⟨hv, ht⟩⟩
      · have HV2 := HV1.out
        rw [hv] at HV2
        have HT := Lib.hid ht
        have dz : (z == 0) = false := by simpa using hz0
        clear HCASE hv ht hz0
        have HV1 := Lib.hid (show Calls Tryd.prog 38 #[insV i A c, .slice Av (zerG gs).length cv] wr (fun e w' => e = .returned (.tuple #[.agg #[.int .u8 0, .int .u64 0], .int .i64 z]) ∧ Below wr.heap.size wr w') from HV2)
        clear HV2
        go_wp2_with (go_at_call 38; go_must ((with_reducible refine HV1.out.mono ?_); rintro e w2 ⟨rfl, hb⟩; clear c0 c1 c2 c3; have H2 := Lib.hid ((HB.out.on hb).on (below_box w2 (.cells #[.int .u8 0, .int .u64 0] 65))); have c0 := H2.out.c0; have c1 := H2.out.c1; have c2 := H2.out.c2; have c3 := H2.out.c3; clear hb))
        go_ret2
        exact tpost HT.out H2.out.bel
      · have HV2 := HV1.out
        rw [hv] at HV2
        have HT := Lib.hid ht
        have d35 : ((i.op.toNat : Int) == 35) = false := op_not hn
        have hwt : IntKind.i64.wrap t = t := by rw [IntKind.wrap_i64]; omega
        clear HCASE hv ht ht1 hn
        have HV1 := Lib.hid (show Calls Tryd.prog 38 #[insV i A c, .slice Av (zerG gs).length cv] wr (fun e w' => e = .returned (.tuple #[.agg #[.int .u8 t, .int .u64 i.a], .int .i64 0]) ∧ Below wr.heap.size wr w') from HV2)
        clear HV2
        go_wp2_with (go_at_call 38; go_must ((with_reducible refine HV1.out.mono ?_); rintro e w2 ⟨rfl, hb⟩; clear c0 c1 c2 c3; have H2 := Lib.hid ((HB.out.on hb).on (below_box w2 (.cells #[.int .u8 t, .int .u64 i.a] 65))); have c0 := H2.out.c0; have c1 := H2.out.c1; have c2 := H2.out.c2; have c3 := H2.out.c3; clear hb))
        go_ret2
        exact tpost HT.out H2.out.bel
      · have HV2 := HV1.out
        rw [hv] at HV2
        have d35 : ((i.op.toNat : Int) == 35) = true := op_isV hn
        have hwt : IntKind.i64.wrap t = t := by rw [IntKind.wrap_i64]; omega
        have hjl : j < gs.length := (List.getElem?_eq_some_iff.1 hx).1
        have HJ := Lib.hid hj
        have HX := Lib.hid hx
        clear HCASE hv hn t0 t1 hj hx
        cases m
        · have HT := Lib.hid (show T = (t, 0) from ht)
          clear ht
          have HV1 := Lib.hid (show Calls Tryd.prog 38 #[insV i A c, .slice Av (zerG gs).length cv] wr (fun e w' => e = .returned (.tuple #[.agg #[.int .u8 t, .int .u64 0], .int .i64 0]) ∧ Below wr.heap.size wr w') from HV2)
          clear HV2
          go_wp2_with (go_at_call 38; go_must ((with_reducible refine HV1.out.mono ?_); rintro e w2 ⟨rfl, hb⟩; clear c0 c1 c2 c3; have H2 := Lib.hid ((HB.out.on hb).on (below_box w2 (.cells #[.int .u8 t, .int .u64 0] 65))); have c0 := H2.out.c0; have c1 := H2.out.c1; have c2 := H2.out.c2; have c3 := H2.out.c3; clear c1; have c1 : (w2.alloc (.cells #[.int .u8 t, .int .u64 0] 65)).cell? ⟨w.heap.size, 1, none⟩ = some (.int .u64 (j : Int)) := (by rw [← HJ.out]; exact H2.out.c1); obtain ⟨bb, off, rfl, hbb, g0, g1⟩ := (HL.out.below H2.out.bel) j t false HX.out; clear hb))
          go_ret2
          exact tpost HT.out H2.out.bel
        · have HT := Lib.hid (show T = (0, 24) from ht)
          clear ht
          have HV1 := Lib.hid (show Calls Tryd.prog 38 #[insV i A c, .slice Av (zerG gs).length cv] wr (fun e w' => e = .returned (.tuple #[.agg #[.int .u8 t, .int .u64 0], .int .i64 0]) ∧ Below wr.heap.size wr w') from HV2)
          clear HV2
          go_wp2_with (go_at_call 38; go_must ((with_reducible refine HV1.out.mono ?_); rintro e w2 ⟨rfl, hb⟩; clear c0 c1 c2 c3; have H2 := Lib.hid ((HB.out.on hb).on (below_box w2 (.cells #[.int .u8 t, .int .u64 0] 65))); have c0 := H2.out.c0; have c1 := H2.out.c1; have c2 := H2.out.c2; have c3 := H2.out.c3; clear c1; have c1 : (w2.alloc (.cells #[.int .u8 t, .int .u64 0] 65)).cell? ⟨w.heap.size, 1, none⟩ = some (.int .u64 (j : Int)) := (by rw [← HJ.out]; exact H2.out.c1); obtain ⟨bb, off, rfl, hbb, g0, g1⟩ := (HL.out.below H2.out.bel) j t true HX.out; clear hb))
          go_ret2
          exact tpost HT.out H2.out.bel
      · have HV2 := HV1.out
        rw [hv] at HV2
        have HT := Lib.hid ht
        clear HCASE hv ht hn hj
        have HV1 := Lib.hid (show Calls Tryd.prog 38 #[insV i A c, .slice Av (zerG gs).length cv] wr (fun e w' => e = .returned (.tuple #[.agg #[.int .u8 0, .int .u64 0], .int .i64 24]) ∧ Below wr.heap.size wr w') from HV2)
        clear HV2
        go_wp2_with (go_at_call 38; go_must ((with_reducible refine HV1.out.mono ?_); rintro e w2 ⟨rfl, hb⟩; clear c0 c1 c2 c3; have H2 := Lib.hid ((HB.out.on hb).on (below_box w2 (.cells #[.int .u8 0, .int .u64 0] 65))); have c0 := H2.out.c0; have c1 := H2.out.c1; have c2 := H2.out.c2; have c3 := H2.out.c3; clear hb))
        go_ret2
        exact tpost HT.out H2.out.bel
end Go.Proofs.YtebgmfjgapmpfaaDoor

/- The walk of ConstsValues. (By gen/genLawCV.py.) -/
namespace Go.Proofs.YtebgmfjgapmpfaaDoor
open Go.RowKit
set_option linter.unusedVariables false
set_option maxRecDepth 100000

/-- The instruction's box, the value's box behind it. -/
structure CVs (w : World) (i : I) (A : Option Addr) (c : Nat) (t n : Int) (W : World) : Prop where
  box : BoxI w W i A c
  vb : Whole W (w.heap.size + 1) 65 #[.int .u8 t, .int .u64 n]
section
variable {w W W' : World} {i : I} {A : Option Addr} {c : Nat} {t n : Int}
theorem CVs.on (h : CVs w i A c t n W) (hb : Below W.heap.size W W') : CVs w i A c t n W' := ⟨h.box.on hb, h.vb.below hb⟩
theorem CVs.bel (h : CVs w i A c t n W) : Below w.heap.size w W := h.box.2
theorem CVs.start (w : World) (i : I) (A : Option Addr) (c : Nat) (t n : Int) : CVs w i A c t n ((w.alloc (.cells (insC i A c) 25)).alloc (.cells #[.int .u8 t, .int .u64 n] 65)) := by
  have := Whole.made (w.alloc (.cells (insC i A c) 25)) 65 #[.int .u8 t, .int .u64 n]
  rw [size_box] at this
  exact ⟨(BoxI.start w i A c).on (below_box _ _), this⟩
theorem CVs.app {w2 : World} {o : Obj} (h : CVs w i A c t n W) (hb : Below (w.heap.size + 2) (W.alloc o) w2) : CVs w i A c t n w2 :=
  ⟨⟨(hb.block w.heap.size (by omega)).trans (h.box.1.alloc o), (h.box.2.alloc h.box.2.size _).trans (hb.mono (by omega))⟩, (hb.block (w.heap.size + 1) (by omega)).trans (h.vb.alloc o)⟩
end
/-- .. and the value that comes back. -/
structure CVz (w : World) (i : I) (A : Option Addr) (c : Nat) (t n x : Int) (b8 : Nat) (W : World) : Prop where
  a : CVs w i A c t n W
  z : Whole W b8 65 #[.int .u8 t, .int .u64 x]
abbrev Four (w : World) (t n x : Int) (b8 : Nat) (W : World) : Prop :=
  (W.cell? ⟨w.heap.size + 1, 0, none⟩ = some (.int .u8 t) ∧ W.cell? ⟨w.heap.size + 1, 1, none⟩ = some (.int .u64 n)) ∧ W.cell? ⟨b8, 0, none⟩ = some (.int .u8 t) ∧ W.cell? ⟨b8, 1, none⟩ = some (.int .u64 x)
theorem CVz.on {w W W' : World} {i : I} {A : Option Addr} {c : Nat} {t n x : Int} {b8 : Nat} (h : CVz w i A c t n x b8 W) (hb : Below W.heap.size W W') : CVz w i A c t n x b8 W' := ⟨h.a.on hb, h.z.below hb⟩
theorem CVz.four {w W : World} {i : I} {A : Option Addr} {c : Nat} {t n x : Int} {b8 : Nat} (h : CVz w i A c t n x b8 W) : CVz w i A c t n x b8 W ∧ Four w t n x b8 W := ⟨h, ⟨h.a.vb.cell 0, h.a.vb.cell 1⟩, h.z.cell 0, h.z.cell 1⟩
theorem typZ_bd {i : I} {gs : List (Int × Bool)} (wg : ∀ q ∈ gs, 0 ≤ q.1 ∧ q.1 ≤ 255) : 0 ≤ (typZ i gs).1 ∧ (typZ i gs).1 ≤ 255 := by
  unfold typZ
  by_cases h0 : crightZ i = 0
  · rw [if_pos h0]
    by_cases h65 : i.n = 65
    · rw [if_pos h65]; exact ⟨by decide, by decide⟩
    · rw [if_neg h65]
      by_cases h66 : i.n = 66
      · rw [if_pos h66]; exact ⟨by decide, by decide⟩
      · rw [if_neg h66]
        cases hx : gs[i.a.toNat]? with
        | none => exact ⟨by decide, by decide⟩
        | some x =>
          obtain ⟨t, m⟩ := x
          have := wg _ (List.mem_of_getElem? hx)
          cases m
          · exact this
          · exact ⟨by show (0 : Int) ≤ 0; omega, by show (0 : Int) ≤ 255; omega⟩
  · rw [if_neg h0]; exact ⟨by show (0 : Int) ≤ 0; omega, by show (0 : Int) ≤ 255; omega⟩
theorem own65 {x : Int} (h0 : 0 ≤ x) (h1 : x ≤ 4294967295) : crightZ ⟨65, x, 0, []⟩ = 0 := by
  refine cr_yes ?_ (show IsC 65 by decide)
  have hc : checkR 65 = 0 := by decide +kernel
  have hi : immR 65 = 10 := by decide +kernel
  have hn : (⟨65, x, 0, []⟩ : I).n = 65 := rfl
  unfold rightZ
  rw [hn, hc, hi]
  simp
  unfold numsZ
  simp
  omega
theorem own66 {x : Int} : crightZ ⟨66, x, 0, []⟩ = 0 := by
  refine cr_yes ?_ (show IsC 66 by decide)
  have hc : checkR 66 = 0 := by decide +kernel
  have hi : immR 66 = 11 := by decide +kernel
  have hn : (⟨66, x, 0, []⟩ : I).n = 66 := rfl
  unfold rightZ
  rw [hn, hc, hi]
  simp
  unfold numsZ
  simp
theorem value65 {x : Int} (h0 : 0 ≤ x) (h1 : x ≤ 4294967295) (W : World) (hT : Tabs W) :
    Calls Tryd.prog 36 #[.agg #[.int .u8 65, .int .u64 x, .int .u64 0, .slice none 0 0], .slice none 0 0] W fun e w' => e = .returned (.tuple #[.agg #[.int .u8 127, .int .u64 x], .int .i64 0]) ∧ Below W.heap.size W w' := by
  have := cvalue_any (w := W) (i := ⟨65, x, 0, []⟩) (A := none) (Av := none) (c := 0) (cv := 0) (l := []) ⟨h0, by show x ≤ _; omega, by show (0 : Int) ≤ 0; omega, by show (0 : Int) ≤ _; omega, fun c h => by cases h⟩ hT (LiesP.nil W) (by simp) (by simp)
  rw [show valZ ⟨65, x, 0, []⟩ [] = ((127, x), 0) by unfold valZ; rw [if_pos (own65 h0 h1), if_pos (show (⟨65, x, 0, []⟩ : I).n = 65 from rfl)]] at this
  exact this
theorem value66 {x : Int} (h0 : 0 ≤ x) (h1 : x ≤ 18446744073709551615) (W : World) (hT : Tabs W) :
    Calls Tryd.prog 36 #[.agg #[.int .u8 66, .int .u64 x, .int .u64 0, .slice none 0 0], .slice none 0 0] W fun e w' => e = .returned (.tuple #[.agg #[.int .u8 126, .int .u64 x], .int .i64 0]) ∧ Below W.heap.size W w' := by
  have := cvalue_any (w := W) (i := ⟨66, x, 0, []⟩) (A := none) (Av := none) (c := 0) (cv := 0) (l := []) ⟨h0, h1, by show (0 : Int) ≤ 0; omega, by show (0 : Int) ≤ _; omega, fun c h => by cases h⟩ hT (LiesP.nil W) (by simp) (by simp)
  rw [show valZ ⟨66, x, 0, []⟩ [] = ((126, x), 0) by unfold valZ; rw [if_pos own66, if_neg (show ¬ (⟨66, x, 0, []⟩ : I).n = 65 from (show ¬ (66 : Nat) = 65 by decide)), if_pos (show (⟨66, x, 0, []⟩ : I).n = 66 from rfl)]] at this
  exact this
theorem zeroV_same (w : World) : Calls Tryd.prog 15 #[.agg #[.int .u8 0, .int .u64 0, .int .u64 0, .slice none 0 0], .agg #[.int .u8 0, .int .u64 0, .int .u64 0, .slice none 0 0]] w (BoolPost true w) := by
  have := refSame_any (w := w) (A := none) (B := none) (c := 0) (d := 0) (i := ⟨0, 0, 0, []⟩) (k := ⟨0, 0, 0, []⟩) (fun j v hv => by simp [cells32] at hv) (fun j v hv => by simp [cells32] at hv) (by simp) (by simp)
  rw [show sameZ ⟨0, 0, 0, []⟩ ⟨0, 0, 0, []⟩ = true by unfold sameZ; simp] at this
  exact this

set_option maxHeartbeats 4000000 in
theorem lawCV {w : World} {i : I} {A M : Option Addr} {c cm : Nat} {t n : Int} {gs : List (Int × Bool)} (hT : Tabs w) (oi : i.Ok) (hi : LiesL w A i.l) (ni : (i.l.length : Int) ≤ 9223372036854775807) (wg : ∀ q ∈ gs, 0 ≤ q.1 ∧ q.1 ≤ 255) (hg : LiesG w M gs) (nm : (gs.length : Int) ≤ 9223372036854775807)
    (wt : 0 ≤ t ∧ t ≤ 255) (wn : 0 ≤ n ∧ n ≤ 18446744073709551615) :
    Calls Tryd.prog 7 #[insV i A c, .slice M gs.length cm, .agg #[.int .u8 t, .int .u64 n]] w (BoolPost true w) := by
  have h0 := CVs.start w i A c t n
  have HAW := Lib.hid (cawake_any _ (hT.below h0.bel))
  have H0 := Lib.hid h0
  clear h0 hi
  by_cases g1 : 200 < i.l.length
  · have t1 : decide (200 < (i.l.length : Int)) = true := decide_eq_true (by omega)
    clear hT hg oi wg
    go_enter Tryd.func7, Tryd.ntmps7
    go_wp2_with (go_at_call 23; go_must ((with_reducible refine HAW.out.mono ?_); rintro e w1 ⟨rfl, hb⟩; have H1 := Lib.hid (H0.out.on hb); have c3 := H1.out.box.c3; clear hb))
    go_ret
    exact ⟨rfl, H1.out.bel⟩
  have t1 : decide (200 < (i.l.length : Int)) = false := decide_eq_false (by omega)
  by_cases g2 : 100 < gs.length
  · have t2 : decide (100 < (gs.length : Int)) = true := decide_eq_true (by omega)
    clear hT hg oi wg
    go_enter Tryd.func7, Tryd.ntmps7
    go_wp2_with (go_at_call 23; go_must ((with_reducible refine HAW.out.mono ?_); rintro e w1 ⟨rfl, hb⟩; have H1 := Lib.hid (H0.out.on hb); have c3 := H1.out.box.c3; clear hb))
    go_ret
    exact ⟨rfl, H1.out.bel⟩
  have t2 : decide (100 < (gs.length : Int)) = false := decide_eq_false (by omega)
  obtain ⟨l1, hl1⟩ : ∃ l1, l1 = numG gs 0 := ⟨_, rfl⟩
  have hlen : l1.length = gs.length := by rw [hl1]; exact numG_length gs 0
  have HTYP := Lib.hid (fun W (hb : Below w.heap.size w W) => ctype_any (c := c) (cm := cm) (A := A) oi (hT.below hb) (hg.below hb) ni nm)
  have HRTY := Lib.hid (fun W (hb : Below w.heap.size w W) => rtype_any (c := c) (cm := cm) oi (A := A) (hg.below hb) ni (by omega) wg)
  have HVAL := Lib.hid (fun W (Av : Option Addr) (cv : Nat) (hb : Below w.heap.size w W) (hl : LiesP W Av l1) => cvalue_any (c := c) (cv := cv) (A := A) oi (hT.below hb) hl ni (by omega))
  have HRVA := Lib.hid (fun W (Av : Option Addr) (cv : Nat) (hb : Below w.heap.size w W) (hl : LiesP W Av l1) => rvalue_any (c := c) (cv := cv) (A := A) oi hl ni (by omega))
  have hbd := typZ_bd (i := i) wg
  obtain ⟨T, hTT⟩ : ∃ T, T = typZ i gs := ⟨_, rfl⟩
  rw [← hTT] at HTYP HRTY hbd
  obtain ⟨V, hVV⟩ : ∃ V, V = valZ i l1 := ⟨_, rfl⟩
  rw [← hVV] at HVAL HRVA
  obtain ⟨T1, T2⟩ := T
  obtain ⟨⟨V1, V2⟩, V3⟩ := V
  have HTYP := Lib.hid (fun W (hb : Below w.heap.size w W) => show Calls Tryd.prog 35 #[insV i A c, .slice M gs.length cm] W (fun e w' => e = .returned (.tuple #[.int .u8 T1, .int .i64 T2]) ∧ Below W.heap.size W w') from HTYP.out W hb)
  have HRTY := Lib.hid (fun W (hb : Below w.heap.size w W) => show Calls Tryd.prog 37 #[insV i A c, .slice M gs.length cm] W (fun e w' => e = .returned (.tuple #[.int .i64 T1, .int .i64 T2]) ∧ Below W.heap.size W w') from HRTY.out W hb)
  have HVAL := Lib.hid (fun W (Av : Option Addr) (cv : Nat) (hb : Below w.heap.size w W) (hl : LiesP W Av l1) => show Calls Tryd.prog 36 #[insV i A c, .slice Av l1.length cv] W (fun e w' => e = .returned (.tuple #[.agg #[.int .u8 V1, .int .u64 V2], .int .i64 V3]) ∧ Below W.heap.size W w') from HVAL.out W Av cv hb hl)
  have HRVA := Lib.hid (fun W (Av : Option Addr) (cv : Nat) (hb : Below w.heap.size w W) (hl : LiesP W Av l1) => show Calls Tryd.prog 38 #[insV i A c, .slice Av l1.length cv] W (fun e w' => e = .returned (.tuple #[.agg #[.int .u8 V1, .int .u64 V2], .int .i64 V3]) ∧ Below W.heap.size W w') from HRVA.out W Av cv hb hl)
  have hwT : IntKind.i64.wrap T1 = T1 := by rw [IntKind.wrap_i64]; have h1 : 0 ≤ T1 := hbd.1; have h2 : T1 ≤ 255 := hbd.2; omega
  have HTK := Lib.hid (fun (k : Nat) (tt : Int) (m : Bool) (h : gs[k]? = some (tt, m)) => show l1.take (k + 1) = l1.take k ++ [(tt, (k : Int))] from by
    have := numG_get gs 0 k tt m h
    rw [Nat.zero_add, ← hl1] at this
    exact take_snocV this)
  have HG := Lib.hid hg
  have HT := Lib.hid hT
  have HLEN := Lib.hid hlen
  have HS := Lib.hid (fun (k : Nat) (hk : k < gs.length) => show ∃ t m, gs[k]? = some (t, m) from ⟨gs[k].1, gs[k].2, List.getElem?_eq_getElem hk⟩)
  have ng : gs.length ≤ 100 := by omega
  clear hg hT hl1 hlen hTT hVV hbd oi g1 g2 wg
  by_cases h127 : t = 127
  · subst h127
    obtain ⟨xx, hxx⟩ : ∃ xx, xx = n % 4294967296 := ⟨_, rfl⟩
    have HOF := Lib.hid (fun W => of_int n xx W hxx)
    have HV2 := Lib.hid (fun W (h : Tabs W) => value65 (x := xx) (by omega) (by omega) W h)
    have HCUT := Lib.hid (fun W => show Calls Tryd.prog 40 #[.agg #[.int .u8 127, .int .u64 n]] W fun e w' => e = .returned (.agg #[.int .u8 127, .int .u64 xx]) ∧ Below W.heap.size W w' from by have := refCut_any 127 n W wn.1 wn.2; rw [show cutZ 127 n = xx by rw [hxx]; rfl] at this; exact this)
    clear hxx wt wn
    go_enter Tryd.func7, Tryd.ntmps7
    go_wp2_with (go_at_call 23; go_must ((with_reducible refine HAW.out.mono ?_); rintro e w1 ⟨rfl, hb⟩; have H1 := Lib.hid (H0.out.on hb); have c3 := H1.out.box.c3; clear hb))
    go_loopw [7, 8] (fun v x wr => ∃ k : Nat, k ≤ gs.length ∧ x = .int .i64 k ∧ RowV wr (w.heap.size + 2) v (l1.take k) ∧ CVs w i A c 127 n wr) (fun _ x _ => gs.length - (intOf x).toNat)
    case atStart => exact ⟨0, Nat.zero_le _, rfl, RowV.nil _ _, H1.out⟩
    case round =>
      obtain ⟨k, hk, rfl, hrow, hbox⟩ := hrel
      have HB := Lib.hid hbox
      have HROW := Lib.hid hrow
      by_cases hlt : k < gs.length
      · obtain ⟨tt, m, hx⟩ := HS.out k hlt
        obtain ⟨bb, off, rfl, hbb, g0, g1⟩ := (HG.out.below hbox.bel) k tt m hx
        have HTX := Lib.hid (HTK.out k tt m hx)
        have hlen : (l1.take k).length ≤ 1000 := by rw [List.length_take]; omega
        have hwk : IntKind.u64.wrap (k : Int) = k := by simp [IntKind.wrap, IntKind.bits, IntKind.signed]; omega
        have hsz2 : w.heap.size + 2 ≤ wr.heap.size := hbox.vb.lt
        clear hrow hbox hx
        go_wp2_with (at_builtin; (refine rowsV_new rfl _ _ rfl (w.heap.size + 2) _ (l1.take k) rfl (HROW.out.alloc _) wr.heap.size (tt, (k : Int)) rfl (Whole.made wr _ _) hlen (Nat.le_trans hsz2 (below_box wr _).size) ?_; intro v2 w2 hr2 hb2; rw [← HTX.out] at hr2; have HR2 := Lib.hid hr2; have HB2 := Lib.hid hb2; clear hr2 hb2))
        go_roundw
        case rel => exact ⟨k + 1, by omega, by go_num, HR2.out, HB.out.app HB2.out⟩
        case measure => simp [intOf]; omega
      · obtain rfl : k = gs.length := by omega
        have htk : l1.take gs.length = l1 := List.take_of_length_le (by rw [HLEN.out]; exact Nat.le_refl _)
        rw [htk] at hrow
        obtain ⟨Av, cv, hav, hlv⟩ := hrow.lies
        subst hav
        have HLV := Lib.hid hlv
        have c0 := hbox.box.c0
        have c1 := hbox.box.c1
        have c2 := hbox.box.c2
        have c3 := hbox.box.c3
        have v0 : _ = some (Value.int .u8 127) := hbox.vb.cell 0
        have v1 : _ = some (Value.int .u64 n) := hbox.vb.cell 1
        clear hrow hlv HROW htk hbox
        go_wp2_with (first
          | (go_at_call 35; go_must ((with_reducible refine (HTYP.out _ HB.out.bel).mono ?_); rintro e w3 ⟨rfl, hb⟩; clear c0 c1 c2 c3 v0 v1; have H3 := Lib.hid (HB.out.on hb); have HL3 := Lib.hid (HLV.out.below hb); have c0 := H3.out.box.c0; have c1 := H3.out.box.c1; have c2 := H3.out.box.c2; have c3 := H3.out.box.c3; have v0 : _ = some (Value.int .u8 127) := H3.out.vb.cell 0; have v1 : _ = some (Value.int .u64 n) := H3.out.vb.cell 1; clear hb))
          | (have tok := HO7; go_at_call 36; go_must ((with_reducible refine (HV2.out _ (HT.out.below H7.out.bel)).mono ?_); rintro e w8 ⟨rfl, hb⟩; have H8 := Lib.hid (show CVz w i A c 127 n xx w8.heap.size (w8.alloc (.cells #[.int .u8 127, .int .u64 xx] 65)) from ⟨(H7.out.on hb).on (below_box w8 _), Whole.made w8 _ _⟩); clear hb c0 c1 c2 c3 v0 v1 o0 o1 o2 o3))
          | (go_at_call 36; go_must ((with_reducible refine (HVAL.out _ _ _ H3.out.bel HL3.out).mono ?_); rintro e w4 ⟨rfl, hb⟩; clear c0 c1 c2 c3 v0 v1; have H4 := Lib.hid ((H3.out.on hb).on (below_box w4 (.cells #[.int .u8 V1, .int .u64 V2] 65))); have HL4 := Lib.hid ((HL3.out.below hb).below (below_box w4 (.cells #[.int .u8 V1, .int .u64 V2] 65))); have HX4 := Lib.hid (Whole.made w4 65 #[.int .u8 V1, .int .u64 V2]); have c0 := H4.out.box.c0; have c1 := H4.out.box.c1; have c2 := H4.out.box.c2; have c3 := H4.out.box.c3; have v0 : _ = some (Value.int .u8 127) := H4.out.vb.cell 0; have v1 : _ = some (Value.int .u64 n) := H4.out.vb.cell 1; clear hb))
          | (go_at_call 37; go_must ((with_reducible refine (HRTY.out _ H4.out.bel).mono ?_); rintro e w5 ⟨rfl, hb⟩; clear c0 c1 c2 c3 v0 v1; have H5 := Lib.hid (H4.out.on hb); have HL5 := Lib.hid (HL4.out.below hb); have HX5 := Lib.hid (HX4.out.below hb); have c0 := H5.out.box.c0; have c1 := H5.out.box.c1; have c2 := H5.out.box.c2; have c3 := H5.out.box.c3; have v0 : _ = some (Value.int .u8 127) := H5.out.vb.cell 0; have v1 : _ = some (Value.int .u64 n) := H5.out.vb.cell 1; clear hb))
          | (go_at_call 38; go_must ((with_reducible refine (HRVA.out _ _ _ H5.out.bel HL5.out).mono ?_); rintro e w6 ⟨rfl, hb⟩; clear c0 c1 c2 c3 v0 v1; have H6 := Lib.hid ((H5.out.on hb).on (below_box w6 (.cells #[.int .u8 V1, .int .u64 V2] 65))); have HX6 := Lib.hid ((HX5.out.below hb).alloc (.cells #[.int .u8 V1, .int .u64 V2] 65)); have HY6 := Lib.hid (Whole.made w6 65 #[.int .u8 V1, .int .u64 V2]); have x0 : _ = some (Value.int .u8 V1) := HX6.out.cell 0; have x1 : _ = some (Value.int .u64 V2) := HX6.out.cell 1; have c0 := H6.out.box.c0; have c1 := H6.out.box.c1; have c2 := H6.out.box.c2; have c3 := H6.out.box.c3; have v0 : _ = some (Value.int .u8 127) := H6.out.vb.cell 0; have v1 : _ = some (Value.int .u64 n) := H6.out.vb.cell 1; clear hb))
          | (go_at_call 39; go_must ((with_reducible refine (HOF.out _).mono ?_); rintro e w7 ⟨rfl, hb⟩; clear c0 c1 c2 c3 v0 v1; clear x0 x1; have H7 := Lib.hid ((H6.out.on hb).on (below_box w7 (.cells #[.int .u8 65, .int .u64 xx, .int .u64 0, .slice none 0 0] 25))); have HO7 := Lib.hid (Whole.made w7 25 #[.int .u8 65, .int .u64 xx, .int .u64 0, .slice none 0 0]); have o0 := HO7.out.cell 0; have o1 := HO7.out.cell 1; have o2 := HO7.out.cell 2; have o3 := HO7.out.cell 3; simp only [List.getElem?_toArray, List.getElem?_cons_zero, List.getElem?_cons_succ] at o0 o1 o2 o3; have c0 := H7.out.box.c0; have c1 := H7.out.box.c1; have c2 := H7.out.box.c2; have c3 := H7.out.box.c3; have v0 : _ = some (Value.int .u8 127) := H7.out.vb.cell 0; have v1 : _ = some (Value.int .u64 n) := H7.out.vb.cell 1; clear hb)))
        refine wp_region_noPanic ?_
        refine wp_region_held_drew (S := fun W => CVz w i A c 127 n xx w8.heap.size W ∧ Four w 127 n xx w8.heap.size W) (by kernel_rfl) (CVz.four (H8.out.on (Below.refl _ _).drew)) (fun hHeld => ?_)
        (refine heldTake (i := 0) (oi := { dst := some 117, op := Op.move (Operand.tmp 18), type := 29, pos := "law.go:79", after := #[], guard := none }) (v := ?_) rfl (by kernel_rfl) (by kernel_rfl) (by kernel_rfl) (by assumption) ?_ ?_; rotate_left; focus (refine .inl ⟨by kernel_rfl, ?_⟩; intro w hSw; (try dsimp only at hSw); go_simp; (try with_reducible rfl)); (try simp only [Act.put, List.setIfInBounds_toArray, List.set_cons_zero, List.set_cons_succ]))
        (refine heldTake (i := 1) (oi := { dst := some 118, op := Op.binOp BinOp.eql 29 (Operand.tmp 117) (Operand.const (Value.int IntKind.i64 0)) 29, type := 4, pos := "law.go:79", after := #[{ on := 0, ground := Ground.data }], guard := none }) (v := ?_) rfl (by kernel_rfl) (by kernel_rfl) (by kernel_rfl) (by assumption) ?_ ?_; rotate_left; focus (refine .inl ⟨by kernel_rfl, ?_⟩; intro w hSw; (try dsimp only at hSw); go_simp; (try with_reducible rfl)); (try simp only [Act.put, List.setIfInBounds_toArray, List.set_cons_zero, List.set_cons_succ]))
        (refine heldTake (i := 2) (oi := { dst := some 119, op := Op.move (Operand.tmp 118), type := 4, pos := "law.go:79", after := #[{ on := 1, ground := Ground.data }], guard := none }) (v := ?_) rfl (by kernel_rfl) (by kernel_rfl) (by kernel_rfl) (by assumption) ?_ ?_; rotate_left; focus (refine .inl ⟨by kernel_rfl, ?_⟩; intro w hSw; (try dsimp only at hSw); go_simp; (try with_reducible rfl)); (try simp only [Act.put, List.setIfInBounds_toArray, List.set_cons_zero, List.set_cons_succ]))
        (refine heldTake (i := 3) (oi := { dst := some 120, op := Op.move (Operand.tmp 20), type := 29, pos := "law.go:79", after := #[{ on := 2, ground := Ground.guard }], guard := some (2, true) }) (v := ?_) rfl (by kernel_rfl) (by kernel_rfl) (by kernel_rfl) (by assumption) ?_ ?_; rotate_left; focus (refine .inl ⟨by kernel_rfl, ?_⟩; intro w hSw; (try dsimp only at hSw); go_simp; (try with_reducible rfl)); (try simp only [Act.put, List.setIfInBounds_toArray, List.set_cons_zero, List.set_cons_succ]))
        (refine heldTake (i := 4) (oi := { dst := some 121, op := Op.binOp BinOp.eql 29 (Operand.tmp 120) (Operand.const (Value.int IntKind.i64 0)) 29, type := 4, pos := "law.go:79", after := #[{ on := 3, ground := Ground.data }, { on := 2, ground := Ground.guard }], guard := some (2, true) }) (v := ?_) rfl (by kernel_rfl) (by kernel_rfl) (by kernel_rfl) (by assumption) ?_ ?_; rotate_left; focus (refine .inl ⟨by kernel_rfl, ?_⟩; intro w hSw; (try dsimp only at hSw); go_simp; (try with_reducible rfl)); (try simp only [Act.put, List.setIfInBounds_toArray, List.set_cons_zero, List.set_cons_succ]))
        (refine heldTake (i := 5) (oi := { dst := some 122, op := Op.pick (Operand.tmp 119) (Operand.tmp 121) (Operand.const (Value.bool false)), type := 4, pos := "law.go:79", after := #[{ on := 2, ground := Ground.data }, { on := 4, ground := Ground.data }], guard := none }) (v := ?_) rfl (by kernel_rfl) (by kernel_rfl) (by kernel_rfl) (by assumption) ?_ ?_; rotate_left; focus (refine .inl ⟨by kernel_rfl, ?_⟩; intro w hSw; (try dsimp only at hSw); go_simp; (try with_reducible rfl)); (try simp only [Act.put, List.setIfInBounds_toArray, List.set_cons_zero, List.set_cons_succ]))
        (refine heldTake (i := 6) (oi := { dst := some 123, op := Op.move (Operand.tmp 122), type := 4, pos := "law.go:79", after := #[{ on := 5, ground := Ground.data }, { on := 2, ground := Ground.chain }], guard := none }) (v := ?_) rfl (by kernel_rfl) (by kernel_rfl) (by kernel_rfl) (by assumption) ?_ ?_; rotate_left; focus (refine .inl ⟨by kernel_rfl, ?_⟩; intro w hSw; (try dsimp only at hSw); go_simp; (try with_reducible rfl)); (try simp only [Act.put, List.setIfInBounds_toArray, List.set_cons_zero, List.set_cons_succ]))
        (refine heldTake (i := 7) (oi := { dst := some 124, op := Op.load 65 (Operand.tmp 19), type := 65, pos := "law.go:79", after := #[{ on := 6, ground := Ground.guard }], guard := some (6, true) }) (v := ?_) rfl (by kernel_rfl) (by kernel_rfl) (by kernel_rfl) (by assumption) ?_ ?_; rotate_left; focus (refine .inl ⟨by kernel_rfl, ?_⟩; intro w hSw; (try dsimp only at hSw); go_simp; (try with_reducible rfl)); (try simp only [Act.put, List.setIfInBounds_toArray, List.set_cons_zero, List.set_cons_succ]))
        (refine heldTake (i := 8) (oi := { dst := some 125, op := Op.load 65 (Operand.tmp 5), type := 65, pos := "law.go:79", after := #[{ on := 6, ground := Ground.guard }], guard := some (6, true) }) (v := ?_) rfl (by kernel_rfl) (by kernel_rfl) (by kernel_rfl) (by assumption) ?_ ?_; rotate_left; focus (refine .inl ⟨by kernel_rfl, ?_⟩; intro w hSw; (try dsimp only at hSw); go_simp; (try with_reducible rfl)); (try simp only [Act.put, List.setIfInBounds_toArray, List.set_cons_zero, List.set_cons_succ]))
        refine wpAnyH_ready (rs := [9]) (by kernel_rfl) (by simp) ?_
        refine AllReadyH.cons (o := { dst := some 126, op := Op.call { callee := Callee.value (Operand.func 40), args := #[Operand.tmp 125], argTypes := #[65] }, type := 65, pos := "law.go:79", after := #[{ on := 8, ground := Ground.data }, { on := 6, ground := Ground.chain }, { on := 6, ground := Ground.guard }], guard := some (6, true) }) rfl (fun K hK => ?_) AllReadyH.nil
        go_simp
        (go_at_call 40; (with_reducible refine (HCUT.out _).mono ?_); rintro e w9 ⟨rfl, hb⟩; have hk9 := CVz.four (CVz.on (And.left hHeld) hb); clear hb)
        refine hK.out _ _ hk9 (fun hHeld9 => ?_)
        clear hK K hHeld
        (try simp only [Act.put, List.setIfInBounds_toArray, List.set_cons_zero, List.set_cons_succ])
        (refine heldTake (i := 10) (oi := { dst := some 127, op := Op.binOp BinOp.eql 65 (Operand.tmp 124) (Operand.tmp 126) 65, type := 4, pos := "law.go:79", after := #[{ on := 7, ground := Ground.data }, { on := 9, ground := Ground.data }, { on := 6, ground := Ground.guard }], guard := some (6, true) }) (v := ?_) rfl (by kernel_rfl) (by kernel_rfl) (by kernel_rfl) (by assumption) ?_ ?_; rotate_left; focus (refine .inl ⟨by kernel_rfl, ?_⟩; intro w hSw; (try dsimp only at hSw); go_simp; (try with_reducible rfl)); (try simp only [Act.put, List.setIfInBounds_toArray, List.set_cons_zero, List.set_cons_succ]))
        (refine heldTake (i := 11) (oi := { dst := some 128, op := Op.pick (Operand.tmp 123) (Operand.tmp 127) (Operand.const (Value.bool false)), type := 4, pos := "law.go:79", after := #[{ on := 6, ground := Ground.data }, { on := 10, ground := Ground.data }], guard := none }) (v := ?_) rfl (by kernel_rfl) (by kernel_rfl) (by kernel_rfl) (by assumption) ?_ ?_; rotate_left; focus (refine .inl ⟨by kernel_rfl, ?_⟩; intro w hSw; (try dsimp only at hSw); go_simp; (try with_reducible rfl)); (try simp only [Act.put, List.setIfInBounds_toArray, List.set_cons_zero, List.set_cons_succ]))
        (refine heldTake (i := 12) (oi := { dst := some 6, op := Op.assign (Operand.tmp 128), type := 4, pos := "law.go:79", after := #[{ on := 11, ground := Ground.data }, { on := 9, ground := Ground.chain }, { on := 0, ground := Ground.phase }, { on := 1, ground := Ground.phase }, { on := 2, ground := Ground.phase }, { on := 3, ground := Ground.phase }, { on := 4, ground := Ground.phase }, { on := 5, ground := Ground.phase }, { on := 6, ground := Ground.phase }, { on := 7, ground := Ground.phase }, { on := 8, ground := Ground.phase }, { on := 9, ground := Ground.phase }, { on := 10, ground := Ground.phase }, { on := 11, ground := Ground.phase }], guard := none }) (v := ?_) rfl (by kernel_rfl) (by kernel_rfl) (by kernel_rfl) (by assumption) ?_ ?_; rotate_left; focus (refine .inl ⟨by kernel_rfl, ?_⟩; intro w hSw; (try dsimp only at hSw); go_simp; (try with_reducible rfl)); (try simp only [Act.put, List.setIfInBounds_toArray, List.set_cons_zero, List.set_cons_succ]))
        refine wpAnyH_done (by kernel_rfl) ?_ _
        refine NoPanic.normal ?_
        have hLast := hHeld9
        clear hHeld9
        go_wp2
        go_ret
        exact ⟨rfl, (And.left hLast).a.bel⟩
  have d127 : (t == 127) = false := by simpa using h127
  have e127 : (t != 127) = true := by simpa using h127
  by_cases h126 : t = 126
  · subst h126
    obtain ⟨xx, hxx⟩ : ∃ xx, xx = n := ⟨_, rfl⟩
    have HOF := Lib.hid (fun W => show Calls Tryd.prog 39 #[.agg #[.int .u8 126, .int .u64 n]] W fun e w' => e = .returned (.tuple #[.agg #[.int .u8 66, .int .u64 xx, .int .u64 0, .slice none 0 0], .int .i64 0]) ∧ Below W.heap.size W w' from by rw [hxx]; exact of_long n W)
    have HV2 := Lib.hid (fun W (h : Tabs W) => value66 (x := xx) (by omega) (by omega) W h)
    have HCUT := Lib.hid (fun W => show Calls Tryd.prog 40 #[.agg #[.int .u8 126, .int .u64 n]] W fun e w' => e = .returned (.agg #[.int .u8 126, .int .u64 xx]) ∧ Below W.heap.size W w' from by have := refCut_any 126 n W wn.1 wn.2; rw [show cutZ 126 n = xx by rw [hxx]; rfl] at this; exact this)
    clear hxx wt wn h127 d127 e127
    go_enter Tryd.func7, Tryd.ntmps7
    go_wp2_with (go_at_call 23; go_must ((with_reducible refine HAW.out.mono ?_); rintro e w1 ⟨rfl, hb⟩; have H1 := Lib.hid (H0.out.on hb); have c3 := H1.out.box.c3; clear hb))
    go_loopw [7, 8] (fun v x wr => ∃ k : Nat, k ≤ gs.length ∧ x = .int .i64 k ∧ RowV wr (w.heap.size + 2) v (l1.take k) ∧ CVs w i A c 126 n wr) (fun _ x _ => gs.length - (intOf x).toNat)
    case atStart => exact ⟨0, Nat.zero_le _, rfl, RowV.nil _ _, H1.out⟩
    case round =>
      obtain ⟨k, hk, rfl, hrow, hbox⟩ := hrel
      have HB := Lib.hid hbox
      have HROW := Lib.hid hrow
      by_cases hlt : k < gs.length
      · obtain ⟨tt, m, hx⟩ := HS.out k hlt
        obtain ⟨bb, off, rfl, hbb, g0, g1⟩ := (HG.out.below hbox.bel) k tt m hx
        have HTX := Lib.hid (HTK.out k tt m hx)
        have hlen : (l1.take k).length ≤ 1000 := by rw [List.length_take]; omega
        have hwk : IntKind.u64.wrap (k : Int) = k := by simp [IntKind.wrap, IntKind.bits, IntKind.signed]; omega
        have hsz2 : w.heap.size + 2 ≤ wr.heap.size := hbox.vb.lt
        clear hrow hbox hx
        go_wp2_with (at_builtin; (refine rowsV_new rfl _ _ rfl (w.heap.size + 2) _ (l1.take k) rfl (HROW.out.alloc _) wr.heap.size (tt, (k : Int)) rfl (Whole.made wr _ _) hlen (Nat.le_trans hsz2 (below_box wr _).size) ?_; intro v2 w2 hr2 hb2; rw [← HTX.out] at hr2; have HR2 := Lib.hid hr2; have HB2 := Lib.hid hb2; clear hr2 hb2))
        go_roundw
        case rel => exact ⟨k + 1, by omega, by go_num, HR2.out, HB.out.app HB2.out⟩
        case measure => simp [intOf]; omega
      · obtain rfl : k = gs.length := by omega
        have htk : l1.take gs.length = l1 := List.take_of_length_le (by rw [HLEN.out]; exact Nat.le_refl _)
        rw [htk] at hrow
        obtain ⟨Av, cv, hav, hlv⟩ := hrow.lies
        subst hav
        have HLV := Lib.hid hlv
        have c0 := hbox.box.c0
        have c1 := hbox.box.c1
        have c2 := hbox.box.c2
        have c3 := hbox.box.c3
        have v0 : _ = some (Value.int .u8 126) := hbox.vb.cell 0
        have v1 : _ = some (Value.int .u64 n) := hbox.vb.cell 1
        clear hrow hlv HROW htk hbox
        go_wp2_with (first
          | (go_at_call 35; go_must ((with_reducible refine (HTYP.out _ HB.out.bel).mono ?_); rintro e w3 ⟨rfl, hb⟩; clear c0 c1 c2 c3 v0 v1; have H3 := Lib.hid (HB.out.on hb); have HL3 := Lib.hid (HLV.out.below hb); have c0 := H3.out.box.c0; have c1 := H3.out.box.c1; have c2 := H3.out.box.c2; have c3 := H3.out.box.c3; have v0 : _ = some (Value.int .u8 126) := H3.out.vb.cell 0; have v1 : _ = some (Value.int .u64 n) := H3.out.vb.cell 1; clear hb))
          | (have tok := HO7; go_at_call 36; go_must ((with_reducible refine (HV2.out _ (HT.out.below H7.out.bel)).mono ?_); rintro e w8 ⟨rfl, hb⟩; have H8 := Lib.hid (show CVz w i A c 126 n xx w8.heap.size (w8.alloc (.cells #[.int .u8 126, .int .u64 xx] 65)) from ⟨(H7.out.on hb).on (below_box w8 _), Whole.made w8 _ _⟩); clear hb c0 c1 c2 c3 v0 v1 o0 o1 o2 o3))
          | (go_at_call 36; go_must ((with_reducible refine (HVAL.out _ _ _ H3.out.bel HL3.out).mono ?_); rintro e w4 ⟨rfl, hb⟩; clear c0 c1 c2 c3 v0 v1; have H4 := Lib.hid ((H3.out.on hb).on (below_box w4 (.cells #[.int .u8 V1, .int .u64 V2] 65))); have HL4 := Lib.hid ((HL3.out.below hb).below (below_box w4 (.cells #[.int .u8 V1, .int .u64 V2] 65))); have HX4 := Lib.hid (Whole.made w4 65 #[.int .u8 V1, .int .u64 V2]); have c0 := H4.out.box.c0; have c1 := H4.out.box.c1; have c2 := H4.out.box.c2; have c3 := H4.out.box.c3; have v0 : _ = some (Value.int .u8 126) := H4.out.vb.cell 0; have v1 : _ = some (Value.int .u64 n) := H4.out.vb.cell 1; clear hb))
          | (go_at_call 37; go_must ((with_reducible refine (HRTY.out _ H4.out.bel).mono ?_); rintro e w5 ⟨rfl, hb⟩; clear c0 c1 c2 c3 v0 v1; have H5 := Lib.hid (H4.out.on hb); have HL5 := Lib.hid (HL4.out.below hb); have HX5 := Lib.hid (HX4.out.below hb); have c0 := H5.out.box.c0; have c1 := H5.out.box.c1; have c2 := H5.out.box.c2; have c3 := H5.out.box.c3; have v0 : _ = some (Value.int .u8 126) := H5.out.vb.cell 0; have v1 : _ = some (Value.int .u64 n) := H5.out.vb.cell 1; clear hb))
          | (go_at_call 38; go_must ((with_reducible refine (HRVA.out _ _ _ H5.out.bel HL5.out).mono ?_); rintro e w6 ⟨rfl, hb⟩; clear c0 c1 c2 c3 v0 v1; have H6 := Lib.hid ((H5.out.on hb).on (below_box w6 (.cells #[.int .u8 V1, .int .u64 V2] 65))); have HX6 := Lib.hid ((HX5.out.below hb).alloc (.cells #[.int .u8 V1, .int .u64 V2] 65)); have HY6 := Lib.hid (Whole.made w6 65 #[.int .u8 V1, .int .u64 V2]); have x0 : _ = some (Value.int .u8 V1) := HX6.out.cell 0; have x1 : _ = some (Value.int .u64 V2) := HX6.out.cell 1; have c0 := H6.out.box.c0; have c1 := H6.out.box.c1; have c2 := H6.out.box.c2; have c3 := H6.out.box.c3; have v0 : _ = some (Value.int .u8 126) := H6.out.vb.cell 0; have v1 : _ = some (Value.int .u64 n) := H6.out.vb.cell 1; clear hb))
          | (go_at_call 39; go_must ((with_reducible refine (HOF.out _).mono ?_); rintro e w7 ⟨rfl, hb⟩; clear c0 c1 c2 c3 v0 v1; clear x0 x1; have H7 := Lib.hid ((H6.out.on hb).on (below_box w7 (.cells #[.int .u8 66, .int .u64 xx, .int .u64 0, .slice none 0 0] 25))); have HO7 := Lib.hid (Whole.made w7 25 #[.int .u8 66, .int .u64 xx, .int .u64 0, .slice none 0 0]); have o0 := HO7.out.cell 0; have o1 := HO7.out.cell 1; have o2 := HO7.out.cell 2; have o3 := HO7.out.cell 3; simp only [List.getElem?_toArray, List.getElem?_cons_zero, List.getElem?_cons_succ] at o0 o1 o2 o3; have c0 := H7.out.box.c0; have c1 := H7.out.box.c1; have c2 := H7.out.box.c2; have c3 := H7.out.box.c3; have v0 : _ = some (Value.int .u8 126) := H7.out.vb.cell 0; have v1 : _ = some (Value.int .u64 n) := H7.out.vb.cell 1; clear hb)))
        refine wp_region_noPanic ?_
        refine wp_region_held_drew (S := fun W => CVz w i A c 126 n xx w8.heap.size W ∧ Four w 126 n xx w8.heap.size W) (by kernel_rfl) (CVz.four (H8.out.on (Below.refl _ _).drew)) (fun hHeld => ?_)
        (refine heldTake (i := 0) (oi := { dst := some 117, op := Op.move (Operand.tmp 18), type := 29, pos := "law.go:79", after := #[], guard := none }) (v := ?_) rfl (by kernel_rfl) (by kernel_rfl) (by kernel_rfl) (by assumption) ?_ ?_; rotate_left; focus (refine .inl ⟨by kernel_rfl, ?_⟩; intro w hSw; (try dsimp only at hSw); go_simp; (try with_reducible rfl)); (try simp only [Act.put, List.setIfInBounds_toArray, List.set_cons_zero, List.set_cons_succ]))
        (refine heldTake (i := 1) (oi := { dst := some 118, op := Op.binOp BinOp.eql 29 (Operand.tmp 117) (Operand.const (Value.int IntKind.i64 0)) 29, type := 4, pos := "law.go:79", after := #[{ on := 0, ground := Ground.data }], guard := none }) (v := ?_) rfl (by kernel_rfl) (by kernel_rfl) (by kernel_rfl) (by assumption) ?_ ?_; rotate_left; focus (refine .inl ⟨by kernel_rfl, ?_⟩; intro w hSw; (try dsimp only at hSw); go_simp; (try with_reducible rfl)); (try simp only [Act.put, List.setIfInBounds_toArray, List.set_cons_zero, List.set_cons_succ]))
        (refine heldTake (i := 2) (oi := { dst := some 119, op := Op.move (Operand.tmp 118), type := 4, pos := "law.go:79", after := #[{ on := 1, ground := Ground.data }], guard := none }) (v := ?_) rfl (by kernel_rfl) (by kernel_rfl) (by kernel_rfl) (by assumption) ?_ ?_; rotate_left; focus (refine .inl ⟨by kernel_rfl, ?_⟩; intro w hSw; (try dsimp only at hSw); go_simp; (try with_reducible rfl)); (try simp only [Act.put, List.setIfInBounds_toArray, List.set_cons_zero, List.set_cons_succ]))
        (refine heldTake (i := 3) (oi := { dst := some 120, op := Op.move (Operand.tmp 20), type := 29, pos := "law.go:79", after := #[{ on := 2, ground := Ground.guard }], guard := some (2, true) }) (v := ?_) rfl (by kernel_rfl) (by kernel_rfl) (by kernel_rfl) (by assumption) ?_ ?_; rotate_left; focus (refine .inl ⟨by kernel_rfl, ?_⟩; intro w hSw; (try dsimp only at hSw); go_simp; (try with_reducible rfl)); (try simp only [Act.put, List.setIfInBounds_toArray, List.set_cons_zero, List.set_cons_succ]))
        (refine heldTake (i := 4) (oi := { dst := some 121, op := Op.binOp BinOp.eql 29 (Operand.tmp 120) (Operand.const (Value.int IntKind.i64 0)) 29, type := 4, pos := "law.go:79", after := #[{ on := 3, ground := Ground.data }, { on := 2, ground := Ground.guard }], guard := some (2, true) }) (v := ?_) rfl (by kernel_rfl) (by kernel_rfl) (by kernel_rfl) (by assumption) ?_ ?_; rotate_left; focus (refine .inl ⟨by kernel_rfl, ?_⟩; intro w hSw; (try dsimp only at hSw); go_simp; (try with_reducible rfl)); (try simp only [Act.put, List.setIfInBounds_toArray, List.set_cons_zero, List.set_cons_succ]))
        (refine heldTake (i := 5) (oi := { dst := some 122, op := Op.pick (Operand.tmp 119) (Operand.tmp 121) (Operand.const (Value.bool false)), type := 4, pos := "law.go:79", after := #[{ on := 2, ground := Ground.data }, { on := 4, ground := Ground.data }], guard := none }) (v := ?_) rfl (by kernel_rfl) (by kernel_rfl) (by kernel_rfl) (by assumption) ?_ ?_; rotate_left; focus (refine .inl ⟨by kernel_rfl, ?_⟩; intro w hSw; (try dsimp only at hSw); go_simp; (try with_reducible rfl)); (try simp only [Act.put, List.setIfInBounds_toArray, List.set_cons_zero, List.set_cons_succ]))
        (refine heldTake (i := 6) (oi := { dst := some 123, op := Op.move (Operand.tmp 122), type := 4, pos := "law.go:79", after := #[{ on := 5, ground := Ground.data }, { on := 2, ground := Ground.chain }], guard := none }) (v := ?_) rfl (by kernel_rfl) (by kernel_rfl) (by kernel_rfl) (by assumption) ?_ ?_; rotate_left; focus (refine .inl ⟨by kernel_rfl, ?_⟩; intro w hSw; (try dsimp only at hSw); go_simp; (try with_reducible rfl)); (try simp only [Act.put, List.setIfInBounds_toArray, List.set_cons_zero, List.set_cons_succ]))
        (refine heldTake (i := 7) (oi := { dst := some 124, op := Op.load 65 (Operand.tmp 19), type := 65, pos := "law.go:79", after := #[{ on := 6, ground := Ground.guard }], guard := some (6, true) }) (v := ?_) rfl (by kernel_rfl) (by kernel_rfl) (by kernel_rfl) (by assumption) ?_ ?_; rotate_left; focus (refine .inl ⟨by kernel_rfl, ?_⟩; intro w hSw; (try dsimp only at hSw); go_simp; (try with_reducible rfl)); (try simp only [Act.put, List.setIfInBounds_toArray, List.set_cons_zero, List.set_cons_succ]))
        (refine heldTake (i := 8) (oi := { dst := some 125, op := Op.load 65 (Operand.tmp 5), type := 65, pos := "law.go:79", after := #[{ on := 6, ground := Ground.guard }], guard := some (6, true) }) (v := ?_) rfl (by kernel_rfl) (by kernel_rfl) (by kernel_rfl) (by assumption) ?_ ?_; rotate_left; focus (refine .inl ⟨by kernel_rfl, ?_⟩; intro w hSw; (try dsimp only at hSw); go_simp; (try with_reducible rfl)); (try simp only [Act.put, List.setIfInBounds_toArray, List.set_cons_zero, List.set_cons_succ]))
        refine wpAnyH_ready (rs := [9]) (by kernel_rfl) (by simp) ?_
        refine AllReadyH.cons (o := { dst := some 126, op := Op.call { callee := Callee.value (Operand.func 40), args := #[Operand.tmp 125], argTypes := #[65] }, type := 65, pos := "law.go:79", after := #[{ on := 8, ground := Ground.data }, { on := 6, ground := Ground.chain }, { on := 6, ground := Ground.guard }], guard := some (6, true) }) rfl (fun K hK => ?_) AllReadyH.nil
        go_simp
        (go_at_call 40; (with_reducible refine (HCUT.out _).mono ?_); rintro e w9 ⟨rfl, hb⟩; have hk9 := CVz.four (CVz.on (And.left hHeld) hb); clear hb)
        refine hK.out _ _ hk9 (fun hHeld9 => ?_)
        clear hK K hHeld
        (try simp only [Act.put, List.setIfInBounds_toArray, List.set_cons_zero, List.set_cons_succ])
        (refine heldTake (i := 10) (oi := { dst := some 127, op := Op.binOp BinOp.eql 65 (Operand.tmp 124) (Operand.tmp 126) 65, type := 4, pos := "law.go:79", after := #[{ on := 7, ground := Ground.data }, { on := 9, ground := Ground.data }, { on := 6, ground := Ground.guard }], guard := some (6, true) }) (v := ?_) rfl (by kernel_rfl) (by kernel_rfl) (by kernel_rfl) (by assumption) ?_ ?_; rotate_left; focus (refine .inl ⟨by kernel_rfl, ?_⟩; intro w hSw; (try dsimp only at hSw); go_simp; (try with_reducible rfl)); (try simp only [Act.put, List.setIfInBounds_toArray, List.set_cons_zero, List.set_cons_succ]))
        (refine heldTake (i := 11) (oi := { dst := some 128, op := Op.pick (Operand.tmp 123) (Operand.tmp 127) (Operand.const (Value.bool false)), type := 4, pos := "law.go:79", after := #[{ on := 6, ground := Ground.data }, { on := 10, ground := Ground.data }], guard := none }) (v := ?_) rfl (by kernel_rfl) (by kernel_rfl) (by kernel_rfl) (by assumption) ?_ ?_; rotate_left; focus (refine .inl ⟨by kernel_rfl, ?_⟩; intro w hSw; (try dsimp only at hSw); go_simp; (try with_reducible rfl)); (try simp only [Act.put, List.setIfInBounds_toArray, List.set_cons_zero, List.set_cons_succ]))
        (refine heldTake (i := 12) (oi := { dst := some 6, op := Op.assign (Operand.tmp 128), type := 4, pos := "law.go:79", after := #[{ on := 11, ground := Ground.data }, { on := 9, ground := Ground.chain }, { on := 0, ground := Ground.phase }, { on := 1, ground := Ground.phase }, { on := 2, ground := Ground.phase }, { on := 3, ground := Ground.phase }, { on := 4, ground := Ground.phase }, { on := 5, ground := Ground.phase }, { on := 6, ground := Ground.phase }, { on := 7, ground := Ground.phase }, { on := 8, ground := Ground.phase }, { on := 9, ground := Ground.phase }, { on := 10, ground := Ground.phase }, { on := 11, ground := Ground.phase }], guard := none }) (v := ?_) rfl (by kernel_rfl) (by kernel_rfl) (by kernel_rfl) (by assumption) ?_ ?_; rotate_left; focus (refine .inl ⟨by kernel_rfl, ?_⟩; intro w hSw; (try dsimp only at hSw); go_simp; (try with_reducible rfl)); (try simp only [Act.put, List.setIfInBounds_toArray, List.set_cons_zero, List.set_cons_succ]))
        refine wpAnyH_done (by kernel_rfl) ?_ _
        refine NoPanic.normal ?_
        have hLast := hHeld9
        clear hHeld9
        go_wp2
        go_ret
        exact ⟨rfl, (And.left hLast).a.bel⟩
  have d126 : (t == 126) = false := by simpa using h126
  have e126 : (t != 126) = true := by simpa using h126
  have HOF := Lib.hid (fun W => of_no t n W d127 d126)
  clear h127 h126 d127 d126 wt wn
  go_enter Tryd.func7, Tryd.ntmps7
  go_wp2_with (go_at_call 23; go_must ((with_reducible refine HAW.out.mono ?_); rintro e w1 ⟨rfl, hb⟩; have H1 := Lib.hid (H0.out.on hb); have c3 := H1.out.box.c3; clear hb))
  go_loopw [7, 8] (fun v x wr => ∃ k : Nat, k ≤ gs.length ∧ x = .int .i64 k ∧ RowV wr (w.heap.size + 2) v (l1.take k) ∧ CVs w i A c t n wr) (fun _ x _ => gs.length - (intOf x).toNat)
  case atStart => exact ⟨0, Nat.zero_le _, rfl, RowV.nil _ _, H1.out⟩
  case round =>
    obtain ⟨k, hk, rfl, hrow, hbox⟩ := hrel
    have HB := Lib.hid hbox
    have HROW := Lib.hid hrow
    by_cases hlt : k < gs.length
    · obtain ⟨tt, m, hx⟩ := HS.out k hlt
      obtain ⟨bb, off, rfl, hbb, g0, g1⟩ := (HG.out.below hbox.bel) k tt m hx
      have HTX := Lib.hid (HTK.out k tt m hx)
      have hlen : (l1.take k).length ≤ 1000 := by rw [List.length_take]; omega
      have hwk : IntKind.u64.wrap (k : Int) = k := by simp [IntKind.wrap, IntKind.bits, IntKind.signed]; omega
      have hsz2 : w.heap.size + 2 ≤ wr.heap.size := hbox.vb.lt
      clear hrow hbox hx
      go_wp2_with (at_builtin; (refine rowsV_new rfl _ _ rfl (w.heap.size + 2) _ (l1.take k) rfl (HROW.out.alloc _) wr.heap.size (tt, (k : Int)) rfl (Whole.made wr _ _) hlen (Nat.le_trans hsz2 (below_box wr _).size) ?_; intro v2 w2 hr2 hb2; rw [← HTX.out] at hr2; have HR2 := Lib.hid hr2; have HB2 := Lib.hid hb2; clear hr2 hb2))
      go_roundw
      case rel => exact ⟨k + 1, by omega, by go_num, HR2.out, HB.out.app HB2.out⟩
      case measure => simp [intOf]; omega
    · obtain rfl : k = gs.length := by omega
      have htk : l1.take gs.length = l1 := List.take_of_length_le (by rw [HLEN.out]; exact Nat.le_refl _)
      rw [htk] at hrow
      obtain ⟨Av, cv, hav, hlv⟩ := hrow.lies
      subst hav
      have HLV := Lib.hid hlv
      have c0 := hbox.box.c0
      have c1 := hbox.box.c1
      have c2 := hbox.box.c2
      have c3 := hbox.box.c3
      have v0 : _ = some (Value.int .u8 t) := hbox.vb.cell 0
      have v1 : _ = some (Value.int .u64 n) := hbox.vb.cell 1
      clear hrow hlv HROW htk hbox
      go_wp2_with (first
        | (go_at_call 35; go_must ((with_reducible refine (HTYP.out _ HB.out.bel).mono ?_); rintro e w3 ⟨rfl, hb⟩; clear c0 c1 c2 c3 v0 v1; have H3 := Lib.hid (HB.out.on hb); have HL3 := Lib.hid (HLV.out.below hb); have c0 := H3.out.box.c0; have c1 := H3.out.box.c1; have c2 := H3.out.box.c2; have c3 := H3.out.box.c3; have v0 : _ = some (Value.int .u8 t) := H3.out.vb.cell 0; have v1 : _ = some (Value.int .u64 n) := H3.out.vb.cell 1; clear hb))
        | (go_at_call 36; go_must ((with_reducible refine (HVAL.out _ _ _ H3.out.bel HL3.out).mono ?_); rintro e w4 ⟨rfl, hb⟩; clear c0 c1 c2 c3 v0 v1; have H4 := Lib.hid ((H3.out.on hb).on (below_box w4 (.cells #[.int .u8 V1, .int .u64 V2] 65))); have HL4 := Lib.hid ((HL3.out.below hb).below (below_box w4 (.cells #[.int .u8 V1, .int .u64 V2] 65))); have HX4 := Lib.hid (Whole.made w4 65 #[.int .u8 V1, .int .u64 V2]); have c0 := H4.out.box.c0; have c1 := H4.out.box.c1; have c2 := H4.out.box.c2; have c3 := H4.out.box.c3; have v0 : _ = some (Value.int .u8 t) := H4.out.vb.cell 0; have v1 : _ = some (Value.int .u64 n) := H4.out.vb.cell 1; clear hb))
        | (go_at_call 37; go_must ((with_reducible refine (HRTY.out _ H4.out.bel).mono ?_); rintro e w5 ⟨rfl, hb⟩; clear c0 c1 c2 c3 v0 v1; have H5 := Lib.hid (H4.out.on hb); have HL5 := Lib.hid (HL4.out.below hb); have HX5 := Lib.hid (HX4.out.below hb); have c0 := H5.out.box.c0; have c1 := H5.out.box.c1; have c2 := H5.out.box.c2; have c3 := H5.out.box.c3; have v0 : _ = some (Value.int .u8 t) := H5.out.vb.cell 0; have v1 : _ = some (Value.int .u64 n) := H5.out.vb.cell 1; clear hb))
        | (go_at_call 38; go_must ((with_reducible refine (HRVA.out _ _ _ H5.out.bel HL5.out).mono ?_); rintro e w6 ⟨rfl, hb⟩; clear c0 c1 c2 c3 v0 v1; have H6 := Lib.hid ((H5.out.on hb).on (below_box w6 (.cells #[.int .u8 V1, .int .u64 V2] 65))); have HX6 := Lib.hid ((HX5.out.below hb).alloc (.cells #[.int .u8 V1, .int .u64 V2] 65)); have HY6 := Lib.hid (Whole.made w6 65 #[.int .u8 V1, .int .u64 V2]); have x0 : _ = some (Value.int .u8 V1) := HX6.out.cell 0; have x1 : _ = some (Value.int .u64 V2) := HX6.out.cell 1; have c0 := H6.out.box.c0; have c1 := H6.out.box.c1; have c2 := H6.out.box.c2; have c3 := H6.out.box.c3; have v0 : _ = some (Value.int .u8 t) := H6.out.vb.cell 0; have v1 : _ = some (Value.int .u64 n) := H6.out.vb.cell 1; clear hb))
        | (go_at_call 39; go_must ((with_reducible refine (HOF.out _).mono ?_); rintro e w7 ⟨rfl, hb⟩; clear c0 c1 c2 c3 v0 v1; clear x0 x1; have H7 := Lib.hid ((H6.out.on hb).on (below_box w7 (.cells #[.int .u8 0, .int .u64 0, .int .u64 0, .slice none 0 0] 25))); have HO7 := Lib.hid (Whole.made w7 25 #[.int .u8 0, .int .u64 0, .int .u64 0, .slice none 0 0]); have o0 := HO7.out.cell 0; have o1 := HO7.out.cell 1; have o2 := HO7.out.cell 2; have o3 := HO7.out.cell 3; simp only [List.getElem?_toArray, List.getElem?_cons_zero, List.getElem?_cons_succ] at o0 o1 o2 o3; have c0 := H7.out.box.c0; have c1 := H7.out.box.c1; have c2 := H7.out.box.c2; have c3 := H7.out.box.c3; have v0 : _ = some (Value.int .u8 t) := H7.out.vb.cell 0; have v1 : _ = some (Value.int .u64 n) := H7.out.vb.cell 1; clear hb))
        | (go_at_call 15; go_must ((with_reducible refine (zeroV_same _).mono ?_); rintro e w8 ⟨rfl, hb⟩; have H8 := Lib.hid (H7.out.on hb); clear hb)))
      go_ret
      exact ⟨rfl, H8.out.bel⟩
end Go.Proofs.YtebgmfjgapmpfaaDoor
