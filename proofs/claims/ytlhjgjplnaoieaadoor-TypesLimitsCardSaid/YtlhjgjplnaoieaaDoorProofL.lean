/- The law TypesLimits answers true for every three limits and every bound, and leaves them as they were. Its row lists creel/types.names with what its initialiser lays; the card ties it to the program's text. No other condition. -/
import Derived.Test.YtlhjgjplnaoieaaDoorLawL
import Derived.Test.YtlhjgjplnaoieaaDoorLaid
import Derived.Test.YtlhjgjplnaoieaaDoorCards
import Derived.ProofKit
import Derived.OpenShut
import Derived.ShutString
import Derived.ChangeOld
import Derived.ChangeMaps
import Derived.JoinedOf
import Derived.Lib.SmallJoins
namespace Go.Proofs.YtlhjgjplnaoieaaDoor.typesLimits
open Go.ChangeShapes Go.WideShapes Go.ChangeAt Go.RowKit Go.Proofs.YtlhjgjplnaoieaaDoor Go.Joins
set_option linter.unusedVariables false

theorem c41 : Tryd.prog.cellsOf 41 = 3 := by kernel_rfl
theorem c42 : Tryd.prog.cellsOf 42 = 9 := by kernel_rfl
theorem c39 : Tryd.prog.cellsOf 39 = 1 := by kernel_rfl
theorem c4 : Tryd.prog.cellsOf 4 = 1 := by kernel_rfl
/-- One of the limits. -/
theorem one_of {H : Type} {enc : TypeId × Value → H} {w : World} {base : Nat} {sp : Nat → Bool} {held : Bool} {fuel : Nat} {u v z : Value} {x : DataW H × List MemPlace}
    (h : DataW.trod enc Tryd.prog w base sp held fuel 41 [u, v, z] = some x) : ∃ a b c, u = .int .u32 a ∧ v = .int .u32 b ∧ z = .bool c ∧ (Lit.int .u32 a).wf = true ∧ (Lit.int .u32 b).wf = true := by
  obtain ⟨xs, m, rfl, hx, hl, hxl, hall⟩ := DataW.trod_struct Tryd.underlying41 h
  have h0 : DataW.trod enc Tryd.prog w base sp held m 39 (([u, v, z].drop 0).take (Tryd.prog.cellsOf 39)) = xs[0]? := hall 0 _ rfl
  have h1 : DataW.trod enc Tryd.prog w base sp held m 39 (([u, v, z].drop 1).take (Tryd.prog.cellsOf 39)) = xs[1]? := hall 1 _ rfl
  have h2 : DataW.trod enc Tryd.prog w base sp held m 4 (([u, v, z].drop 2).take (Tryd.prog.cellsOf 4)) = xs[2]? := hall 2 _ rfl
  rw [c39] at h0 h1
  rw [c4] at h2
  match xs, hxl with
  | [x0, x1, x2], _ =>
    simp only [List.drop_zero, List.drop_succ_cons, List.getElem?_cons_zero, List.getElem?_cons_succ, List.take_succ_cons, List.take_zero] at h0 h1 h2
    obtain ⟨a, ha, _, wa⟩ := DataW.trod_int Tryd.underlying39 h0
    obtain ⟨b, hb, _, wb⟩ := DataW.trod_int Tryd.underlying39 h1
    obtain ⟨c, hc, _⟩ := DataW.trod_bool Tryd.underlying4 h2
    exact ⟨a, b, c, by simpa using ha, by simpa using hb, by simpa using hc, wa, wb⟩
theorem wf32 {a : Int} (h : (Lit.int .u32 a).wf = true) : 0 ≤ a ∧ a ≤ 4294967295 := by simpa [Lit.wf, IntKind.min, IntKind.max, IntKind.signed, IntKind.bits] using h
theorem okWide_arr {P : Program} {w : World} {r : Reach} {base : Nat} {t e : TypeId} {n : Nat} {v : Value} (ht : P.underlying t = some (.array n e)) (h : Value.okWide P w r base t v) : ∃ cs, v = .agg cs ∧ cs.size = P.cellsOf t := by
  simp only [Value.okWide, ht] at h
  obtain ⟨cs, h1, h2, _⟩ := h
  exact ⟨cs, h1, h2⟩
theorem open_three {H : Type} {enc : TypeId × Value → H} {w : World} {base b0 : Nat} {r : Reach} {sp : Nat → Bool} {held : Bool} {v : Value} {d : DataW H} {p : List MemPlace} (hv : Value.okWide Tryd.prog w r b0 42 v)
    (h : DataW.Trod enc Tryd.prog w base sp held 42 v d p) : ∃ (a b a' b' a'' b'' : Int) (c c' c'' : Bool), v = .agg #[.int .u32 a, .int .u32 b, .bool c, .int .u32 a', .int .u32 b', .bool c', .int .u32 a'', .int .u32 b'', .bool c''] ∧ (Lit.int .u32 a).wf = true ∧ (Lit.int .u32 b).wf = true := by
  obtain ⟨cs, rfl, hsz⟩ := okWide_arr Tryd.underlying42 hv
  rw [c42] at hsz
  obtain ⟨fuel, hf⟩ := h
  obtain ⟨xs, m, rfl, _, _, hxl, hall⟩ := DataW.trod_array Tryd.underlying42 hf
  have h0 := hall 0 (by omega)
  have h1 := hall 1 (by omega)
  have h2 := hall 2 (by omega)
  rw [c41] at h0 h1 h2
  obtain ⟨l⟩ := cs
  match l, hsz, xs, hxl with
  | [v0, v1, v2, v3, v4, v5, v6, v7, v8], _, [x0, x1, x2], _ =>
    obtain ⟨a, b, c, rfl, rfl, rfl, wa, wb⟩ := one_of (x := x0) h0
    obtain ⟨a', b', c', rfl, rfl, rfl, _, _⟩ := one_of (x := x1) h1
    obtain ⟨a'', b'', c'', rfl, rfl, rfl, _, _⟩ := one_of (x := x2) h2
    exact ⟨a, b, a', b', a'', b'', c, c', c'', rfl, wa, wb⟩

set_option maxRecDepth 100000 in
theorem lifted (os : Os) (started : os.Started) (H : Type) (enc : TypeId × Value → H) :
    ReturnsInHanded {} Tryd.checked os 4 .any (fun w args => (Rows.typesLimitsSpec.pre enc Tryd.prog Tryd.f4 [] false w args ∧ laidMetH Tryd.prog listed w) ∧ sizedMet enc Tryd.prog Tryd.f4 (OpenSpec.ofChange Rows.typesLimitsSpec) false w args)
      (Rows.typesLimitsSpec.post enc Tryd.prog Tryd.f4 false true false false) := by
  refine returnsInHanded_of_change_and (C := Tryd.checked) (X := fun w _ => laidMetH Tryd.prog listed w) (fun _ _ _ hh h => h.of_heap hh) own started (by kernel_rfl) Tryd.func4
    (ChangeSpec.witness_at (enc := enc) (C := Tryd.checked) (os := os) (X := fun w _ => laidMetH Tryd.prog listed w) false (laidWorld os) #[.agg #[.int .u32 0, .int .u32 0, .bool false, .int .u32 0, .int .u32 0, .bool false, .int .u32 0, .int .u32 0, .bool false], .int .u32 0] 8 rfl (by kernel_rfl) (by kernel_rfl) (by kernel_rfl) (by kernel_rfl) (by kernel_rfl) (laidWorld_met os _)) ?_
  intro W base args ds gs before hval0 hW _ _ hL _
  have hval : ∀ (j : Nat) t v, Tryd.f4.params[j]? = some t → args[j]? = some v → Value.okWide Tryd.prog W .any base t v := hval0
  have hW' := hW
  obtain ⟨p, q, hA0, hV, rfl, hfz, hnd⟩ := hW
  have hA : DataW.TrodAll enc Tryd.prog W 0 (fun _ => true) true Tryd.f4.params.toList args.toList ds p := hA0
  rw [Tryd.params4] at hA hval
  obtain ⟨v0, vs0, d0, ds0, p0, q0, hargs, rfl, rfl, h0, r0⟩ := trodAll_cons hA
  obtain ⟨v1, vs1, d1, ds1, p1, q1, rfl, rfl, rfl, h1, r1⟩ := trodAll_cons r0
  obtain ⟨rfl, rfl, rfl⟩ := trodAll_nil r1
  obtain rfl : args = #[v0, v1] := by cases args; simp_all
  obtain ⟨rfl, rfl⟩ := trodVars_none hV
  have k0 := h0
  have lt0 : ∀ x ∈ p0, x.block < W.heap.size := by obtain ⟨m, hm⟩ := k0; exact DataW.trod_lt m _ _ _ hm
  obtain ⟨a, b, a', b', a'', b'', c, c', c'', rfl, wa, wb⟩ := open_three (hval 0 42 v0 rfl rfl) h0
  obtain ⟨n_, rfl, rfl, rfl, wn⟩ := open_int Tryd.underlying39 (hval 1 39 v1 rfl rfl) h1
  clear hA0 hval0
  have hT := tab_of hL
  have ha := wf32 wa
  have hb := wf32 wb
  have hn := wf32 wn
  refine (limits_all a b a' b' a'' b'' c c' c'' n_ W hT ha.1 ha.2 hb.1 hb.2 hn.1 hn.2).mono fun e W' ⟨he, bel⟩ => ?_
  subst he
  exact ⟨_, rfl, _, _, _, [], _, [], hW', trodAll_mk1 (shut_bool Tryd.underlying4 _), (trodAll_cons_mk (Below.trod laidOut (by kernel_rfl) (of_decide_eq_true (by kernel_rfl)) k0 bel lt0) (trodAll_cons_mk (shut_int Tryd.underlying39 wn) trodAll_mk0)), rfl, bel.frame _, fun h => by cases h⟩

theorem over : Rows.typesLimitsRow.holds Tryd.pinned (OpenSpec.ofChange Rows.typesLimitsSpec) :=
  OpenClaim.holds_of_wide 4 Tryd.f4 rfl rfl rfl rfl rfl rfl rfl ⟨rfl, rfl, rfl, rfl, rfl⟩ rfl rfl rfl rfl rfl (by kernel_rfl) Tryd.func4 (by kernel_rfl)
    (of_decide_eq_true (by kernel_rfl)) (by unfold Func.isWrapper; first | (rw [if_pos (by decide +kernel)]; kernel_rfl) | (rw [if_neg (by decide +kernel)]; exact ⟨rfl, rfl⟩))
    (fun os started H enc _ => lifted os started H enc)

theorem proved : Rows.TypesLimitsCardSaid :=
  Claim7.holds_tied_plain_at .later [] [.data] true Rows.typesLimitsCard.stood.harness false
    over (fun _ h => by cases h) (by kernel_rfl) (fun _ h => by cases h) typesLimits_row_tie rfl ⟨rfl, rfl⟩ (by kernel_rfl) rfl
    (fun f fn hf hfn => by
      obtain rfl : f = 4 := Option.some.inj ((show Tryd.prog.funcNamed "creel/creellaw04.TypesLimits" = some 4 by kernel_rfl).symm.trans hf) |>.symm
      obtain rfl : fn = Tryd.f4 := (Option.some.inj (Tryd.func4.symm.trans hfn)).symm
      exact ⟨by kernel_rfl, fun j t ht => by
        rw [Tryd.params4] at ht
        have h3 : t = 42 ∨ t = 39 := by
          match j, ht with
          | 0, ht => left; simpa using ht.symm
          | 1, ht => right; simpa using ht.symm
          | j + 2, ht => simp at ht
        rcases h3 with rfl | rfl
        · exact (show Tryd.prog.wantsStandIn 42 = false by kernel_rfl)
        · exact (show Tryd.prog.wantsStandIn 39 = false by kernel_rfl)⟩)
    (by kernel_rfl)
end Go.Proofs.YtlhjgjplnaoieaaDoor.typesLimits
