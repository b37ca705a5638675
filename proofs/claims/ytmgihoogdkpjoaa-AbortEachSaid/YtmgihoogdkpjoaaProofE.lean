/- The law AbortEach answers true for all rows of steps and every number, and leaves them as they were. No condition. -/
import Derived.Test.YtmgihoogdkpjoaaLawE
import Derived.Test.YtmgihoogdkpjoaaOpen
namespace Go.Proofs.Ytmgihoogdkpjoaa.abortEach
open Go.ChangeShapes Go.WideShapes Go.ChangeAt Go.RowKit Go.Proofs.Ytmgihoogdkpjoaa
set_option linter.unusedVariables false

theorem cells1 : Try.prog.cellsOf 22 = 1 := by kernel_rfl

/-- What the rows of steps that come in read as. -/
theorem open_table {H : Type} {enc : TypeId × Value → H} {W : World} {sp : Nat → Bool} {A : Option Addr} {len cap : Nat} {d : DataW H} {p : List MemPlace}
    (h : DataW.Trod enc Try.prog W 0 sp true 37 (.slice A len cap) d p) : ∃ L : List (List St), L.length = len ∧ Table W W.heap.size A L := by
  obtain ⟨fuel, hf⟩ := h
  rcases Go.Deep.open_slice1 Try.underlying37 cells1 hf with ⟨hcs, _⟩ | ⟨a, l, c, m, n, V, D, Pl, hcs, _, hl, hm, hmm, _, hx⟩
  · simp [Value.cells] at hcs
    obtain ⟨rfl, rfl, rfl⟩ := hcs
    exact ⟨[], rfl, fun i hi => by simp at hi⟩
  · simp [Value.cells] at hcs
    obtain ⟨rfl, rfl, rfl⟩ := hcs
    have hlm : len ≤ m := by rw [hmm]; split <;> omega
    have hone : ∀ i, i < len → ∃ r : List St, ∃ A2 cap2, W.cell? (a.add i) = some (.slice A2 r.length cap2) ∧ r.length ≤ cap2 ∧ cap2 ≤ maxLen ∧ Reads W W.heap.size A2 r := by
      intro i hi
      obtain ⟨h1, h2⟩ := hx i (by omega)
      obtain ⟨A2, len2, cap2, e, g1, g2, r, g3, g4⟩ := open_cells h2
      simp at e
      subst g3
      exact ⟨r, A2, cap2, by rw [← e]; exact h1, g1, g2, g4⟩
    obtain ⟨f, hfn⟩ : ∃ f : Nat → List St, ∀ i, i < len → ∃ A2 cap2, W.cell? (a.add i) = some (.slice A2 (f i).length cap2) ∧ (f i).length ≤ cap2 ∧ cap2 ≤ maxLen ∧ Reads W W.heap.size A2 (f i) := by
      refine ⟨fun i => if h : i < len then (hone i h).choose else [], fun i hi => ?_⟩
      simp only [dif_pos hi]
      exact (hone i hi).choose_spec
    refine ⟨(List.range len).map f, by simp, ?_⟩
    intro i hi
    simp at hi
    obtain ⟨b, off, spot⟩ := a
    have hsp : spot = none := by
      obtain ⟨_, _, h0, _⟩ := hfn 0 (by omega)
      simpa [Addr.add] using World.cell?_spot h0
    subst hsp
    obtain ⟨A2, cap2, h1, h2, h3, h4⟩ := hfn i hi
    rw [Go.WideShapes.add_plain] at h1
    exact ⟨b, off, rfl, block_lt_of_cell h1, A2, cap2, f i, by simp [hi], h1, h2, h3, h4⟩

theorem walk (A : Option Addr) (len cap : Nat) (L : List (List St)) (N : Int) (W : World) (hl : L.length = len) (hr : Table W W.heap.size A L) :
    Calls Try.prog 4 #[.slice A len cap, .int .i64 N] W fun e w' => e = .returned (.bool true) ∧ Below W.heap.size W w' := by
  by_cases h : len ≤ 20
  · by_cases hN : N ≤ 20
    · subst hl
      exact (lawEach_short A cap L N W hr h hN).mono fun _ _ hh => ⟨hh.1, below_of_gb hh.2⟩
    · exact (lawEach_great A len cap N W h (by omega)).mono fun _ _ hh => ⟨hh.1, below_of_gb hh.2⟩
  · exact (lawEach_long A len cap N W (by omega)).mono fun _ _ hh => ⟨hh.1, below_of_gb hh.2⟩

set_option maxRecDepth 100000 in
theorem lifted (os : Os) (started : os.Started) (H : Type) (enc : TypeId × Value → H) :
    ReturnsInHanded {} Try.checked os 4 .any (Rows.abortEachSpec.pre6 enc Try.prog Try.f4 Rows.abortEachRow.domain false) (Rows.abortEachSpec.post enc Try.prog Try.f4 false true false false) := by
  refine returnsInHanded_of_change (C := Try.checked) own started (by kernel_rfl) Try.func4
    (ChangeSpec.witness6 (enc := enc) (C := Try.checked) false ⟨#[], #[.slice none 0 0, .int .i64 0], []⟩ 8 (by kernel_rfl) (by kernel_rfl) (by kernel_rfl) (by kernel_rfl)) ?_
  intro W base args ds gs before hval0 hW hcnd _
  have hval : ∀ (j : Nat) t v, Try.f4.params[j]? = some t → args[j]? = some v → Value.okWide Try.prog W .any base t v := hval0
  have hW' := hW
  obtain ⟨p, q, hA0, hV, rfl, hfz, hnd⟩ := hW
  have hA : DataW.TrodAll enc Try.prog W 0 (fun _ => true) true Try.f4.params.toList args.toList ds p := hA0
  rw [Try.params4] at hA hval
  obtain ⟨v0, vs0, d0, ds0, p0, q0, hargs, rfl, rfl, h0, r0⟩ := trodAll_cons hA
  obtain ⟨v1, vs1, d1, ds1, p1, q1, rfl, rfl, rfl, h1, r1⟩ := trodAll_cons r0
  obtain ⟨rfl, rfl, rfl⟩ := trodAll_nil r1
  obtain rfl : args = #[v0, v1] := by cases args; simp_all
  obtain ⟨rfl, rfl⟩ := trodVars_none hV
  obtain ⟨a0, len0, cap0, rfl⟩ := okWide_slice Try.underlying37 (hval 0 37 v0 rfl rfl)
  obtain ⟨N, rfl, rfl, rfl, wc⟩ := open_int Try.underlying3 (hval 1 3 v1 rfl rfl) h1
  have k0 := h0
  have lt0 : ∀ x ∈ p0, x.block < W.heap.size := by obtain ⟨m, hm⟩ := k0; exact DataW.trod_lt m _ _ _ hm
  obtain ⟨L, hl, hr⟩ := open_table h0
  clear hA0 hval0
  refine (walk a0 len0 cap0 L N W hl hr).mono fun e W' ⟨he, bel⟩ => ?_
  subst he
  exact ⟨_, rfl, _, _, _, [], _, [], hW', trodAll_mk1 (shut_bool Try.underlying4 _), (trodAll_cons_mk (Below.trod laidOut (by kernel_rfl) (of_decide_eq_true (by kernel_rfl)) k0 bel lt0) (trodAll_cons_mk (shut_int Try.underlying3 wc) trodAll_mk0)), rfl, bel.frame _, fun h => by cases h⟩

theorem over : Rows.abortEachRow.holds Try.pinned (OpenSpec.ofChange Rows.abortEachSpec) :=
  OpenClaim.holds_of_wide 4 Try.f4 rfl rfl rfl rfl rfl rfl rfl ⟨rfl, rfl, rfl, rfl, rfl⟩ rfl rfl rfl rfl rfl (by kernel_rfl) Try.func4 (by kernel_rfl)
    (of_decide_eq_true (by kernel_rfl)) (by unfold Func.isWrapper; first | (rw [if_pos (by decide +kernel)]; kernel_rfl) | (rw [if_neg (by decide +kernel)]; exact ⟨rfl, rfl⟩))
    (fun os started H enc _ => lifted os started H enc)

theorem proved : Rows.AbortEachSaid := over
end Go.Proofs.Ytmgihoogdkpjoaa.abortEach
