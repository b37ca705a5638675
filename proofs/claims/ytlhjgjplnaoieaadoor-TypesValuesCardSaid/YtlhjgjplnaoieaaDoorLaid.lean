/- What the rows list of types.names, as the walks want it; a world that holds it. -/
import Derived.Test.YtlhjgjplnaoieaaDoorNames
import Derived.Test.YtlhjgjplnaoieaaDoorTie
import Derived.Lib.LaidIn
import Derived.Lib.LaidU8
import Derived.LaidMore
import Derived.MakeChecks
import Derived.Stop.Joined
import Derived.OpenShut
namespace Go.Proofs.YtlhjgjplnaoieaaDoor
open Go.Shelf Go.Lib

theorem laidOut : laidOutB Tryd.prog = true := by kernel_rfl
theorem own : ownKnob Tryd.prog.godebug = none := by kernel_rfl
/-- What the rows list. -/
def listed : List (String × DataW Unit) := [("creel/types.names", Rows.laid_creel_types_names)]
theorem listed_plain (W : World) : laidMetH Tryd.prog listed W = laidMet Tryd.prog listed W := Go.MakeChecks.laidMetH_plain _ _ _ (by kernel_rfl)

theorem c5 : Tryd.prog.cellsOf 5 = 1 := by kernel_rfl
theorem c9 : Tryd.prog.cellsOf 9 = 1 := by kernel_rfl
theorem c66 : Tryd.prog.cellsOf 66 = 2 := by kernel_rfl
theorem c67 : Tryd.prog.cellsOf 67 = 10 := by kernel_rfl
theorem nNames : Tryd.prog.globalNamed "creel/types.names" = some 0 := by kernel_rfl
theorem yNames : (Tryd.prog.globals[0]?).map (·.type) = some 67 := by kernel_rfl

/-- A part of the table. -/
theorem pair_of {H : Type} {enc : TypeId × Value → H} {w : World} {base : Nat} {sp : Nat → Bool} {held : Bool} {fuel : Nat} {cs : List Value} {c : Int} {n : List UInt8} {p : List MemPlace}
    (h : DataW.trod enc Tryd.prog w base sp held fuel 66 cs = some (.agg [.lit (.int .u8 c), .lit (.string n)], p)) : cs = [.int .u8 c, .string (S n)] := by
  obtain ⟨xs, m, rfl, hx, hl, hxl, hall⟩ := DataW.trod_struct Tryd.underlying66 h
  rw [c66] at hl
  have h0 : DataW.trod enc Tryd.prog w base sp held m 5 ((cs.drop 0).take (Tryd.prog.cellsOf 5)) = xs[0]? := hall 0 _ rfl
  have h1 : DataW.trod enc Tryd.prog w base sp held m 9 ((cs.drop 1).take (Tryd.prog.cellsOf 9)) = xs[1]? := hall 1 _ rfl
  rw [c5] at h0
  rw [c9] at h1
  match xs, hxl, cs, hl with
  | [x0, x1], _, [u, v], _ =>
    simp only [List.map_cons, List.map_nil, Prod.mk.injEq, DataW.agg.injEq, List.cons.injEq, and_true] at hx
    obtain ⟨⟨e0, e1⟩, _⟩ := hx
    simp only [List.drop_zero, List.drop_succ_cons, List.getElem?_cons_zero, List.getElem?_cons_succ, List.take_succ_cons, List.take_zero] at h0 h1
    obtain ⟨z, hz, rfl, _⟩ := DataW.trod_int Tryd.underlying5 h0
    obtain ⟨s, hs, rfl, _⟩ := DataW.trod_string Tryd.underlying9 h1
    have e0' : c = z := by simpa using e0
    have e1' : n = s.data.toList := by simpa using e1
    have hz' : u = .int .u8 z := by simpa using hz
    have hs' : v = .string s := by simpa using hs
    subst hz'; subst hs'; subst e0'; subst e1'
    rw [S_of]
theorem five {l : List Value} {a b c d e : List Value} (hl : l.length = 10) (h0 : (l.drop 0).take 2 = a) (h1 : (l.drop 2).take 2 = b) (h2 : (l.drop 4).take 2 = c) (h3 : (l.drop 6).take 2 = d) (h4 : (l.drop 8).take 2 = e) : l = a ++ b ++ c ++ d ++ e := by
  subst h0; subst h1; subst h2; subst h3; subst h4
  match l, hl with
  | [_, _, _, _, _, _, _, _, _, _], _ => rfl
theorem tab_of {W : World} (h : laidMetH Tryd.prog listed W) : Tab W := by
  rw [listed_plain] at h
  obtain ⟨g, t, cs, fuel, p, hg, hty, hvar, hd⟩ := Lib.laidMet.reads h (.head _)
  obtain rfl := Option.some.inj (nNames.symm.trans hg)
  obtain rfl := Option.some.inj (yNames.symm.trans hty)
  have part : ∀ i, i < 5 → ∃ d f q, (([.agg [.lit (.int .u8 127), .lit (.string [105, 51, 50])], .agg [.lit (.int .u8 126), .lit (.string [105, 54, 52])], .agg [.lit (.int .u8 125), .lit (.string [102, 51, 50])], .agg [.lit (.int .u8 124), .lit (.string [102, 54, 52])], .agg [.lit (.int .u8 112), .lit (.string [102, 117, 110, 99, 114, 101, 102])]] : List (DataW Unit))[i]? = some d) ∧ DataW.trod (fun _ => ()) Tryd.prog W 0 (fun _ => true) false f 66 ((cs.toList.drop (i * 2)).take 2) = some (d, q) := by
    intro i hi
    obtain ⟨f, d, q, h1, h2⟩ := array_elem Tryd.underlying67 hd i hi
    rw [c66] at h2
    exact ⟨d, f, q, h1, h2⟩
  have hlen : cs.toList.length = 10 := by
    obtain ⟨xs, n, _, _, hl, _, _⟩ := DataW.trod_array Tryd.underlying67 hd
    rw [hl, c67]
  obtain ⟨d0, f0, q0, e0, t0⟩ := part 0 (by omega)
  obtain ⟨d1, f1, q1, e1, t1⟩ := part 1 (by omega)
  obtain ⟨d2, f2, q2, e2, t2⟩ := part 2 (by omega)
  obtain ⟨d3, f3, q3, e3, t3⟩ := part 3 (by omega)
  obtain ⟨d4, f4, q4, e4, t4⟩ := part 4 (by omega)
  simp only [List.getElem?_cons_zero, List.getElem?_cons_succ, Option.some.injEq] at e0 e1 e2 e3 e4
  subst e0; subst e1; subst e2; subst e3; subst e4
  have hcs : cs = rowN := by
    apply Array.toList_inj.1
    rw [five hlen (pair_of t0) (pair_of t1) (pair_of t2) (pair_of t3) (pair_of t4)]
    rfl
  simp only [World.var?, nNames, Option.bind_some] at hvar
  split at hvar
  · rename_i c t fr hb
    cases hvar
    subst hcs
    exact ⟨t, fr, hb⟩
  · cases hvar

/-- The settled world, the table laid. -/
noncomputable def laidWorld (os : Os) : World :=
  let w0 := World.holding Tryd.prog os ⟨#[], #[], []⟩
  let put (h : Array Obj) (g : Nat) (cs : Array Value) : Array Obj := h.modify g fun
    | .cells _ t frozen => .cells cs t frozen
    | o => o
  { w0 with heap := put w0.heap 0 rowN }
theorem laidWorld_met (os : Os) (args : Array Value) : laidMetH Tryd.prog listed ((laidWorld os).forCall (fun _ _ => 0) ⟨#[], args, []⟩).memory := by
  rw [listed_plain]
  exact (LaidIn.of_run (l := listed) [0] 8 (by kernel_rfl) (by kernel_rfl) (by kernel_rfl) (by kernel_rfl)).met
end Go.Proofs.YtlhjgjplnaoieaaDoor
