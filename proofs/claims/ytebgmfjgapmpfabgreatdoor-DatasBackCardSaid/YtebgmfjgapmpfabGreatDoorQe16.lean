/- What the rows list of the tables of package ops, as the walks want it; a world that holds them. -/
import Derived.Test.YtebgmfjgapmpfabGreatDoorQe05
import Derived.Test.YtebgmfjgapmpfabGreatDoorTie
import Derived.Lib.LaidIn
import Derived.Lib.LaidU8
import Derived.LaidMore
import Derived.MakeChecks
import Derived.Stop.Joined
import Derived.OpenShut
import Derived.Test.YtebgmfjgapmpfabGreatDoorQe14
import Derived.ProofKit
import Derived.ShutString
import Derived.ChangeOld
import Derived.Deep.Slices
import Derived.Lib.SmallJoins
import Derived.Test.YtebgmfjgapmpfabGreatDoorQe09
import Derived.OwnWalk
import Derived.Laws.AppendOwn
import Derived.Deep.SlicePairs
import Derived.Test.YtebgmfjgapmpfabGreatDoorQe15
import Derived.Deep.CutBlock
import Derived.Deep.DeepCutAuto
import Derived.ChangeSame
import Derived.Deep.Fields
namespace Go.Proofs.YtebgmfjgapmpfabGreatDoor
set_option linter.unusedVariables false
open Go.Shelf Go.Lib

theorem laidOut : laidOutB Tryz.prog = true := by kernel_rfl
theorem own : ownKnob Tryz.prog.godebug = none := by kernel_rfl
/-- What the rows list. -/
def listed : List (String × DataW Unit) := [("creel/ops.controlNames", Rows.laid_creel_ops_controlNames), ("creel/ops.memoryNames", Rows.laid_creel_ops_memoryNames), ("creel/ops.testNames", Rows.laid_creel_ops_testNames), ("creel/ops.numberNames", Rows.laid_creel_ops_numberNames), ("creel/ops.convertNames", Rows.laid_creel_ops_convertNames), ("creel/ops.accesses", Rows.laid_creel_ops_accesses)]
theorem listed_plain (W : World) : laidMetH Tryz.prog listed W = laidMet Tryz.prog listed W := Go.MakeChecks.laidMetH_plain _ _ _ (by kernel_rfl)

theorem cInt : Tryz.prog.cellsOf 3 = 1 := by kernel_rfl
theorem cBool : Tryz.prog.cellsOf 4 = 1 := by kernel_rfl
theorem cByte : Tryz.prog.cellsOf 5 = 1 := by kernel_rfl
theorem cStr : Tryz.prog.cellsOf 9 = 1 := by kernel_rfl
theorem cAcc : Tryz.prog.cellsOf 193 = 4 := by kernel_rfl

/-- A list cut into pieces of n. -/
theorem pieces {α : Type} (n : Nat) (g : α → List Value) : ∀ (l : List α) (L : List Value), L.length = l.length * n → (∀ k a, l[k]? = some a → (L.drop (k * n)).take n = g a) → L = l.flatMap g
  | [], L, hl, _ => List.eq_nil_of_length_eq_zero (by simpa using hl)
  | x :: r, L, hl, h => by
    have h0 := h 0 x rfl
    rw [Nat.zero_mul, List.drop_zero] at h0
    have hr := pieces n g r (L.drop n) (by rw [List.length_drop, hl, List.length_cons, Nat.add_mul]; omega) (fun k a hk => by
      have := h (k + 1) a hk
      rw [List.drop_drop, ← this]
      congr 2
      rw [Nat.add_mul]
      omega)
    rw [List.flatMap_cons, ← hr, ← h0, List.take_append_drop]

theorem map_flat {α : Type} (f : α → Value) : ∀ l : List α, l.map f = l.flatMap fun a => [f a]
  | [] => rfl
  | x :: r => by rw [List.map_cons, List.flatMap_cons, map_flat f r]; rfl
section
variable {H : Type} {enc : TypeId × Value → H} {w : World} {base : Nat} {sp : Nat → Bool} {held : Bool} {fuel : Nat}
theorem strs_of {t : TypeId} {n : Nat} {cs : Array Value} {l : List (List UInt8)} {p : List MemPlace} (ht : Tryz.prog.underlying t = some (.array n 9)) (hc : Tryz.prog.cellsOf t = n) (hn : l.length = n)
    (h : DataW.trod enc Tryz.prog w base sp held fuel t cs.toList = some (.agg (l.map fun s => .lit (.string s)), p)) : cs = strs l := by
  obtain ⟨_, _, _, _, hl, _, _⟩ := DataW.trod_array ht h
  apply Array.toList_inj.1
  have e : (strs l).toList = l.flatMap fun s => [.string (S s)] := by
    show l.map _ = _
    exact map_flat _ l
  rw [e]
  refine pieces 1 _ l cs.toList (by omega) (fun k a hk => ?_)
  obtain ⟨hk', rfl⟩ := List.getElem?_eq_some_iff.1 hk
  obtain ⟨f, d, q, h1, h2⟩ := array_elem ht h k (by omega)
  rw [cStr] at h2
  obtain ⟨s, hs, he, _⟩ := DataW.trod_string Tryz.underlying9 h2
  rw [hs]
  rw [List.getElem?_map, hk] at h1
  simp only [Option.map_some, Option.some.injEq] at h1
  rw [Prod.mk.injEq] at he
  rw [← h1] at he
  have e2 : l[k] = s.data.toList := by simpa using he.1
  rw [e2, S_of]
set_option maxRecDepth 100000 in
/-- A part of the table of accesses. -/
theorem quad_of {cs : List Value} {a : AccR} {p : List MemPlace}
    (h : DataW.trod enc Tryz.prog w base sp held fuel 193 cs = some (.agg [.lit (.int .i64 a.n), .lit (.int .u8 a.t), .lit (.bool a.wr), .lit (.bool a.sg)], p)) : cs = [.int .i64 a.n, .int .u8 a.t, .bool a.wr, .bool a.sg] := by
  obtain ⟨xs, m, rfl, hx, hl, hxl, hall⟩ := DataW.trod_struct Tryz.underlying193 h
  rw [cAcc] at hl
  have h0 : DataW.trod enc Tryz.prog w base sp held m 3 ((cs.drop 0).take (Tryz.prog.cellsOf 3)) = xs[0]? := hall 0 _ rfl
  have h1 : DataW.trod enc Tryz.prog w base sp held m 5 ((cs.drop 1).take (Tryz.prog.cellsOf 5)) = xs[1]? := hall 1 _ rfl
  have h2 : DataW.trod enc Tryz.prog w base sp held m 4 ((cs.drop 2).take (Tryz.prog.cellsOf 4)) = xs[2]? := hall 2 _ rfl
  have h3 : DataW.trod enc Tryz.prog w base sp held m 4 ((cs.drop 3).take (Tryz.prog.cellsOf 4)) = xs[3]? := hall 3 _ rfl
  rw [cInt] at h0
  rw [cByte] at h1
  rw [cBool] at h2 h3
  match xs, hxl, cs, hl with
  | [x0, x1, x2, x3], _, [u0, u1, u2, u3], _ =>
    simp only [List.map_cons, List.map_nil, Prod.mk.injEq, DataW.agg.injEq, List.cons.injEq, and_true] at hx
    obtain ⟨⟨e0, e1, e2, e3⟩, _⟩ := hx
    simp only [List.drop_zero, List.drop_succ_cons, List.getElem?_cons_zero, List.getElem?_cons_succ, List.take_succ_cons, List.take_zero] at h0 h1 h2 h3
    obtain ⟨z0, y0, rfl, _⟩ := DataW.trod_int Tryz.underlying3 h0
    obtain ⟨z1, y1, rfl, _⟩ := DataW.trod_int Tryz.underlying5 h1
    obtain ⟨z2, y2, rfl⟩ := DataW.trod_bool Tryz.underlying4 h2
    obtain ⟨z3, y3, rfl⟩ := DataW.trod_bool Tryz.underlying4 h3
    have e0' : (a.n : Int) = z0 := by simpa using e0
    have e1' : (a.t : Int) = z1 := by simpa using e1
    have e2' : a.wr = z2 := by simpa using e2
    have e3' : a.sg = z3 := by simpa using e3
    rw [e0', e1', e2', e3']
    have y0' : u0 = .int .i64 z0 := by simpa using y0
    have y1' : u1 = .int .u8 z1 := by simpa using y1
    have y2' : u2 = .bool z2 := by simpa using y2
    have y3' : u3 = .bool z3 := by simpa using y3
    rw [y0', y1', y2', y3']
theorem acc_of {t : TypeId} {n : Nat} {cs : Array Value} {l : List AccR} {p : List MemPlace} (ht : Tryz.prog.underlying t = some (.array n 193)) (hc : Tryz.prog.cellsOf t = n * 4) (hn : l.length = n)
    (h : DataW.trod enc Tryz.prog w base sp held fuel t cs.toList = some (.agg (l.map fun a => .agg [.lit (.int .i64 a.n), .lit (.int .u8 a.t), .lit (.bool a.wr), .lit (.bool a.sg)]), p)) : cs = accCells l := by
  obtain ⟨_, _, _, _, hl, _, _⟩ := DataW.trod_array ht h
  apply Array.toList_inj.1
  show cs.toList = l.flatMap _
  refine pieces 4 _ l cs.toList (by omega) (fun k a hk => ?_)
  obtain ⟨hk', rfl⟩ := List.getElem?_eq_some_iff.1 hk
  obtain ⟨f, d, q, h1, h2⟩ := array_elem ht h k (by omega)
  rw [cAcc] at h2
  rw [List.getElem?_map, hk] at h1
  simp only [Option.map_some, Option.some.injEq] at h1
  subst h1
  exact quad_of h2
end
theorem heap_of {W : World} {x : String} {g : Nat} {cs : Array Value} (hg : Tryz.prog.globalNamed x = some g) (hv : W.var? Tryz.prog x = some cs) : ∃ t fr, W.heap[g]? = some (.cells cs t fr) := by
  simp only [World.var?, hg, Option.bind_some] at hv
  split at hv
  · rename_i c t fr hb
    cases hv
    exact ⟨t, fr, hb⟩
  · cases hv
theorem n0 : Tryz.prog.globalNamed "creel/ops.controlNames" = some 0 := by kernel_rfl
theorem y0 : (Tryz.prog.globals[0]?).map (·.type) = some 186 := by kernel_rfl
theorem d0 : (Rows.laid_creel_ops_controlNames : DataW Unit) = .agg (tab0.map fun s => .lit (.string s)) := by kernel_rfl
theorem t0 {W : World} (h : laidMet Tryz.prog listed W) : ∃ t fr, W.heap[0]? = some (.cells (strs tab0) t fr) := by
  obtain ⟨g, t, cs, fuel, p, hg, hty, hvar, hd⟩ := Lib.laidMet.reads h (show ("creel/ops.controlNames", Rows.laid_creel_ops_controlNames) ∈ listed from .head _)
  obtain rfl := Option.some.inj (n0.symm.trans hg)
  obtain rfl := Option.some.inj (y0.symm.trans hty)
  rw [d0] at hd
  obtain rfl := strs_of Tryz.underlying186 (by kernel_rfl) (by kernel_rfl) hd
  exact heap_of n0 hvar
theorem n1 : Tryz.prog.globalNamed "creel/ops.memoryNames" = some 1 := by kernel_rfl
theorem y1 : (Tryz.prog.globals[1]?).map (·.type) = some 187 := by kernel_rfl
theorem d1 : (Rows.laid_creel_ops_memoryNames : DataW Unit) = .agg (tab1.map fun s => .lit (.string s)) := by kernel_rfl
theorem t1 {W : World} (h : laidMet Tryz.prog listed W) : ∃ t fr, W.heap[1]? = some (.cells (strs tab1) t fr) := by
  obtain ⟨g, t, cs, fuel, p, hg, hty, hvar, hd⟩ := Lib.laidMet.reads h (show ("creel/ops.memoryNames", Rows.laid_creel_ops_memoryNames) ∈ listed from .tail _ (.head _))
  obtain rfl := Option.some.inj (n1.symm.trans hg)
  obtain rfl := Option.some.inj (y1.symm.trans hty)
  rw [d1] at hd
  obtain rfl := strs_of Tryz.underlying187 (by kernel_rfl) (by kernel_rfl) hd
  exact heap_of n1 hvar
theorem n2 : Tryz.prog.globalNamed "creel/ops.testNames" = some 2 := by kernel_rfl
theorem y2 : (Tryz.prog.globals[2]?).map (·.type) = some 188 := by kernel_rfl
theorem d2 : (Rows.laid_creel_ops_testNames : DataW Unit) = .agg (tab2.map fun s => .lit (.string s)) := by kernel_rfl
theorem t2 {W : World} (h : laidMet Tryz.prog listed W) : ∃ t fr, W.heap[2]? = some (.cells (strs tab2) t fr) := by
  obtain ⟨g, t, cs, fuel, p, hg, hty, hvar, hd⟩ := Lib.laidMet.reads h (show ("creel/ops.testNames", Rows.laid_creel_ops_testNames) ∈ listed from .tail _ (.tail _ (.head _)))
  obtain rfl := Option.some.inj (n2.symm.trans hg)
  obtain rfl := Option.some.inj (y2.symm.trans hty)
  rw [d2] at hd
  obtain rfl := strs_of Tryz.underlying188 (by kernel_rfl) (by kernel_rfl) hd
  exact heap_of n2 hvar
theorem n3 : Tryz.prog.globalNamed "creel/ops.numberNames" = some 3 := by kernel_rfl
theorem y3 : (Tryz.prog.globals[3]?).map (·.type) = some 189 := by kernel_rfl
theorem d3 : (Rows.laid_creel_ops_numberNames : DataW Unit) = .agg (tab3.map fun s => .lit (.string s)) := by kernel_rfl
theorem t3 {W : World} (h : laidMet Tryz.prog listed W) : ∃ t fr, W.heap[3]? = some (.cells (strs tab3) t fr) := by
  obtain ⟨g, t, cs, fuel, p, hg, hty, hvar, hd⟩ := Lib.laidMet.reads h (show ("creel/ops.numberNames", Rows.laid_creel_ops_numberNames) ∈ listed from .tail _ (.tail _ (.tail _ (.head _))))
  obtain rfl := Option.some.inj (n3.symm.trans hg)
  obtain rfl := Option.some.inj (y3.symm.trans hty)
  rw [d3] at hd
  obtain rfl := strs_of Tryz.underlying189 (by kernel_rfl) (by kernel_rfl) hd
  exact heap_of n3 hvar
theorem n4 : Tryz.prog.globalNamed "creel/ops.convertNames" = some 4 := by kernel_rfl
theorem y4 : (Tryz.prog.globals[4]?).map (·.type) = some 190 := by kernel_rfl
theorem d4 : (Rows.laid_creel_ops_convertNames : DataW Unit) = .agg (tab4.map fun s => .lit (.string s)) := by kernel_rfl
theorem t4 {W : World} (h : laidMet Tryz.prog listed W) : ∃ t fr, W.heap[4]? = some (.cells (strs tab4) t fr) := by
  obtain ⟨g, t, cs, fuel, p, hg, hty, hvar, hd⟩ := Lib.laidMet.reads h (show ("creel/ops.convertNames", Rows.laid_creel_ops_convertNames) ∈ listed from .tail _ (.tail _ (.tail _ (.tail _ (.head _)))))
  obtain rfl := Option.some.inj (n4.symm.trans hg)
  obtain rfl := Option.some.inj (y4.symm.trans hty)
  rw [d4] at hd
  obtain rfl := strs_of Tryz.underlying190 (by kernel_rfl) (by kernel_rfl) hd
  exact heap_of n4 hvar
theorem n5 : Tryz.prog.globalNamed "creel/ops.accesses" = some 5 := by kernel_rfl
theorem y5 : (Tryz.prog.globals[5]?).map (·.type) = some 198 := by kernel_rfl
theorem d5 : (Rows.laid_creel_ops_accesses : DataW Unit) = .agg (tabA.map fun a => .agg [.lit (.int .i64 a.n), .lit (.int .u8 a.t), .lit (.bool a.wr), .lit (.bool a.sg)]) := by kernel_rfl
theorem t5 {W : World} (h : laidMet Tryz.prog listed W) : ∃ t fr, W.heap[5]? = some (.cells (accCells tabA) t fr) := by
  obtain ⟨g, t, cs, fuel, p, hg, hty, hvar, hd⟩ := Lib.laidMet.reads h (show ("creel/ops.accesses", Rows.laid_creel_ops_accesses) ∈ listed from .tail _ (.tail _ (.tail _ (.tail _ (.tail _ (.head _))))))
  obtain rfl := Option.some.inj (n5.symm.trans hg)
  obtain rfl := Option.some.inj (y5.symm.trans hty)
  rw [d5] at hd
  obtain rfl := acc_of Tryz.underlying198 (by kernel_rfl) (by kernel_rfl) hd
  exact heap_of n5 hvar
theorem tabs_of {W : World} (h : laidMetH Tryz.prog listed W) : Tabs W := by
  rw [listed_plain] at h
  exact ⟨t0 h, t1 h, t2 h, t3 h, t4 h, t5 h⟩

/-- The settled world, the tables laid. -/
noncomputable def laidWorld (os : Os) : World :=
  let w0 := World.holding Tryz.prog os ⟨#[], #[], []⟩
  let put (h : Array Obj) (g : Nat) (cs : Array Value) : Array Obj := h.modify g fun
    | .cells _ t frozen => .cells cs t frozen
    | o => o
  let h0 := put w0.heap 0 (strs tab0)
  let h1 := put h0 1 (strs tab1)
  let h2 := put h1 2 (strs tab2)
  let h3 := put h2 3 (strs tab3)
  let h4 := put h3 4 (strs tab4)
  { w0 with heap := put h4 5 (accCells tabA) }
theorem laidWorld_met (os : Os) (args : Array Value) : laidMetH Tryz.prog listed ((laidWorld os).forCall (fun _ _ => 0) ⟨#[], args, []⟩).memory := by
  rw [listed_plain]
  exact (LaidIn.of_run (l := listed) [0, 1, 2, 3, 4, 5] 8 (by kernel_rfl) (by kernel_rfl) (by kernel_rfl) (by kernel_rfl)).met
end Go.Proofs.YtebgmfjgapmpfabGreatDoor

/- An instruction by value, its labels, a slice of bytes: opened. -/
namespace Go.Proofs.YtebgmfjgapmpfabGreatDoor
open Go.ChangeShapes Go.WideShapes Go.ChangeAt Go.RowKit Go.Joins
set_option linter.unusedVariables false
set_option maxRecDepth 100000

theorem cellsB : Tryz.prog.cellsOf 5 = 1 := by kernel_rfl
theorem cells4 : Tryz.prog.cellsOf 69 = 1 := by kernel_rfl
section
variable {H : Type} {enc : TypeId × Value → H} {W : World} {sp : Nat → Bool}
theorem ints_lie {k : IntKind} {a : Addr} {len : Nat} {zs : List Int} (hle : len ≤ zs.length) (hcell : ∀ i, i < zs.length → W.cell? (a.add i) = some (.int k (zs.getD i 0))) :
    ∀ j v, ((zs.take len).map (Value.int k))[j]? = some v → ∃ b off, some a = some (⟨b, off, none⟩ : Addr) ∧ b < W.heap.size ∧ W.cell? ⟨b, off + j, none⟩ = some v := by
  intro i v hv
  have hi : i < len := by
    have := (List.getElem?_eq_some_iff.1 hv).1
    rw [List.length_map, List.length_take] at this
    omega
  obtain ⟨b, off, spot⟩ := a
  have hsp : spot = none := by
    have h0 := hcell 0 (by omega)
    simpa [Addr.add] using World.cell?_spot h0
  subst hsp
  have hc := hcell i (by omega)
  rw [Go.WideShapes.add_plain] at hc
  refine ⟨b, off, rfl, block_lt_of_cell hc, ?_⟩
  rw [hc, ← hv, List.getElem?_map, List.getElem?_take, if_pos hi, List.getElem?_eq_getElem (by omega : i < zs.length)]
  simp [List.getD, List.getElem?_eq_getElem (by omega : i < zs.length)]
theorem open_labels {n : Nat} {v : Value} {y : DataW H × List MemPlace} (h : DataW.trod enc Tryz.prog W 0 sp true n 57 [v] = some y) :
    ∃ A c l, v = .slice A l.length c ∧ LiesL W A l ∧ (∀ d ∈ l, 0 ≤ d ∧ d ≤ 4294967295) ∧ (l.length : Int) ≤ 9223372036854775807 := by
  rcases open_ints Tryz.underlying57 Tryz.underlying69 cells4 h with ⟨hcs, _⟩ | ⟨a, l, c, zs, hcs, _, hl, hm, hz, _, hcell, hwf⟩
  · simp at hcs
    exact ⟨none, 0, [], hcs, fun j v hv => by simp [cells32] at hv, by simp, by simp⟩
  · simp at hcs
    subst hcs
    have hle : l ≤ zs.length := by rw [hz]; split <;> omega
    have hlen : (zs.take l).length = l := by rw [List.length_take]; omega
    unfold maxLen at hm
    refine ⟨some a, c, zs.take l, by rw [hlen], ints_lie hle hcell, fun d hd => ?_, by rw [hlen]; omega⟩
    have w0 := hwf d (List.mem_of_mem_take hd)
    simpa [Lit.wf, IntKind.min, IntKind.max, IntKind.signed, IntKind.bits] using w0
theorem nums_ex : ∀ r : List Int, (∀ c ∈ r, 0 ≤ c ∧ c ≤ 255) → ∃ l : List UInt8, nums l = r
  | [], _ => ⟨[], rfl⟩
  | c :: r, h => by
    obtain ⟨l, hl⟩ := nums_ex r (fun d hd => h d (List.mem_cons_of_mem _ hd))
    have hc := h c (by simp)
    refine ⟨UInt8.ofNat c.toNat :: l, ?_⟩
    unfold nums at hl ⊢
    rw [List.map_cons, hl, u8_of hc.1 hc.2]
theorem open_bytes {A : Option Addr} {len cap : Nat} {d : DataW H} {p : List MemPlace} (h : DataW.Trod enc Tryz.prog W 0 sp true 32 (.slice A len cap) d p) :
    ∃ l : List UInt8, l.length = len ∧ Lies W W.heap.size A (cells (nums l)) ∧ (A = none → cap = 0) ∧ (l.length : Int) ≤ 9223372036854775807 := by
  obtain ⟨fuel, hf⟩ := h
  rcases open_ints Tryz.underlying32 Tryz.underlying5 cellsB hf with ⟨hcs, _⟩ | ⟨a, l, c, zs, hcs, _, hl, hm, hz, _, hcell, hwf⟩
  · simp [Value.cells] at hcs
    obtain ⟨rfl, rfl, rfl⟩ := hcs
    exact ⟨[], rfl, Lies.nil, fun _ => rfl, by simp⟩
  · simp [Value.cells] at hcs
    obtain ⟨rfl, rfl, rfl⟩ := hcs
    have hle : len ≤ zs.length := by rw [hz]; split <;> omega
    have hlen : (zs.take len).length = len := by rw [List.length_take]; omega
    obtain ⟨bs, hbs⟩ := nums_ex (zs.take len) (fun d hd => by
      have w0 := hwf d (List.mem_of_mem_take hd)
      simpa [Lit.wf, IntKind.min, IntKind.max, IntKind.signed, IntKind.bits] using w0)
    have hbl : bs.length = len := by rw [← nums_length, hbs, hlen]
    unfold maxLen at hm
    refine ⟨bs, hbl, ?_, (fun e => by cases e), by rw [hbl]; omega⟩
    rw [hbs]
    exact ints_lie hle hcell
/-- The parts of an instruction. -/
theorem open_parts {n : Nat} {v0 v1 v2 v3 : Value} {y0 y1 y2 y3 : DataW H × List MemPlace}
    (h0 : DataW.trod enc Tryz.prog W 0 sp true n 5 [v0] = some y0) (h1 : DataW.trod enc Tryz.prog W 0 sp true n 56 [v1] = some y1) (h2 : DataW.trod enc Tryz.prog W 0 sp true n 56 [v2] = some y2) (h3 : DataW.trod enc Tryz.prog W 0 sp true n 57 [v3] = some y3) :
    ∃ (i : I) (A : Option Addr) (c : Nat), v0 = .int .u8 i.op.toNat ∧ v1 = .int .u64 i.a ∧ v2 = .int .u64 i.b ∧ v3 = .slice A i.l.length c ∧ i.Ok ∧ LiesL W A i.l ∧ (i.l.length : Int) ≤ 9223372036854775807 := by
  obtain ⟨x0, e0, _, w0⟩ := DataW.trod_int Tryz.underlying5 h0
  obtain ⟨x1, e1, _, w1⟩ := DataW.trod_int Tryz.underlying56 h1
  obtain ⟨x2, e2, _, w2⟩ := DataW.trod_int Tryz.underlying56 h2
  obtain ⟨A, c, l, e3, hl, hn, hm⟩ := open_labels h3
  simp only [List.cons.injEq, and_true] at e0 e1 e2
  have b0 : 0 ≤ x0 ∧ x0 ≤ 255 := by simpa [Lit.wf, IntKind.min, IntKind.max, IntKind.signed, IntKind.bits] using w0
  have b1 : 0 ≤ x1 ∧ x1 ≤ 18446744073709551615 := by simpa [Lit.wf, IntKind.min, IntKind.max, IntKind.signed, IntKind.bits] using w1
  have b2 : 0 ≤ x2 ∧ x2 ≤ 18446744073709551615 := by simpa [Lit.wf, IntKind.min, IntKind.max, IntKind.signed, IntKind.bits] using w2
  exact ⟨⟨UInt8.ofNat x0.toNat, x1, x2, l⟩, A, c, by rw [e0, u8_of b0.1 b0.2], e1, e2, e3, ⟨b1.1, b1.2, b2.1, b2.2, hn⟩, hl, hm⟩
theorem open_ins {b0 : Nat} {r : Reach} {v : Value} {d : DataW H} {p : List MemPlace} (hv : Value.okWide Tryz.prog W r b0 59 v) (h : DataW.Trod enc Tryz.prog W 0 sp true 59 v d p) :
    ∃ (i : I) (A : Option Addr) (c : Nat), v = insV i A c ∧ i.Ok ∧ LiesL W A i.l ∧ (i.l.length : Int) ≤ 9223372036854775807 := by
  obtain ⟨v0, v1, v2, v3, y0, y1, y2, y3, n, rfl, _, _, h0, h1, h2, h3⟩ := open_agg4 Tryz.underlying59 (by kernel_rfl) (by kernel_rfl) hv h
  obtain ⟨i, A, c, rfl, rfl, rfl, rfl, ho, hl, hn⟩ := open_parts h0 h1 h2 h3
  exact ⟨i, A, c, rfl, ho, hl, hn⟩
end
end Go.Proofs.YtebgmfjgapmpfabGreatDoor

/- Lists of global types and of values in memory; values in a row of the call's own. -/
namespace Go.Proofs.YtebgmfjgapmpfabGreatDoor
open Go.RowKit
set_option linter.unusedVariables false
set_option maxRecDepth 100000

def boolOf : Value → Bool
  | .bool b => b
  | _ => false
/-- A list of global types. -/
def LiesG (w : World) (A : Option Addr) (l : List (Int × Bool)) : Prop :=
  ∀ i t m, l[i]? = some (t, m) → ∃ b off, A = some ⟨b, off, none⟩ ∧ b < w.heap.size ∧ w.cell? ⟨b, off + i * 2, none⟩ = some (.int .u8 t) ∧ w.cell? ⟨b, off + i * 2 + 1, none⟩ = some (.bool m)
theorem LiesG.below {w w' : World} {A : Option Addr} {l : List (Int × Bool)} (h : LiesG w A l) (hb : Below w.heap.size w w') : LiesG w' A l := fun i t m hi => by
  obtain ⟨b, off, e, h1, h2, h3⟩ := h i t m hi
  exact ⟨b, off, e, Nat.lt_of_lt_of_le h1 hb.size, (hb.cell (p := ⟨b, off + i * 2, none⟩) (by show b < _; omega)).trans h2, (hb.cell (p := ⟨b, off + i * 2 + 1, none⟩) (by show b < _; omega)).trans h3⟩
/-- A list of values. -/
def LiesP (w : World) (A : Option Addr) (l : List (Int × Int)) : Prop :=
  ∀ i t n, l[i]? = some (t, n) → ∃ b off, A = some ⟨b, off, none⟩ ∧ b < w.heap.size ∧ w.cell? ⟨b, off + i * 2, none⟩ = some (.int .u8 t) ∧ w.cell? ⟨b, off + i * 2 + 1, none⟩ = some (.int .u64 n)
theorem LiesP.below {w w' : World} {A : Option Addr} {l : List (Int × Int)} (h : LiesP w A l) (hb : Below w.heap.size w w') : LiesP w' A l := fun i t m hi => by
  obtain ⟨b, off, e, h1, h2, h3⟩ := h i t m hi
  exact ⟨b, off, e, Nat.lt_of_lt_of_le h1 hb.size, (hb.cell (p := ⟨b, off + i * 2, none⟩) (by show b < _; omega)).trans h2, (hb.cell (p := ⟨b, off + i * 2 + 1, none⟩) (by show b < _; omega)).trans h3⟩
theorem LiesP.nil (w : World) : LiesP w none [] := fun i t n h => by cases h

def valC (x : Int × Int) : List Value := [.int .u8 x.1, .int .u64 x.2]
theorem flatV_get : ∀ (l : List (Int × Int)) (j : Nat) (x : Int × Int) (u : Nat), l[j]? = some x → u < 2 → (l.flatMap valC)[j * 2 + u]? = (valC x)[u]?
  | [], j, x, u, h, _ => by cases h
  | y :: l, 0, x, u, h, hu => by
    injection h with h
    subst h
    rw [List.flatMap_cons, Nat.zero_mul, Nat.zero_add, List.getElem?_append_left (by show u < 2; exact hu)]
  | y :: l, j + 1, x, u, h, hu => by
    rw [List.flatMap_cons, List.getElem?_append_right (by show 2 ≤ _; omega)]
    have e : (j + 1) * 2 + u - (valC y).length = j * 2 + u := by show (j + 1) * 2 + u - 2 = _; omega
    rw [e]
    exact flatV_get l j x u h hu
end Go.Proofs.YtebgmfjgapmpfabGreatDoor

/- A list of global types, a value: opened. -/
namespace Go.Proofs.YtebgmfjgapmpfabGreatDoor
open Go.ChangeShapes Go.WideShapes Go.ChangeAt Go.RowKit Go.Joins
set_option linter.unusedVariables false
set_option maxRecDepth 100000

theorem wf8 {a : Int} (h : (Lit.int .u8 a).wf = true) : 0 ≤ a ∧ a ≤ 255 := by simpa [Lit.wf, IntKind.min, IntKind.max, IntKind.signed, IntKind.bits] using h
theorem wf32 {a : Int} (h : (Lit.int .u32 a).wf = true) : 0 ≤ a ∧ a ≤ 4294967295 := by simpa [Lit.wf, IntKind.min, IntKind.max, IntKind.signed, IntKind.bits] using h
theorem wf64 {a : Int} (h : (Lit.int .u64 a).wf = true) : 0 ≤ a ∧ a ≤ 18446744073709551615 := by simpa [Lit.wf, IntKind.min, IntKind.max, IntKind.signed, IntKind.bits] using h
theorem open_bytesC {H : Type} {enc : TypeId × Value → H} {W : World} {sp : Nat → Bool} {A : Option Addr} {len cap : Nat} {d : DataW H} {p : List MemPlace} (h : DataW.Trod enc Tryz.prog W 0 sp true 32 (.slice A len cap) d p) :
    ∃ l : List UInt8, l.length = len ∧ Lies W W.heap.size A (cells (nums l)) ∧ (A = none → cap = 0) ∧ len ≤ cap ∧ cap ≤ maxLen := by
  obtain ⟨fuel, hf⟩ := h
  rcases open_ints Tryz.underlying32 Tryz.underlying5 cellsB hf with ⟨hcs, _⟩ | ⟨a, l, c, zs, hcs, _, hl, hm, hz, _, hcell, hwf⟩
  · simp [Value.cells] at hcs
    obtain ⟨rfl, rfl, rfl⟩ := hcs
    exact ⟨[], rfl, Lies.nil, fun _ => rfl, Nat.le_refl _, Nat.zero_le _⟩
  · simp [Value.cells] at hcs
    obtain ⟨rfl, rfl, rfl⟩ := hcs
    have hle : len ≤ zs.length := by rw [hz]; split <;> omega
    have hlen : (zs.take len).length = len := by rw [List.length_take]; omega
    obtain ⟨bs, hbs⟩ := nums_ex (zs.take len) (fun d hd => by
      have w0 := hwf d (List.mem_of_mem_take hd)
      simpa [Lit.wf, IntKind.min, IntKind.max, IntKind.signed, IntKind.bits] using w0)
    have hbl : bs.length = len := by rw [← nums_length, hbs, hlen]
    refine ⟨bs, hbl, ?_, (fun e => by cases e), by omega, hm⟩
    rw [hbs]
    exact ints_lie hle hcell
theorem cGb : Tryz.prog.cellsOf 4 = 1 := by kernel_rfl
end Go.Proofs.YtebgmfjgapmpfabGreatDoor

/- The walk of DatasBack. -/
namespace Go.Proofs.YtebgmfjgapmpfabGreatDoor
open Go.RowKit
set_option linter.unusedVariables false
set_option maxRecDepth 100000

theorem takeDa_one {l : List SlotDa} {k : Nat} {x : SlotDa} (h : l[k]? = some x) : l.take (k + 1) = l.take k ++ [x] := by rw [List.take_add_one, h]; rfl
theorem dasK_at {l : List UInt8} : ∀ (rows : List SlotDa) (k : Nat) (acc : List Da) (r : List UInt8), OkDa rows → errDa rows = 0 → l.drop k = dputsL rows ++ r → dasK l rows.length k acc = .ok (acc ++ rows.map (·.1)) (k + (dputsL rows).length)
  | [], k, acc, r, _, _, _ => by simp [dasK, dputsL]
  | x :: rows, k, acc, r, ho, h0, h => by
    have z := errDa_mem h0 x (by simp)
    have h5 : errDa rows = 0 := by simpa [errDa, z] using h0
    have hd : l.drop k = hputL x ++ (dputsL rows ++ r) := by rw [h]; unfold dputsL; rw [List.flatMap_cons, List.append_assoc]
    have hq := ho x (by simp)
    have hg := daR_at hq.1 z hq.2.2 hd
    have hd2 := drop_past hd
    have ih := dasK_at rows _ (acc ++ [x.1]) r (fun y hy => ho y (List.mem_cons_of_mem _ hy)) h5 hd2
    rw [List.length_cons]
    show (daR l k).bind (fun x q2 => dasK l rows.length q2 (acc ++ [x])) = _
    rw [hg, Res.bind_ok]
    have e : k + (dputL x.1).length = k + (hputL x).length := rfl
    rw [e, ih]
    unfold dputsL
    rw [List.flatMap_cons, List.length_append, List.map_cons, List.append_assoc, List.singleton_append, Nat.add_assoc]
/-- What PutAll wrote is read. -/
theorem dasR_at {rows : List SlotDa} (ho : OkDa rows) (h0 : errDa rows = 0) (hn : rows.length ≤ 10000) : dasR (allDa rows) 0 = .ok (rows.map (·.1)) (allDa rows).length := by
  have hd : (allDa rows).drop 0 = lebL (rows.length : Int) ++ dputsL rows := rfl
  have h1 := countR_at hd (by omega) (by omega)
  rw [Nat.zero_add] at h1
  have h2 := drop_past hd
  rw [Nat.zero_add] at h2
  unfold dasR
  rw [h1, Res.bind_ok, Int.toNat_natCast, dasK_at rows _ [] [] ho h0 (by rw [List.append_nil]; exact h2), Res.bind_ok, List.nil_append]
  have e : (lebL (rows.length : Int)).length + (dputsL rows).length = (allDa rows).length := by unfold allDa; rw [List.length_append]
  rw [e, if_neg (by omega)]
/-- What the law keeps once the list is read. -/
structure BKDa (w : World) (N base : Nat) (xs : List Da) (A2 : Option Addr) (c2 : Nat) (B : Nat) (Ab : Option Addr) (y : List UInt8) (W : World) : Prop where
  bel : Below w.heap.size w W
  r : ∃ rows, RowDa W base (.slice A2 N c2) rows ∧ rows.map (·.1) = xs
  ly : Lies W B Ab (cells (nums y))
  o : B ≤ W.heap.size
theorem BKDa.grown {w W W' : World} {N base B c2 q : Nat} {xs : List Da} {A2 Ab : Option Addr} {y : List UInt8} (h : BKDa w N base xs A2 c2 B Ab y W) (hg : W.grownBy W' (some q)) (h1 : w.heap.size ≤ q) (h2 : q < base) (h3 : B ≤ q) : BKDa w N base xs A2 c2 B Ab y W' :=
  ⟨below_new h.bel hg h1, (by obtain ⟨rows, r1, r2⟩ := h.r; exact ⟨rows, r1.past hg h2, r2⟩), h.ly.grown hg h.o (fun g e => by injection e with e; omega), Nat.le_trans h.o hg.size⟩
theorem BKDa.below {w W W' : World} {N base B c2 : Nat} {xs : List Da} {A2 Ab : Option Addr} {y : List UInt8} (h : BKDa w N base xs A2 c2 B Ab y W) (hb : Below W.heap.size W W') : BKDa w N base xs A2 c2 B Ab y W' :=
  ⟨h.bel.trans (hb.mono h.bel.size), (by obtain ⟨rows, r1, r2⟩ := h.r; exact ⟨rows, r1.later hb, r2⟩), h.ly.below hb h.o, Nat.le_trans h.o hb.size⟩
set_option maxHeartbeats 8000000 in
theorem lawDaB {w : World} {A : Option Addr} {c : Nat} {l : List SlotDa} (hl : Das w A l) (ho : ∀ x ∈ l, x.1.i.Ok ∧ (x.1.i.l.length : Int) ≤ 9223372036854775807) (hT : Tabs w) (nl : (l.length : Int) ≤ 9223372036854775807) :
    Calls Tryz.prog 5 #[.slice A l.length c] w fun e w' => e = .returned (.bool true) ∧ Below w.heap.size w w' := by
  have HAW := Lib.hid (daawake_any w hT)
  have HL := Lib.hid hl
  have HTw := Lib.hid hT
  have HO := Lib.hid ho
  clear hl hT ho
  by_cases g1 : 20 < l.length
  · have t1 : decide ((20 : Int) < (l.length : Int)) = true := decide_eq_true (by omega)
    clear g1
    go_enter Tryz.func5, Tryz.ntmps5
    go_wp2_with (go_at_call 17; go_must ((with_reducible refine HAW.out.mono ?_); rintro e w1 ⟨rfl, hb⟩; have H1 := Lib.hid hb; clear hb))
    go_ret
    exact ⟨rfl, H1.out⟩
  have t1 : decide ((20 : Int) < (l.length : Int)) = false := decide_eq_false (by omega)
  have HRC := Lib.hid (fun W => rdacount_any l.length W (by omega))
  have hlb := lebL_len (l.length : Int) (by omega)
  obtain ⟨hd, hhd⟩ : ∃ hd, hd = lebL (l.length : Int) := ⟨_, rfl⟩
  rw [← hhd] at HRC hlb
  have HAL := Lib.hid (show allDa l = hd ++ dputsL l by rw [hhd]; rfl)
  obtain ⟨n, hn⟩ : ∃ n, n = l.length := ⟨_, rfl⟩
  have HN := Lib.hid hn
  have HE := Lib.hid (show l.take n = l by rw [hn, List.take_length])
  have h20 : n ≤ 20 := by omega
  rw [← hn] at t1 HRC ⊢
  clear hn hhd g1 nl
  go_enter Tryz.func5, Tryz.ntmps5
  go_wp2_with (first
    | (go_at_call 17; go_must ((with_reducible refine HAW.out.mono ?_); rintro e w1 ⟨rfl, hb⟩; have H1 := Lib.hid hb; clear hb))
    | (go_at_call 23; go_must ((with_reducible refine (HRC.out _).mono ?_); rintro e w2 ⟨rfl, hb⟩; have H2 := Lib.hid (H1.out.trans (hb.mono H1.out.size)); clear hb)))
  go_loopw [3, 4, 5] (fun code want i wr => ∃ (k : Nat) (t : List UInt8), k ≤ n ∧ i = .int .i64 k ∧ code = .int .i64 (errDa (l.take k)) ∧ want = .string (S t) ∧ t.length ≤ 10 + k * 243 ∧ (errDa (l.take k) = 0 → t = hd ++ dputsL (l.take k)) ∧ (∀ x ∈ l.take k, x.1.bs.length ≤ 200) ∧ Below w.heap.size w wr) (fun _ _ i _ => n - (intOf i).toNat)
  case atStart => exact ⟨0, hd, Nat.zero_le _, rfl, rfl, rfl, by omega, (fun _ => by simp [dputsL]), (fun x hx => by simp at hx), H2.out⟩
  case round =>
    obtain ⟨k, t, hk, rfl, rfl, rfl, htl, htb, hsm, hb⟩ := hrel
    have hz1 := hb.size
    by_cases hlt : k < n
    · obtain ⟨x, hx⟩ : ∃ x, l[k]? = some x := ⟨_, List.getElem?_eq_getElem (by rw [← HN.out]; exact hlt)⟩
      obtain ⟨b, off, rfl, hbl, m0, m1, m2, m3, m4⟩ := (HL.out.below hb).five hx
      have hxo := HO.out x (List.mem_of_getElem? hx)
      have s2 := S_size x.1.bs
      have HBA := Lib.hid (hb.alloc hz1 (.cells (hC x) 61))
      have hstep := errDa_snoc hx
      have hpsn := dputsL_snoc hx
      by_cases b0 : 200 < x.1.bs.length
      · have t4 : decide ((200 : Int) < (x.1.bs.length : Int)) = true := decide_eq_true (by omega)
        clear b0 htb hb hx hstep hpsn htl hxo hsm
        go_wp2
        go_ret
        exact ⟨rfl, HBA.out⟩
      have t4 : decide ((200 : Int) < (x.1.bs.length : Int)) = false := decide_eq_false (by omega)
      have hf100 : x.1.bs.length ≤ 200 := by omega
      have HSMN := Lib.hid (show ∀ y ∈ l.take (k + 1), y.1.bs.length ≤ 200 from fun y hy => by
        rw [takeDa_one hx] at hy
        rcases List.mem_append.1 hy with hy | hy
        · exact hsm y hy
        · rw [List.mem_singleton] at hy; subst hy; exact hf100)
      clear b0 hsm
      by_cases b2 : 100 < x.1.i.l.length
      · have t3 : decide ((100 : Int) < (x.1.i.l.length : Int)) = true := decide_eq_true (by omega)
        clear b2 htb hb hx hstep hpsn htl hxo hf100 HSMN
        go_wp2
        go_ret
        exact ⟨rfl, HBA.out⟩
      have t3 : decide ((100 : Int) < (x.1.i.l.length : Int)) = false := decide_eq_false (by omega)
      have HRR := Lib.hid (rdaright_any x.1 x.2.1 x.2.2 (wr.alloc (.cells (hC x) 61)) hxo.1 hxo.2)
      have HW := Lib.hid (Whole.made wr 61 (hC x))
      by_cases e0 : errDa (l.take k) = 0
      · rw [if_neg (by simpa using e0)] at hstep
        have ht := htb e0
        have d0 : (errDa (l.take k) == 0) = true := by simpa using e0
        obtain ⟨q, hq⟩ : ∃ q, q = errDa (l.take k) := ⟨_, rfl⟩
        rw [← hq] at d0 ⊢
        by_cases z0 : rDa x = 0
        · have HRP := Lib.hid (fun W => rdaput_any x.1 x.2.1 x.2.2 W hxo.1 z0 hf100)
          have hil := hputL_len (x := x) ⟨hxo.1, hxo.2, hf100⟩ z0
          rw [show crightZ x.1.i = 0 from z0] at HRR
          rw [z0] at hstep
          have HSTEP := Lib.hid hstep
          have HTT := Lib.hid ht
          have HPS := Lib.hid hpsn
          obtain ⟨y, hy⟩ : ∃ y, y = hputL x := ⟨_, rfl⟩
          rw [show dputL x.1 = y from hy.symm] at HRP
          rw [← hy] at hil HPS
          have st := S_size t
          have sy := S_size y
          have q1 : ¬ 9223372036854775807 < (S t).size + (S y).size := by omega
          clear b2 htb hb hx hstep hpsn e0 hq ht hy z0 st sy hxo hf100
          go_wp2_with (first
            | (go_at_call 24; go_must ((with_reducible refine HRR.out.mono ?_); rintro e w3 ⟨rfl, hb⟩; have H3 := Lib.hid (HBA.out.trans (hb.mono HBA.out.size)); obtain ⟨c0, c1, c2, c3, c4⟩ := (show Whole w3 wr.heap.size 61 (daC x.1 x.2.1 x.2.2) from HW.out.below hb).da; clear hb))
            | (go_at_call 25; go_must ((with_reducible refine (HRP.out _).mono ?_); rintro e w4 ⟨rfl, hb⟩; have H4 := Lib.hid (H3.out.trans (hb.mono H3.out.size)); clear hb)))
          go_roundw
          case rel => exact ⟨k + 1, t ++ y, by omega, by go_num, by rw [HSTEP.out], by rw [S_append], by rw [List.length_append]; omega, (fun _ => by rw [HPS.out, HTT.out, List.append_assoc]), HSMN.out, H4.out⟩
          case measure => simp [intOf]; omega
        · have HSTEP := Lib.hid hstep
          have HZN := Lib.hid z0
          have d1 : (rDa x == 0) = false := by simpa using z0
          obtain ⟨z, hz⟩ : ∃ z, z = rDa x := ⟨_, rfl⟩
          rw [show crightZ x.1.i = z from hz.symm] at HRR
          rw [← hz] at HSTEP HZN d1
          clear b2 htb hb hx hstep hpsn e0 hq ht z0 hz hxo hf100
          go_wp2_with (go_at_call 24; go_must ((with_reducible refine HRR.out.mono ?_); rintro e w3 ⟨rfl, hb⟩; have H3 := Lib.hid (HBA.out.trans (hb.mono HBA.out.size)); clear hb))
          go_roundw
          case rel => exact ⟨k + 1, t, by omega, by go_num, by rw [HSTEP.out], rfl, by omega, (fun e => absurd (HSTEP.out.symm.trans e) HZN.out), HSMN.out, H3.out⟩
          case measure => simp [intOf]; omega
      · rw [if_pos e0] at hstep
        have HSTEP := Lib.hid hstep
        have HCN := Lib.hid e0
        have d0 : (errDa (l.take k) == 0) = false := by simpa using e0
        obtain ⟨q, hq⟩ : ∃ q, q = errDa (l.take k) := ⟨_, rfl⟩
        rw [← hq] at d0 HSTEP HCN ⊢
        clear b2 htb hb hx hstep hpsn e0 hq hxo HRR hf100
        go_wp2
        go_roundw
        case rel => exact ⟨k + 1, t, by omega, by go_num, by rw [HSTEP.out], rfl, by omega, (fun e => absurd (HSTEP.out.symm.trans e) HCN.out), HSMN.out, HBA.out⟩
        case measure => simp [intOf]; omega
    · obtain rfl : k = n := by omega
      rw [HE.out] at htb hsm ⊢
      have HOk := Lib.hid (show OkDa l from fun y hy => ⟨(HO.out y hy).1, (HO.out y hy).2, hsm y hy⟩)
      clear hsm
      have HB := Lib.hid hb
      have hpa := putall_da (c := c) (HL.out.below hb) (HTw.out.below hb) HOk.out (by rw [← HN.out]; omega)
      rw [← HN.out] at hpa
      unfold PuttedAllDa at hpa
      by_cases e0 : errDa l = 0
      · have ht := (htb e0).trans HAL.out.symm
        rw [if_pos e0, e0] at hpa
        have HGA := Lib.hid (show dasR (allDa l) 0 = .ok (l.map (·.1)) (allDa l).length from dasR_at HOk.out e0 (by rw [← HN.out]; omega))
        have HNL := Lib.hid (fun g (hg : g ∈ l.map (·.1)) => show g.i.l = [] from by
          obtain ⟨x, hx, rfl⟩ := List.mem_map.1 hg
          exact cz_nil (errDa_mem e0 x hx))
        rw [e0]
        have htl2 : (allDa l).length ≤ 1000000 := by rw [← ht]; omega
        rw [ht]
        obtain ⟨y, hy⟩ : ∃ y, y = allDa l := ⟨_, rfl⟩
        rw [← hy] at hpa HGA htl2 ⊢
        have HPA := Lib.hid hpa
        clear hpa htb hb e0 ht hy htl hlt
        go_upto_region 20 with (first
          | (go_at_call 26; go_must ((with_reducible refine HPA.out.mono ?_); intro e w3 hq; obtain ⟨v, rfl, hr, hb⟩ := hq; obtain ⟨Ab, cb, rfl, hpc⟩ := hr.pc; have H3 := Lib.hid (HB.out.trans (hb.mono HB.out.size)); have HP3 := Lib.hid hpc; clear hb hr hpc))
          | (go_at_call 12; go_must ((with_reducible refine (over_any HP3.out.lies HP3.out.nil htl2).mono ?_); intro e w7 hq; obtain ⟨p, rfl, hpp, hs, hb⟩ := hq; have HS7 := Lib.hid hs; have HB37 := Lib.hid hb; have HB7 := Lib.hid (H3.out.trans (hb.mono H3.out.size)); clear hs hb)))
        have h7p := HS7.out.lt
        have h3z := H3.out.size
        have HS8 := Lib.hid (HS7.out.alloc (.cells #[.pointer (some ⟨p, 0, none⟩)] 36))
        have HPT := Lib.hid (Whole.made w7 36 #[.pointer (some ⟨p, 0, none⟩)])
        have HB8 := Lib.hid (HB7.out.trans ((below_box w7 (.cells #[.pointer (some ⟨p, 0, none⟩)] 36)).mono HB7.out.size))
        have HL8 := Lib.hid (HP3.out.lies.below (HB37.out.trans ((below_box w7 (.cells #[.pointer (some ⟨p, 0, none⟩)] 36)).mono HB37.out.size)) (Nat.le_refl _))
        have h8 : w3.heap.size ≤ (w7.alloc (.cells #[.pointer (some ⟨p, 0, none⟩)] 36)).heap.size := Nat.le_trans HB37.out.size (below_box w7 _).size
        have h87 : w7.heap.size < (w7.alloc (.cells #[.pointer (some ⟨p, 0, none⟩)] 36)).heap.size := HPT.out.lt
        clear HAW H1 H2 HB HPA H3 HP3 HB37 HB7 HS7
        generalize w7.alloc (.cells #[.pointer (some ⟨p, 0, none⟩)] 36) = W8 at *
        generalize w7.heap.size = b6 at *
        have HV := Lib.hid (valueDas_ok (T := fun v W => v.2.1 = l.length ∧ BKDa w l.length (W8.heap.size + 4) (l.map (fun x : SlotDa => x.1)) v.1 v.2.2 w3.heap.size Ab y W) (cfDa2 #[.pointer (some ⟨b6, 0, none⟩)]) (q := p) (w := W8) (by omega)
          (fun q W W' b h1 h2 h3 hg => ⟨h3.1, h3.2.grown hg (by omega) (by omega) (by omega)⟩)
          (fun W hb hsz => by
            have hS := HS8.out.below hb
            have hB := HB8.out.trans (hb.mono HB8.out.size)
            have hcl := closDa2 (HPT.out.below hb) hS (show TbP p W from ⟨w, HTw.out, by omega, hB⟩) htl2
            rw [HGA.out] at hcl
            refine hcl.mono ?_
            rintro e w' ⟨v, rows, rfl, hr, hm, hs, hg⟩
            obtain ⟨A2, c2, rfl⟩ := hr.slice
            have hrl : rows.length = l.length := by have := congrArg List.length hm; rwa [List.length_map, List.length_map] at this
            rw [hrl] at hr ⊢
            exact ⟨(A2, l.length, c2), rfl, ⟨rfl, below_new hB hg (by omega), ⟨rows, hr.mono hsz, hm⟩, (HL8.out.below hb h8).grown hg (Nat.le_trans h8 hb.size) (fun g e => by injection e with e; omega), Nat.le_trans h8 (Nat.le_trans hb.size hg.size)⟩, hg⟩))
        clear HGA HS8 HPT HL8
        go_upto_region 21 with (go_at_call 18; go_must ((with_reducible refine HV.out.mono ?_); rintro e w9 ⟨⟨A2, n2, c2⟩, rfl, ⟨hn2, hbk⟩, hg⟩; have HN2 := Lib.hid hn2; clear hn2; have HBK := Lib.hid (hbk.below (below_box w9 (.cells #[.int .i64 0, .int .i64 0] 39))); have k0 := (Whole.made w9 39 #[.int .i64 0, .int .i64 0]).cell 0; clear hbk hg))
        simp only [List.getElem?_toArray, List.getElem?_cons_zero] at k0
        have hn3 : n2 = k := HN2.out.trans HN.out.symm
        clear HN2
        subst hn3
        generalize w9.alloc (.cells #[.int .i64 0, .int .i64 0] 39) = W10 at *
        have hcv := str_any HBK.out.ly cb 9 Tryz.underlying9
        have HI := Lib.hid (HL.out.below HBK.out.bel)
        obtain ⟨rows, hrr, hrm⟩ := HBK.out.r
        have HJ := Lib.hid (show Das W10 A2 rows from hrr.das)
        have HRM := Lib.hid hrm
        have HSM := Lib.hid (fun W (g : Da) (A2 A3 : Option Addr) (c2 c3 : Nat) (h : g.i.l = []) => rsame_da (w := W) (x := g) (A := A2) (B := A3) (c := c2) (d := c3) h)
        clear hrr hrm
        clear HV HB8
        go_wp2
        clear hcv k0
        go_loopw [12] (fun i wr => ∃ j : Nat, j ≤ n2 ∧ i = .int .i64 j ∧ Below w.heap.size w wr ∧ Das wr A l ∧ Das wr A2 rows) (fun i _ => n2 - (intOf i).toNat)
        case atStart => exact ⟨0, Nat.zero_le _, rfl, HBK.out.bel, HI.out, HJ.out⟩
        case round =>
          obtain ⟨j, hj, rfl, hb, hi, hjj⟩ := hrel
          by_cases hlt : j < n2
          · obtain ⟨g, a1, a2, d1, d2, hx, hy⟩ := bothDa_at HRM.out.symm (by rw [← HN.out]; exact hlt : j < l.length)
            have hgn : g.i.l = [] := HNL.out g (List.mem_map.2 ⟨_, List.mem_of_getElem? hx, rfl⟩)
            obtain ⟨b, off, hA, _⟩ := hi.five hx
            obtain ⟨b2, off2, hA2, _⟩ := hjj.five hy
            have hS0 := twoDa_of hb hi hjj hA hA2 hx hy
            have HS0 := Lib.hid (twoDa_on hS0 hA hA2 hx hy (Below.refl _ _).drew)
            have HON := Lib.hid (fun W W' (h : TwoDa w A A2 l rows b off b2 off2 j g a1 a2 d1 d2 W) (hb : Below W.heap.size W W') => twoDa_on h hA hA2 hx hy hb)
            have HSg := Lib.hid (fun W => HSM.out W g a2 a1 d2 d1 hgn)
            subst hA; subst hA2
            clear hx hy hb hi hjj hS0 hgn
            go_upto_region 26 with fail
            refine wp_region_noPanic ?_
            refine wp_region_held_drew (S := fun W => TwoDa w (some ⟨b, off, none⟩) (some ⟨b2, off2, none⟩) l rows b off b2 off2 j g a1 a2 d1 d2 W) (by kernel_rfl) HS0.out (fun hHeld => ?_)
            (refine heldTake (i := 0) (oi := { dst := some 100, op := Op.move (Operand.tmp 10), type := 49, pos := "law.go:97", after := #[], guard := none }) (v := ?_) rfl (by kernel_rfl) (by kernel_rfl) (by kernel_rfl) (by assumption) ?_ ?_; rotate_left; focus (refine .inl ⟨by kernel_rfl, ?_⟩; intro w hSw; (try dsimp only at hSw); go_simp; (try with_reducible rfl)); (try simp only [Act.put, List.setIfInBounds_toArray, List.set_cons_zero, List.set_cons_succ]))
            (refine heldTake (i := 1) (oi := { dst := some 101, op := Op.move (Operand.tmp 12), type := 3, pos := "law.go:97", after := #[], guard := none }) (v := ?_) rfl (by kernel_rfl) (by kernel_rfl) (by kernel_rfl) (by assumption) ?_ ?_; rotate_left; focus (refine .inl ⟨by kernel_rfl, ?_⟩; intro w hSw; (try dsimp only at hSw); go_simp; (try with_reducible rfl)); (try simp only [Act.put, List.setIfInBounds_toArray, List.set_cons_zero, List.set_cons_succ]))
            (refine heldTake (i := 2) (oi := { dst := some 102, op := Op.indexAddr 49 (Operand.tmp 100) (Operand.tmp 101), type := 0, pos := "law.go:97", after := #[{ on := 0, ground := Ground.data }, { on := 1, ground := Ground.data }], guard := none }) (v := ?_) rfl (by kernel_rfl) (by kernel_rfl) (by kernel_rfl) (by assumption) ?_ ?_; rotate_left; focus (refine .inl ⟨by kernel_rfl, ?_⟩; intro w hSw; (try dsimp only at hSw); go_simp; (try with_reducible rfl)); (try simp only [Act.put, List.setIfInBounds_toArray, List.set_cons_zero, List.set_cons_succ]))
            (refine heldTake (i := 3) (oi := { dst := some 103, op := Op.load 61 (Operand.tmp 102), type := 61, pos := "law.go:97", after := #[{ on := 2, ground := Ground.data }], guard := none }) (v := ?_) rfl (by kernel_rfl) (by kernel_rfl) (by kernel_rfl) (by assumption) ?_ ?_; rotate_left; focus (refine .inl ⟨by kernel_rfl, ?_⟩; intro w hSw; (try dsimp only at hSw); go_simp; (try with_reducible rfl)); (try simp only [Act.put, List.setIfInBounds_toArray, List.set_cons_zero, List.set_cons_succ]))
            (refine heldTake (i := 4) (oi := { dst := some 104, op := Op.move (Operand.tmp 0), type := 49, pos := "law.go:97", after := #[], guard := none }) (v := ?_) rfl (by kernel_rfl) (by kernel_rfl) (by kernel_rfl) (by assumption) ?_ ?_; rotate_left; focus (refine .inl ⟨by kernel_rfl, ?_⟩; intro w hSw; (try dsimp only at hSw); go_simp; (try with_reducible rfl)); (try simp only [Act.put, List.setIfInBounds_toArray, List.set_cons_zero, List.set_cons_succ]))
            (refine heldTake (i := 5) (oi := { dst := some 105, op := Op.move (Operand.tmp 12), type := 3, pos := "law.go:97", after := #[], guard := none }) (v := ?_) rfl (by kernel_rfl) (by kernel_rfl) (by kernel_rfl) (by assumption) ?_ ?_; rotate_left; focus (refine .inl ⟨by kernel_rfl, ?_⟩; intro w hSw; (try dsimp only at hSw); go_simp; (try with_reducible rfl)); (try simp only [Act.put, List.setIfInBounds_toArray, List.set_cons_zero, List.set_cons_succ]))
            (refine heldTake (i := 6) (oi := { dst := some 106, op := Op.indexAddr 49 (Operand.tmp 104) (Operand.tmp 105), type := 0, pos := "law.go:97", after := #[{ on := 4, ground := Ground.data }, { on := 5, ground := Ground.data }], guard := none }) (v := ?_) rfl (by kernel_rfl) (by kernel_rfl) (by kernel_rfl) (by assumption) ?_ ?_; rotate_left; focus (refine .inl ⟨by kernel_rfl, ?_⟩; intro w hSw; (try dsimp only at hSw); go_simp; (try with_reducible rfl)); (try simp only [Act.put, List.setIfInBounds_toArray, List.set_cons_zero, List.set_cons_succ]))
            (refine heldTake (i := 7) (oi := { dst := some 107, op := Op.load 61 (Operand.tmp 106), type := 61, pos := "law.go:97", after := #[{ on := 6, ground := Ground.data }], guard := none }) (v := ?_) rfl (by kernel_rfl) (by kernel_rfl) (by kernel_rfl) (by assumption) ?_ ?_; rotate_left; focus (refine .inl ⟨by kernel_rfl, ?_⟩; intro w hSw; (try dsimp only at hSw); go_simp; (try with_reducible rfl)); (try simp only [Act.put, List.setIfInBounds_toArray, List.set_cons_zero, List.set_cons_succ]))
            refine wpAnyH_ready (rs := [8]) (by kernel_rfl) (by simp) ?_
            refine AllReadyH.cons (o := { dst := some 108, op := Op.call { callee := Callee.value (Operand.func 22), args := #[Operand.tmp 103, Operand.tmp 107], argTypes := #[61, 61] }, type := 4, pos := "law.go:97", after := #[{ on := 3, ground := Ground.data }, { on := 7, ground := Ground.data }], guard := none }) rfl (fun K hK => ?_) AllReadyH.nil
            go_simp
            (go_at_call 22; (with_reducible refine (HSg.out _).mono ?_); rintro e w11 ⟨rfl, hb⟩; have hk11 := HON.out _ _ hHeld hb; clear hb)
            refine hK.out _ _ hk11 (fun hHeld8 => ?_)
            clear hK K hHeld
            (try simp only [Act.put, List.setIfInBounds_toArray, List.set_cons_zero, List.set_cons_succ])
            (refine heldTake (i := 9) (oi := { dst := some 109, op := Op.unOp UnOp.not 4 (Operand.tmp 108), type := 4, pos := "law.go:97", after := #[{ on := 8, ground := Ground.data }], guard := none }) (v := ?_) rfl (by kernel_rfl) (by kernel_rfl) (by kernel_rfl) (by assumption) ?_ ?_; rotate_left; focus (refine .inl ⟨by kernel_rfl, ?_⟩; intro w hSw; (try dsimp only at hSw); go_simp; (try with_reducible rfl)); (try simp only [Act.put, List.setIfInBounds_toArray, List.set_cons_zero, List.set_cons_succ]))
            refine wpAnyH_done (by kernel_rfl) ?_ _
            refine NoPanic.normal ?_
            have hLast := hHeld8
            clear hHeld8
            obtain ⟨⟨hb3, hi3, hj3⟩, _⟩ := hLast
            have HB3 := Lib.hid hb3
            have HI3 := Lib.hid hi3
            have HJ3 := Lib.hid hj3
            clear hb3 hi3 hj3
            go_wp2
            go_roundw
            case rel => exact ⟨j + 1, by omega, by go_num, HB3.out, HI3.out, HJ3.out⟩
            case measure => simp [intOf]; omega
          · obtain rfl : j = n2 := by omega
            have HB3 := Lib.hid hb
            clear hb hi hjj
            go_wp2
            go_ret
            exact ⟨rfl, HB3.out⟩
      · rw [if_neg e0] at hpa
        have d0 : (errDa l != 0) = true := zb_of (by simpa using e0)
        obtain ⟨z, hz⟩ : ∃ z, z = errDa l := ⟨_, rfl⟩
        rw [← hz] at hpa d0 ⊢
        have HPA := Lib.hid hpa
        clear hpa htb hb e0 hz hlt
        go_wp2_with (go_at_call 26; go_must ((with_reducible refine HPA.out.mono ?_); intro e w3 hq; obtain ⟨v, rfl, hr, hb⟩ := hq; obtain ⟨Ab, cb, rfl, _⟩ := hr.pc; have H3 := Lib.hid (HB.out.trans (hb.mono HB.out.size)); clear hb hr))
        go_ret
        exact ⟨rfl, H3.out⟩
end Go.Proofs.YtebgmfjgapmpfabGreatDoor

/- A data segment by value and a slice of segments, opened. -/
namespace Go.Proofs.YtebgmfjgapmpfabGreatDoor
open Go.ChangeShapes Go.WideShapes Go.ChangeAt Go.RowKit Go.Joins Go.Deep
set_option linter.unusedVariables false
set_option maxRecDepth 100000

theorem cellsData : Tryz.prog.cellsOf 61 = 5 := by kernel_rfl
/-- Its numbers are what their kinds hold. -/
def OkH (x : SlotDa) : Prop := x.1.i.Ok ∧ (x.1.i.l.length : Int) ≤ 9223372036854775807
section
variable {H : Type} {enc : TypeId × Value → H} {W : World} {sp : Nat → Bool}
/-- The four cells of an instruction. -/
theorem open_fourD {n : Nat} {c0 c1 c2 c3 : Value} {x : DataW H × List MemPlace} (h : DataW.trod enc Tryz.prog W 0 sp true n 59 [c0, c1, c2, c3] = some x) :
    ∃ (i : I) (B : Option Addr) (c : Nat), c0 = .int .u8 i.op.toNat ∧ c1 = .int .u64 i.a ∧ c2 = .int .u64 i.b ∧ c3 = .slice B i.l.length c ∧ i.Ok ∧ (i.l.length : Int) ≤ 9223372036854775807 := by
  obtain ⟨ys, m, _, hy, hlen, hyl, hf⟩ := DataW.trod_struct Tryz.underlying59 h
  match ys, hyl with
  | [y0, y1, y2, y3], _ =>
    have e1 : Tryz.prog.cellsOf 5 = 1 := by kernel_rfl
    have e2 : Tryz.prog.cellsOf 56 = 1 := by kernel_rfl
    have e3 : Tryz.prog.cellsOf 57 = 1 := by kernel_rfl
    have h0 : DataW.trod enc Tryz.prog W 0 sp true m 5 (([c0, c1, c2, c3].drop 0).take (Tryz.prog.cellsOf 5)) = some y0 := hf 0 _ rfl
    have h1 : DataW.trod enc Tryz.prog W 0 sp true m 56 (([c0, c1, c2, c3].drop 1).take (Tryz.prog.cellsOf 56)) = some y1 := hf 1 _ rfl
    have h2 : DataW.trod enc Tryz.prog W 0 sp true m 56 (([c0, c1, c2, c3].drop 2).take (Tryz.prog.cellsOf 56)) = some y2 := hf 2 _ rfl
    have h3 : DataW.trod enc Tryz.prog W 0 sp true m 57 (([c0, c1, c2, c3].drop 3).take (Tryz.prog.cellsOf 57)) = some y3 := hf 3 _ rfl
    rw [e1] at h0
    rw [e2] at h1 h2
    rw [e3] at h3
    obtain ⟨i, B, c, rfl, rfl, rfl, rfl, ho, _, hn⟩ := open_parts h0 h1 h2 h3
    exact ⟨i, B, c, rfl, rfl, rfl, rfl, ho, hn⟩
/-- Five cells of a segment. -/
theorem open_fived {n : Nat} {cs : List Value} {x : DataW H × List MemPlace} (h : DataW.trod enc Tryz.prog W 0 sp true n 61 cs = some x) (hc : cs.length = 5) : ∃ s : SlotDa, cs = hL9 s ∧ OkH s := by
  obtain ⟨ys, m, _, hy, hlen, hyl, hf⟩ := DataW.trod_struct Tryz.underlying61 h
  match cs, hc with
  | [c0, c1, c2, c3, c4], _ =>
    match ys, hyl with
    | [y0, y1], _ =>
      have e1 : Tryz.prog.cellsOf 59 = 4 := by kernel_rfl
      have e2 : Tryz.prog.cellsOf 9 = 1 := by kernel_rfl
      have h0 : DataW.trod enc Tryz.prog W 0 sp true m 59 (([c0, c1, c2, c3, c4].drop 0).take (Tryz.prog.cellsOf 59)) = some y0 := hf 0 _ rfl
      have h1 : DataW.trod enc Tryz.prog W 0 sp true m 9 (([c0, c1, c2, c3, c4].drop 4).take (Tryz.prog.cellsOf 9)) = some y1 := hf 1 _ rfl
      rw [e1] at h0
      rw [e2] at h1
      obtain ⟨i, B, c, r0, r1, r2, r3, ho, hn⟩ := open_fourD h0
      obtain ⟨s0, q0, _, ws0⟩ := DataW.trod_string Tryz.underlying9 h1
      have r4 : c4 = .string s0 := by simpa using q0
      exact ⟨(⟨i, s0.data.toList⟩, B, c), by unfold hL9 hC daC; rw [S_of, r0, r1, r2, r3, r4], ho, hn⟩
theorem open_dseg {b0 : Nat} {r : Reach} {v : Value} {d : DataW H} {p : List MemPlace} (hv : Value.okWide Tryz.prog W r b0 61 v) (h : DataW.Trod enc Tryz.prog W 0 sp true 61 v d p) :
    ∃ x : SlotDa, v = hV x ∧ x.1.i.Ok ∧ (x.1.i.l.length : Int) ≤ 9223372036854775807 := by
  obtain ⟨cs, rfl, hsz⟩ := okWide_struct Tryz.underlying61 hv
  rw [cellsData] at hsz
  obtain ⟨fuel, hf⟩ := h
  obtain ⟨i, hi, h1, h2⟩ := open_fived (cs := cs.toList) (by simpa [Value.cells] using hf) (by simpa using hsz)
  exact ⟨i, by show Value.agg cs = .agg (hC i); congr 1; apply Array.toList_inj.1; exact hi, h1, h2⟩
theorem open_dlist {A : Option Addr} {len cap : Nat} {d : DataW H} {p : List MemPlace} (h : DataW.Trod enc Tryz.prog W 0 sp true 49 (.slice A len cap) d p) :
    ∃ l : List SlotDa, l.length = len ∧ Das W A l ∧ (l.length : Int) ≤ 9223372036854775807 ∧ ∀ x ∈ l, OkH x := by
  obtain ⟨fuel, hf⟩ := h
  rcases open_slice Tryz.underlying49 hf with ⟨hcs, _⟩ | ⟨a, ln, cp, m, n, D, Pl, hcs, hb, hl, hm, hmm, hx, hi⟩
  · simp [Value.cells] at hcs
    obtain ⟨rfl, rfl, rfl⟩ := hcs
    exact ⟨[], rfl, (fun j i hi => by cases hi), by simp, fun x hx => by cases hx⟩
  · simp [Value.cells] at hcs
    obtain ⟨rfl, rfl, rfl⟩ := hcs
    have hlm : len ≤ m := by rw [hmm]; split <;> omega
    have each : ∀ j, j < len → ∃ i : SlotDa, (∀ u, u < 5 → W.cell? ((a.add (j * 5)).add u) = (hL9 i)[u]?) ∧ OkH i := by
      intro j hj
      obtain ⟨cs', hc, ht'⟩ := hi j (by omega)
      rw [cellsData] at hc
      obtain ⟨_, hcl, hat⟩ := World.cells?_some hc
      obtain ⟨i, rfl, hw⟩ := open_fived ht' hcl
      exact ⟨i, fun u hu => hat u (by omega), hw⟩
    have pick : ∀ k, k ≤ len → ∃ l : List SlotDa, l.length = k ∧ (∀ (j : Nat) (i : SlotDa), l[j]? = some i → ∀ u, u < 5 → W.cell? ((a.add (j * 5)).add u) = (hL9 i)[u]?) ∧ ∀ x ∈ l, OkH x := by
      intro k
      induction k with
      | zero => intro _; exact ⟨[], rfl, (fun j i hi => by cases hi), fun x hx => by cases hx⟩
      | succ k ih =>
        intro hk
        obtain ⟨l, hl1, hl2, hl3⟩ := ih (by omega)
        obtain ⟨i, hq, hw⟩ := each k (by omega)
        refine ⟨l ++ [i], by simp [hl1], fun j i' hi' => ?_, fun x hx => (List.mem_append.1 hx).elim (hl3 x) (fun h => by rw [List.mem_singleton] at h; subst h; exact hw)⟩
        rcases Nat.lt_or_ge j k with g | g
        · rw [List.getElem?_append_left (by omega)] at hi'
          exact hl2 j i' hi'
        · have hj : j < (l ++ [i]).length := (List.getElem?_eq_some_iff.1 hi').1
          rw [List.length_append, List.length_singleton] at hj
          obtain rfl : j = k := by omega
          rw [List.getElem?_append_right (by omega), hl1, Nat.sub_self] at hi'
          injection hi' with hi'
          subst hi'
          exact hq
    obtain ⟨l, hl1, hl2, hl3⟩ := pick len (Nat.le_refl _)
    unfold maxLen at hm
    refine ⟨l, hl1, fun j i hij => ?_, by omega, hl3⟩
    have q := hl2 j i hij
    have hj0 := (List.getElem?_eq_some_iff.1 hij).1
    have q00 : W.cell? ((a.add (0 * 5)).add 0) = some (.int .u8 (l[0]'(by omega)).1.i.op.toNat) := hl2 0 _ (List.getElem?_eq_getElem (by omega : 0 < l.length)) 0 (by omega)
    obtain ⟨b, off, spot⟩ := a
    have hsp : spot = none := by simpa [Addr.add] using World.cell?_spot q00
    subst hsp
    have q2 : ∀ u, u < 5 → W.cell? ⟨b, off + j * 5 + u, none⟩ = (hL9 i)[u]? := fun u hu => by
      have := q u hu
      rw [Go.WideShapes.add_plain, Go.WideShapes.add_plain] at this
      exact this
    have q0 : W.cell? ⟨b, off + j * 5 + 0, none⟩ = some (.int .u8 i.1.i.op.toNat) := q2 0 (by omega)
    exact ⟨b, off, rfl, block_lt_of_cell q0, q2⟩
end
end Go.Proofs.YtebgmfjgapmpfabGreatDoor
