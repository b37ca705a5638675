/- What the rows list of the tables of package ops, as the walks want it; a world that holds them. -/
import Derived.Test.YtebgmfjgapmpfabDoorQi05
import Derived.Test.YtebgmfjgapmpfabDoorTie
import Derived.Lib.LaidIn
import Derived.Lib.LaidU8
import Derived.LaidMore
import Derived.MakeChecks
import Derived.Stop.Joined
import Derived.OpenShut
import Derived.Test.YtebgmfjgapmpfabDoorQi11
import Derived.ProofKit
import Derived.ShutString
import Derived.ChangeOld
import Derived.Deep.Slices
import Derived.Lib.SmallJoins
import Derived.Test.YtebgmfjgapmpfabDoorQi12
import Derived.ChangeSame
import Derived.Deep.Fields
import Derived.Test.YtebgmfjgapmpfabDoorQi10
import Derived.Test.YtebgmfjgapmpfabDoorShelf
import Derived.Lib.SlBuf
import Derived.Lib.MakeNoZero
import Derived.Deep.RegionLaw
import Derived.Deep.DeepMust
import Derived.Test.YtebgmfjgapmpfabDoorQi07
namespace Go.Proofs.YtebgmfjgapmpfabDoor
set_option linter.unusedVariables false
open Go.Shelf Go.Lib

theorem laidOut : laidOutB Tryd.prog = true := by kernel_rfl
theorem own : ownKnob Tryd.prog.godebug = none := by kernel_rfl
/-- What the rows list. -/
def listed : List (String × DataW Unit) := [("creel/ops.controlNames", Rows.laid_creel_ops_controlNames), ("creel/ops.memoryNames", Rows.laid_creel_ops_memoryNames), ("creel/ops.testNames", Rows.laid_creel_ops_testNames), ("creel/ops.numberNames", Rows.laid_creel_ops_numberNames), ("creel/ops.convertNames", Rows.laid_creel_ops_convertNames), ("creel/ops.accesses", Rows.laid_creel_ops_accesses)]
theorem listed_plain (W : World) : laidMetH Tryd.prog listed W = laidMet Tryd.prog listed W := Go.MakeChecks.laidMetH_plain _ _ _ (by kernel_rfl)

theorem cInt : Tryd.prog.cellsOf 3 = 1 := by kernel_rfl
theorem cBool : Tryd.prog.cellsOf 4 = 1 := by kernel_rfl
theorem cByte : Tryd.prog.cellsOf 5 = 1 := by kernel_rfl
theorem cStr : Tryd.prog.cellsOf 9 = 1 := by kernel_rfl
theorem cAcc : Tryd.prog.cellsOf 155 = 4 := by kernel_rfl

/-- A list cut into pieces of n. -/
theorem pieces {α : Type} (n : Nat) (g : α → List Value) : ∀ (l : List α) (L : List Value), L.length = l.length * n → (∀ k a, l[k]? = some a → (L.drop (k * n)).take n = g a) → L = l.flatMap g
  | [], L, hl, _ => List.eq_nil_of_length_eq_zero (by simpa using hl)
  | x :: r, L, hl, h => by
    have h0 := h 0 x rfl
    rw [Nat.zero_mul, List.drop_zero] at h0
    have hr := pieces n g r (L.drop n) (by rw [List.length_drop, hl, List.length_cons, Nat.add_mul]; omega) (fun k a hk => by
      have := h (k + 1) a hk
      rw [List.drop_drop, ← this]
      congr 2
      rw [Nat.add_mul]
      omega)
    rw [List.flatMap_cons, ← hr, ← h0, List.take_append_drop]

theorem map_flat {α : Type} (f : α → Value) : ∀ l : List α, l.map f = l.flatMap fun a => [f a]
  | [] => rfl
  | x :: r => by rw [List.map_cons, List.flatMap_cons, map_flat f r]; rfl
section
variable {H : Type} {enc : TypeId × Value → H} {w : World} {base : Nat} {sp : Nat → Bool} {held : Bool} {fuel : Nat}
theorem strs_of {t : TypeId} {n : Nat} {cs : Array Value} {l : List (List UInt8)} {p : List MemPlace} (ht : Tryd.prog.underlying t = some (.array n 9)) (hc : Tryd.prog.cellsOf t = n) (hn : l.length = n)
    (h : DataW.trod enc Tryd.prog w base sp held fuel t cs.toList = some (.agg (l.map fun s => .lit (.string s)), p)) : cs = strs l := by
  obtain ⟨_, _, _, _, hl, _, _⟩ := DataW.trod_array ht h
  apply Array.toList_inj.1
  have e : (strs l).toList = l.flatMap fun s => [.string (S s)] := by
    show l.map _ = _
    exact map_flat _ l
  rw [e]
  refine pieces 1 _ l cs.toList (by omega) (fun k a hk => ?_)
  obtain ⟨hk', rfl⟩ := List.getElem?_eq_some_iff.1 hk
  obtain ⟨f, d, q, h1, h2⟩ := array_elem ht h k (by omega)
  rw [cStr] at h2
  obtain ⟨s, hs, he, _⟩ := DataW.trod_string Tryd.underlying9 h2
  rw [hs]
  rw [List.getElem?_map, hk] at h1
  simp only [Option.map_some, Option.some.injEq] at h1
  rw [Prod.mk.injEq] at he
  rw [← h1] at he
  have e2 : l[k] = s.data.toList := by simpa using he.1
  rw [e2, S_of]
set_option maxRecDepth 100000 in
/-- A part of the table of accesses. -/
theorem quad_of {cs : List Value} {a : AccR} {p : List MemPlace}
    (h : DataW.trod enc Tryd.prog w base sp held fuel 155 cs = some (.agg [.lit (.int .i64 a.n), .lit (.int .u8 a.t), .lit (.bool a.wr), .lit (.bool a.sg)], p)) : cs = [.int .i64 a.n, .int .u8 a.t, .bool a.wr, .bool a.sg] := by
  obtain ⟨xs, m, rfl, hx, hl, hxl, hall⟩ := DataW.trod_struct Tryd.underlying155 h
  rw [cAcc] at hl
  have h0 : DataW.trod enc Tryd.prog w base sp held m 3 ((cs.drop 0).take (Tryd.prog.cellsOf 3)) = xs[0]? := hall 0 _ rfl
  have h1 : DataW.trod enc Tryd.prog w base sp held m 5 ((cs.drop 1).take (Tryd.prog.cellsOf 5)) = xs[1]? := hall 1 _ rfl
  have h2 : DataW.trod enc Tryd.prog w base sp held m 4 ((cs.drop 2).take (Tryd.prog.cellsOf 4)) = xs[2]? := hall 2 _ rfl
  have h3 : DataW.trod enc Tryd.prog w base sp held m 4 ((cs.drop 3).take (Tryd.prog.cellsOf 4)) = xs[3]? := hall 3 _ rfl
  rw [cInt] at h0
  rw [cByte] at h1
  rw [cBool] at h2 h3
  match xs, hxl, cs, hl with
  | [x0, x1, x2, x3], _, [u0, u1, u2, u3], _ =>
    simp only [List.map_cons, List.map_nil, Prod.mk.injEq, DataW.agg.injEq, List.cons.injEq, and_true] at hx
    obtain ⟨⟨e0, e1, e2, e3⟩, _⟩ := hx
    simp only [List.drop_zero, List.drop_succ_cons, List.getElem?_cons_zero, List.getElem?_cons_succ, List.take_succ_cons, List.take_zero] at h0 h1 h2 h3
    obtain ⟨z0, y0, rfl, _⟩ := DataW.trod_int Tryd.underlying3 h0
    obtain ⟨z1, y1, rfl, _⟩ := DataW.trod_int Tryd.underlying5 h1
    obtain ⟨z2, y2, rfl⟩ := DataW.trod_bool Tryd.underlying4 h2
    obtain ⟨z3, y3, rfl⟩ := DataW.trod_bool Tryd.underlying4 h3
    have e0' : (a.n : Int) = z0 := by simpa using e0
    have e1' : (a.t : Int) = z1 := by simpa using e1
    have e2' : a.wr = z2 := by simpa using e2
    have e3' : a.sg = z3 := by simpa using e3
    rw [e0', e1', e2', e3']
    have y0' : u0 = .int .i64 z0 := by simpa using y0
    have y1' : u1 = .int .u8 z1 := by simpa using y1
    have y2' : u2 = .bool z2 := by simpa using y2
    have y3' : u3 = .bool z3 := by simpa using y3
    rw [y0', y1', y2', y3']
theorem acc_of {t : TypeId} {n : Nat} {cs : Array Value} {l : List AccR} {p : List MemPlace} (ht : Tryd.prog.underlying t = some (.array n 155)) (hc : Tryd.prog.cellsOf t = n * 4) (hn : l.length = n)
    (h : DataW.trod enc Tryd.prog w base sp held fuel t cs.toList = some (.agg (l.map fun a => .agg [.lit (.int .i64 a.n), .lit (.int .u8 a.t), .lit (.bool a.wr), .lit (.bool a.sg)]), p)) : cs = accCells l := by
  obtain ⟨_, _, _, _, hl, _, _⟩ := DataW.trod_array ht h
  apply Array.toList_inj.1
  show cs.toList = l.flatMap _
  refine pieces 4 _ l cs.toList (by omega) (fun k a hk => ?_)
  obtain ⟨hk', rfl⟩ := List.getElem?_eq_some_iff.1 hk
  obtain ⟨f, d, q, h1, h2⟩ := array_elem ht h k (by omega)
  rw [cAcc] at h2
  rw [List.getElem?_map, hk] at h1
  simp only [Option.map_some, Option.some.injEq] at h1
  subst h1
  exact quad_of h2
end
theorem heap_of {W : World} {x : String} {g : Nat} {cs : Array Value} (hg : Tryd.prog.globalNamed x = some g) (hv : W.var? Tryd.prog x = some cs) : ∃ t fr, W.heap[g]? = some (.cells cs t fr) := by
  simp only [World.var?, hg, Option.bind_some] at hv
  split at hv
  · rename_i c t fr hb
    cases hv
    exact ⟨t, fr, hb⟩
  · cases hv
theorem n0 : Tryd.prog.globalNamed "creel/ops.controlNames" = some 1 := by kernel_rfl
theorem y0 : (Tryd.prog.globals[1]?).map (·.type) = some 148 := by kernel_rfl
theorem d0 : (Rows.laid_creel_ops_controlNames : DataW Unit) = .agg (tab0.map fun s => .lit (.string s)) := by kernel_rfl
theorem t0 {W : World} (h : laidMet Tryd.prog listed W) : ∃ t fr, W.heap[1]? = some (.cells (strs tab0) t fr) := by
  obtain ⟨g, t, cs, fuel, p, hg, hty, hvar, hd⟩ := Lib.laidMet.reads h (show ("creel/ops.controlNames", Rows.laid_creel_ops_controlNames) ∈ listed from .head _)
  obtain rfl := Option.some.inj (n0.symm.trans hg)
  obtain rfl := Option.some.inj (y0.symm.trans hty)
  rw [d0] at hd
  obtain rfl := strs_of Tryd.underlying148 (by kernel_rfl) (by kernel_rfl) hd
  exact heap_of n0 hvar
theorem n1 : Tryd.prog.globalNamed "creel/ops.memoryNames" = some 2 := by kernel_rfl
theorem y1 : (Tryd.prog.globals[2]?).map (·.type) = some 149 := by kernel_rfl
theorem d1 : (Rows.laid_creel_ops_memoryNames : DataW Unit) = .agg (tab1.map fun s => .lit (.string s)) := by kernel_rfl
theorem t1 {W : World} (h : laidMet Tryd.prog listed W) : ∃ t fr, W.heap[2]? = some (.cells (strs tab1) t fr) := by
  obtain ⟨g, t, cs, fuel, p, hg, hty, hvar, hd⟩ := Lib.laidMet.reads h (show ("creel/ops.memoryNames", Rows.laid_creel_ops_memoryNames) ∈ listed from .tail _ (.head _))
  obtain rfl := Option.some.inj (n1.symm.trans hg)
  obtain rfl := Option.some.inj (y1.symm.trans hty)
  rw [d1] at hd
  obtain rfl := strs_of Tryd.underlying149 (by kernel_rfl) (by kernel_rfl) hd
  exact heap_of n1 hvar
theorem n2 : Tryd.prog.globalNamed "creel/ops.testNames" = some 3 := by kernel_rfl
theorem y2 : (Tryd.prog.globals[3]?).map (·.type) = some 150 := by kernel_rfl
theorem d2 : (Rows.laid_creel_ops_testNames : DataW Unit) = .agg (tab2.map fun s => .lit (.string s)) := by kernel_rfl
theorem t2 {W : World} (h : laidMet Tryd.prog listed W) : ∃ t fr, W.heap[3]? = some (.cells (strs tab2) t fr) := by
  obtain ⟨g, t, cs, fuel, p, hg, hty, hvar, hd⟩ := Lib.laidMet.reads h (show ("creel/ops.testNames", Rows.laid_creel_ops_testNames) ∈ listed from .tail _ (.tail _ (.head _)))
  obtain rfl := Option.some.inj (n2.symm.trans hg)
  obtain rfl := Option.some.inj (y2.symm.trans hty)
  rw [d2] at hd
  obtain rfl := strs_of Tryd.underlying150 (by kernel_rfl) (by kernel_rfl) hd
  exact heap_of n2 hvar
theorem n3 : Tryd.prog.globalNamed "creel/ops.numberNames" = some 4 := by kernel_rfl
theorem y3 : (Tryd.prog.globals[4]?).map (·.type) = some 151 := by kernel_rfl
theorem d3 : (Rows.laid_creel_ops_numberNames : DataW Unit) = .agg (tab3.map fun s => .lit (.string s)) := by kernel_rfl
theorem t3 {W : World} (h : laidMet Tryd.prog listed W) : ∃ t fr, W.heap[4]? = some (.cells (strs tab3) t fr) := by
  obtain ⟨g, t, cs, fuel, p, hg, hty, hvar, hd⟩ := Lib.laidMet.reads h (show ("creel/ops.numberNames", Rows.laid_creel_ops_numberNames) ∈ listed from .tail _ (.tail _ (.tail _ (.head _))))
  obtain rfl := Option.some.inj (n3.symm.trans hg)
  obtain rfl := Option.some.inj (y3.symm.trans hty)
  rw [d3] at hd
  obtain rfl := strs_of Tryd.underlying151 (by kernel_rfl) (by kernel_rfl) hd
  exact heap_of n3 hvar
theorem n4 : Tryd.prog.globalNamed "creel/ops.convertNames" = some 5 := by kernel_rfl
theorem y4 : (Tryd.prog.globals[5]?).map (·.type) = some 152 := by kernel_rfl
theorem d4 : (Rows.laid_creel_ops_convertNames : DataW Unit) = .agg (tab4.map fun s => .lit (.string s)) := by kernel_rfl
theorem t4 {W : World} (h : laidMet Tryd.prog listed W) : ∃ t fr, W.heap[5]? = some (.cells (strs tab4) t fr) := by
  obtain ⟨g, t, cs, fuel, p, hg, hty, hvar, hd⟩ := Lib.laidMet.reads h (show ("creel/ops.convertNames", Rows.laid_creel_ops_convertNames) ∈ listed from .tail _ (.tail _ (.tail _ (.tail _ (.head _)))))
  obtain rfl := Option.some.inj (n4.symm.trans hg)
  obtain rfl := Option.some.inj (y4.symm.trans hty)
  rw [d4] at hd
  obtain rfl := strs_of Tryd.underlying152 (by kernel_rfl) (by kernel_rfl) hd
  exact heap_of n4 hvar
theorem n5 : Tryd.prog.globalNamed "creel/ops.accesses" = some 6 := by kernel_rfl
theorem y5 : (Tryd.prog.globals[6]?).map (·.type) = some 167 := by kernel_rfl
theorem d5 : (Rows.laid_creel_ops_accesses : DataW Unit) = .agg (tabA.map fun a => .agg [.lit (.int .i64 a.n), .lit (.int .u8 a.t), .lit (.bool a.wr), .lit (.bool a.sg)]) := by kernel_rfl
theorem t5 {W : World} (h : laidMet Tryd.prog listed W) : ∃ t fr, W.heap[6]? = some (.cells (accCells tabA) t fr) := by
  obtain ⟨g, t, cs, fuel, p, hg, hty, hvar, hd⟩ := Lib.laidMet.reads h (show ("creel/ops.accesses", Rows.laid_creel_ops_accesses) ∈ listed from .tail _ (.tail _ (.tail _ (.tail _ (.tail _ (.head _))))))
  obtain rfl := Option.some.inj (n5.symm.trans hg)
  obtain rfl := Option.some.inj (y5.symm.trans hty)
  rw [d5] at hd
  obtain rfl := acc_of Tryd.underlying167 (by kernel_rfl) (by kernel_rfl) hd
  exact heap_of n5 hvar
theorem tabs_of {W : World} (h : laidMetH Tryd.prog listed W) : Tabs W := by
  rw [listed_plain] at h
  exact ⟨t0 h, t1 h, t2 h, t3 h, t4 h, t5 h⟩

/-- The settled world, the tables laid. -/
noncomputable def laidWorld (os : Os) : World :=
  let w0 := World.holding Tryd.prog os ⟨#[], #[], []⟩
  let put (h : Array Obj) (g : Nat) (cs : Array Value) : Array Obj := h.modify g fun
    | .cells _ t frozen => .cells cs t frozen
    | o => o
  let h0 := put w0.heap 1 (strs tab0)
  let h1 := put h0 2 (strs tab1)
  let h2 := put h1 3 (strs tab2)
  let h3 := put h2 4 (strs tab3)
  let h4 := put h3 5 (strs tab4)
  { w0 with heap := put h4 6 (accCells tabA) }
theorem laidWorld_met (os : Os) (args : Array Value) : laidMetH Tryd.prog listed ((laidWorld os).forCall (fun _ _ => 0) ⟨#[], args, []⟩).memory := by
  rw [listed_plain]
  exact (LaidIn.of_run (l := listed) [1, 2, 3, 4, 5, 6] 8 (by kernel_rfl) (by kernel_rfl) (by kernel_rfl) (by kernel_rfl)).met
end Go.Proofs.YtebgmfjgapmpfabDoor

/- An instruction by value, its labels, a slice of bytes: opened. -/
namespace Go.Proofs.YtebgmfjgapmpfabDoor
open Go.ChangeShapes Go.WideShapes Go.ChangeAt Go.RowKit Go.Joins
set_option linter.unusedVariables false
set_option maxRecDepth 100000

theorem cellsB : Tryd.prog.cellsOf 5 = 1 := by kernel_rfl
theorem cells4 : Tryd.prog.cellsOf 61 = 1 := by kernel_rfl
section
variable {H : Type} {enc : TypeId × Value → H} {W : World} {sp : Nat → Bool}
theorem ints_lie {k : IntKind} {a : Addr} {len : Nat} {zs : List Int} (hle : len ≤ zs.length) (hcell : ∀ i, i < zs.length → W.cell? (a.add i) = some (.int k (zs.getD i 0))) :
    ∀ j v, ((zs.take len).map (Value.int k))[j]? = some v → ∃ b off, some a = some (⟨b, off, none⟩ : Addr) ∧ b < W.heap.size ∧ W.cell? ⟨b, off + j, none⟩ = some v := by
  intro i v hv
  have hi : i < len := by
    have := (List.getElem?_eq_some_iff.1 hv).1
    rw [List.length_map, List.length_take] at this
    omega
  obtain ⟨b, off, spot⟩ := a
  have hsp : spot = none := by
    have h0 := hcell 0 (by omega)
    simpa [Addr.add] using World.cell?_spot h0
  subst hsp
  have hc := hcell i (by omega)
  rw [Go.WideShapes.add_plain] at hc
  refine ⟨b, off, rfl, block_lt_of_cell hc, ?_⟩
  rw [hc, ← hv, List.getElem?_map, List.getElem?_take, if_pos hi, List.getElem?_eq_getElem (by omega : i < zs.length)]
  simp [List.getD, List.getElem?_eq_getElem (by omega : i < zs.length)]
theorem open_labels {n : Nat} {v : Value} {y : DataW H × List MemPlace} (h : DataW.trod enc Tryd.prog W 0 sp true n 35 [v] = some y) :
    ∃ A c l, v = .slice A l.length c ∧ LiesL W A l ∧ (∀ d ∈ l, 0 ≤ d ∧ d ≤ 4294967295) ∧ (l.length : Int) ≤ 9223372036854775807 := by
  rcases open_ints Tryd.underlying35 Tryd.underlying61 cells4 h with ⟨hcs, _⟩ | ⟨a, l, c, zs, hcs, _, hl, hm, hz, _, hcell, hwf⟩
  · simp at hcs
    exact ⟨none, 0, [], hcs, fun j v hv => by simp [cells32] at hv, by simp, by simp⟩
  · simp at hcs
    subst hcs
    have hle : l ≤ zs.length := by rw [hz]; split <;> omega
    have hlen : (zs.take l).length = l := by rw [List.length_take]; omega
    unfold maxLen at hm
    refine ⟨some a, c, zs.take l, by rw [hlen], ints_lie hle hcell, fun d hd => ?_, by rw [hlen]; omega⟩
    have w0 := hwf d (List.mem_of_mem_take hd)
    simpa [Lit.wf, IntKind.min, IntKind.max, IntKind.signed, IntKind.bits] using w0
theorem nums_ex : ∀ r : List Int, (∀ c ∈ r, 0 ≤ c ∧ c ≤ 255) → ∃ l : List UInt8, nums l = r
  | [], _ => ⟨[], rfl⟩
  | c :: r, h => by
    obtain ⟨l, hl⟩ := nums_ex r (fun d hd => h d (List.mem_cons_of_mem _ hd))
    have hc := h c (by simp)
    refine ⟨UInt8.ofNat c.toNat :: l, ?_⟩
    unfold nums at hl ⊢
    rw [List.map_cons, hl, u8_of hc.1 hc.2]
theorem open_bytes {A : Option Addr} {len cap : Nat} {d : DataW H} {p : List MemPlace} (h : DataW.Trod enc Tryd.prog W 0 sp true 41 (.slice A len cap) d p) :
    ∃ l : List UInt8, l.length = len ∧ Lies W W.heap.size A (cells (nums l)) ∧ (A = none → cap = 0) ∧ (l.length : Int) ≤ 9223372036854775807 := by
  obtain ⟨fuel, hf⟩ := h
  rcases open_ints Tryd.underlying41 Tryd.underlying5 cellsB hf with ⟨hcs, _⟩ | ⟨a, l, c, zs, hcs, _, hl, hm, hz, _, hcell, hwf⟩
  · simp [Value.cells] at hcs
    obtain ⟨rfl, rfl, rfl⟩ := hcs
    exact ⟨[], rfl, Lies.nil, fun _ => rfl, by simp⟩
  · simp [Value.cells] at hcs
    obtain ⟨rfl, rfl, rfl⟩ := hcs
    have hle : len ≤ zs.length := by rw [hz]; split <;> omega
    have hlen : (zs.take len).length = len := by rw [List.length_take]; omega
    obtain ⟨bs, hbs⟩ := nums_ex (zs.take len) (fun d hd => by
      have w0 := hwf d (List.mem_of_mem_take hd)
      simpa [Lit.wf, IntKind.min, IntKind.max, IntKind.signed, IntKind.bits] using w0)
    have hbl : bs.length = len := by rw [← nums_length, hbs, hlen]
    unfold maxLen at hm
    refine ⟨bs, hbl, ?_, (fun e => by cases e), by rw [hbl]; omega⟩
    rw [hbs]
    exact ints_lie hle hcell
/-- The parts of an instruction. -/
theorem open_parts {n : Nat} {v0 v1 v2 v3 : Value} {y0 y1 y2 y3 : DataW H × List MemPlace}
    (h0 : DataW.trod enc Tryd.prog W 0 sp true n 5 [v0] = some y0) (h1 : DataW.trod enc Tryd.prog W 0 sp true n 34 [v1] = some y1) (h2 : DataW.trod enc Tryd.prog W 0 sp true n 34 [v2] = some y2) (h3 : DataW.trod enc Tryd.prog W 0 sp true n 35 [v3] = some y3) :
    ∃ (i : I) (A : Option Addr) (c : Nat), v0 = .int .u8 i.op.toNat ∧ v1 = .int .u64 i.a ∧ v2 = .int .u64 i.b ∧ v3 = .slice A i.l.length c ∧ i.Ok ∧ LiesL W A i.l ∧ (i.l.length : Int) ≤ 9223372036854775807 := by
  obtain ⟨x0, e0, _, w0⟩ := DataW.trod_int Tryd.underlying5 h0
  obtain ⟨x1, e1, _, w1⟩ := DataW.trod_int Tryd.underlying34 h1
  obtain ⟨x2, e2, _, w2⟩ := DataW.trod_int Tryd.underlying34 h2
  obtain ⟨A, c, l, e3, hl, hn, hm⟩ := open_labels h3
  simp only [List.cons.injEq, and_true] at e0 e1 e2
  have b0 : 0 ≤ x0 ∧ x0 ≤ 255 := by simpa [Lit.wf, IntKind.min, IntKind.max, IntKind.signed, IntKind.bits] using w0
  have b1 : 0 ≤ x1 ∧ x1 ≤ 18446744073709551615 := by simpa [Lit.wf, IntKind.min, IntKind.max, IntKind.signed, IntKind.bits] using w1
  have b2 : 0 ≤ x2 ∧ x2 ≤ 18446744073709551615 := by simpa [Lit.wf, IntKind.min, IntKind.max, IntKind.signed, IntKind.bits] using w2
  exact ⟨⟨UInt8.ofNat x0.toNat, x1, x2, l⟩, A, c, by rw [e0, u8_of b0.1 b0.2], e1, e2, e3, ⟨b1.1, b1.2, b2.1, b2.2, hn⟩, hl, hm⟩
theorem open_ins {b0 : Nat} {r : Reach} {v : Value} {d : DataW H} {p : List MemPlace} (hv : Value.okWide Tryd.prog W r b0 37 v) (h : DataW.Trod enc Tryd.prog W 0 sp true 37 v d p) :
    ∃ (i : I) (A : Option Addr) (c : Nat), v = insV i A c ∧ i.Ok ∧ LiesL W A i.l ∧ (i.l.length : Int) ≤ 9223372036854775807 := by
  obtain ⟨v0, v1, v2, v3, y0, y1, y2, y3, n, rfl, _, _, h0, h1, h2, h3⟩ := open_agg4 Tryd.underlying37 (by kernel_rfl) (by kernel_rfl) hv h
  obtain ⟨i, A, c, rfl, rfl, rfl, rfl, ho, hl, hn⟩ := open_parts h0 h1 h2 h3
  exact ⟨i, A, c, rfl, ho, hl, hn⟩
end
end Go.Proofs.YtebgmfjgapmpfabDoor

/- A data segment by value and a slice of segments, opened. -/
namespace Go.Proofs.YtebgmfjgapmpfabDoor
open Go.ChangeShapes Go.WideShapes Go.ChangeAt Go.RowKit Go.Joins Go.Deep
set_option linter.unusedVariables false
set_option maxRecDepth 100000

theorem cellsData : Tryd.prog.cellsOf 39 = 5 := by kernel_rfl
/-- Its numbers are what their kinds hold. -/
def OkH (x : SlotDa) : Prop := x.1.i.Ok ∧ (x.1.i.l.length : Int) ≤ 9223372036854775807
section
variable {H : Type} {enc : TypeId × Value → H} {W : World} {sp : Nat → Bool}
/-- The four cells of an instruction. -/
theorem open_fourD {n : Nat} {c0 c1 c2 c3 : Value} {x : DataW H × List MemPlace} (h : DataW.trod enc Tryd.prog W 0 sp true n 37 [c0, c1, c2, c3] = some x) :
    ∃ (i : I) (B : Option Addr) (c : Nat), c0 = .int .u8 i.op.toNat ∧ c1 = .int .u64 i.a ∧ c2 = .int .u64 i.b ∧ c3 = .slice B i.l.length c ∧ i.Ok ∧ (i.l.length : Int) ≤ 9223372036854775807 := by
  obtain ⟨ys, m, _, hy, hlen, hyl, hf⟩ := DataW.trod_struct Tryd.underlying37 h
  match ys, hyl with
  | [y0, y1, y2, y3], _ =>
    have e1 : Tryd.prog.cellsOf 5 = 1 := by kernel_rfl
    have e2 : Tryd.prog.cellsOf 34 = 1 := by kernel_rfl
    have e3 : Tryd.prog.cellsOf 35 = 1 := by kernel_rfl
    have h0 : DataW.trod enc Tryd.prog W 0 sp true m 5 (([c0, c1, c2, c3].drop 0).take (Tryd.prog.cellsOf 5)) = some y0 := hf 0 _ rfl
    have h1 : DataW.trod enc Tryd.prog W 0 sp true m 34 (([c0, c1, c2, c3].drop 1).take (Tryd.prog.cellsOf 34)) = some y1 := hf 1 _ rfl
    have h2 : DataW.trod enc Tryd.prog W 0 sp true m 34 (([c0, c1, c2, c3].drop 2).take (Tryd.prog.cellsOf 34)) = some y2 := hf 2 _ rfl
    have h3 : DataW.trod enc Tryd.prog W 0 sp true m 35 (([c0, c1, c2, c3].drop 3).take (Tryd.prog.cellsOf 35)) = some y3 := hf 3 _ rfl
    rw [e1] at h0
    rw [e2] at h1 h2
    rw [e3] at h3
    obtain ⟨i, B, c, rfl, rfl, rfl, rfl, ho, _, hn⟩ := open_parts h0 h1 h2 h3
    exact ⟨i, B, c, rfl, rfl, rfl, rfl, ho, hn⟩
/-- Five cells of a segment. -/
theorem open_fived {n : Nat} {cs : List Value} {x : DataW H × List MemPlace} (h : DataW.trod enc Tryd.prog W 0 sp true n 39 cs = some x) (hc : cs.length = 5) : ∃ s : SlotDa, cs = hL9 s ∧ OkH s := by
  obtain ⟨ys, m, _, hy, hlen, hyl, hf⟩ := DataW.trod_struct Tryd.underlying39 h
  match cs, hc with
  | [c0, c1, c2, c3, c4], _ =>
    match ys, hyl with
    | [y0, y1], _ =>
      have e1 : Tryd.prog.cellsOf 37 = 4 := by kernel_rfl
      have e2 : Tryd.prog.cellsOf 9 = 1 := by kernel_rfl
      have h0 : DataW.trod enc Tryd.prog W 0 sp true m 37 (([c0, c1, c2, c3, c4].drop 0).take (Tryd.prog.cellsOf 37)) = some y0 := hf 0 _ rfl
      have h1 : DataW.trod enc Tryd.prog W 0 sp true m 9 (([c0, c1, c2, c3, c4].drop 4).take (Tryd.prog.cellsOf 9)) = some y1 := hf 1 _ rfl
      rw [e1] at h0
      rw [e2] at h1
      obtain ⟨i, B, c, r0, r1, r2, r3, ho, hn⟩ := open_fourD h0
      obtain ⟨s0, q0, _, ws0⟩ := DataW.trod_string Tryd.underlying9 h1
      have r4 : c4 = .string s0 := by simpa using q0
      exact ⟨(⟨i, s0.data.toList⟩, B, c), by unfold hL9 hC daC; rw [S_of, r0, r1, r2, r3, r4], ho, hn⟩
theorem open_dseg {b0 : Nat} {r : Reach} {v : Value} {d : DataW H} {p : List MemPlace} (hv : Value.okWide Tryd.prog W r b0 39 v) (h : DataW.Trod enc Tryd.prog W 0 sp true 39 v d p) :
    ∃ x : SlotDa, v = hV x ∧ x.1.i.Ok ∧ (x.1.i.l.length : Int) ≤ 9223372036854775807 := by
  obtain ⟨cs, rfl, hsz⟩ := okWide_struct Tryd.underlying39 hv
  rw [cellsData] at hsz
  obtain ⟨fuel, hf⟩ := h
  obtain ⟨i, hi, h1, h2⟩ := open_fived (cs := cs.toList) (by simpa [Value.cells] using hf) (by simpa using hsz)
  exact ⟨i, by show Value.agg cs = .agg (hC i); congr 1; apply Array.toList_inj.1; exact hi, h1, h2⟩
end
end Go.Proofs.YtebgmfjgapmpfabDoor

/- bytes.Repeat of one byte. A block of bytes of the call's own, cell by cell. -/
namespace Go.Proofs.YtebgmfjgapmpfabDoor
open Go.RowKit
set_option linter.unusedVariables false
set_option maxRecDepth 100000

/-- At block g n bytes have room, none of them marked; the first of them are these. -/
structure Buff (w : World) (g n : Nat) (xs : List UInt8) : Prop where
  some' : ∀ j, j < n → ∃ v, w.cell? ⟨g, j, none⟩ = some v
  open' : ∀ j, j < n → w.frozen? ⟨g, j, none⟩ = false
  read : ∀ j v, (cells (nums xs))[j]? = some v → w.cell? ⟨g, j, none⟩ = some v
  room : xs.length ≤ n
theorem bytes_one {xs : List UInt8} : ∀ v ∈ cells (nums xs), v.oneCell' = true := fun v hv => by
  unfold cells at hv
  obtain ⟨c, _, rfl⟩ := List.mem_map.1 hv
  rfl
theorem cnl (xs : List UInt8) : (cells (nums xs)).length = xs.length := by rw [cells_length, nums_length]
theorem gb_setCells (g : Nat) : ∀ (vs : List Value) (o : Nat) {w0 w : World}, w0.grownBy w (some g) → w0.grownBy (w.setCells g o vs) (some g)
  | [], _, _, _, h => h
  | v :: r, o, _, _, h => gb_setCells g r (o + 1) (gb_put (p := ⟨g, o, none⟩) h (.inl rfl) v)
section
variable {w w' : World} {g n : Nat} {xs ys : List UInt8}
theorem Buff.drew (h : Buff w g n xs) : Buff w.drew g n xs := ⟨h.some', h.open', h.read, h.room⟩
theorem Buff.lies (h : Buff w g n xs) (hg : g < w.heap.size) : Lies w w.heap.size (some ⟨g, 0, none⟩) (cells (nums xs)) := fun i v hv => ⟨g, 0, rfl, hg, by rw [Nat.zero_add]; exact h.read i v hv⟩
theorem Buff.grown (h : Buff w g n xs) {row : Option Nat} (hg : w.grownBy w' row) (hlt : g < w.heap.size) (hr : some g ≠ row) : Buff w' g n xs := by
  have hh := hg.block g hlt hr
  have hc : ∀ j, w'.cell? ⟨g, j, none⟩ = w.cell? ⟨g, j, none⟩ := fun j => World.cell?_of_block (a := ⟨g, j, none⟩) hh
  have hf : ∀ j, w'.frozen? ⟨g, j, none⟩ = w.frozen? ⟨g, j, none⟩ := fun j => World.frozen?_of_block (a := ⟨g, j, none⟩) hh
  exact ⟨fun j hj => by rw [hc]; exact h.some' j hj, fun j hj => by rw [hf]; exact h.open' j hj, fun j v hv => by rw [hc]; exact h.read j v hv, h.room⟩
/-- Bytes are laid behind. -/
theorem Buff.more (h : Buff w g n xs) (hr : xs.length + ys.length ≤ n) : Buff (w.setCells g xs.length (cells (nums ys))) g n (xs ++ ys) := by
  have hex : ∀ j, j < (cells (nums ys)).length → (w.cell? ⟨g, xs.length + j, none⟩).isSome = true := fun j hj => by
    rw [cnl] at hj
    obtain ⟨v, hv⟩ := h.some' (xs.length + j) (by omega)
    rw [hv]; rfl
  have hin := World.cell?_setCells_in g (cells (nums ys)) xs.length w hex
  have hout := World.cell?_setCells_out g (cells (nums ys)) xs.length w
  have eapp : cells (nums (xs ++ ys)) = cells (nums xs) ++ cells (nums ys) := by rw [nums_append]; unfold cells; rw [List.map_append]
  refine ⟨fun j hj => ?_, fun j hj => by rw [World.frozen?_setCells]; exact h.open' j hj, fun j v hv => ?_, by rw [List.length_append]; exact hr⟩
  · rcases Nat.lt_or_ge j xs.length with h1 | h1
    · rw [hout ⟨g, j, none⟩ (fun _ _ => .inl h1)]; exact h.some' j hj
    · rcases Nat.lt_or_ge j (xs.length + ys.length) with h2 | h2
      · have h3 := hin (j - xs.length) (by rw [cnl]; omega)
        rw [show xs.length + (j - xs.length) = j by omega] at h3
        exact ⟨_, h3⟩
      · rw [hout ⟨g, j, none⟩ (fun _ _ => .inr (by rw [cnl]; exact h2))]; exact h.some' j hj
  · rw [eapp] at hv
    rcases Nat.lt_or_ge j xs.length with h1 | h1
    · rw [List.getElem?_append_left (by rw [cnl]; exact h1)] at hv
      rw [hout ⟨g, j, none⟩ (fun _ _ => .inl h1)]
      exact h.read j v hv
    · rw [List.getElem?_append_right (by rw [cnl]; exact h1), cnl] at hv
      obtain ⟨h2, h3⟩ := List.getElem?_eq_some_iff.1 hv
      have h4 := hin (j - xs.length) h2
      rw [show xs.length + (j - xs.length) = j by omega, h3] at h4
      exact h4
/-- copy of bytes that lie somewhere. -/
theorem Buff.copied (h : Buff w g n xs) {a : Addr} {dLen dCap sLen sCap : Nat} (hs : ∀ j v, (cells (nums ys))[j]? = some v → w.cell? (a.add j) = some v) (hr : xs.length + ys.length ≤ n) (hm : ys.length = Nat.min sLen dLen) (ty : TypeId) :
    (Builtin.copy_ #[41, 41] ty #[.slice (some ⟨g, xs.length, none⟩) dLen dCap, .slice (some a) sLen sCap]).run Tryd.prog w = .ok (goInt ys.length) (w.setCells g xs.length (cells (nums ys))) := by
  have := run_copy_cells (P := Tryd.prog) w 41 41 ty 5 g xs.length dLen dCap a sLen sCap (cells (nums ys)) Tryd.underlying41 (by kernel_rfl) (by rw [cnl]; exact hm) hs
    (fun j hj => by rw [cnl] at hj; obtain ⟨v, hv⟩ := h.some' (xs.length + j) (by omega); rw [hv]; rfl) (fun j hj => by rw [cnl] at hj; exact h.open' _ (by omega)) bytes_one
  rw [cnl] at this
  exact this
end
/-- A new block of bytes, whatever they are. -/
theorem make_call (n : Nat) (hn : n ≤ 100000) (w : World) : ∃ cs : Array Value, (callFunc 42 #[.int .i64 (n : Int)]).run Tryd.prog w = .ok (.value (.slice (some ⟨w.heap.size, 0, none⟩) n cs.size)) ((w.alloc (.cells cs 5)).drewN 2) ∧ n ≤ cs.size ∧ cs.size ≤ maxLen := by
  obtain ⟨cs, hrun, hle, hmax⟩ := Lib.run_makeNoZero (P := Tryd.prog) w #[3] 41 5 Tryd.underlying41 n (by omega)
  refine ⟨cs, ?_, hle, hmax (by unfold maxLen; omega)⟩
  rw [run_callFunc_extern Tryd.func42 (by kernel_rfl) (by kernel_rfl) (by kernel_rfl) (e := Extern.BytealgMakeNoZero.makeNoZero #[3] #[41]) (by kernel_rfl), hrun]
  rfl
theorem made_buff (w : World) (cs : Array Value) (n q : Nat) (h : n ≤ cs.size) : Buff ((w.alloc (.cells cs 5)).drewN q) w.heap.size n [] := by
  have hw : Whole ((w.alloc (.cells cs 5)).drewN q) w.heap.size 5 cs := Whole.made w 5 cs
  exact ⟨fun j hj => ⟨_, (hw.cell j).trans (Array.getElem?_eq_getElem (by omega))⟩, fun j _ => hw.frozen j, fun j v hv => by simp [cells, nums] at hv, Nat.zero_le _⟩
/-- A step of copy in a region that draws. -/
theorem step_copyB {w : World} {ops : Array Oper} {o : Oper} {a : Act} {K : Act → World → Prop} {Q : Exit → Act → World → Prop} {E : Prop} (hgd : o.guard = none) (d s : Operand) (ho : o.op = .call { callee := .builtin .copy, args := #[d, s], argTypes := #[41, 41] })
    (v u : Value) (hd : a.eval d = v) (hs : a.eval s = u) {v' : Value} {w' : World} (hr : ∀ ty, (Builtin.copy_ #[41, 41] ty #[v, u]).run Tryd.prog w = .ok v' w') (h : K (a.put o.dst v') w') :
    if Region.wanted o (yielded ops a.tmps) = true then Oper.wp Tryd.prog o a w K Q else E := by
  have hw : Region.wanted o (yielded ops a.tmps) = true := by simp [Region.wanted, hgd]
  rw [if_pos hw]
  exact Lib.wp_copy_run w d s 41 41 ho v u hd hs (hr _) h
/-- The two cuts of the block. -/
theorem cut_from (W : World) (g n k : Nat) (hk : k < n) : (Instr.slice 41 (.slice (some ⟨g, 0, none⟩) n n) (some (.int .i64 (k : Int))) none none).run Tryd.prog W = .ok (.slice (some ⟨g, k, none⟩) (n - k) (n - k)) W := by
  rw [Lib.run_slice_tailV W 41 5 Tryd.underlying41 Tryd.sizeOf5 g n k (by omega)]
  unfold Lib.tailV
  rw [if_neg (by omega)]
theorem cut_to (W : World) (g n k c : Nat) (hk : k ≤ c) (h0 : 0 < c) : (Instr.slice 41 (.slice (some ⟨g, 0, none⟩) n c) none (some (.int .i64 (k : Int))) none).run Tryd.prog W = .ok (.slice (some ⟨g, 0, none⟩) k c) W := by
  have ht : Tryd.prog.underlying 41 = some (.slice (Tryd.prog.elem 41)) := by simp [Program.elem, Tryd.underlying41]
  have he : Tryd.prog.elem 41 = 5 := by simp [Program.elem, Tryd.underlying41]
  rw [run_slice_h W 41 _ n c ht .i64 (k : Int) (by omega) (by omega), he, Tryd.sizeOf5]
  have hc : ¬ c = 0 := by omega
  simp [Result.andThen, sliced, hc, Addr.add]
theorem cut_all (W : World) (g n c : Nat) (hn : n ≤ c) (h0 : 0 < n) : (Instr.slice 41 (.slice (some ⟨g, 0, none⟩) n c) none (some (.int .i64 (n : Int))) (some (.int .i64 (n : Int)))).run Tryd.prog W = .ok (.slice (some ⟨g, 0, none⟩) n n) W := by
  have ht : Tryd.prog.underlying 41 = some (.slice (Tryd.prog.elem 41)) := by simp [Program.elem, Tryd.underlying41]
  have he : Tryd.prog.elem 41 = 5 := by simp [Program.elem, Tryd.underlying41]
  rw [run_slice_hm W 41 _ n c ht .i64 .i64 (n : Int) (n : Int) (by omega) (by omega) (by omega), he, Tryd.sizeOf5]
  have hc : ¬ n = 0 := by omega
  simp [Result.andThen, sliced, hc, Addr.add]
theorem mul_one' (n : Nat) (hn : n ≤ 100000) (W : World) : Calls Tryd.prog 41 #[.int .u64 1, .int .u64 n] W fun e w' => e = .returned (.tuple #[.int .u64 0, .int .u64 n]) ∧ W = w' := by
  refine (Tryd.bits_Mul 1 n (by omega) (by omega) W).mono ?_
  rintro e w' ⟨rfl, rfl⟩
  rw [Nat.one_mul, Nat.div_eq_of_lt (by omega), Nat.mod_eq_of_lt (by omega)]
  exact ⟨rfl, rfl⟩
set_option maxHeartbeats 4000000 in
theorem rep_any {w : World} {g0 n : Nat} {t : UInt8} (h0 : w.cell? ⟨g0, 0, none⟩ = some (.int .u8 t.toNat)) (hn : n ≤ 1000) :
    Calls Tryd.prog 22 #[.slice (some ⟨g0, 0, none⟩) 1 1, .int .i64 n] w fun e w' => ∃ g c, e = .returned (.slice (some ⟨g, 0, none⟩) n c) ∧ Pc (some ⟨g, 0, none⟩) c (List.replicate n t) w' ∧ Below w.heap.size w w' := by
  by_cases hz : n = 0
  · subst hz
    clear h0 hn
    go_enter Tryd.func22, Tryd.ntmps22
    go_wp2
    go_ret
    exact ⟨w.heap.size, 0, rfl, ⟨fun i v hv => by simp [cells, nums] at hv, fun e => by cases e⟩, below_box w _⟩
  · have d1 : ((n : Int) == 0) = false := by simp; omega
    have d2 : decide ((n : Int) < 0) = false := decide_eq_false (by omega)
    have d3 : decide ((9223372036854775807 : Int) < (n : Int)) = false := decide_eq_false (by omega)
    have d4 : decide ((8192 : Int) < (n : Int)) = false := decide_eq_false (by omega)
    have wn : IntKind.u64.wrap (n : Int) = n := by simp [IntKind.wrap, IntKind.bits, IntKind.signed]; omega
    have wi : IntKind.i64.wrap (n : Int) = n := by rw [IntKind.wrap_i64]; omega
    have HM := Lib.hid (fun W => mul_one' n (by omega) W)
    obtain ⟨cs, hcall, hcs, hcm⟩ := make_call n (by omega) w
    have hb0 := made_buff w cs n 2 hcs
    have hbel : Below w.heap.size w ((w.alloc (.cells cs 5)).drewN 2) := below_drewN (below_box w _) 2
    have hlt : w.heap.size < ((w.alloc (.cells cs 5)).drewN 2).heap.size := (show Whole ((w.alloc (.cells cs 5)).drewN 2) w.heap.size 5 cs from Whole.made w 5 cs).lt
    have hca := cut_all ((w.alloc (.cells cs 5)).drewN 2) w.heap.size n cs.size hcs (by omega)
    have hg0 : ((w.alloc (.cells cs 5)).drewN 2).cell? ⟨g0, 0, none⟩ = some (.int .u8 t.toNat) := (hbel.cell (p := ⟨g0, 0, none⟩) (block_lt_of_cell h0)).trans h0
    generalize (w.alloc (.cells cs 5)).drewN 2 = W1 at *
    have hcp := Buff.copied (ys := [t]) (dLen := n) (dCap := n) (sLen := 1) (sCap := 1) (a := ⟨g0, 0, none⟩) hb0 (fun j v hv => by
      match j, hv with
      | 0, hv => injection hv with hv; rw [← hv]; exact hg0
      | j + 1, hv => simp [cells, nums] at hv) (by simp; omega) (by show 1 = min 1 n; omega)
    have hb1 := hb0.more (ys := [t]) (by simp; omega)
    have hbel1 := Below.grown hbel (gb_setCells w.heap.size (cells (nums [t])) ([] : List UInt8).length (gb_refl W1 _)) hbel.size (fun g e => by injection e with e; omega)
    have hlt1 : w.heap.size < (W1.setCells w.heap.size ([] : List UInt8).length (cells (nums [t]))).heap.size := Nat.lt_of_lt_of_le hlt (gb_setCells w.heap.size (cells (nums [t])) ([] : List UInt8).length (gb_refl W1 (some w.heap.size))).size
    have HCP := Lib.hid hcp
    generalize W1.setCells w.heap.size ([] : List UInt8).length (cells (nums [t])) = W2 at *
    rw [List.nil_append] at hb1
    have HB1 := Lib.hid hb1
    have HBEL := Lib.hid hbel1
    have HLT := Lib.hid hlt1
    clear hb0 hbel hlt hg0 hcp hb1 hbel1 hlt1 h0 hcm
    go_enter Tryd.func22, Tryd.ntmps22
    go_wp2_with (first
      | (go_at_call 41; go_must ((with_reducible refine (HM.out _).mono ?_); rintro e w' ⟨rfl, rfl⟩))
      | (refine Lib.wpList_copy_run _ rfl _ _ 41 41 rfl _ _ rfl rfl (HCP.out _) ?_))
    clear hcall hca
    go_loopw [10] (fun v wr => ∃ k : Nat, 1 ≤ k ∧ k ≤ n ∧ v = .int .i64 k ∧ Buff wr w.heap.size n (List.replicate k t) ∧ Below w.heap.size w wr ∧ w.heap.size < wr.heap.size) (fun v _ => n - (intOf v).toNat)
    case atStart => exact ⟨1, Nat.le_refl _, by omega, rfl, HB1.out, HBEL.out, HLT.out⟩
    case round =>
      obtain ⟨k, hk1, hkn, rfl, hb, hbe, hl⟩ := hrel
      by_cases hlt : k < n
      · have d5 : min (k : Int) (n : Int) = k := by omega
        obtain ⟨m, hm⟩ : ∃ m, m = min k (n - k) := ⟨_, rfl⟩
        have hm0 : 1 ≤ m ∧ k + m ≤ n ∧ m ≤ k := by rw [hm]; omega
        have hc1 := fun W => cut_from W w.heap.size n k hlt
        have hc2 := fun W => cut_to W w.heap.size n k n hkn (by omega)
        have hrep : List.replicate k t ++ List.replicate m t = List.replicate (k + m) t := by rw [List.replicate_append_replicate]
        have HR := Lib.hid hrep
        have ws : IntKind.i64.wrap ((k : Int) + (m : Int)) = (k : Int) + (m : Int) := by rw [IntKind.wrap_i64]; omega
        have HCC := Lib.hid (fun W (h : Buff W w.heap.size n (List.replicate k t)) ty => show (Builtin.copy_ #[41, 41] ty #[.slice (some ⟨w.heap.size, k, none⟩) (n - k) (n - k), .slice (some ⟨w.heap.size, 0, none⟩) k n]).run Tryd.prog W = .ok (.int .i64 m) (W.setCells w.heap.size k (cells (nums (List.replicate m t)))) from by
          have := Buff.copied (ys := List.replicate m t) (dLen := n - k) (dCap := n - k) (sLen := k) (sCap := n) (a := ⟨w.heap.size, 0, none⟩) h (fun j v hv => by
            have hj := (List.getElem?_eq_some_iff.1 hv).1
            rw [cnl, List.length_replicate] at hj
            have hz : (⟨w.heap.size, 0, none⟩ : Addr).add j = ⟨w.heap.size, j, none⟩ := by rw [Go.WideShapes.add_plain, Nat.zero_add]
            rw [hz]
            refine h.read j v ?_
            rw [← hv]
            unfold cells nums
            simp only [List.map_replicate, List.getElem?_replicate]
            rw [if_pos (by omega), if_pos (by omega)]) (by rw [List.length_replicate, List.length_replicate]; omega) (by rw [List.length_replicate]; exact hm) ty
          rw [List.length_replicate, List.length_replicate] at this
          exact this)
        have HB := Lib.hid hb
        have HBE := Lib.hid hbe
        have hM := hm
        clear hb hbe hm hrep hM
        go_wp2
        go_region_law (refine step_copyB rfl (.tmp 70) (.tmp 73) rfl (.slice (some ⟨w.heap.size, k, none⟩) (n - k) (n - k)) (.slice (some ⟨w.heap.size, 0, none⟩) k n) (by simp [Act.eval, Act.put]) (by simp [Act.eval, Act.put]) (HCC.out _ HB.out.drew) ?_)
        simp only [List.getElem_toArray, List.getElem_cons_zero, List.getElem_cons_succ, Act.put, List.setIfInBounds_toArray, List.set_cons_zero, List.set_cons_succ]
        go_wp2
        go_roundw
        case rel => exact ⟨k + m, by omega, by omega, by go_num, by rw [← HR.out]; have := HB.out.drew.more (ys := List.replicate m t) (by rw [List.length_replicate, List.length_replicate]; omega); rw [List.length_replicate] at this; exact this, Below.grown HBE.out.drew (gb_setCells w.heap.size _ k (gb_refl _ _)) (by exact Nat.le_of_lt hl) (fun g e => by injection e with e; omega), Nat.lt_of_lt_of_le hl (gb_setCells w.heap.size _ k (gb_refl wr.drew (some w.heap.size))).size⟩
        case measure => simp [intOf]; omega
      · obtain rfl : k = n := by omega
        have HB := Lib.hid hb
        have HBE := Lib.hid hbe
        clear hb hbe
        go_wp2
        go_ret
        exact ⟨_, _, rfl, ⟨HB.out.lies hl, fun e => by cases e⟩, HBE.out⟩
end Go.Proofs.YtebgmfjgapmpfabDoor

/- How far a body has come: nest's add, turn, close. -/
namespace Go.Proofs.YtebgmfjgapmpfabDoor
open Go.RowKit
set_option linter.unusedVariables false
set_option maxRecDepth 100000

/-- Are the opcodes the rest of a body in which these blocks are open? -/
def shapeGo : List UInt8 → List UInt8 → Bool
  | st, [] => false
  | st, op :: r =>
    if immR op.toNat = 1 then shapeGo (st ++ [op]) r
    else if op = 5 then (if st.getLast? = some 4 then shapeGo (st.dropLast ++ [5]) r else false)
    else if op = 11 then (if st = [] then r.isEmpty else shapeGo st.dropLast r)
    else shapeGo st r
/-- One more: the open blocks, and is it the end of all? -/
def addZ (st : List UInt8) (op : UInt8) : Option (List UInt8 × Bool) :=
  if immR op.toNat = 1 then some (st ++ [op], false)
  else if op = 5 then (if st.getLast? = some 4 then some (st.dropLast ++ [5], false) else none)
  else if op = 11 then (if st = [] then some (st, true) else some (st.dropLast, false))
  else some (st, false)
theorem shape_add (st : List UInt8) (op : UInt8) (r : List UInt8) : shapeGo st (op :: r) = match addZ st op with
    | none => false
    | some (st', false) => shapeGo st' r
    | some (st', true) => r.isEmpty := by
  unfold addZ
  show (if immR op.toNat = 1 then _ else _) = _
  by_cases h1 : immR op.toNat = 1
  · rw [if_pos h1, if_pos h1]
  · rw [if_neg h1, if_neg h1]
    by_cases h2 : op = 5
    · rw [if_pos h2, if_pos h2]
      by_cases h3 : st.getLast? = some 4
      · rw [if_pos h3, if_pos h3]
      · rw [if_neg h3, if_neg h3]
    · rw [if_neg h2, if_neg h2]
      by_cases h3 : op = 11
      · rw [if_pos h3, if_pos h3]
        by_cases h4 : st = []
        · rw [if_pos h4, if_pos h4]
        · rw [if_neg h4, if_neg h4]
      · rw [if_neg h3, if_neg h3]
theorem Row.cut {w : World} {base : Nat} {A : Option Addr} {n c : Nat} {xs : List UInt8} (h : Row w base (.slice A n c) xs) (hne : xs ≠ []) : ∃ g, A = some ⟨g, 0, none⟩ ∧ n = xs.length ∧ base ≤ g ∧ g < w.heap.size ∧ Row w base (.slice A (n - 1) c) xs.dropLast ∧ xs.length ≤ c ∧ c ≤ maxLen := by
  obtain ⟨h1, h2⟩ := h
  rcases h2 with ⟨e, e2⟩ | ⟨g, cap, cur, e, hb, hg, hc, hm, hs, ht⟩
  · exact absurd (List.eq_nil_of_length_eq_zero e2) hne
  · injection e with e1 e2 e3
    subst e1; subst e2; subst e3
    have hl : 0 < xs.length := List.length_pos_iff.2 hne
    refine ⟨g, rfl, rfl, hb, (Array.getElem?_eq_some_iff.1 hg).1, ⟨by rw [cells_length, nums_length]; omega, .inr ⟨g, c, cur, by rw [List.length_dropLast], hb, hg, by rw [List.length_dropLast]; omega, hm, hs, ?_⟩⟩, hc, hm⟩
    rw [List.length_dropLast]
    have : cur.toList.take ((xs.length - 1) * 1) = (cur.toList.take (xs.length * 1)).take (xs.length - 1) := by rw [List.take_take]; congr 1; omega
    rw [this, ht]
    unfold cells nums
    rw [← List.map_take, ← List.map_take, List.dropLast_eq_take]
theorem Row.last {w : World} {base : Nat} {g c : Nat} {xs : List UInt8} (h : Row w base (.slice (some ⟨g, 0, none⟩) xs.length c) xs) {x : UInt8} (hx : xs.getLast? = some x) : w.cell? ⟨g, xs.length - 1, none⟩ = some (.int .u8 x.toNat) ∧ w.frozen? ⟨g, xs.length - 1, none⟩ = false ∧
    ∀ y : UInt8, Row (w.setCell ⟨g, xs.length - 1, none⟩ (.int .u8 y.toNat)) base (.slice (some ⟨g, 0, none⟩) xs.length c) (xs.dropLast ++ [y]) ∧ w.grownBy (w.setCell ⟨g, xs.length - 1, none⟩ (.int .u8 y.toNat)) (some g) := by
  have hne : xs ≠ [] := fun e => by rw [e] at hx; cases hx
  have hl : 0 < xs.length := List.length_pos_iff.2 hne
  have hxi : xs[xs.length - 1]? = some x := by rw [← hx, List.getLast?_eq_getElem?]
  obtain ⟨A, c', e, hli, _⟩ := h.liesN
  injection e with e1 e2 e3
  subst e1
  obtain ⟨b, off, e4, _, hc⟩ := hli (xs.length - 1) (.int .u8 x.toNat) (by unfold cells nums; rw [List.map_map, List.getElem?_map, hxi]; rfl)
  injection e4 with e4
  injection e4 with e5 e6
  subst e5; subst e6
  rw [Nat.zero_add] at hc
  have hfr : w.frozen? ⟨g, xs.length - 1, none⟩ = false := by
    rcases h.2 with ⟨e, _⟩ | ⟨g', cap, cur, e, hb, hg, _⟩
    · cases e
    · injection e with e1 _ _
      injection e1 with e1
      injection e1 with e1
      subst e1
      exact frozen_of_row w _ _ cur _ hg
  refine ⟨hc, hfr, fun y => ?_⟩
  obtain ⟨h1, h2⟩ := World.ownsRow.stored h (xs.length - 1) (.int .u8 y.toNat)
  refine ⟨?_, h2⟩
  have e : (cells (nums xs)).set (xs.length - 1) (.int .u8 y.toNat) = cells (nums (xs.dropLast ++ [y])) := by
    have hd : xs = xs.dropLast ++ [x] := by
      obtain ⟨ys, rfl⟩ := List.getLast?_eq_some_iff.1 hx
      simp
    conv => lhs; rw [hd]
    unfold cells nums
    rw [List.map_append, List.map_append, List.map_append, List.map_append]
    rw [List.set_append_right _ _ (by simp)]
    simp
  unfold Row
  rw [← e]
  have hl2 : (xs.dropLast ++ [y]).length = xs.length := by simp; omega
  rw [hl2]
  exact h1
/-- What add leaves: nest's two cells, the row of open blocks. -/
def Added (nb base : Nat) (v : Value) (st : List UInt8) (en : Bool) (W : World) (e : Ending) (W' : World) : Prop :=
  e = .returned (.bool true) ∧ ∃ v' Wm, Whole W' nb 123 #[v', .bool en] ∧ Row W' base v' st ∧ W.grownBy Wm v.ownBlock ∧ Wm.grownBy W' (some nb)
theorem Row.apart {w : World} {base n nb : Nat} {a : Addr} {c : Nat} {xs : List UInt8} {t : TypeId} {cs : Array Value} (h : Row w base (.slice (some a) n c) xs) (hw : Whole w nb t cs) (hne : t ≠ 5) : nb ≠ a.block := by
  rcases h.2 with ⟨e, _⟩ | ⟨g, cap, cur, e, hb, hg, _⟩
  · cases e
  · injection e with e1 _ _
    injection e1 with e1
    subst e1
    exact hw.apart (show Whole w g 5 cur from hg) hne
section
variable {W : World} {nb base : Nat} {v : Value} {st : List UInt8}
theorem turn_no (hn : Whole W nb 123 #[v, .bool false]) (hr : Row W base v st) (hs : st.length ≤ 100000) (hno : st.getLast? ≠ some 4) :
    Calls Tryd.prog 104 #[.pointer (some ⟨nb, 0, none⟩)] W fun e W' => e = .returned (.bool false) ∧ W = W' := by
  obtain ⟨A, c, rfl, _⟩ := hr.liesN
  have c0 := hn.cell 0
  simp only [List.getElem?_toArray, List.getElem?_cons_zero] at c0
  by_cases h0 : st = []
  · subst h0
    clear hn hr
    go_enter Tryd.func104, Tryd.ntmps104
    go_wp2
    go_ret
    exact ⟨rfl, rfl⟩
  · obtain ⟨g, rfl, _, hbg, hglt, hcut, hc1, hc2⟩ := hr.cut h0
    obtain ⟨x, hx⟩ : ∃ x, st.getLast? = some x := by cases h : st.getLast? with
      | none => exact absurd (List.getLast?_eq_none_iff.1 h) h0
      | some x => exact ⟨x, rfl⟩
    obtain ⟨hcell, hfr, hset⟩ := hr.last hx
    have h4 : x ≠ 4 := fun e => hno (by rw [hx, e])
    have d4 : ((x.toNat : Int) != 4) = true := by
      have : x.toNat ≠ (4 : UInt8).toNat := fun e => h4 (UInt8.toNat_inj.1 e)
      have e4 : (4 : UInt8).toNat = 4 := rfl
      rw [e4] at this
      simp
      omega
    obtain ⟨n, hnn⟩ : ∃ n, st.length = n + 1 := ⟨st.length - 1, by have := List.length_pos_iff.2 h0; omega⟩
    rw [hnn] at c0 hcell hfr hs hc1
    rw [Nat.add_sub_cancel] at hcell hfr
    have e1 : ((n + 1 : Nat) : Int) - 1 = n := by omega
    clear hset hn hr hx hcut hnn hno
    unfold maxLen at hc2
    go_enter Tryd.func104, Tryd.ntmps104
    go_wp2
    go_ret
    exact ⟨rfl, rfl⟩
theorem turn_yes (hn : Whole W nb 123 #[v, .bool false]) (hr : Row W base v st) (hs : st.length ≤ 100000) (hx : st.getLast? = some 4) :
    Calls Tryd.prog 104 #[.pointer (some ⟨nb, 0, none⟩)] W (Added nb base v (st.dropLast ++ [5]) false W) := by
  obtain ⟨A, c, rfl, _⟩ := hr.liesN
  have c0 := hn.cell 0
  simp only [List.getElem?_toArray, List.getElem?_cons_zero] at c0
  have h0 : st ≠ [] := fun e => by rw [e] at hx; cases hx
  obtain ⟨g, rfl, _, hbg, hglt, hcut, hc1, hc2⟩ := hr.cut h0
  obtain ⟨hcell, hfr, hset⟩ := hr.last hx
  have HAP := Lib.hid (hr.apart hn (by decide))
  obtain ⟨n, hnn⟩ : ∃ n, st.length = n + 1 := ⟨st.length - 1, by have := List.length_pos_iff.2 h0; omega⟩
  rw [hnn] at c0 hcell hfr hs hc1 hset ⊢
  rw [Nat.add_sub_cancel] at hcell hfr hset
  have e1 : ((n + 1 : Nat) : Int) - 1 = n := by omega
  have e4 : ((4 : UInt8).toNat : Int) = 4 := rfl
  rw [e4] at hcell
  have HS := Lib.hid (hset 5)
  have HN := Lib.hid hn
  rw [hnn] at HN
  clear hset hn hr hx hcut hnn h0
  unfold maxLen at hc2
  go_enter Tryd.func104, Tryd.ntmps104
  go_wp2
  go_ret
  exact ⟨rfl, _, _, HN.out.far HAP.out _, HS.out.1, HS.out.2, gb_refl _ _⟩
end
end Go.Proofs.YtebgmfjgapmpfabDoor

/- nest's close and add. -/
namespace Go.Proofs.YtebgmfjgapmpfabDoor
open Go.RowKit
set_option linter.unusedVariables false
set_option maxRecDepth 100000

/-- What a step leaves: nest's two cells, the row of open blocks. -/
def Moved (nb base : Nat) (v : Value) (st : List UInt8) (en : Bool) (W W' : World) : Prop :=
  ∃ v' Wm, Whole W' nb 123 #[v', .bool en] ∧ Row W' base v' st ∧ W.grownBy Wm v.ownBlock ∧ Wm.grownBy W' (some nb)
/-- append of a new block of bytes: what is old stays, but for the row. -/
theorem row_newG {w : World} {ops : Array Oper} {rest : List Oper} {o : Oper} {a : Act} {Q : Exit → Act → World → Prop} (hgd : o.guard = none) (s x : Operand)
    (ho : o.op = .call { callee := .builtin .append, args := #[s, x], argTypes := #[41, 41] })
    (B : Nat) (v : Value) (xs : List UInt8) (hs : a.eval s = v) (hr : Row w B v xs)
    (g m : Nat) (news : List UInt8) (hx : a.eval x = .slice (some ⟨g, 0, none⟩) m m) (hl : news.length = m) (hg : w.heap[g]? = some (.cells (cells (nums news)).toArray 5 (0, 0)))
    (hm : 0 < m) (hb : xs.length + news.length ≤ 1000000) (hB : B ≤ w.heap.size)
    (h : ∀ v' w', Row w' B v' (xs ++ news) → w.grownBy w' v.ownBlock → wpList Tryd.prog ops Q rest (a.put o.dst v') w') : wpList Tryd.prog ops Q (o :: rest) a w :=
  wpList_app hgd s x ho B v _ (nums xs) hs hr g m (nums news) hx (by rw [nums_length]; exact hl) hg hm (by omega) hB fun v' w' h2 h3 =>
    h v' w' (by unfold Row; rw [nums_append, List.length_append, hl]; exact h2) h3
section
variable {W : World} {nb base : Nat} {v : Value} {st : List UInt8}
theorem Moved.after {W1 W' : World} {en : Bool} (h : Moved nb base v st en W1 W') (hb : Below W.heap.size W W1) : Moved nb base v st en W W' := by
  obtain ⟨v', Wm, h1, h2, h3, h4⟩ := h
  exact ⟨v', Wm, h1, h2, gb_trans (gb_of_below _ hb) h3, h4⟩
theorem close_ok (hn : Whole W nb 123 #[v, .bool false]) (hr : Row W base v st) (hs : st.length ≤ 100000) :
    Calls Tryd.prog 105 #[.pointer (some ⟨nb, 0, none⟩)] W fun e W' => e = .returned (.tuple #[]) ∧ Moved nb base v (if st = [] then st else st.dropLast) (if st = [] then true else false) W W' := by
  obtain ⟨A, c, rfl, _⟩ := hr.liesN
  have c0 := hn.cell 0
  have c1 := hn.cell 1
  have f0 := hn.frozen 0
  have f1 := hn.frozen 1
  simp only [List.getElem?_toArray, List.getElem?_cons_zero, List.getElem?_cons_succ] at c0 c1
  by_cases h0 : st = []
  · subst h0
    have hp := hn.put 1 (.bool true)
    have HP := Lib.hid hp
    have HR := Lib.hid (hr.later (Below.refl _ _))
    have HAP := Lib.hid (fun (a : Addr) (e : A = some a) => (by subst e; exact hr.apart hn (by decide) : nb ≠ a.block))
    have hgb : W.grownBy (W.setCell ⟨nb, 1, none⟩ (.bool true)) (some nb) := gb_put (p := ⟨nb, 1, none⟩) (gb_refl W _) (.inl rfl) _
    have HG := Lib.hid hgb
    clear hn hr hp hgb
    go_enter Tryd.func105, Tryd.ntmps105
    go_wp2
    refine bodyPost_ret (v := .tuple #[]) (by simp [results, Tryd.results105]) rfl ?_
    refine ⟨rfl, _, W, HP.out, ?_, gb_refl _ _, HG.out⟩
    exact World.ownsRow.kept HR.out HG.out (by
      cases A with
      | none => exact .inl rfl
      | some a => exact .inr (by have := HAP.out a rfl; simp only [Value.ownBlock, ne_eq, Option.some.injEq]; exact fun e => this e.symm))
  · obtain ⟨g, rfl, _, hbg, hglt, hcut, hc1, hc2⟩ := hr.cut h0
    obtain ⟨n, hnn⟩ : ∃ n, st.length = n + 1 := ⟨st.length - 1, by have := List.length_pos_iff.2 h0; omega⟩
    have HAP := Lib.hid (hr.apart hn (by decide))
    have HH := Lib.hid h0
    rw [hnn] at c0 hs hc1 hcut hn
    rw [Nat.add_sub_cancel] at hcut
    have e1 : ((n + 1 : Nat) : Int) - 1 = n := by omega
    have HP := Lib.hid (hn.put 0 (.slice (some ⟨g, 0, none⟩) n c))
    have HC := Lib.hid hcut
    have hgb : W.grownBy (W.setCell ⟨nb, 0, none⟩ (.slice (some ⟨g, 0, none⟩) n c)) (some nb) := gb_put (p := ⟨nb, 0, none⟩) (gb_refl W _) (.inl rfl) _
    have HG := Lib.hid hgb
    rw [hnn]
    clear hn hr hcut hnn h0 hgb
    unfold maxLen at hc2
    have hc3 : ¬ (c : Int) < n := by omega
    go_enter Tryd.func105, Tryd.ntmps105
    go_wp2
    go_end0
    refine ⟨rfl, ?_⟩
    refine ⟨_, W, HP.out, ?_, gb_refl _ _, HG.out⟩
    exact World.ownsRow.kept HC.out HG.out (.inr (by simp only [Value.ownBlock, ne_eq, Option.some.injEq]; exact fun e => HAP.out e.symm))
theorem add_ended (hn : Whole W nb 123 #[v, .bool true]) (op : UInt8) : Calls Tryd.prog 82 #[.pointer (some ⟨nb, 0, none⟩), .int .u8 op.toNat] W fun e W' => e = .returned (.bool false) ∧ W = W' := by
  have c1 := hn.cell 1
  simp only [List.getElem?_toArray, List.getElem?_cons_zero, List.getElem?_cons_succ] at c1
  clear hn
  go_enter Tryd.func82, Tryd.ntmps82
  go_wp2
  go_ret
  exact ⟨rfl, rfl⟩
theorem addZ_11 {st : List UInt8} : addZ st 11 = some (if st = [] then st else st.dropLast, if st = [] then true else false) := by
  unfold addZ
  rw [if_neg (by decide +kernel), if_neg (by decide), if_pos rfl]
  by_cases h : st = []
  · rw [if_pos h, if_pos h, if_pos h]
  · rw [if_neg h, if_neg h, if_neg h]
set_option maxHeartbeats 1000000 in
theorem add_ok {op : UInt8} {st' : List UInt8} {en : Bool} (hT : Tabs W) (hn : Whole W nb 123 #[v, .bool false]) (hr : Row W base v st) (hb : base ≤ W.heap.size) (hs : st.length ≤ 100000) (ha : addZ st op = some (st', en)) :
    Calls Tryd.prog 82 #[.pointer (some ⟨nb, 0, none⟩), .int .u8 op.toNat] W fun e W' => e = .returned (.bool true) ∧ Moved nb base v st' en W W' := by
  have HO := Lib.hid (opens_any op.toNat W hT (by have := op.toNat_lt; omega))
  have c1 := hn.cell 1
  simp only [List.getElem?_toArray, List.getElem?_cons_zero, List.getElem?_cons_succ] at c1
  have HN := Lib.hid hn
  have HR := Lib.hid hr
  clear hn hr
  by_cases h1 : immR op.toNat = 1
  · have hd : (immR op.toNat == 1) = true := by simpa using h1
    rw [hd] at HO
    unfold addZ at ha
    rw [if_pos h1] at ha
    injection ha with ha
    injection ha with ha1 ha2
    subst ha2
    have HST := Lib.hid ha1
    clear ha1
    have HAP := Lib.hid (fun (w1 : World) (h1 : Whole w1 nb 123 #[v, .bool false]) (h2 : Row w1 base v st) => (by
      cases v with
      | slice A n c => cases A with
        | none => simp [Value.ownBlock]
        | some a => have := h2.apart h1 (by decide); simp only [Value.ownBlock, ne_eq, Option.some.injEq]; exact this
      | _ => simp [Value.ownBlock] : some nb ≠ v.ownBlock))
    clear h1 hd
    go_enter Tryd.func82, Tryd.ntmps82
    go_wp2_with (first
      | (at_builtin; (refine row_newG rfl _ _ rfl base v st rfl (HR1.out.alloc _) w1.heap.size 1 [op] rfl rfl (heap_alloc_new w1 _) (by omega) (by simp; omega) (by have := HB1.out.size; simp; omega) ?_; intro v3 w3 hr3 hg3; rw [HST.out] at hr3; have hn3 : Whole w3 nb 123 #[v, .bool false] := (HN1.out.alloc _).grown hg3 (HAP.out _ HN1.out HR1.out); have k3 := hn3.cell 0; have k4 := hn3.frozen 0; simp only [List.getElem?_toArray, List.getElem?_cons_zero] at k3; obtain ⟨A3, c3, rfl, _⟩ := hr3.liesN; have HR3 := Lib.hid hr3; have HG3 := Lib.hid hg3; have HN3 := Lib.hid hn3; clear hr3 hg3 hn3))
      | (go_at_call 103; go_must ((with_reducible refine HO.out.mono ?_); rintro e w1 ⟨rfl, hb1⟩; have HB1 := Lib.hid hb1; have HR1 := Lib.hid (HR.out.later hb1); have HN1 := Lib.hid (HN.out.below hb1); have k0 := HN1.out.cell 0; have g0 := HN1.out.frozen 0; simp only [List.getElem?_toArray, List.getElem?_cons_zero] at k0; clear hb1)))
    go_ret
    have hgb : w3.grownBy (w3.setCell ⟨nb, 0, none⟩ (.slice A3 st'.length c3)) (some nb) := gb_put (p := ⟨nb, 0, none⟩) (gb_refl w3 _) (.inl rfl) _
    refine ⟨rfl, _, w3, HN3.out.put 0 _, ?_, gb_trans (gb_alloc (gb_of_below _ HB1.out) _) HG3.out, hgb⟩
    exact World.ownsRow.kept HR3.out hgb (by
      cases A3 with
      | none => exact .inl rfl
      | some a => exact .inr (by have := HR3.out.apart HN3.out (by decide); simp only [Value.ownBlock, ne_eq, Option.some.injEq]; omega))
  · have hd : (immR op.toNat == 1) = false := by simpa using h1
    rw [hd] at HO
    by_cases h5 : op = 5
    · subst h5
      have hl4 : st.getLast? = some 4 := by
        unfold addZ at ha
        rw [if_neg h1, if_pos rfl] at ha
        by_cases h4 : st.getLast? = some 4
        · exact h4
        · rw [if_neg h4] at ha; cases ha
      have ha2 : st' = st.dropLast ++ [5] ∧ en = false := by
        unfold addZ at ha
        rw [if_neg h1, if_pos rfl, if_pos hl4] at ha
        injection ha with ha
        injection ha with ha1 ha2
        exact ⟨ha1.symm, ha2.symm⟩
      obtain ⟨rfl, rfl⟩ := ha2
      have e5 : (((5 : UInt8).toNat : Int) == 5) = true := rfl
      have HTU := Lib.hid (fun w1 h1 h2 => turn_yes (W := w1) (nb := nb) (base := base) (v := v) (st := st) h1 h2 hs hl4)
      have HO5 := Lib.hid (show Calls Tryd.prog 103 #[.int .u8 5] W (fun e w' => e = .returned (.bool false) ∧ Below W.heap.size W w') from HO.out)
      clear h1 hd ha hl4
      go_enter Tryd.func82, Tryd.ntmps82
      go_wp2_with (first
        | (go_at_call 104; go_must ((with_reducible refine (HTU.out _ HN1.out HR1.out).mono ?_); intro e w2 hq; obtain ⟨rfl, hmv⟩ := hq; have HM := Lib.hid hmv; clear hmv))
        | (go_at_call 103; go_must ((with_reducible refine HO5.out.mono ?_); rintro e w1 ⟨rfl, hb1⟩; have HB1 := Lib.hid hb1; have HR1 := Lib.hid (HR.out.later hb1); have HN1 := Lib.hid (HN.out.below hb1); clear hb1)))
      go_ret
      exact ⟨rfl, Moved.after HM.out HB1.out⟩
    · have d5 : ((op.toNat : Int) == 5) = false := by
        have : op.toNat ≠ (5 : UInt8).toNat := fun e => h5 (UInt8.toNat_inj.1 e)
        have e5 : (5 : UInt8).toNat = 5 := rfl
        rw [e5] at this
        simp; omega
      by_cases h11 : op = 11
      · subst h11
        rw [addZ_11] at ha
        injection ha with ha
        injection ha with ha1 ha2
        have HE1 := Lib.hid ha1
        have HE2 := Lib.hid ha2
        clear ha1 ha2
        have e11 : (((11 : UInt8).toNat : Int) == 11) = true := rfl
        have HCL := Lib.hid (fun w1 h1 h2 => close_ok (W := w1) (nb := nb) (base := base) (v := v) (st := st) h1 h2 hs)
        have HO5 := Lib.hid (show Calls Tryd.prog 103 #[.int .u8 11] W (fun e w' => e = .returned (.bool false) ∧ Below W.heap.size W w') from HO.out)
        clear h1 hd h5
        go_enter Tryd.func82, Tryd.ntmps82
        go_wp2_with (first
          | (go_at_call 105; go_must ((with_reducible refine (HCL.out _ HN1.out HR1.out).mono ?_); rintro e w2 ⟨rfl, hmv⟩; have HM := Lib.hid hmv; clear hmv))
          | (go_at_call 103; go_must ((with_reducible refine HO5.out.mono ?_); rintro e w1 ⟨rfl, hb1⟩; have HB1 := Lib.hid hb1; have HR1 := Lib.hid (HR.out.later hb1); have HN1 := Lib.hid (HN.out.below hb1); clear hb1)))
        go_ret
        refine ⟨rfl, ?_⟩
        rw [← HE1.out, ← HE2.out]
        exact Moved.after HM.out HB1.out
      · have d11 : ((op.toNat : Int) == 11) = false := by
          have : op.toNat ≠ (11 : UInt8).toNat := fun e => h11 (UInt8.toNat_inj.1 e)
          have e11 : (11 : UInt8).toNat = 11 := rfl
          rw [e11] at this
          simp; omega
        unfold addZ at ha
        rw [if_neg h1, if_neg h5, if_neg h11] at ha
        injection ha with ha
        injection ha with ha1 ha2
        subst ha1; subst ha2
        clear h1 hd h5 h11
        go_enter Tryd.func82, Tryd.ntmps82
        go_wp2_with (go_at_call 103; go_must ((with_reducible refine HO.out.mono ?_); rintro e w1 ⟨rfl, hb1⟩; have HB1 := Lib.hid hb1; have HR1 := Lib.hid (HR.out.later hb1); have HN1 := Lib.hid (HN.out.below hb1); clear hb1))
        go_ret
        exact ⟨rfl, v, w1, HN1.out, HR1.out, gb_of_below _ HB1.out, gb_refl _ _⟩
theorem add_no {op : UInt8} (hT : Tabs W) (hn : Whole W nb 123 #[v, .bool false]) (hr : Row W base v st) (hs : st.length ≤ 100000) (ha : addZ st op = none) :
    Calls Tryd.prog 82 #[.pointer (some ⟨nb, 0, none⟩), .int .u8 op.toNat] W fun e W' => e = .returned (.bool false) ∧ Below W.heap.size W W' := by
  unfold addZ at ha
  by_cases h1 : immR op.toNat = 1
  · rw [if_pos h1] at ha; cases ha
  · rw [if_neg h1] at ha
    by_cases h5 : op = 5
    · rw [if_pos h5] at ha
      have hl4 : st.getLast? ≠ some 4 := fun e => by rw [if_pos e] at ha; cases ha
      subst h5
      have HO := Lib.hid (opens_any (5 : UInt8).toNat W hT (by decide))
      have hd : (immR (5 : UInt8).toNat == 1) = false := by simpa using h1
      rw [hd] at HO
      have c1 := hn.cell 1
      simp only [List.getElem?_toArray, List.getElem?_cons_zero, List.getElem?_cons_succ] at c1
      have HN := Lib.hid hn
      have HR := Lib.hid hr
      have e5 : (((5 : UInt8).toNat : Int) == 5) = true := rfl
      have HTU := Lib.hid (fun w1 h1 h2 => turn_no (W := w1) (nb := nb) (base := base) (v := v) (st := st) h1 h2 hs hl4)
      have HO5 := Lib.hid (show Calls Tryd.prog 103 #[.int .u8 5] W (fun e w' => e = .returned (.bool false) ∧ Below W.heap.size W w') from HO.out)
      clear h1 hd ha hl4 hn hr
      go_enter Tryd.func82, Tryd.ntmps82
      go_wp2_with (first
        | (go_at_call 104; go_must ((with_reducible refine (HTU.out _ HN1.out HR1.out).mono ?_); rintro e w2 ⟨rfl, rfl⟩))
        | (go_at_call 103; go_must ((with_reducible refine HO5.out.mono ?_); rintro e w1 ⟨rfl, hb1⟩; have HB1 := Lib.hid hb1; have HR1 := Lib.hid (HR.out.later hb1); have HN1 := Lib.hid (HN.out.below hb1); clear hb1)))
      go_ret
      exact ⟨rfl, HB1.out⟩
    · rw [if_neg h5] at ha
      by_cases h11 : op = 11
      · rw [if_pos h11] at ha
        by_cases h0 : st = []
        · rw [if_pos h0] at ha; cases ha
        · rw [if_neg h0] at ha; cases ha
      · rw [if_neg h11] at ha; cases ha
end
end Go.Proofs.YtebgmfjgapmpfabDoor
