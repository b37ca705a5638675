/- The reference's Of. -/
import Derived.Test.YtfimjjeabbbciaaDoorGroups
import Derived.Test.YtfimjjeabbbciaaDoorWord
namespace Go.Proofs.YtfimjjeabbbciaaDoor
open Go.RowKit

theorem rows_get (l : List RowR) (i : Nat) (h : i < l.length) : (rowsArr l)[i * 6]? = some (.int .i64 (l.getD i row0).op) ∧ (rowsArr l)[i * 6 + 1]? = some (.string (S (l.getD i row0).name)) ∧ (rowsArr l)[i * 6 + 2]? = some (.int .i64 (l.getD i row0).imm) ∧
    (rowsArr l)[i * 6 + 3]? = some (.string (S (l.getD i row0).takes)) ∧ (rowsArr l)[i * 6 + 4]? = some (.string (S (l.getD i row0).has)) ∧ (rowsArr l)[i * 6 + 5]? = some (.bool (l.getD i row0).free) := by
  unfold rowsArr
  simp only [List.getElem?_toArray]
  induction l generalizing i with
  | nil => simp at h
  | cons x r ih =>
    cases i with
    | zero => exact ⟨rfl, rfl, rfl, rfl, rfl, rfl⟩
    | succ i =>
      have := ih i (by simpa using h)
      have e : (i + 1) * 6 = i * 6 + 1 + 1 + 1 + 1 + 1 + 1 := by omega
      rw [e]
      exact this
theorem rows_bd : ∀ i, i < 35 → (groupsL.getD i row0).name.length ≤ 1000 ∧ (groupsL.getD i row0).op ≤ 255 := by decide +kernel
def RowCells (w : World) (b i : Nat) (r : RowR) : Prop :=
  w.cell? ⟨b, i * 6, none⟩ = some (.int .i64 r.op) ∧ w.cell? ⟨b, i * 6 + 1, none⟩ = some (.string (S r.name)) ∧ w.cell? ⟨b, i * 6 + 2, none⟩ = some (.int .i64 r.imm) ∧
  w.cell? ⟨b, i * 6 + 3, none⟩ = some (.string (S r.takes)) ∧ w.cell? ⟨b, i * 6 + 4, none⟩ = some (.string (S r.has)) ∧ w.cell? ⟨b, i * 6 + 5, none⟩ = some (.bool r.free)
theorem rows_cells {w : World} {b : Nat} {l : List RowR} (h : Whole w b 24 (rowsArr l)) (i : Nat) (hi : i < l.length) : RowCells w b i (l.getD i row0) := by
  obtain ⟨a0, a1, a2, a3, a4, a5⟩ := rows_get l i hi
  exact ⟨(h.cell _).trans a0, (h.cell _).trans a1, (h.cell _).trans a2, (h.cell _).trans a3, (h.cell _).trans a4, (h.cell _).trans a5⟩

/-- What Of hands back. -/
abbrev rowAgg (r : RowR) : Value := .agg #[.int .i64 r.op, .string (S r.name), .int .i64 r.imm, .string (S r.takes), .string (S r.has), .bool r.free]
abbrev refV (o : Option RowR) : Value := .tuple #[rowAgg (o.getD row0), .bool o.isSome]
def RefPost (o : Option RowR) (w : World) (e : Ending) (w' : World) : Prop := e = .returned (refV o) ∧ Below w.heap.size w w'
/-- The loop's counter: k rows are left. -/
def Left6 (k : Nat) (v : Value) : Prop := v = .int .i64 ((k : Int) - 1)
theorem word_at (s : List UInt8) (n p : Nat) (o : Option (List UInt8)) (ho : wordR s ((n : Int) - p) = o) (hs : s.length ≤ 1000) (hn : n ≤ 255) (hp : p ≤ n) (w : World) : Calls Tryd.prog 18 #[.string (S s), .int .i64 ((n : Int) - p)] w fun e w' => e = .returned (wordV o) ∧ ∃ m, w' = w.drewN m := by
  have e : ((n - p : Nat) : Int) = (n : Int) - p := by omega
  have := word_any s (n - p) w hs (by omega)
  rw [e, ho] at this
  exact this
structure Held6 (w w2 : World) (j : Nat) (r : RowR) : Prop where
  hz : w.heap.size + 2 ≤ w2.heap.size
  hb : Below w.heap.size w w2
  hR : Whole w2 w.heap.size 24 #[.int .i64 0, .string ⟨#[]⟩, .int .i64 0, .string ⟨#[]⟩, .string ⟨#[]⟩, .bool false]
  hc : RowCells w2 (w.heap.size + 1) j r
theorem below_drewN {B : Nat} {a w : World} (h : Below B a w) (n : Nat) : Below B a (w.drewN n) := ⟨h.os, h.tape, h.output, h.size, h.block⟩
theorem six_put {w w1 : World} {B b : Nat} (h : Below B w w1) (hb : B ≤ b) (x0 x1 x2 x3 x4 x5 : Value) : Below B w ((((((w1.setCell ⟨b, 0, none⟩ x0).setCell ⟨b, 1, none⟩ x1).setCell ⟨b, 2, none⟩ x2).setCell ⟨b, 3, none⟩ x3).setCell ⟨b, 4, none⟩ x4).setCell ⟨b, 5, none⟩ x5) :=
  (((((h.setCell hb _).setCell hb _).setCell hb _).setCell hb _).setCell hb _).setCell hb _
set_option maxRecDepth 100000 in
theorem ref_any (n : Nat) (w : World) (hn : n ≤ 255) : Calls Tryd.prog 7 #[.int .i64 n] w (RefPost (refR n) w) := by
  obtain ⟨o, ho⟩ : ∃ o, o = refR n := ⟨_, rfl⟩
  have HO := Lib.hid (show ofGo n 35 = o from ho.symm)
  rw [← ho]
  clear ho
  go_enter Tryd.func7, Tryd.ntmps7
  go_wp2_with (go_at_call 17; go_must (refine (groups_any _).mono ?_; rintro e w1 ⟨rfl, hw1⟩; have HW := Lib.hid hw1; clear hw1))
  have hz : w.heap.size + 2 ≤ w1.heap.size := by rw [HW.out]; simp
  have HB := Lib.hid (show Below w.heap.size w w1 by rw [HW.out]; exact ((Below.refl _ _).alloc (Nat.le_refl _) _).alloc (by simp) _)
  have HG := Lib.hid (show Whole w1 (w.heap.size + 1) 24 (rowsArr groupsL) by
    rw [HW.out]
    have := Whole.made (w.alloc (.cells #[.int .i64 0, .string ⟨#[]⟩, .int .i64 0, .string ⟨#[]⟩, .string ⟨#[]⟩, .bool false] 24)) 24 (rowsArr groupsL)
    simpa using this)
  have HR := Lib.hid (show Whole w1 w.heap.size 24 #[.int .i64 0, .string ⟨#[]⟩, .int .i64 0, .string ⟨#[]⟩, .string ⟨#[]⟩, .bool false] by
    rw [HW.out]
    exact (Whole.made w 24 #[.int .i64 0, .string ⟨#[]⟩, .int .i64 0, .string ⟨#[]⟩, .string ⟨#[]⟩, .bool false]).alloc _)
  clear HW
  have z0 : w1.cell? ⟨w.heap.size, 0, none⟩ = some (.int .i64 0) := HR.out.cell 0
  have z1 : w1.cell? ⟨w.heap.size, 1, none⟩ = some (.string ⟨#[]⟩) := HR.out.cell 1
  have z2 : w1.cell? ⟨w.heap.size, 2, none⟩ = some (.int .i64 0) := HR.out.cell 2
  have z3 : w1.cell? ⟨w.heap.size, 3, none⟩ = some (.string ⟨#[]⟩) := HR.out.cell 3
  have z4 : w1.cell? ⟨w.heap.size, 4, none⟩ = some (.string ⟨#[]⟩) := HR.out.cell 4
  have z5 : w1.cell? ⟨w.heap.size, 5, none⟩ = some (.bool false) := HR.out.cell 5
  have f0 := HR.out.frozen 0
  have f1 := HR.out.frozen 1
  have f2 := HR.out.frozen 2
  have f3 := HR.out.frozen 3
  have f4 := HR.out.frozen 4
  have f5 := HR.out.frozen 5
  go_loop [5] (fun i => ∃ k : Nat, k ≤ 35 ∧ Left6 k i ∧ Hid (ofGo n k = o)) (fun i => (intOf i + 1).toNat)
  case atStart => exact ⟨35, by omega, rfl, HO⟩
  case round =>
    obtain ⟨k, hk, hi, HX⟩ := hrel
    clear HO
    cases k with
    | zero =>
      obtain rfl : u5 = .int .i64 (-1) := hi
      have HE := Lib.hid (show o = none from HX.out.symm)
      go_wp2
      exact bodyPost_ret (v := .tuple #[.agg #[.int .i64 0, .string ⟨#[]⟩, .int .i64 0, .string ⟨#[]⟩, .string ⟨#[]⟩, .bool false], .bool false]) (by simp [results, Tryd.results7, go_sem, z0, z1, z2, z3, z4, z5]) rfl ⟨by rw [HE.out]; rfl, six_put HB.out (Nat.le_refl _) _ _ _ _ _ _⟩
    | succ j =>
      obtain rfl : u5 = .int .i64 (j : Int) := hi.trans (by congr 1; omega)
      have hj : j < 35 := by omega
      obtain ⟨b1, b2⟩ := rows_bd j hj
      obtain ⟨c0, c1, c2, c3, c4, c5⟩ := rows_cells HG.out j (show j < groupsL.length from hj)
      have HX' : ofGo n (j + 1) = o := HX.out
      unfold ofGo at HX'
      dsimp only at HX'
      obtain ⟨r, hr⟩ : ∃ r, r = groupsL.getD j row0 := ⟨_, rfl⟩
      rw [← hr] at b1 b2 c0 c1 c2 c3 c4 c5 HX'
      clear hr HX
      by_cases hle : r.op ≤ n
      · rw [if_pos hle] at HX'
        have hd : decide (n < r.op) = false := by simpa using hle
        have hw1 : IntKind.i64.wrap ((n : Int) - r.op) = (n : Int) - r.op := IntWalk.i64_in _ (by omega)
        have k0 : 0 ≤ (j : Int) := by omega
        have k1 : (j : Int) < 35 := by omega
        cases hwd : wordR r.name ((n : Int) - r.op) with
        | none =>
          rw [hwd] at HX'
          have HE := Lib.hid (show o = none from HX'.symm)
          have HQ := Lib.hid (word_at r.name n r.op none hwd b1 hn hle)
          clear hwd HX' b1 b2 hle
          go_wp2
          go_quiet ((go_at_call 18; exact Calls.quiet_of (HQ.out _)))
          go_wp2
          exact bodyPost_ret (v := .tuple #[.agg #[.int .i64 0, .string ⟨#[]⟩, .int .i64 0, .string ⟨#[]⟩, .string ⟨#[]⟩, .bool false], .bool false]) (by simp [results, Tryd.results7, go_sem, z0, z1, z2, z3, z4, z5]) rfl ⟨by rw [HE.out]; rfl, six_put (below_drewN HB.out _) (Nat.le_refl _) _ _ _ _ _ _⟩
        | some s =>
          rw [hwd] at HX'
          have HE := Lib.hid (show o = some ⟨n, s, r.imm, r.takes, r.has, r.free⟩ from HX'.symm)
          have HQ := Lib.hid (word_at r.name n r.op (some s) hwd b1 hn hle)
          clear hwd HX' b1 b2 hle
          go_wp2
          go_quiet ((go_at_call 18; exact Calls.quiet_of (HQ.out _)))
          have HH := Lib.hid (show Held6 w (w1.drewN nq) j r from ⟨hz, below_drewN HB.out _, HR.out, ⟨c0, c1, c2, c3, c4, c5⟩⟩)
          clear hz HB HR z0 z1 z2 z3 z4 z5 f0 f1 f2 f3 f4 f5 c0 c1 c2 c3 c4 c5
          generalize w1.drewN nq = w2 at HH ⊢
          obtain ⟨hz, hb, hR, c0, c1, c2, c3, c4, c5⟩ := HH.out
          have HB := Lib.hid hb
          have HR := Lib.hid hR
          clear HH hb hR
          have z0 : w2.cell? ⟨w.heap.size, 0, none⟩ = some (.int .i64 0) := HR.out.cell 0
          have z1 : w2.cell? ⟨w.heap.size, 1, none⟩ = some (.string ⟨#[]⟩) := HR.out.cell 1
          have z2 : w2.cell? ⟨w.heap.size, 2, none⟩ = some (.int .i64 0) := HR.out.cell 2
          have z3 : w2.cell? ⟨w.heap.size, 3, none⟩ = some (.string ⟨#[]⟩) := HR.out.cell 3
          have z4 : w2.cell? ⟨w.heap.size, 4, none⟩ = some (.string ⟨#[]⟩) := HR.out.cell 4
          have z5 : w2.cell? ⟨w.heap.size, 5, none⟩ = some (.bool false) := HR.out.cell 5
          have f0 := HR.out.frozen 0
          have f1 := HR.out.frozen 1
          have f2 := HR.out.frozen 2
          have f3 := HR.out.frozen 3
          have f4 := HR.out.frozen 4
          have f5 := HR.out.frozen 5
          have hlt1 : w.heap.size < w2.heap.size := by omega
          have hlt2 : w.heap.size + 1 < w2.heap.size := by omega
          go_wp2
          exact bodyPost_ret (v := .tuple #[.agg #[.int .i64 n, .string (S s), .int .i64 r.imm, .string (S r.takes), .string (S r.has), .bool r.free], .bool true]) (by simp [results, Tryd.results7, go_sem, z0, z1, z2, z3, z4, z5, hlt1]) rfl ⟨by rw [HE.out]; rfl, (six_put HB.out (Nat.le_refl _) _ _ _ _ _ _).alloc (by simp; omega) _⟩
      · rw [if_neg hle] at HX'
        have hd : decide (n < r.op) = true := by simpa using hle
        have HX := Lib.hid HX'
        clear HX'
        go_wp2
        go_round
        case rel => exact ⟨j, by omega, rfl, HX⟩
        case measure => simp [intOf]
end Go.Proofs.YtfimjjeabbbciaaDoor

