/- The tables of package ops in a world; nameOf. -/
import Derived.Test.YtakklljpngeocaaDoorZa01
import Derived.Test.YtakklljpngeocaaDoorZa02
import Derived.Laws.Rows
import Derived.Lib.Hide
import Derived.Deep.DeepMust
import Derived.LoopTactic
import Derived.KernelRfl
import Derived.Great.Walk
import Derived.Deep.QuietTactic
import Derived.BigQuiet
import Derived.IntWalk
namespace Go.Proofs.YtakklljpngeocaaDoor
set_option linter.unusedVariables false
open Go.RowKit

def accCells (l : List AccR) : Array Value := (l.flatMap fun a => [.int .i64 a.n, .int .u8 a.t, .bool a.wr, .bool a.sg]).toArray
theorem tab_below {w wr : World} {g : Nat} {cs : Array Value} (h : ∃ t fr, w.heap[g]? = some (.cells cs t fr)) (hb : Below w.heap.size w wr) : ∃ t fr, wr.heap[g]? = some (.cells cs t fr) := by
  obtain ⟨t, fr, h⟩ := h
  exact ⟨t, fr, (hb.block _ (Array.getElem?_eq_some_iff.1 h).1).trans h⟩
end Go.Proofs.YtakklljpngeocaaDoor

/- The reference's groups. -/
namespace Go.Proofs.YtakklljpngeocaaDoor
set_option linter.unusedVariables false
open Go.RowKit

/-- A row as cells. -/
def rowCells (r : RowR) : List Value := [.int .i64 r.op, .string (S r.name), .int .i64 r.imm, .string (S r.takes), .string (S r.has), .bool r.free]
def rowsArr (l : List RowR) : Array Value := (l.flatMap rowCells).toArray
set_option maxRecDepth 100000 in
set_option maxHeartbeats 4000000 in
theorem groups_any (w : World) : Calls Tryd.prog 23 #[] w fun e w' => e = .returned (.slice (some ⟨w.heap.size, 0, none⟩) 35 35) ∧ w' = w.alloc (.cells (rowsArr groupsL) 51) := by
  go_enter Tryd.func23, Tryd.ntmps23
  go_wp2_with (refine Go.Great.wpList_buildSliceTo rfl 56 51 35 _ rfl _ rfl _ rfl Tryd.underlying56 (rowsArr groupsL) (by kernel_rfl) ?_)
  go_ret
  exact ⟨rfl, rfl⟩
end Go.Proofs.YtakklljpngeocaaDoor

/- The reference's word. -/
namespace Go.Proofs.YtakklljpngeocaaDoor
set_option linter.unusedVariables false
open Go.RowKit

abbrev wordV (o : Option (List UInt8)) : Value := .tuple #[.string (S (o.getD [])), .bool o.isSome]
def WordPost (o : Option (List UInt8)) (w : World) (e : Ending) (w' : World) : Prop := e = .returned (wordV o) ∧ ∃ m, w' = w.drewN m
/-- What the loop still owes; h is 0 where no head is known yet, else the head and one. -/
def Owes (s : List UInt8) (o : Option (List UInt8)) (k : Nat) (h : Int) (f : Nat) (m : Int) : Prop := wordGo s (s.length + 1 - k) k h f m = o
theorem owes_skip {s : List UInt8} {o : Option (List UInt8)} {k : Nat} {h : Int} {f : Nat} {m : Int} (H : Owes s o k h f m) (hk : k < s.length) (hc : s[k] ≠ 32) : Owes s o (k + 1) h f m := by
  unfold Owes at *
  have e : s.length + 1 - k = (s.length + 1 - (k + 1)) + 1 := by omega
  rw [e, wordGo, if_pos ⟨hk, by rw [List.getD, List.getElem?_eq_getElem hk]; exact hc⟩] at H
  exact H
theorem owes_no {s : List UInt8} {k : Nat} (hk : k ≤ s.length) (hc : ∀ h : k < s.length, s[k] = 32) : ¬ (k < s.length ∧ s.getD k 0 ≠ 32) := by
  rintro ⟨h1, h2⟩
  apply h2
  rw [List.getD, List.getElem?_eq_getElem h1]
  exact hc h1
theorem owes_head {s : List UInt8} {o : Option (List UInt8)} {k f : Nat} {m : Int} (H : Owes s o k (-1) f m) (hk : k ≤ s.length) (hc : ∀ h : k < s.length, s[k] = 32) : Owes s o (k + 1) k (k + 1) m := by
  unfold Owes at *
  have e : s.length + 1 - k = (s.length + 1 - (k + 1)) + 1 := by omega
  rw [e, wordGo, if_neg (owes_no hk hc), if_pos (by omega)] at H
  exact H
theorem owes_next {s : List UInt8} {o : Option (List UInt8)} {k h f : Nat} {m : Int} (H : Owes s o k h f m) (hk : k ≤ s.length) (hc : ∀ h : k < s.length, s[k] = 32) (hm : m ≠ 0) : Owes s o (k + 1) h (k + 1) (m - 1) := by
  unfold Owes at *
  have e : s.length + 1 - k = (s.length + 1 - (k + 1)) + 1 := by omega
  rw [e, wordGo, if_neg (owes_no hk hc), if_neg (by omega), if_neg hm] at H
  exact H
theorem owes_end {s : List UInt8} {o : Option (List UInt8)} {k h f : Nat} (H : Owes s o k h f 0) (hk : k ≤ s.length) (hc : ∀ h : k < s.length, s[k] = 32) : o = some (s.take h ++ (s.drop f).take (k - f)) := by
  unfold Owes at *
  have e : s.length + 1 - k = (s.length + 1 - (k + 1)) + 1 := by omega
  rw [e, wordGo, if_neg (owes_no hk hc), if_neg (by omega), if_pos rfl] at H
  exact H.symm
theorem owes_none {s : List UInt8} {o : Option (List UInt8)} {k f : Nat} {h m : Int} (H : Owes s o k h f m) (hk : s.length < k) : o = none := by
  unfold Owes at *
  have e : s.length + 1 - k = 0 := by omega
  rw [e, wordGo] at H
  exact H.symm
/-- The head's slot. -/
def HeadIs (n : Nat) (v : Value) (h : Int) : Prop := (h = -1 ∧ v = .int .i64 (-1)) ∨ ∃ j : Nat, h = j ∧ j ≤ n ∧ v = .int .i64 (j : Int)
theorem word_ret {s : List UInt8} {o : Option (List UInt8)} {j f k : Nat} (h : o = some (s.take j ++ (s.drop f).take (k - f))) : Ending.returned (.tuple #[.string ((S s).extract 0 j ++ (S s).extract f k), .bool true]) = .returned (wordV o) := by
  subst h
  rw [S_extract, S_extract, S_append]
  rfl
set_option maxRecDepth 100000 in
theorem word_any (s : List UInt8) (n : Nat) (w : World) (hs : s.length ≤ 1000) (hn : n ≤ 255) : Calls Tryd.prog 24 #[.string (S s), .int .i64 n] w (WordPost (wordR s n) w) := by
  have H0 : Owes s (wordR s n) 0 (-1) 0 n := rfl
  obtain ⟨o, ho⟩ : ∃ o, o = wordR s n := ⟨_, rfl⟩
  rw [← ho] at H0 ⊢
  clear ho
  have HO := Lib.hid H0
  clear H0
  have hz : (S s).size ≤ 1000 := by rw [S_size]; exact hs
  have HS := Lib.hid (S_size s)
  go_enter Tryd.func24, Tryd.ntmps24
  go_wp2
  go_loop [1, 6, 7, 8] (fun n hd fr i => ∃ (k f : Nat) (h m : Int), k ≤ (S s).size + 1 ∧ i = .int .i64 k ∧ HeadIs (S s).size hd h ∧ f ≤ k ∧ fr = .int .i64 f ∧ 0 ≤ m ∧ m ≤ 255 ∧ n = .int .i64 m ∧ Hid (Owes s o k h f m)) (fun _ _ _ i => (S s).size + 1 - (intOf i).toNat)
  case atStart => exact ⟨0, 0, -1, n, by omega, rfl, .inl ⟨rfl, rfl⟩, by omega, rfl, by omega, by omega, rfl, HO⟩
  case round =>
    obtain ⟨k, f, h, m, hk, rfl, hh, hf, rfl, hm0, hm, rfl, HX⟩ := hrel
    clear HO
    by_cases hlt : k < (S s).size
    · have hl : k < s.length := by rw [← HS.out]; exact hlt
      by_cases hc : s[k] = 32
      · have hq : ((((S s)[k]'hlt).toNat : Int) != 32) = false := by rw [S_get s k hlt, hc]; rfl
        have HC := Lib.hid hc
        clear hc
        rcases hh with ⟨rfl, rfl⟩ | ⟨j, rfl, hj, rfl⟩
        · go_wp2
          go_round
          case rel => exact ⟨k + 1, k + 1, k, m, by omega, by go_num, .inr ⟨k, rfl, by omega, rfl⟩, by omega, by go_num, hm0, hm, rfl, Lib.hid (owes_head HX.out (by omega) (fun _ => HC.out))⟩
          case measure => simp [intOf]; omega
        · have hjn : decide ((j : Int) < 0) = false := by simp
          by_cases hmz : m = 0
          · subst hmz
            have x1 : ((S s).extract 0 j).size ≤ 1000 := by rw [S_extract, S_size]; simp; omega
            have x2 : ((S s).extract f k).size ≤ 1000 := by rw [S_extract, S_size]; simp; omega
            have x3 : ¬ 9223372036854775807 < ((S s).extract 0 j).size + ((S s).extract f k).size := by omega
            have i1 : (j : Int) ≤ ((S s).size : Int) := by omega
            have i2 : (f : Int) ≤ (k : Int) := by omega
            have i3 : (k : Int) ≤ ((S s).size : Int) := by omega
            clear x1 x2
            go_wp2
            go_quiet (fail)
            go_wp2
            go_ret2
            exact ⟨word_ret (owes_end HX.out (by omega) (fun _ => HC.out)), _, rfl⟩
          · have hmq : (m == 0) = false := by simpa using hmz
            have HM := Lib.hid hmz
            clear hmz
            go_wp2
            go_round
            case rel => exact ⟨k + 1, k + 1, j, m - 1, by omega, by go_num, .inr ⟨j, rfl, by omega, rfl⟩, by omega, by go_num, by have := HM.out; omega, by omega, rfl, Lib.hid (owes_next HX.out (by omega) (fun _ => HC.out) HM.out)⟩
            case measure => simp [intOf]; omega
      · have hq : ((((S s)[k]'hlt).toNat : Int) != 32) = true := by
          rw [S_get s k hlt]
          simp only [bne_iff_ne, ne_eq]
          exact fun e => hc (u8_ext (by have e2 : s[k].toNat = 32 := by exact_mod_cast e
                                        exact e2))
        have HC := Lib.hid hc
        clear hc
        go_wp2
        go_round
        case rel => exact ⟨k + 1, f, h, m, by omega, by go_num, hh, by omega, rfl, hm0, hm, rfl, Lib.hid (owes_skip HX.out hl HC.out)⟩
        case measure => simp [intOf]; omega
    · by_cases hle : k ≤ (S s).size
      · have HC := Lib.hid (show ∀ h : k < s.length, s[k] = 32 from fun h => absurd (by rw [← HS.out] at h; exact h) hlt)
        rcases hh with ⟨rfl, rfl⟩ | ⟨j, rfl, hj, rfl⟩
        · go_wp2
          go_round
          case rel => exact ⟨k + 1, k + 1, k, m, by omega, by go_num, .inr ⟨k, rfl, by omega, rfl⟩, by omega, by go_num, hm0, hm, rfl, Lib.hid (owes_head HX.out (by rw [← HS.out]; exact hle) HC.out)⟩
          case measure => simp [intOf]; omega
        · have hjn : decide ((j : Int) < 0) = false := by simp
          by_cases hmz : m = 0
          · subst hmz
            have x1 : ((S s).extract 0 j).size ≤ 1000 := by rw [S_extract, S_size]; simp; omega
            have x2 : ((S s).extract f k).size ≤ 1000 := by rw [S_extract, S_size]; simp; omega
            have x3 : ¬ 9223372036854775807 < ((S s).extract 0 j).size + ((S s).extract f k).size := by omega
            have i1 : (j : Int) ≤ ((S s).size : Int) := by omega
            have i2 : (f : Int) ≤ (k : Int) := by omega
            have i3 : (k : Int) ≤ ((S s).size : Int) := by omega
            clear x1 x2
            go_wp2
            go_quiet (fail)
            go_wp2
            go_ret2
            exact ⟨word_ret (owes_end HX.out (by rw [← HS.out]; exact hle) HC.out), _, rfl⟩
          · have hmq : (m == 0) = false := by simpa using hmz
            have HM := Lib.hid hmz
            clear hmz
            go_wp2
            go_round
            case rel => exact ⟨k + 1, k + 1, j, m - 1, by omega, by go_num, .inr ⟨j, rfl, by omega, rfl⟩, by omega, by go_num, by have := HM.out; omega, by omega, rfl, Lib.hid (owes_next HX.out (by rw [← HS.out]; exact hle) HC.out HM.out)⟩
            case measure => simp [intOf]; omega
      · clear hh
        have HE := Lib.hid (owes_none HX.out (by rw [← HS.out]; omega))
        go_wp2
        go_ret2
        exact ⟨by rw [HE.out]; rfl, 0, rfl⟩
end Go.Proofs.YtakklljpngeocaaDoor

/- The reference's Of. -/
namespace Go.Proofs.YtakklljpngeocaaDoor
set_option linter.unusedVariables false
open Go.RowKit

theorem rows_get (l : List RowR) (i : Nat) (h : i < l.length) : (rowsArr l)[i * 6]? = some (.int .i64 (l.getD i row0).op) ∧ (rowsArr l)[i * 6 + 1]? = some (.string (S (l.getD i row0).name)) ∧ (rowsArr l)[i * 6 + 2]? = some (.int .i64 (l.getD i row0).imm) ∧
    (rowsArr l)[i * 6 + 3]? = some (.string (S (l.getD i row0).takes)) ∧ (rowsArr l)[i * 6 + 4]? = some (.string (S (l.getD i row0).has)) ∧ (rowsArr l)[i * 6 + 5]? = some (.bool (l.getD i row0).free) := by
  unfold rowsArr
  simp only [List.getElem?_toArray]
  induction l generalizing i with
  | nil => simp at h
  | cons x r ih =>
    cases i with
    | zero => exact ⟨rfl, rfl, rfl, rfl, rfl, rfl⟩
    | succ i =>
      have := ih i (by simpa using h)
      have e : (i + 1) * 6 = i * 6 + 1 + 1 + 1 + 1 + 1 + 1 := by omega
      rw [e]
      exact this
theorem rows_bd : ∀ i, i < 35 → (groupsL.getD i row0).name.length ≤ 1000 ∧ (groupsL.getD i row0).op ≤ 255 := by decide +kernel
def RowCells (w : World) (b i : Nat) (r : RowR) : Prop :=
  w.cell? ⟨b, i * 6, none⟩ = some (.int .i64 r.op) ∧ w.cell? ⟨b, i * 6 + 1, none⟩ = some (.string (S r.name)) ∧ w.cell? ⟨b, i * 6 + 2, none⟩ = some (.int .i64 r.imm) ∧
  w.cell? ⟨b, i * 6 + 3, none⟩ = some (.string (S r.takes)) ∧ w.cell? ⟨b, i * 6 + 4, none⟩ = some (.string (S r.has)) ∧ w.cell? ⟨b, i * 6 + 5, none⟩ = some (.bool r.free)
theorem rows_cells {w : World} {b : Nat} {l : List RowR} (h : Whole w b 51 (rowsArr l)) (i : Nat) (hi : i < l.length) : RowCells w b i (l.getD i row0) := by
  obtain ⟨a0, a1, a2, a3, a4, a5⟩ := rows_get l i hi
  exact ⟨(h.cell _).trans a0, (h.cell _).trans a1, (h.cell _).trans a2, (h.cell _).trans a3, (h.cell _).trans a4, (h.cell _).trans a5⟩

/-- What Of hands back. -/
abbrev rowAgg (r : RowR) : Value := .agg #[.int .i64 r.op, .string (S r.name), .int .i64 r.imm, .string (S r.takes), .string (S r.has), .bool r.free]
abbrev refV (o : Option RowR) : Value := .tuple #[rowAgg (o.getD row0), .bool o.isSome]
def RefPost (o : Option RowR) (w : World) (e : Ending) (w' : World) : Prop := e = .returned (refV o) ∧ Below w.heap.size w w'
/-- The loop's counter: k rows are left. -/
def Left6 (k : Nat) (v : Value) : Prop := v = .int .i64 ((k : Int) - 1)
theorem word_at (s : List UInt8) (n p : Nat) (o : Option (List UInt8)) (ho : wordR s ((n : Int) - p) = o) (hs : s.length ≤ 1000) (hn : n ≤ 255) (hp : p ≤ n) (w : World) : Calls Tryd.prog 24 #[.string (S s), .int .i64 ((n : Int) - p)] w fun e w' => e = .returned (wordV o) ∧ ∃ m, w' = w.drewN m := by
  have e : ((n - p : Nat) : Int) = (n : Int) - p := by omega
  have := word_any s (n - p) w hs (by omega)
  rw [e, ho] at this
  exact this
structure Held6 (w w2 : World) (j : Nat) (r : RowR) : Prop where
  hz : w.heap.size + 2 ≤ w2.heap.size
  hb : Below w.heap.size w w2
  hR : Whole w2 w.heap.size 51 #[.int .i64 0, .string ⟨#[]⟩, .int .i64 0, .string ⟨#[]⟩, .string ⟨#[]⟩, .bool false]
  hc : RowCells w2 (w.heap.size + 1) j r
theorem below_drewN {B : Nat} {a w : World} (h : Below B a w) (n : Nat) : Below B a (w.drewN n) := ⟨h.os, h.tape, h.output, h.size, h.block⟩
theorem six_put {w w1 : World} {B b : Nat} (h : Below B w w1) (hb : B ≤ b) (x0 x1 x2 x3 x4 x5 : Value) : Below B w ((((((w1.setCell ⟨b, 0, none⟩ x0).setCell ⟨b, 1, none⟩ x1).setCell ⟨b, 2, none⟩ x2).setCell ⟨b, 3, none⟩ x3).setCell ⟨b, 4, none⟩ x4).setCell ⟨b, 5, none⟩ x5) :=
  (((((h.setCell hb _).setCell hb _).setCell hb _).setCell hb _).setCell hb _).setCell hb _
set_option maxRecDepth 100000 in
theorem ref_any (n : Nat) (w : World) (hn : n ≤ 255) : Calls Tryd.prog 22 #[.int .i64 n] w (RefPost (refR n) w) := by
  obtain ⟨o, ho⟩ : ∃ o, o = refR n := ⟨_, rfl⟩
  have HO := Lib.hid (show ofGo n 35 = o from ho.symm)
  rw [← ho]
  clear ho
  go_enter Tryd.func22, Tryd.ntmps22
  go_wp2_with (go_at_call 23; go_must (refine (groups_any _).mono ?_; rintro e w1 ⟨rfl, hw1⟩; have HW := Lib.hid hw1; clear hw1))
  have hz : w.heap.size + 2 ≤ w1.heap.size := by rw [HW.out]; simp
  have HB := Lib.hid (show Below w.heap.size w w1 by rw [HW.out]; exact ((Below.refl _ _).alloc (Nat.le_refl _) _).alloc (by simp) _)
  have HG := Lib.hid (show Whole w1 (w.heap.size + 1) 51 (rowsArr groupsL) by
    rw [HW.out]
    have := Whole.made (w.alloc (.cells #[.int .i64 0, .string ⟨#[]⟩, .int .i64 0, .string ⟨#[]⟩, .string ⟨#[]⟩, .bool false] 51)) 51 (rowsArr groupsL)
    simpa using this)
  have HR := Lib.hid (show Whole w1 w.heap.size 51 #[.int .i64 0, .string ⟨#[]⟩, .int .i64 0, .string ⟨#[]⟩, .string ⟨#[]⟩, .bool false] by
    rw [HW.out]
    exact (Whole.made w 51 #[.int .i64 0, .string ⟨#[]⟩, .int .i64 0, .string ⟨#[]⟩, .string ⟨#[]⟩, .bool false]).alloc _)
  clear HW
  have z0 : w1.cell? ⟨w.heap.size, 0, none⟩ = some (.int .i64 0) := HR.out.cell 0
  have z1 : w1.cell? ⟨w.heap.size, 1, none⟩ = some (.string ⟨#[]⟩) := HR.out.cell 1
  have z2 : w1.cell? ⟨w.heap.size, 2, none⟩ = some (.int .i64 0) := HR.out.cell 2
  have z3 : w1.cell? ⟨w.heap.size, 3, none⟩ = some (.string ⟨#[]⟩) := HR.out.cell 3
  have z4 : w1.cell? ⟨w.heap.size, 4, none⟩ = some (.string ⟨#[]⟩) := HR.out.cell 4
  have z5 : w1.cell? ⟨w.heap.size, 5, none⟩ = some (.bool false) := HR.out.cell 5
  have f0 := HR.out.frozen 0
  have f1 := HR.out.frozen 1
  have f2 := HR.out.frozen 2
  have f3 := HR.out.frozen 3
  have f4 := HR.out.frozen 4
  have f5 := HR.out.frozen 5
  go_loop [5] (fun i => ∃ k : Nat, k ≤ 35 ∧ Left6 k i ∧ Hid (ofGo n k = o)) (fun i => (intOf i + 1).toNat)
  case atStart => exact ⟨35, by omega, rfl, HO⟩
  case round =>
    obtain ⟨k, hk, hi, HX⟩ := hrel
    clear HO
    cases k with
    | zero =>
      obtain rfl : u5 = .int .i64 (-1) := hi
      have HE := Lib.hid (show o = none from HX.out.symm)
      go_wp2
      exact bodyPost_ret (v := .tuple #[.agg #[.int .i64 0, .string ⟨#[]⟩, .int .i64 0, .string ⟨#[]⟩, .string ⟨#[]⟩, .bool false], .bool false]) (by simp [results, Tryd.results22, go_sem, z0, z1, z2, z3, z4, z5]) rfl ⟨by rw [HE.out]; rfl, six_put HB.out (Nat.le_refl _) _ _ _ _ _ _⟩
    | succ j =>
      obtain rfl : u5 = .int .i64 (j : Int) := hi.trans (by congr 1; omega)
      have hj : j < 35 := by omega
      obtain ⟨b1, b2⟩ := rows_bd j hj
      obtain ⟨c0, c1, c2, c3, c4, c5⟩ := rows_cells HG.out j (show j < groupsL.length from hj)
      have HX' : ofGo n (j + 1) = o := HX.out
      unfold ofGo at HX'
      dsimp only at HX'
      obtain ⟨r, hr⟩ : ∃ r, r = groupsL.getD j row0 := ⟨_, rfl⟩
      rw [← hr] at b1 b2 c0 c1 c2 c3 c4 c5 HX'
      clear hr HX
      by_cases hle : r.op ≤ n
      · rw [if_pos hle] at HX'
        have hd : decide (n < r.op) = false := by simpa using hle
        have hw1 : IntKind.i64.wrap ((n : Int) - r.op) = (n : Int) - r.op := IntWalk.i64_in _ (by omega)
        have k0 : 0 ≤ (j : Int) := by omega
        have k1 : (j : Int) < 35 := by omega
        cases hwd : wordR r.name ((n : Int) - r.op) with
        | none =>
          rw [hwd] at HX'
          have HE := Lib.hid (show o = none from HX'.symm)
          have HQ := Lib.hid (word_at r.name n r.op none hwd b1 hn hle)
          clear hwd HX' b1 b2 hle
          go_wp2
          go_quiet ((go_at_call 24; exact Calls.quiet_of (HQ.out _)))
          go_wp2
          exact bodyPost_ret (v := .tuple #[.agg #[.int .i64 0, .string ⟨#[]⟩, .int .i64 0, .string ⟨#[]⟩, .string ⟨#[]⟩, .bool false], .bool false]) (by simp [results, Tryd.results22, go_sem, z0, z1, z2, z3, z4, z5]) rfl ⟨by rw [HE.out]; rfl, six_put (below_drewN HB.out _) (Nat.le_refl _) _ _ _ _ _ _⟩
        | some s =>
          rw [hwd] at HX'
          have HE := Lib.hid (show o = some ⟨n, s, r.imm, r.takes, r.has, r.free⟩ from HX'.symm)
          have HQ := Lib.hid (word_at r.name n r.op (some s) hwd b1 hn hle)
          clear hwd HX' b1 b2 hle
          go_wp2
          go_quiet ((go_at_call 24; exact Calls.quiet_of (HQ.out _)))
          have HH := Lib.hid (show Held6 w (w1.drewN nq) j r from ⟨hz, below_drewN HB.out _, HR.out, ⟨c0, c1, c2, c3, c4, c5⟩⟩)
          clear hz HB HR z0 z1 z2 z3 z4 z5 f0 f1 f2 f3 f4 f5 c0 c1 c2 c3 c4 c5
          generalize w1.drewN nq = w2 at HH ⊢
          obtain ⟨hz, hb, hR, c0, c1, c2, c3, c4, c5⟩ := HH.out
          have HB := Lib.hid hb
          have HR := Lib.hid hR
          clear HH hb hR
          have z0 : w2.cell? ⟨w.heap.size, 0, none⟩ = some (.int .i64 0) := HR.out.cell 0
          have z1 : w2.cell? ⟨w.heap.size, 1, none⟩ = some (.string ⟨#[]⟩) := HR.out.cell 1
          have z2 : w2.cell? ⟨w.heap.size, 2, none⟩ = some (.int .i64 0) := HR.out.cell 2
          have z3 : w2.cell? ⟨w.heap.size, 3, none⟩ = some (.string ⟨#[]⟩) := HR.out.cell 3
          have z4 : w2.cell? ⟨w.heap.size, 4, none⟩ = some (.string ⟨#[]⟩) := HR.out.cell 4
          have z5 : w2.cell? ⟨w.heap.size, 5, none⟩ = some (.bool false) := HR.out.cell 5
          have f0 := HR.out.frozen 0
          have f1 := HR.out.frozen 1
          have f2 := HR.out.frozen 2
          have f3 := HR.out.frozen 3
          have f4 := HR.out.frozen 4
          have f5 := HR.out.frozen 5
          have hlt1 : w.heap.size < w2.heap.size := by omega
          have hlt2 : w.heap.size + 1 < w2.heap.size := by omega
          go_wp2
          exact bodyPost_ret (v := .tuple #[.agg #[.int .i64 n, .string (S s), .int .i64 r.imm, .string (S r.takes), .string (S r.has), .bool r.free], .bool true]) (by simp [results, Tryd.results22, go_sem, z0, z1, z2, z3, z4, z5, hlt1]) rfl ⟨by rw [HE.out]; rfl, (six_put HB.out (Nat.le_refl _) _ _ _ _ _ _).alloc (by simp; omega) _⟩
      · rw [if_neg hle] at HX'
        have hd : decide (n < r.op) = true := by simpa using hle
        have HX := Lib.hid HX'
        clear HX'
        go_wp2
        go_round
        case rel => exact ⟨j, by omega, rfl, HX⟩
        case measure => simp [intOf]
end Go.Proofs.YtakklljpngeocaaDoor

/- The reference's Types, Float, Check. -/
namespace Go.Proofs.YtakklljpngeocaaDoor
set_option linter.unusedVariables false
open Go.RowKit

end Go.Proofs.YtakklljpngeocaaDoor

/- Find. -/
namespace Go.Proofs.YtakklljpngeocaaDoor
set_option linter.unusedVariables false
open Go.RowKit

end Go.Proofs.YtakklljpngeocaaDoor

/- The reference's Access. -/
namespace Go.Proofs.YtakklljpngeocaaDoor
set_option linter.unusedVariables false
open Go.RowKit

/-- What Access hands back. -/
def refAccV (o : Option (Nat × Bool × Bool × Bool)) : Value := match o with
  | some (n, l, w, g) => .tuple #[.int .i64 (n : Int), .bool l, .bool w, .bool g, .bool true]
  | none => .tuple #[.int .i64 0, .bool false, .bool false, .bool false, .bool false]
def AccessPost (o : Option (Nat × Bool × Bool × Bool)) (w : World) (e : Ending) (w' : World) : Prop := e = .returned (refAccV o) ∧ Below w.heap.size w w'
/-- The names of accesses are at least three bytes long, and short. -/
theorem acc_bd : ∀ n, n < 256 → (match refR n with | some r => decide (r.imm = 8 → 3 ≤ r.name.length ∧ r.name.length ≤ 100 ∧ r.takes.length ≤ 2) | none => true) = true := by decide +kernel
theorem results_tmp5 {P : Program} {fn : Func} {t u v x y : Tmp} (h : fn.results = #[.tmp t, .tmp u, .tmp v, .tmp x, .tmp y]) (tmps : Array Value) (w : World) :
    (results fn tmps).run P w = .ok (.tuple #[tmps.getD t undef, tmps.getD u undef, tmps.getD v undef, tmps.getD x undef, tmps.getD y undef]) w := by
  simp [results, h]
set_option maxRecDepth 100000 in
theorem refAcc_none (n : Nat) (w : World) (hn : n ≤ 255) (h : refR n = none) : Calls Tryd.prog 18 #[.int .i64 n] w (AccessPost (refAcc n) w) := by
  have HE := Lib.hid (show refAcc n = none by unfold refAcc; rw [h])
  have HR := Lib.hid (fun W => by have := ref_any n W hn; rw [h] at this; exact this)
  clear h
  go_enter Tryd.func18, Tryd.ntmps18
  go_wp2_with (go_at_call 22; go_must (refine (HR.out _).mono ?_; rintro e w2 ⟨rfl, hb2⟩; have HB2 := Lib.hid hb2; have hz2 := hb2.size; clear hb2))
  refine bodyPost_ret (results_tmp5 rfl _ _) rfl ?_
  exact ⟨by rw [HE.out]; rfl, HB2.out.alloc hz2 _⟩
set_option maxRecDepth 100000 in
theorem refAcc_other (n : Nat) (w : World) (hn : n ≤ 255) (r : RowR) (h : refR n = some r) (hi : r.imm ≠ 8) : Calls Tryd.prog 18 #[.int .i64 n] w (AccessPost (refAcc n) w) := by
  have HE := Lib.hid (show refAcc n = none by unfold refAcc; rw [h]; exact if_neg hi)
  have HR := Lib.hid (fun W => by have := ref_any n W hn; rw [h] at this; exact this)
  have h8 : ((r.imm : Int) != 8) = true := by simp; omega
  clear h hi
  go_enter Tryd.func18, Tryd.ntmps18
  go_wp2_with (go_at_call 22; go_must (refine (HR.out _).mono ?_; rintro e w2 ⟨rfl, hb2⟩; have HB2 := Lib.hid hb2; have hz2 := hb2.size; clear hb2))
  refine bodyPost_ret (results_tmp5 rfl _ _) rfl ?_
  exact ⟨by rw [HE.out]; rfl, HB2.out.alloc hz2 _⟩
theorem ext_two (s : List UInt8) (k : Nat) : ((S s).extract k (k + 2)).toList = (s.drop k).take 2 := by
  rw [S_extract, S_toList, show k + 2 - k = 2 by omega]
theorem long_eq (s : List UInt8) : accLong s = (((S s).extract 0 3).toList == [105, 54, 52]) := by
  rw [S_extract, S_toList]
  rfl
theorem step_lo {s : List UInt8} {m k : Nat} (h : k < 3) : accStep s m k = m := if_pos h
theorem step_8 {s : List UInt8} {m k : Nat} (h : ¬ k < 3) (hk : k < s.length) (hc : s[k] = 56) : accStep s m k = 1 := by
  unfold accStep
  rw [if_neg h, if_pos (by rw [List.getD, List.getElem?_eq_getElem hk]; exact hc)]
theorem step_16 {s : List UInt8} {m k : Nat} (h : ¬ k < 3) (hk : k < s.length) (hc : s[k] ≠ 56) (h1 : (((S s).extract k (k + 2)).toList == [49, 54]) = true) : accStep s m k = 2 := by
  rw [ext_two] at h1
  unfold accStep
  rw [if_neg h, if_neg (by rw [List.getD, List.getElem?_eq_getElem hk]; exact hc), if_pos (by simpa using h1)]
theorem step_32 {s : List UInt8} {m k : Nat} (h : ¬ k < 3) (hk : k < s.length) (hc : s[k] ≠ 56) (h1 : (((S s).extract k (k + 2)).toList == [49, 54]) = false) (h2 : (((S s).extract k (k + 2)).toList == [51, 50]) = true) : accStep s m k = 4 := by
  rw [ext_two] at h1 h2
  unfold accStep
  rw [if_neg h, if_neg (by rw [List.getD, List.getElem?_eq_getElem hk]; exact hc), if_neg (by simpa using h1), if_pos (by simpa using h2)]
theorem step_no {s : List UInt8} {m k : Nat} (h : ¬ k < 3) (hk : k < s.length) (hc : s[k] ≠ 56) (h1 : (((S s).extract k (k + 2)).toList == [49, 54]) = false) (h2 : (((S s).extract k (k + 2)).toList == [51, 50]) = false) : accStep s m k = m := by
  rw [ext_two] at h1 h2
  unfold accStep
  rw [if_neg h, if_neg (by rw [List.getD, List.getElem?_eq_getElem hk]; exact hc), if_neg (by simpa using h1), if_neg (by simpa using h2)]
/-- What the loop has found behind k rounds. -/
def accTo (s : List UInt8) (k : Nat) : Nat := (List.range k).foldl (accStep s) (if accLong s = true then 8 else 4)
theorem accTo_succ (s : List UInt8) (k : Nat) : accTo s (k + 1) = accStep s (accTo s k) k := by
  unfold accTo
  rw [List.range_succ, List.foldl_append]
  rfl
theorem byte_is {s : List UInt8} {k : Nat} (h : k < (S s).size) (h' : k < s.length) (c : UInt8) : ((((S s)[k]'h).toNat : Int) == (c.toNat : Int)) = (s[k] == c) := by
  rw [S_get s k h, Bool.eq_iff_iff]
  simp only [beq_iff_eq]
  constructor
  · intro e
    exact u8_ext (by exact_mod_cast e)
  · intro e; rw [e]
theorem acc_ret {n : Nat} {r : RowR} {l : Bool} {b : Nat} (h : refAcc n = some (accBytes r.name, accLong r.name, decide (r.takes.length = 2), r.name.drop (r.name.length - 2) == [95, 115])) (hl : accLong r.name = l) (hb : accBytes r.name = b) :
    Ending.returned (.tuple #[.int .i64 (b : Int), .bool l, .bool (((S r.takes).size : Int) == 2), .bool (((S r.name).extract ((S r.name).size - 2) (S r.name).size).toList == [95, 115]), .bool true]) = .returned (refAccV (refAcc n)) := by
  rw [h, hl, hb]
  have e1 : ((((S r.takes).size : Nat) : Int) == 2) = decide (r.takes.length = 2) := by
    rw [S_size, Bool.eq_iff_iff]
    simp only [beq_iff_eq, decide_eq_true_eq]
    omega
  have e2 : ((S r.name).extract ((S r.name).size - 2) (S r.name).size).toList = r.name.drop (r.name.length - 2) := by
    rw [S_extract, S_toList, S_size, List.take_of_length_le (by simp)]
  rw [e1, e2]
  rfl
theorem accBytes_8 {s : List UInt8} (h : (S s).size - 1 < s.length) (hc : s[(S s).size - 1] = 56) : accBytes s = 1 := by
  unfold accBytes
  refine if_pos ?_
  rw [List.getD, List.getElem?_eq_getElem (by rw [S_size] at h; exact h)]
  simp only [S_size] at hc
  exact hc
theorem accBytes_no {s : List UInt8} {k m : Nat} (h : (S s).size - 1 < s.length) (hc : s[(S s).size - 1] ≠ 56) (hk : k = (S s).size - 1) (hm : m = accTo s k) : accBytes s = m := by
  unfold accBytes
  rw [hm, hk, S_size]
  refine if_neg ?_
  rw [List.getD, List.getElem?_eq_getElem (by rw [S_size] at h; exact h)]
  simp only [S_size] at hc
  exact hc
set_option maxHeartbeats 1000000 in
set_option maxRecDepth 100000 in
theorem refAcc_yes (n : Nat) (w : World) (hn : n ≤ 255) (r : RowR) (h : refR n = some r) (hi : r.imm = 8) (h3 : 3 ≤ r.name.length) (h4 : r.name.length ≤ 100) (h5 : r.takes.length ≤ 2) : Calls Tryd.prog 18 #[.int .i64 n] w (AccessPost (refAcc n) w) := by
  have HE := Lib.hid (show refAcc n = some (accBytes r.name, accLong r.name, decide (r.takes.length = 2), r.name.drop (r.name.length - 2) == [95, 115]) by unfold refAcc; rw [h]; exact if_pos hi)
  have HR := Lib.hid (fun W => by have := ref_any n W hn; rw [h] at this; exact this)
  have h8 : ((r.imm : Int) != 8) = false := by simp; omega
  have z1 : (S r.name).size ≤ 100 := by rw [S_size]; exact h4
  have z2 : 3 ≤ (S r.name).size := by rw [S_size]; exact h3
  have z3 : (S r.takes).size ≤ 2 := by rw [S_size]; exact h5
  have HS := Lib.hid (S_size r.name)
  have HT := Lib.hid (S_size r.takes)
  clear h hi h3 h4 h5
  rcases Bool.eq_false_or_eq_true (((S r.name).extract 0 3).toList == [105, 54, 52]) with hL | hL
  all_goals
    have HL := Lib.hid ((long_eq r.name).trans hL)
    go_enter Tryd.func18, Tryd.ntmps18
    go_wp2_with (go_at_call 22; go_must (refine (HR.out _).mono ?_; rintro e w2 ⟨rfl, hb2⟩; have HB2 := Lib.hid hb2; have hz2 := hb2.size; clear hb2))
    go_loop [10, 11] (fun nv i => ∃ k m : Nat, k + 1 ≤ (S r.name).size ∧ i = .int .i64 k ∧ nv = .int .i64 m ∧ Hid (m = accTo r.name k)) (fun _ i => (S r.name).size - (intOf i).toNat)
    case atStart => first | exact ⟨0, 8, by omega, rfl, rfl, Lib.hid (by unfold accTo; rw [HL.out]; rfl)⟩ | exact ⟨0, 4, by omega, rfl, rfl, Lib.hid (by unfold accTo; rw [HL.out]; rfl)⟩
    case round =>
      obtain ⟨k, m, hk, rfl, rfl, HM⟩ := hrel
      by_cases hlt : k + 1 < (S r.name).size
      · have hlt0 : k < (S r.name).size := by omega
        have hl : k < r.name.length := by rw [← HS.out]; exact hlt0
        by_cases h3 : k < 3
        · go_wp2
          go_round
          case rel => exact ⟨k + 1, m, by omega, by go_num, rfl, Lib.hid (by rw [accTo_succ, step_lo h3, HM.out])⟩
          case measure => simp [intOf]; omega
        · have hq := byte_is hlt0 hl 56
          by_cases hc : r.name[k] = 56
          · have hq1 : ((((S r.name)[k]'hlt0).toNat : Int) == 56) = true := hq.trans (by rw [hc]; rfl)
            have HC := Lib.hid hc
            clear hc hq
            go_wp2
            go_round
            case rel => exact ⟨k + 1, 1, by omega, by go_num, rfl, Lib.hid (by rw [accTo_succ, step_8 h3 hl HC.out])⟩
            case measure => simp [intOf]; omega
          · have hq1 : ((((S r.name)[k]'hlt0).toNat : Int) == 56) = false := hq.trans (by simpa using hc)
            have HC := Lib.hid hc
            clear hc hq
            have hsl : ∀ wx, (Instr.slice 9 (.string (S r.name)) (some (.int .i64 (k : Int))) (some (.int .i64 ((k : Int) + 2))) none).run Tryd.prog wx = .ok (.string ((S r.name).extract k (k + 2))) wx := fun wx => by
              have := run_slice_string (P := Tryd.prog) wx 9 (S r.name) .i64 .i64 (k : Int) ((k : Int) + 2) Tryd.underlying9 (by omega) (by omega) (by omega)
              rwa [show ((k : Int)).toNat = k by omega, show ((k : Int) + 2).toNat = k + 2 by omega] at this
            rcases Bool.eq_false_or_eq_true (((S r.name).extract k (k + 2)).toList == [49, 54]) with t1 | t1
            · have HT1 := Lib.hid t1
              go_wp2
              go_round
              case rel => exact ⟨k + 1, 2, by omega, by go_num, rfl, Lib.hid (by rw [accTo_succ, step_16 h3 hl HC.out HT1.out])⟩
              case measure => simp [intOf]; omega
            · have HT1 := Lib.hid t1
              rcases Bool.eq_false_or_eq_true (((S r.name).extract k (k + 2)).toList == [51, 50]) with t2 | t2
              · have HT2 := Lib.hid t2
                go_wp2
                go_round
                case rel => exact ⟨k + 1, 4, by omega, by go_num, rfl, Lib.hid (by rw [accTo_succ, step_32 h3 hl HC.out HT1.out HT2.out])⟩
                case measure => simp [intOf]; omega
              · have HT2 := Lib.hid t2
                go_wp2
                go_round
                case rel => exact ⟨k + 1, m, by omega, by go_num, rfl, Lib.hid (by rw [accTo_succ, step_no h3 hl HC.out HT1.out HT2.out, HM.out])⟩
                case measure => simp [intOf]; omega
      · have HK := Lib.hid (show k = (S r.name).size - 1 by omega)
        have hlast : (S r.name).size - 1 < (S r.name).size := by omega
        have hl : (S r.name).size - 1 < r.name.length := by rw [← HS.out]; exact hlast
        have hq := byte_is hlast hl 56
        have hw1 : IntKind.i64.wrap (((S r.name).size : Int) - 2) = ((S r.name).size : Int) - 2 := IntWalk.i64_in _ (by omega)
        have b1 : 0 ≤ ((S r.name).size : Int) - 2 := by omega
        have b2 : ((S r.name).size : Int) - 2 ≤ ((S r.name).size : Int) := by omega
        by_cases hc : r.name[(S r.name).size - 1]'hl = 56
        · have hq1 : ((((S r.name)[(S r.name).size - 1]'hlast).toNat : Int) == 56) = true := hq.trans (by rw [hc]; rfl)
          have HC := Lib.hid hc
          clear hc hq
          go_wp2
          go_quiet (fail)
          go_wp2
          refine bodyPost_ret (results_tmp5 rfl _ _) rfl ?_
          exact ⟨acc_ret (b := 1) HE.out HL.out (accBytes_8 hl HC.out), below_drewN (HB2.out.alloc hz2 _) _⟩
        · have hq1 : ((((S r.name)[(S r.name).size - 1]'hlast).toNat : Int) == 56) = false := hq.trans (by simpa using hc)
          have HC := Lib.hid hc
          clear hc hq
          go_wp2
          go_quiet (fail)
          go_wp2
          refine bodyPost_ret (results_tmp5 rfl _ _) rfl ?_
          exact ⟨acc_ret HE.out HL.out (accBytes_no hl HC.out HK.out HM.out), below_drewN (HB2.out.alloc hz2 _) _⟩
theorem refAccess_any (n : Nat) (w : World) (hn : n ≤ 255) : Calls Tryd.prog 18 #[.int .i64 n] w (AccessPost (refAcc n) w) := by
  cases h : refR n with
  | none => exact refAcc_none n w hn h
  | some r =>
    by_cases hi : r.imm = 8
    · have := acc_bd n (by omega)
      rw [h] at this
      have := of_decide_eq_true this hi
      exact refAcc_yes n w hn r h hi this.1 this.2.1 this.2.2
    · exact refAcc_other n w hn r h hi
end Go.Proofs.YtakklljpngeocaaDoor
