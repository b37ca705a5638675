/- The tables of package ops in a world; nameOf. -/
import Derived.Test.YtebgmfjgapmpfaaDoorQg01
import Derived.Test.YtebgmfjgapmpfaaDoorQg04
import Derived.Laws.Rows
import Derived.Lib.Hide
import Derived.Deep.DeepMust
import Derived.LoopTactic
import Derived.KernelRfl
import Derived.Great.Walk
import Derived.Deep.QuietTactic
import Derived.BigQuiet
import Derived.IntWalk
import Derived.Test.YtebgmfjgapmpfaaDoorQg02
import Derived.RegionTactic
import Derived.ChangeAlike
namespace Go.Proofs.YtebgmfjgapmpfaaDoor
set_option linter.unusedVariables false
open Go.RowKit

def strs (l : List (List UInt8)) : Array Value := (l.map fun s => .string (S s)).toArray
def accCells (l : List AccR) : Array Value := (l.flatMap fun a => [.int .i64 a.n, .int .u8 a.t, .bool a.wr, .bool a.sg]).toArray
/-- The tables lie where they are laid. -/
structure Tabs (w : World) : Prop where
  h0 : ∃ t fr, w.heap[0]? = some (.cells (strs tab0) t fr)
  h1 : ∃ t fr, w.heap[1]? = some (.cells (strs tab1) t fr)
  h2 : ∃ t fr, w.heap[2]? = some (.cells (strs tab2) t fr)
  h3 : ∃ t fr, w.heap[3]? = some (.cells (strs tab3) t fr)
  h4 : ∃ t fr, w.heap[4]? = some (.cells (strs tab4) t fr)
  hA : ∃ t fr, w.heap[5]? = some (.cells (accCells tabA) t fr)
theorem tab_below {w wr : World} {g : Nat} {cs : Array Value} (h : ∃ t fr, w.heap[g]? = some (.cells cs t fr)) (hb : Below w.heap.size w wr) : ∃ t fr, wr.heap[g]? = some (.cells cs t fr) := by
  obtain ⟨t, fr, h⟩ := h
  exact ⟨t, fr, (hb.block _ (Array.getElem?_eq_some_iff.1 h).1).trans h⟩
theorem Tabs.below {w wr : World} (h : Tabs w) (hb : Below w.heap.size w wr) : Tabs wr :=
  ⟨tab_below h.h0 hb, tab_below h.h1 hb, tab_below h.h2 hb, tab_below h.h3 hb, tab_below h.h4 hb, tab_below h.hA hb⟩
theorem strs_get (l : List (List UInt8)) (i : Nat) (h : i < l.length) : (strs l)[i]? = some (.string (S (l.getD i []))) := by
  unfold strs
  simp [List.getD, List.getElem?_eq_getElem h]
theorem tab_cell {w : World} {g : Nat} {l : List (List UInt8)} (h : ∃ t fr, w.heap[g]? = some (.cells (strs l) t fr)) (i : Nat) (hi : i < l.length) : w.cell? ⟨g, i, none⟩ = some (.string (S (l.getD i []))) := by
  obtain ⟨t, fr, h⟩ := h
  rw [cell_of_row w g i _ t fr h, strs_get l i hi]

theorem ret_bool {a b : Bool} (h : a = b) : Ending.returned (.bool a) = .returned (.bool b) := by rw [h]
theorem between_any (n a b : Nat) (w : World) : Calls Tryd.prog 141 #[.int .u8 n, .int .u8 a, .int .u8 b] w fun e w' => e = .returned (.bool (between n a b)) ∧ w = w' := by
  by_cases h1 : a ≤ n
  · by_cases h2 : n ≤ b
    · have HE := Lib.hid (show between n a b = true by unfold between; simp; omega)
      go_enter Tryd.func141, Tryd.ntmps141
      go_wp2
      go_ret
      exact ⟨ret_bool (by rw [HE.out]), rfl⟩
    · have HE := Lib.hid (show between n a b = false by unfold between; simp; omega)
      have hd : decide (n ≤ b) = false := by simpa using h2
      go_enter Tryd.func141, Tryd.ntmps141
      go_wp2
      go_ret
      exact ⟨ret_bool (by rw [HE.out]), rfl⟩
  · have HE := Lib.hid (show between n a b = false by unfold between; simp; omega)
    have hd : decide (a ≤ n) = false := by simpa using h1
    go_enter Tryd.func141, Tryd.ntmps141
    go_wp2
    go_ret
    exact ⟨ret_bool (by rw [HE.out]), rfl⟩

theorem free_any (n : Nat) (w : World) (hn : n ≤ 255) : Calls Tryd.prog 108 #[.int .u8 n] w fun e w' => e = .returned (.bool (freeR n)) ∧ w = w' := by
  by_cases h1 : n < 37
  · by_cases h2 : n = 1
    · subst h2
      go_enter Tryd.func108, Tryd.ntmps108
      go_wp2
      go_ret
      exact ⟨rfl, rfl⟩
    · have HE := Lib.hid (show freeR n = true by unfold freeR; simp; omega)
      have hd : ((n : Int) != 1) = true := by simp; omega
      go_enter Tryd.func108, Tryd.ntmps108
      go_wp2
      go_ret
      exact ⟨ret_bool (by rw [HE.out]), rfl⟩
  · have HE := Lib.hid (show freeR n = false by unfold freeR; simp; omega)
    have hd : decide (n < 37) = false := by simpa using h1
    go_enter Tryd.func108, Tryd.ntmps108
    go_wp2
    go_ret
    exact ⟨ret_bool (by rw [HE.out]), rfl⟩

theorem name_lo (n : Nat) (w : World) (hT : Tabs w) (hn : n < 37) : Calls Tryd.prog 104 #[.int .u8 n] w fun e w' => e = .returned (.string (S (nameR n))) ∧ w = w' := by
  have hc := tab_cell hT.h0 n (by show _ < 37; omega)
  have HE := Lib.hid (show nameR n = tab0.getD n [] by unfold nameR; rw [if_pos hn])
  obtain ⟨s, hs⟩ : ∃ s, s = tab0.getD n [] := ⟨_, rfl⟩
  rw [← hs] at hc HE
  clear hs
  go_enter Tryd.func104, Tryd.ntmps104
  go_wp2
  go_ret
  exact ⟨ret_str HE.out.symm, rfl⟩
theorem name_mem (n : Nat) (w : World) (hT : Tabs w) (h1 : 40 ≤ n) (h2 : n < 67) : Calls Tryd.prog 104 #[.int .u8 n] w fun e w' => e = .returned (.string (S (nameR n))) ∧ w = w' := by
  have hc := tab_cell hT.h1 (n - 40) (by show _ < 27; omega)
  have HE := Lib.hid (show nameR n = tab1.getD (n - 40) [] by unfold nameR; rw [if_neg (by omega), if_pos ⟨h1, h2⟩])
  obtain ⟨s, hs⟩ : ∃ s, s = tab1.getD (n - 40) [] := ⟨_, rfl⟩
  rw [← hs] at hc HE
  clear hs
  have d0 : decide (n < 37) = false := by simp; omega
  go_enter Tryd.func104, Tryd.ntmps104
  go_wp2
  go_ret
  exact ⟨ret_str HE.out.symm, rfl⟩
theorem name_test (n : Nat) (w : World) (hT : Tabs w) (h1 : 69 ≤ n) (h2 : n < 91) : Calls Tryd.prog 104 #[.int .u8 n] w fun e w' => e = .returned (.string (S (nameR n))) ∧ w = w' := by
  have hc := tab_cell hT.h2 (n - 69) (by show _ < 22; omega)
  have HE := Lib.hid (show nameR n = tab2.getD (n - 69) [] by unfold nameR; rw [if_neg (by omega), if_neg (by omega), if_pos ⟨h1, h2⟩])
  obtain ⟨s, hs⟩ : ∃ s, s = tab2.getD (n - 69) [] := ⟨_, rfl⟩
  rw [← hs] at hc HE
  clear hs
  have d0 : decide (n < 37) = false := by simp; omega
  have d1 : decide (n < 67) = false := by simp; omega
  go_enter Tryd.func104, Tryd.ntmps104
  go_wp2
  go_ret
  exact ⟨ret_str HE.out.symm, rfl⟩
set_option maxRecDepth 100000 in
theorem name_num (n : Nat) (w : World) (hT : Tabs w) (h1 : 103 ≤ n) (h2 : n < 139) : Calls Tryd.prog 104 #[.int .u8 n] w fun e w' => e = .returned (.string (S (nameR n))) ∧ w = w' := by
  have hc := tab_cell hT.h3 (n - 103) (by show _ < 36; omega)
  have HE := Lib.hid (show nameR n = tab3.getD (n - 103) [] by unfold nameR; rw [if_neg (by omega), if_neg (by omega), if_neg (by omega), if_pos ⟨h1, h2⟩])
  obtain ⟨s, hs⟩ : ∃ s, s = tab3.getD (n - 103) [] := ⟨_, rfl⟩
  rw [← hs] at hc HE
  clear hs
  have d0 : decide (n < 37) = false := by simp; omega
  have d1 : decide (n < 67) = false := by simp; omega
  have d2 : decide (n < 91) = false := by simp; omega
  go_enter Tryd.func104, Tryd.ntmps104
  go_wp2
  go_ret
  exact ⟨ret_str HE.out.symm, rfl⟩
set_option maxRecDepth 100000 in
theorem name_conv (n : Nat) (w : World) (hT : Tabs w) (h1 : 167 ≤ n) (h2 : n < 174) : Calls Tryd.prog 104 #[.int .u8 n] w fun e w' => e = .returned (.string (S (nameR n))) ∧ w = w' := by
  have hc := tab_cell hT.h4 (n - 167) (by show _ < 7; omega)
  have HE := Lib.hid (show nameR n = tab4.getD (n - 167) [] by unfold nameR; rw [if_neg (by omega), if_neg (by omega), if_neg (by omega), if_neg (by omega), if_pos ⟨h1, h2⟩])
  obtain ⟨s, hs⟩ : ∃ s, s = tab4.getD (n - 167) [] := ⟨_, rfl⟩
  rw [← hs] at hc HE
  clear hs
  have d0 : decide (n < 37) = false := by simp; omega
  have d1 : decide (n < 67) = false := by simp; omega
  have d2 : decide (n < 91) = false := by simp; omega
  have d3 : decide (n < 139) = false := by simp; omega
  go_enter Tryd.func104, Tryd.ntmps104
  go_wp2
  go_ret
  exact ⟨ret_str HE.out.symm, rfl⟩
set_option maxRecDepth 100000 in
theorem name_none (n : Nat) (w : World) (hn : n ≤ 255) (h : (37 ≤ n ∧ n < 40) ∨ (67 ≤ n ∧ n < 69) ∨ (91 ≤ n ∧ n < 103) ∨ (139 ≤ n ∧ n < 167) ∨ 174 ≤ n) : Calls Tryd.prog 104 #[.int .u8 n] w fun e w' => e = .returned (.string (S (nameR n))) ∧ w = w' := by
  have HE := Lib.hid (show nameR n = [] by unfold nameR; rw [if_neg (by omega), if_neg (by omega), if_neg (by omega), if_neg (by omega), if_neg (by omega)])
  have d0 : decide (n < 37) = false := by simp; omega
  rcases h with ⟨h1, h2⟩ | ⟨h1, h2⟩ | ⟨h1, h2⟩ | ⟨h1, h2⟩ | h1
  all_goals
    go_enter Tryd.func104, Tryd.ntmps104
    go_wp2
    all_goals (first | (exfalso; omega) | (go_ret; exact ⟨ret_str HE.out.symm, rfl⟩))
theorem name_any (n : Nat) (w : World) (hT : Tabs w) (hn : n ≤ 255) : Calls Tryd.prog 104 #[.int .u8 n] w fun e w' => e = .returned (.string (S (nameR n))) ∧ w = w' := by
  by_cases a : n < 37
  · exact name_lo n w hT a
  by_cases b : 40 ≤ n ∧ n < 67
  · exact name_mem n w hT b.1 b.2
  by_cases c : 69 ≤ n ∧ n < 91
  · exact name_test n w hT c.1 c.2
  by_cases d : 103 ≤ n ∧ n < 139
  · exact name_num n w hT d.1 d.2
  by_cases f : 167 ≤ n ∧ n < 174
  · exact name_conv n w hT f.1 f.2
  exact name_none n w hn (by omega)
end Go.Proofs.YtebgmfjgapmpfaaDoor

/- The reference's groups. -/
namespace Go.Proofs.YtebgmfjgapmpfaaDoor
set_option linter.unusedVariables false
open Go.RowKit

/-- A row as cells. -/
def rowCells (r : RowR) : List Value := [.int .i64 r.op, .string (S r.name), .int .i64 r.imm, .string (S r.takes), .string (S r.has), .bool r.free]
def rowsArr (l : List RowR) : Array Value := (l.flatMap rowCells).toArray
set_option maxRecDepth 100000 in
set_option maxHeartbeats 4000000 in
theorem groups_any (w : World) : Calls Tryd.prog 99 #[] w fun e w' => e = .returned (.slice (some ⟨w.heap.size, 0, none⟩) 35 35) ∧ w' = w.alloc (.cells (rowsArr groupsL) 107) := by
  go_enter Tryd.func99, Tryd.ntmps99
  go_wp2_with (refine Go.Great.wpList_buildSliceTo rfl 145 107 35 _ rfl _ rfl _ rfl Tryd.underlying145 (rowsArr groupsL) (by kernel_rfl) ?_)
  go_ret
  exact ⟨rfl, rfl⟩
end Go.Proofs.YtebgmfjgapmpfaaDoor

/- The reference's word. -/
namespace Go.Proofs.YtebgmfjgapmpfaaDoor
set_option linter.unusedVariables false
open Go.RowKit

abbrev wordV (o : Option (List UInt8)) : Value := .tuple #[.string (S (o.getD [])), .bool o.isSome]
def WordPost (o : Option (List UInt8)) (w : World) (e : Ending) (w' : World) : Prop := e = .returned (wordV o) ∧ ∃ m, w' = w.drewN m
/-- What the loop still owes; h is 0 where no head is known yet, else the head and one. -/
def Owes (s : List UInt8) (o : Option (List UInt8)) (k : Nat) (h : Int) (f : Nat) (m : Int) : Prop := wordGo s (s.length + 1 - k) k h f m = o
theorem owes_skip {s : List UInt8} {o : Option (List UInt8)} {k : Nat} {h : Int} {f : Nat} {m : Int} (H : Owes s o k h f m) (hk : k < s.length) (hc : s[k] ≠ 32) : Owes s o (k + 1) h f m := by
  unfold Owes at *
  have e : s.length + 1 - k = (s.length + 1 - (k + 1)) + 1 := by omega
  rw [e, wordGo, if_pos ⟨hk, by rw [List.getD, List.getElem?_eq_getElem hk]; exact hc⟩] at H
  exact H
theorem owes_no {s : List UInt8} {k : Nat} (hk : k ≤ s.length) (hc : ∀ h : k < s.length, s[k] = 32) : ¬ (k < s.length ∧ s.getD k 0 ≠ 32) := by
  rintro ⟨h1, h2⟩
  apply h2
  rw [List.getD, List.getElem?_eq_getElem h1]
  exact hc h1
theorem owes_head {s : List UInt8} {o : Option (List UInt8)} {k f : Nat} {m : Int} (H : Owes s o k (-1) f m) (hk : k ≤ s.length) (hc : ∀ h : k < s.length, s[k] = 32) : Owes s o (k + 1) k (k + 1) m := by
  unfold Owes at *
  have e : s.length + 1 - k = (s.length + 1 - (k + 1)) + 1 := by omega
  rw [e, wordGo, if_neg (owes_no hk hc), if_pos (by omega)] at H
  exact H
theorem owes_next {s : List UInt8} {o : Option (List UInt8)} {k h f : Nat} {m : Int} (H : Owes s o k h f m) (hk : k ≤ s.length) (hc : ∀ h : k < s.length, s[k] = 32) (hm : m ≠ 0) : Owes s o (k + 1) h (k + 1) (m - 1) := by
  unfold Owes at *
  have e : s.length + 1 - k = (s.length + 1 - (k + 1)) + 1 := by omega
  rw [e, wordGo, if_neg (owes_no hk hc), if_neg (by omega), if_neg hm] at H
  exact H
theorem owes_end {s : List UInt8} {o : Option (List UInt8)} {k h f : Nat} (H : Owes s o k h f 0) (hk : k ≤ s.length) (hc : ∀ h : k < s.length, s[k] = 32) : o = some (s.take h ++ (s.drop f).take (k - f)) := by
  unfold Owes at *
  have e : s.length + 1 - k = (s.length + 1 - (k + 1)) + 1 := by omega
  rw [e, wordGo, if_neg (owes_no hk hc), if_neg (by omega), if_pos rfl] at H
  exact H.symm
theorem owes_none {s : List UInt8} {o : Option (List UInt8)} {k f : Nat} {h m : Int} (H : Owes s o k h f m) (hk : s.length < k) : o = none := by
  unfold Owes at *
  have e : s.length + 1 - k = 0 := by omega
  rw [e, wordGo] at H
  exact H.symm
/-- The head's slot. -/
def HeadIs (n : Nat) (v : Value) (h : Int) : Prop := (h = -1 ∧ v = .int .i64 (-1)) ∨ ∃ j : Nat, h = j ∧ j ≤ n ∧ v = .int .i64 (j : Int)
theorem word_ret {s : List UInt8} {o : Option (List UInt8)} {j f k : Nat} (h : o = some (s.take j ++ (s.drop f).take (k - f))) : Ending.returned (.tuple #[.string ((S s).extract 0 j ++ (S s).extract f k), .bool true]) = .returned (wordV o) := by
  subst h
  rw [S_extract, S_extract, S_append]
  rfl
set_option maxRecDepth 100000 in
theorem word_any (s : List UInt8) (n : Nat) (w : World) (hs : s.length ≤ 1000) (hn : n ≤ 255) : Calls Tryd.prog 100 #[.string (S s), .int .i64 n] w (WordPost (wordR s n) w) := by
  have H0 : Owes s (wordR s n) 0 (-1) 0 n := rfl
  obtain ⟨o, ho⟩ : ∃ o, o = wordR s n := ⟨_, rfl⟩
  rw [← ho] at H0 ⊢
  clear ho
  have HO := Lib.hid H0
  clear H0
  have hz : (S s).size ≤ 1000 := by rw [S_size]; exact hs
  have HS := Lib.hid (S_size s)
  go_enter Tryd.func100, Tryd.ntmps100
  go_wp2
  go_loop [1, 6, 7, 8] (fun n hd fr i => ∃ (k f : Nat) (h m : Int), k ≤ (S s).size + 1 ∧ i = .int .i64 k ∧ HeadIs (S s).size hd h ∧ f ≤ k ∧ fr = .int .i64 f ∧ 0 ≤ m ∧ m ≤ 255 ∧ n = .int .i64 m ∧ Hid (Owes s o k h f m)) (fun _ _ _ i => (S s).size + 1 - (intOf i).toNat)
  case atStart => exact ⟨0, 0, -1, n, by omega, rfl, .inl ⟨rfl, rfl⟩, by omega, rfl, by omega, by omega, rfl, HO⟩
  case round =>
    obtain ⟨k, f, h, m, hk, rfl, hh, hf, rfl, hm0, hm, rfl, HX⟩ := hrel
    clear HO
    by_cases hlt : k < (S s).size
    · have hl : k < s.length := by rw [← HS.out]; exact hlt
      by_cases hc : s[k] = 32
      · have hq : ((((S s)[k]'hlt).toNat : Int) != 32) = false := by rw [S_get s k hlt, hc]; rfl
        have HC := Lib.hid hc
        clear hc
        rcases hh with ⟨rfl, rfl⟩ | ⟨j, rfl, hj, rfl⟩
        · go_wp2
          go_round
          case rel => exact ⟨k + 1, k + 1, k, m, by omega, by go_num, .inr ⟨k, rfl, by omega, rfl⟩, by omega, by go_num, hm0, hm, rfl, Lib.hid (owes_head HX.out (by omega) (fun _ => HC.out))⟩
          case measure => simp [intOf]; omega
        · have hjn : decide ((j : Int) < 0) = false := by simp
          by_cases hmz : m = 0
          · subst hmz
            have x1 : ((S s).extract 0 j).size ≤ 1000 := by rw [S_extract, S_size]; simp; omega
            have x2 : ((S s).extract f k).size ≤ 1000 := by rw [S_extract, S_size]; simp; omega
            have x3 : ¬ 9223372036854775807 < ((S s).extract 0 j).size + ((S s).extract f k).size := by omega
            have i1 : (j : Int) ≤ ((S s).size : Int) := by omega
            have i2 : (f : Int) ≤ (k : Int) := by omega
            have i3 : (k : Int) ≤ ((S s).size : Int) := by omega
            clear x1 x2
            go_wp2
            go_quiet (fail)
            go_wp2
            go_ret2
            exact ⟨word_ret (owes_end HX.out (by omega) (fun _ => HC.out)), _, rfl⟩
          · have hmq : (m == 0) = false := by simpa using hmz
            have HM := Lib.hid hmz
            clear hmz
            go_wp2
            go_round
            case rel => exact ⟨k + 1, k + 1, j, m - 1, by omega, by go_num, .inr ⟨j, rfl, by omega, rfl⟩, by omega, by go_num, by have := HM.out; omega, by omega, rfl, Lib.hid (owes_next HX.out (by omega) (fun _ => HC.out) HM.out)⟩
            case measure => simp [intOf]; omega
      · have hq : ((((S s)[k]'hlt).toNat : Int) != 32) = true := by
          rw [S_get s k hlt]
          simp only [bne_iff_ne, ne_eq]
          exact fun e => hc (u8_ext (by have e2 : s[k].toNat = 32 := by exact_mod_cast e
                                        exact e2))
        have HC := Lib.hid hc
        clear hc
        go_wp2
        go_round
        case rel => exact ⟨k + 1, f, h, m, by omega, by go_num, hh, by omega, rfl, hm0, hm, rfl, Lib.hid (owes_skip HX.out hl HC.out)⟩
        case measure => simp [intOf]; omega
    · by_cases hle : k ≤ (S s).size
      · have HC := Lib.hid (show ∀ h : k < s.length, s[k] = 32 from fun h => absurd (by rw [← HS.out] at h; exact h) hlt)
        rcases hh with ⟨rfl, rfl⟩ | ⟨j, rfl, hj, rfl⟩
        · go_wp2
          go_round
          case rel => exact ⟨k + 1, k + 1, k, m, by omega, by go_num, .inr ⟨k, rfl, by omega, rfl⟩, by omega, by go_num, hm0, hm, rfl, Lib.hid (owes_head HX.out (by rw [← HS.out]; exact hle) HC.out)⟩
          case measure => simp [intOf]; omega
        · have hjn : decide ((j : Int) < 0) = false := by simp
          by_cases hmz : m = 0
          · subst hmz
            have x1 : ((S s).extract 0 j).size ≤ 1000 := by rw [S_extract, S_size]; simp; omega
            have x2 : ((S s).extract f k).size ≤ 1000 := by rw [S_extract, S_size]; simp; omega
            have x3 : ¬ 9223372036854775807 < ((S s).extract 0 j).size + ((S s).extract f k).size := by omega
            have i1 : (j : Int) ≤ ((S s).size : Int) := by omega
            have i2 : (f : Int) ≤ (k : Int) := by omega
            have i3 : (k : Int) ≤ ((S s).size : Int) := by omega
            clear x1 x2
            go_wp2
            go_quiet (fail)
            go_wp2
            go_ret2
            exact ⟨word_ret (owes_end HX.out (by rw [← HS.out]; exact hle) HC.out), _, rfl⟩
          · have hmq : (m == 0) = false := by simpa using hmz
            have HM := Lib.hid hmz
            clear hmz
            go_wp2
            go_round
            case rel => exact ⟨k + 1, k + 1, j, m - 1, by omega, by go_num, .inr ⟨j, rfl, by omega, rfl⟩, by omega, by go_num, by have := HM.out; omega, by omega, rfl, Lib.hid (owes_next HX.out (by rw [← HS.out]; exact hle) HC.out HM.out)⟩
            case measure => simp [intOf]; omega
      · clear hh
        have HE := Lib.hid (owes_none HX.out (by rw [← HS.out]; omega))
        go_wp2
        go_ret2
        exact ⟨by rw [HE.out]; rfl, 0, rfl⟩
end Go.Proofs.YtebgmfjgapmpfaaDoor

/- The reference's Of. -/
namespace Go.Proofs.YtebgmfjgapmpfaaDoor
set_option linter.unusedVariables false
open Go.RowKit

theorem rows_get (l : List RowR) (i : Nat) (h : i < l.length) : (rowsArr l)[i * 6]? = some (.int .i64 (l.getD i row0).op) ∧ (rowsArr l)[i * 6 + 1]? = some (.string (S (l.getD i row0).name)) ∧ (rowsArr l)[i * 6 + 2]? = some (.int .i64 (l.getD i row0).imm) ∧
    (rowsArr l)[i * 6 + 3]? = some (.string (S (l.getD i row0).takes)) ∧ (rowsArr l)[i * 6 + 4]? = some (.string (S (l.getD i row0).has)) ∧ (rowsArr l)[i * 6 + 5]? = some (.bool (l.getD i row0).free) := by
  unfold rowsArr
  simp only [List.getElem?_toArray]
  induction l generalizing i with
  | nil => simp at h
  | cons x r ih =>
    cases i with
    | zero => exact ⟨rfl, rfl, rfl, rfl, rfl, rfl⟩
    | succ i =>
      have := ih i (by simpa using h)
      have e : (i + 1) * 6 = i * 6 + 1 + 1 + 1 + 1 + 1 + 1 := by omega
      rw [e]
      exact this
theorem rows_bd : ∀ i, i < 35 → (groupsL.getD i row0).name.length ≤ 1000 ∧ (groupsL.getD i row0).op ≤ 255 := by decide +kernel
def RowCells (w : World) (b i : Nat) (r : RowR) : Prop :=
  w.cell? ⟨b, i * 6, none⟩ = some (.int .i64 r.op) ∧ w.cell? ⟨b, i * 6 + 1, none⟩ = some (.string (S r.name)) ∧ w.cell? ⟨b, i * 6 + 2, none⟩ = some (.int .i64 r.imm) ∧
  w.cell? ⟨b, i * 6 + 3, none⟩ = some (.string (S r.takes)) ∧ w.cell? ⟨b, i * 6 + 4, none⟩ = some (.string (S r.has)) ∧ w.cell? ⟨b, i * 6 + 5, none⟩ = some (.bool r.free)
theorem rows_cells {w : World} {b : Nat} {l : List RowR} (h : Whole w b 107 (rowsArr l)) (i : Nat) (hi : i < l.length) : RowCells w b i (l.getD i row0) := by
  obtain ⟨a0, a1, a2, a3, a4, a5⟩ := rows_get l i hi
  exact ⟨(h.cell _).trans a0, (h.cell _).trans a1, (h.cell _).trans a2, (h.cell _).trans a3, (h.cell _).trans a4, (h.cell _).trans a5⟩

/-- What Of hands back. -/
abbrev rowAgg (r : RowR) : Value := .agg #[.int .i64 r.op, .string (S r.name), .int .i64 r.imm, .string (S r.takes), .string (S r.has), .bool r.free]
abbrev refV (o : Option RowR) : Value := .tuple #[rowAgg (o.getD row0), .bool o.isSome]
def RefPost (o : Option RowR) (w : World) (e : Ending) (w' : World) : Prop := e = .returned (refV o) ∧ Below w.heap.size w w'
/-- The loop's counter: k rows are left. -/
def Left6 (k : Nat) (v : Value) : Prop := v = .int .i64 ((k : Int) - 1)
theorem word_at (s : List UInt8) (n p : Nat) (o : Option (List UInt8)) (ho : wordR s ((n : Int) - p) = o) (hs : s.length ≤ 1000) (hn : n ≤ 255) (hp : p ≤ n) (w : World) : Calls Tryd.prog 100 #[.string (S s), .int .i64 ((n : Int) - p)] w fun e w' => e = .returned (wordV o) ∧ ∃ m, w' = w.drewN m := by
  have e : ((n - p : Nat) : Int) = (n : Int) - p := by omega
  have := word_any s (n - p) w hs (by omega)
  rw [e, ho] at this
  exact this
structure Held6 (w w2 : World) (j : Nat) (r : RowR) : Prop where
  hz : w.heap.size + 2 ≤ w2.heap.size
  hb : Below w.heap.size w w2
  hR : Whole w2 w.heap.size 107 #[.int .i64 0, .string ⟨#[]⟩, .int .i64 0, .string ⟨#[]⟩, .string ⟨#[]⟩, .bool false]
  hc : RowCells w2 (w.heap.size + 1) j r
theorem six_put {w w1 : World} {B b : Nat} (h : Below B w w1) (hb : B ≤ b) (x0 x1 x2 x3 x4 x5 : Value) : Below B w ((((((w1.setCell ⟨b, 0, none⟩ x0).setCell ⟨b, 1, none⟩ x1).setCell ⟨b, 2, none⟩ x2).setCell ⟨b, 3, none⟩ x3).setCell ⟨b, 4, none⟩ x4).setCell ⟨b, 5, none⟩ x5) :=
  (((((h.setCell hb _).setCell hb _).setCell hb _).setCell hb _).setCell hb _).setCell hb _
set_option maxRecDepth 100000 in
theorem ref_any (n : Nat) (w : World) (hn : n ≤ 255) : Calls Tryd.prog 61 #[.int .i64 n] w (RefPost (refR n) w) := by
  obtain ⟨o, ho⟩ : ∃ o, o = refR n := ⟨_, rfl⟩
  have HO := Lib.hid (show ofGo n 35 = o from ho.symm)
  rw [← ho]
  clear ho
  go_enter Tryd.func61, Tryd.ntmps61
  go_wp2_with (go_at_call 99; go_must (refine (groups_any _).mono ?_; rintro e w1 ⟨rfl, hw1⟩; have HW := Lib.hid hw1; clear hw1))
  have hz : w.heap.size + 2 ≤ w1.heap.size := by rw [HW.out]; simp
  have HB := Lib.hid (show Below w.heap.size w w1 by rw [HW.out]; exact ((Below.refl _ _).alloc (Nat.le_refl _) _).alloc (by simp) _)
  have HG := Lib.hid (show Whole w1 (w.heap.size + 1) 107 (rowsArr groupsL) by
    rw [HW.out]
    have := Whole.made (w.alloc (.cells #[.int .i64 0, .string ⟨#[]⟩, .int .i64 0, .string ⟨#[]⟩, .string ⟨#[]⟩, .bool false] 107)) 107 (rowsArr groupsL)
    simpa using this)
  have HR := Lib.hid (show Whole w1 w.heap.size 107 #[.int .i64 0, .string ⟨#[]⟩, .int .i64 0, .string ⟨#[]⟩, .string ⟨#[]⟩, .bool false] by
    rw [HW.out]
    exact (Whole.made w 107 #[.int .i64 0, .string ⟨#[]⟩, .int .i64 0, .string ⟨#[]⟩, .string ⟨#[]⟩, .bool false]).alloc _)
  clear HW
  have z0 : w1.cell? ⟨w.heap.size, 0, none⟩ = some (.int .i64 0) := HR.out.cell 0
  have z1 : w1.cell? ⟨w.heap.size, 1, none⟩ = some (.string ⟨#[]⟩) := HR.out.cell 1
  have z2 : w1.cell? ⟨w.heap.size, 2, none⟩ = some (.int .i64 0) := HR.out.cell 2
  have z3 : w1.cell? ⟨w.heap.size, 3, none⟩ = some (.string ⟨#[]⟩) := HR.out.cell 3
  have z4 : w1.cell? ⟨w.heap.size, 4, none⟩ = some (.string ⟨#[]⟩) := HR.out.cell 4
  have z5 : w1.cell? ⟨w.heap.size, 5, none⟩ = some (.bool false) := HR.out.cell 5
  have f0 := HR.out.frozen 0
  have f1 := HR.out.frozen 1
  have f2 := HR.out.frozen 2
  have f3 := HR.out.frozen 3
  have f4 := HR.out.frozen 4
  have f5 := HR.out.frozen 5
  go_loop [5] (fun i => ∃ k : Nat, k ≤ 35 ∧ Left6 k i ∧ Hid (ofGo n k = o)) (fun i => (intOf i + 1).toNat)
  case atStart => exact ⟨35, by omega, rfl, HO⟩
  case round =>
    obtain ⟨k, hk, hi, HX⟩ := hrel
    clear HO
    cases k with
    | zero =>
      obtain rfl : u5 = .int .i64 (-1) := hi
      have HE := Lib.hid (show o = none from HX.out.symm)
      go_wp2
      exact bodyPost_ret (v := .tuple #[.agg #[.int .i64 0, .string ⟨#[]⟩, .int .i64 0, .string ⟨#[]⟩, .string ⟨#[]⟩, .bool false], .bool false]) (by simp [results, Tryd.results61, go_sem, z0, z1, z2, z3, z4, z5]) rfl ⟨by rw [HE.out]; rfl, six_put HB.out (Nat.le_refl _) _ _ _ _ _ _⟩
    | succ j =>
      obtain rfl : u5 = .int .i64 (j : Int) := hi.trans (by congr 1; omega)
      have hj : j < 35 := by omega
      obtain ⟨b1, b2⟩ := rows_bd j hj
      obtain ⟨c0, c1, c2, c3, c4, c5⟩ := rows_cells HG.out j (show j < groupsL.length from hj)
      have HX' : ofGo n (j + 1) = o := HX.out
      unfold ofGo at HX'
      dsimp only at HX'
      obtain ⟨r, hr⟩ : ∃ r, r = groupsL.getD j row0 := ⟨_, rfl⟩
      rw [← hr] at b1 b2 c0 c1 c2 c3 c4 c5 HX'
      clear hr HX
      by_cases hle : r.op ≤ n
      · rw [if_pos hle] at HX'
        have hd : decide (n < r.op) = false := by simpa using hle
        have hw1 : IntKind.i64.wrap ((n : Int) - r.op) = (n : Int) - r.op := IntWalk.i64_in _ (by omega)
        have k0 : 0 ≤ (j : Int) := by omega
        have k1 : (j : Int) < 35 := by omega
        cases hwd : wordR r.name ((n : Int) - r.op) with
        | none =>
          rw [hwd] at HX'
          have HE := Lib.hid (show o = none from HX'.symm)
          have HQ := Lib.hid (word_at r.name n r.op none hwd b1 hn hle)
          clear hwd HX' b1 b2 hle
          go_wp2
          go_quiet ((go_at_call 100; exact Calls.quiet_of (HQ.out _)))
          go_wp2
          exact bodyPost_ret (v := .tuple #[.agg #[.int .i64 0, .string ⟨#[]⟩, .int .i64 0, .string ⟨#[]⟩, .string ⟨#[]⟩, .bool false], .bool false]) (by simp [results, Tryd.results61, go_sem, z0, z1, z2, z3, z4, z5]) rfl ⟨by rw [HE.out]; rfl, six_put (below_drewN HB.out _) (Nat.le_refl _) _ _ _ _ _ _⟩
        | some s =>
          rw [hwd] at HX'
          have HE := Lib.hid (show o = some ⟨n, s, r.imm, r.takes, r.has, r.free⟩ from HX'.symm)
          have HQ := Lib.hid (word_at r.name n r.op (some s) hwd b1 hn hle)
          clear hwd HX' b1 b2 hle
          go_wp2
          go_quiet ((go_at_call 100; exact Calls.quiet_of (HQ.out _)))
          have HH := Lib.hid (show Held6 w (w1.drewN nq) j r from ⟨hz, below_drewN HB.out _, HR.out, ⟨c0, c1, c2, c3, c4, c5⟩⟩)
          clear hz HB HR z0 z1 z2 z3 z4 z5 f0 f1 f2 f3 f4 f5 c0 c1 c2 c3 c4 c5
          generalize w1.drewN nq = w2 at HH ⊢
          obtain ⟨hz, hb, hR, c0, c1, c2, c3, c4, c5⟩ := HH.out
          have HB := Lib.hid hb
          have HR := Lib.hid hR
          clear HH hb hR
          have z0 : w2.cell? ⟨w.heap.size, 0, none⟩ = some (.int .i64 0) := HR.out.cell 0
          have z1 : w2.cell? ⟨w.heap.size, 1, none⟩ = some (.string ⟨#[]⟩) := HR.out.cell 1
          have z2 : w2.cell? ⟨w.heap.size, 2, none⟩ = some (.int .i64 0) := HR.out.cell 2
          have z3 : w2.cell? ⟨w.heap.size, 3, none⟩ = some (.string ⟨#[]⟩) := HR.out.cell 3
          have z4 : w2.cell? ⟨w.heap.size, 4, none⟩ = some (.string ⟨#[]⟩) := HR.out.cell 4
          have z5 : w2.cell? ⟨w.heap.size, 5, none⟩ = some (.bool false) := HR.out.cell 5
          have f0 := HR.out.frozen 0
          have f1 := HR.out.frozen 1
          have f2 := HR.out.frozen 2
          have f3 := HR.out.frozen 3
          have f4 := HR.out.frozen 4
          have f5 := HR.out.frozen 5
          have hlt1 : w.heap.size < w2.heap.size := by omega
          have hlt2 : w.heap.size + 1 < w2.heap.size := by omega
          go_wp2
          exact bodyPost_ret (v := .tuple #[.agg #[.int .i64 n, .string (S s), .int .i64 r.imm, .string (S r.takes), .string (S r.has), .bool r.free], .bool true]) (by simp [results, Tryd.results61, go_sem, z0, z1, z2, z3, z4, z5, hlt1]) rfl ⟨by rw [HE.out]; rfl, (six_put HB.out (Nat.le_refl _) _ _ _ _ _ _).alloc (by simp; omega) _⟩
      · rw [if_neg hle] at HX'
        have hd : decide (n < r.op) = true := by simpa using hle
        have HX := Lib.hid HX'
        clear HX'
        go_wp2
        go_round
        case rel => exact ⟨j, by omega, rfl, HX⟩
        case measure => simp [intOf]
end Go.Proofs.YtebgmfjgapmpfaaDoor

/- The reference's Types, Float, Check. -/
namespace Go.Proofs.YtebgmfjgapmpfaaDoor
set_option linter.unusedVariables false
open Go.RowKit

theorem letters_snoc (s : List UInt8) (k : Nat) (h : k < s.length) : lettersR (s.take (k + 1)) = lettersR (s.take k) ++ [if s[k] = 119 then 127 else 126] := by
  unfold lettersR
  rw [List.take_succ_eq_append_getElem h, List.map_append]
  rfl
theorem str_add {a b c : List UInt8} {x : ByteArray} (hx : x = S b) (h : c = a ++ b) : Value.string (S a ++ x) = .string (S c) := by rw [hx, S_append, h]
/-- The reference's table of floats. -/
def floatArr : Array Value := (floatsL.flatMap fun p => [.int .i64 p.1, .int .i64 p.2]).toArray
theorem float_get : ∀ j, j < 7 → floatArr[2 * j]? = some (.int .i64 ((floatsL.getD j (0, 0)).1 : Nat)) ∧ floatArr[2 * j + 1]? = some (.int .i64 ((floatsL.getD j (0, 0)).2 : Nat)) := by
  intro j hj
  match j, hj with
  | 0, _ => exact ⟨rfl, rfl⟩
  | 1, _ => exact ⟨rfl, rfl⟩
  | 2, _ => exact ⟨rfl, rfl⟩
  | 3, _ => exact ⟨rfl, rfl⟩
  | 4, _ => exact ⟨rfl, rfl⟩
  | 5, _ => exact ⟨rfl, rfl⟩
  | 6, _ => exact ⟨rfl, rfl⟩
def InPair (n j : Nat) : Prop := (floatsL.getD j (0, 0)).1 ≤ n ∧ n ≤ (floatsL.getD j (0, 0)).2
theorem float_yes {n j : Nat} (hj : j < 7) (h : InPair n j) : refFloat n = true := by
  unfold refFloat
  rw [List.any_eq_true]
  refine ⟨floatsL.getD j (0, 0), ?_, decide_eq_true h⟩
  rw [List.getD, List.getElem?_eq_getElem (show j < floatsL.length from hj)]
  exact List.getElem_mem _
theorem float_no {n : Nat} (h : ∀ j, j < 7 → ¬ InPair n j) : refFloat n = false := by
  unfold refFloat
  rw [List.any_eq_false]
  intro p hp
  obtain ⟨j, hj, rfl⟩ := List.getElem_of_mem hp
  have := h j hj
  unfold InPair at this
  rw [List.getD, List.getElem?_eq_getElem hj] at this
  simpa using this
set_option maxRecDepth 100000 in
theorem refFloat_any (n : Nat) (w : World) (hn : n ≤ 255) : Calls Tryd.prog 98 #[.int .i64 n] w fun e w' => e = .returned (.bool (refFloat n)) ∧ Below w.heap.size w w' := by
  obtain ⟨b, hb⟩ : ∃ b, b = refFloat n := ⟨_, rfl⟩
  have HB := Lib.hid hb
  rw [← hb]
  clear hb
  go_enter Tryd.func98, Tryd.ntmps98
  go_wp2_with (refine Go.Great.wpList_buildSliceTo rfl 179 3 14 _ rfl _ rfl _ rfl Tryd.underlying179 floatArr (by kernel_rfl) ?_)
  obtain ⟨w1, hw1⟩ : ∃ w1, w1 = w.alloc (.cells floatArr 3) := ⟨_, rfl⟩
  have HW := Lib.hid (show Whole w1 w.heap.size 3 floatArr by rw [hw1]; exact Whole.made w _ _)
  have HL := Lib.hid (show Below w.heap.size w w1 by rw [hw1]; exact (Below.refl _ _).alloc (Nat.le_refl _) _)
  rw [← hw1]
  clear hw1
  go_loop [4] (fun i => ∃ j k : Nat, k ≤ 14 ∧ k = 2 * j ∧ i = .int .i64 k ∧ Hid (∀ q, q < j → ¬ InPair n q)) (fun i => 14 - (intOf i).toNat)
  case atStart => exact ⟨0, 0, by omega, rfl, rfl, Lib.hid (fun q hq => by omega)⟩
  case round =>
    obtain ⟨j, k, hk, hkj, rfl, HN⟩ := hrel
    by_cases hlt : k < 14
    · have hj : j < 7 := by omega
      obtain ⟨g0, g1⟩ := float_get j hj
      rw [← hkj] at g0 g1
      have c0 := (HW.out.cell k).trans g0
      have c1 := (HW.out.cell (k + 1)).trans g1
      have hp := Lib.hid (show InPair n j ↔ (floatsL.getD j (0, 0)).1 ≤ n ∧ n ≤ (floatsL.getD j (0, 0)).2 from Iff.rfl)
      obtain ⟨p, hpe⟩ : ∃ p, p = floatsL.getD j (0, 0) := ⟨_, rfl⟩
      rw [← hpe] at c0 c1 hp
      clear g0 g1 hpe
      have HK := Lib.hid hkj
      have hk1 : k + 1 < 14 := by omega
      clear hkj
      by_cases h1 : p.1 ≤ n
      · by_cases h2 : n ≤ p.2
        · have HE := Lib.hid (show b = true by rw [HB.out]; exact float_yes hj (hp.out.2 ⟨h1, h2⟩))
          go_wp2
          go_ret
          exact ⟨ret_bool HE.out.symm, HL.out⟩
        · have HNj := Lib.hid (show ¬ InPair n j from fun e => h2 (hp.out.1 e).2)
          have d2 : decide (n ≤ p.2) = false := by simpa using h2
          go_wp2
          go_round
          case rel => exact ⟨j + 1, k + 2, by omega, by have := HK.out; omega, by go_num, Lib.hid (fun q hq => by
            rcases Nat.lt_or_ge q j with g | g
            · exact HN.out q g
            · obtain rfl : q = j := by omega
              exact HNj.out)⟩
          case measure => simp [intOf]; omega
      · have HNj := Lib.hid (show ¬ InPair n j from fun e => h1 (hp.out.1 e).1)
        have d1 : decide (p.1 ≤ n) = false := by simpa using h1
        go_wp2
        go_round
        case rel => exact ⟨j + 1, k + 2, by omega, by have := HK.out; omega, by go_num, Lib.hid (fun q hq => by
          rcases Nat.lt_or_ge q j with g | g
          · exact HN.out q g
          · obtain rfl : q = j := by omega
            exact HNj.out)⟩
        case measure => simp [intOf]; omega
    · have HE := Lib.hid (show b = false by rw [HB.out]; exact float_no (fun q hq => HN.out q (by omega)))
      go_wp2
      go_ret
      exact ⟨ret_bool HE.out.symm, HL.out⟩

theorem refCheck_any (n : Nat) (w : World) (hn : n ≤ 255) : Calls Tryd.prog 60 #[.int .i64 n] w fun e w' => e = .returned (.int .i64 (refCheck n)) ∧ Below w.heap.size w w' := by
  by_cases hf : refFloat n = true
  · have HE := Lib.hid (show refCheck n = 8 by unfold refCheck; rw [if_pos hf])
    go_enter Tryd.func60, Tryd.ntmps60
    go_wp2_with (go_at_call 98; go_must (refine (refFloat_any n _ hn).mono ?_; rintro e w1 ⟨rfl, hb1⟩; have HB1 := Lib.hid hb1; clear hb1))
    go_ret
    exact ⟨ret_int (by rw [HE.out]; rfl), HB1.out⟩
  · have hf : refFloat n = false := by simpa using hf
    by_cases hr : (refR n).isSome = true
    · have HE := Lib.hid (show refCheck n = 0 by unfold refCheck; rw [if_neg (by rw [hf]; decide), if_pos hr])
      go_enter Tryd.func60, Tryd.ntmps60
      go_wp2_with (first | (go_at_call 98; go_must (refine (refFloat_any n _ hn).mono ?_; rintro e w1 ⟨rfl, hb1⟩; have HB1 := Lib.hid hb1; have hz1 := hb1.size; clear hb1)) | (go_at_call 61; go_must (refine (ref_any n _ hn).mono ?_; rintro e w2 ⟨rfl, hb2⟩; have HB2 := Lib.hid hb2; have hz2 := hb2.size; clear hb2)))
      go_ret
      exact ⟨ret_int (by rw [HE.out]; rfl), (HB1.out.trans (HB2.out.mono hz1)).alloc (by omega) _⟩
    · have hr : (refR n).isSome = false := by simpa using hr
      have HE := Lib.hid (show refCheck n = 9 by unfold refCheck; rw [if_neg (by rw [hf]; decide), if_neg (by rw [hr]; decide)])
      go_enter Tryd.func60, Tryd.ntmps60
      go_wp2_with (first | (go_at_call 98; go_must (refine (refFloat_any n _ hn).mono ?_; rintro e w1 ⟨rfl, hb1⟩; have HB1 := Lib.hid hb1; have hz1 := hb1.size; clear hb1)) | (go_at_call 61; go_must (refine (ref_any n _ hn).mono ?_; rintro e w2 ⟨rfl, hb2⟩; have HB2 := Lib.hid hb2; have hz2 := hb2.size; clear hb2)))
      go_ret
      exact ⟨ret_int (by rw [HE.out]; rfl), (HB1.out.trans (HB2.out.mono hz1)).alloc (by omega) _⟩
end Go.Proofs.YtebgmfjgapmpfaaDoor

/- AccessOf, immOf, Opens, accessTypes, typesOf, float, Check, Of. -/
namespace Go.Proofs.YtebgmfjgapmpfaaDoor
set_option linter.unusedVariables false
open Go.RowKit

theorem acc_get (l : List AccR) (i : Nat) (h : i < l.length) : (accCells l)[i * 4]? = some (.int .i64 (l.getD i acc0).n) ∧ (accCells l)[i * 4 + 1]? = some (.int .u8 (l.getD i acc0).t) ∧ (accCells l)[i * 4 + 2]? = some (.bool (l.getD i acc0).wr) ∧ (accCells l)[i * 4 + 3]? = some (.bool (l.getD i acc0).sg) := by
  unfold accCells
  simp only [List.getElem?_toArray]
  induction l generalizing i with
  | nil => simp at h
  | cons x r ih =>
    cases i with
    | zero => exact ⟨rfl, rfl, rfl, rfl⟩
    | succ i =>
      have := ih i (by simpa using h)
      have e : (i + 1) * 4 = i * 4 + 1 + 1 + 1 + 1 := by omega
      rw [e]
      exact this
theorem acc_cell {w : World} (h : ∃ t fr, w.heap[5]? = some (.cells (accCells tabA) t fr)) (i : Nat) (hi : i < 23) :
    w.cell? ⟨5, i * 4, none⟩ = some (.int .i64 (tabA.getD i acc0).n) ∧ w.cell? ⟨5, i * 4 + 1, none⟩ = some (.int .u8 (tabA.getD i acc0).t) ∧
    w.cell? ⟨5, i * 4 + 2, none⟩ = some (.bool (tabA.getD i acc0).wr) ∧ w.cell? ⟨5, i * 4 + 3, none⟩ = some (.bool (tabA.getD i acc0).sg) := by
  obtain ⟨t, fr, h⟩ := h
  obtain ⟨a, b, c, d⟩ := acc_get tabA i hi
  refine ⟨?_, ?_, ?_, ?_⟩ <;> rw [cell_of_row w _ _ _ t fr h] <;> assumption
/-- What AccessOf hands back. -/
abbrev accV (n : Nat) : Value := .tuple #[.agg #[.int .i64 (accR n).n, .int .u8 (accR n).t, .bool (accR n).wr, .bool (accR n).sg], .bool (isAcc n)]
theorem access_no (n : Nat) (w : World) (hn : n ≤ 255) (h : n < 40 ∨ 63 ≤ n) : Calls Tryd.prog 143 #[.int .u8 n] w fun e w' => e = .returned (accV n) ∧ Below w.heap.size w w' := by
  have e0 : accR n = acc0 := by
    unfold accR
    split
    · rfl
    · rw [List.getD, List.getElem?_eq_none (by show 23 ≤ _; omega)]; rfl
  have e1 : isAcc n = false := by unfold isAcc; rw [e0]; rfl
  have HE := Lib.hid (show accV n = .tuple #[.agg #[.int .i64 0, .int .u8 0, .bool false, .bool false], .bool false] by unfold accV; rw [e0, e1]; rfl)
  clear e0 e1
  rcases h with h | h
  · have d0 : decide ((n : Int) - 40 < 0) = true := by simp; omega
    go_enter Tryd.func143, Tryd.ntmps143
    go_wp2
    exact bodyPost_ret (v := .tuple #[.agg #[.int .i64 0, .int .u8 0, .bool false, .bool false], .bool false]) (by simp [results, Tryd.results143, go_sem]) rfl ⟨by rw [HE.out], (Below.refl _ _).alloc (Nat.le_refl _) _⟩
  · have d0 : decide ((n : Int) - 40 < 0) = false := by simp; omega
    go_enter Tryd.func143, Tryd.ntmps143
    go_wp2
    exact bodyPost_ret (v := .tuple #[.agg #[.int .i64 0, .int .u8 0, .bool false, .bool false], .bool false]) (by simp [results, Tryd.results143, go_sem]) rfl ⟨by rw [HE.out], (Below.refl _ _).alloc (Nat.le_refl _) _⟩
theorem access_yes (n : Nat) (w : World) (hT : Tabs w) (h1 : 40 ≤ n) (h2 : n < 63) : Calls Tryd.prog 143 #[.int .u8 n] w fun e w' => e = .returned (accV n) ∧ Below w.heap.size w w' := by
  obtain ⟨c0, c1, c2, c3⟩ := acc_cell hT.hA (n - 40) (by omega)
  have e0 : accR n = tabA.getD (n - 40) acc0 := by unfold accR; rw [if_neg (by omega)]
  rw [← e0] at c0 c1 c2 c3
  have HE := Lib.hid (show isAcc n = decide (0 < (accR n).n) from rfl)
  have HV := Lib.hid (show accV n = .tuple #[.agg #[.int .i64 (accR n).n, .int .u8 (accR n).t, .bool (accR n).wr, .bool (accR n).sg], .bool (isAcc n)] from rfl)
  clear e0
  obtain ⟨a, ha⟩ : ∃ a, a = accR n := ⟨_, rfl⟩
  rw [← ha] at c0 c1 c2 c3 HE HV
  clear ha
  have hz : 5 < w.heap.size := by obtain ⟨t, fr, h⟩ := hT.hA; exact (Array.getElem?_eq_some_iff.1 h).1
  clear hT
  have d0 : decide ((n : Int) - 40 < 0) = false := by simp; omega
  have d1 : decide (23 ≤ (n : Int) - 40) = false := by simp; omega
  go_enter Tryd.func143, Tryd.ntmps143
  go_wp2
  go_region
  all_goals
    go_wp2
    exact bodyPost_ret (v := .tuple #[.agg #[.int .i64 a.n, .int .u8 a.t, .bool a.wr, .bool a.sg], .bool (decide (0 < a.n))]) (by simp [results, Tryd.results143, go_sem]) rfl ⟨by rw [HV.out, HE.out], (((Below.refl _ _).alloc (Nat.le_refl _) _).alloc (by simp) _).drew⟩
theorem access_any (n : Nat) (w : World) (hT : Tabs w) (hn : n ≤ 255) : Calls Tryd.prog 143 #[.int .u8 n] w fun e w' => e = .returned (accV n) ∧ Below w.heap.size w w' := by
  by_cases h : n < 40 ∨ 63 ≤ n
  · exact access_no n w hn h
  · exact access_yes n w hT (by omega) (by omega)

/-- What immOf and accessTypes do: a number or two strings. -/
theorem imm_const (n : Nat) (w : World) (h : n = 2 ∨ n = 3 ∨ n = 4 ∨ n = 12 ∨ n = 13 ∨ n = 14 ∨ n = 16 ∨ n = 17 ∨ n = 32 ∨ n = 33 ∨ n = 34 ∨ n = 35 ∨ n = 36 ∨ n = 63 ∨ n = 64 ∨ n = 65 ∨ n = 66) : Calls Tryd.prog 107 #[.int .u8 n] w fun e w' => e = .returned (.int .i64 (immR n)) ∧ Below w.heap.size w w' := by
  rcases h with rfl | rfl | rfl | rfl | rfl | rfl | rfl | rfl | rfl | rfl | rfl | rfl | rfl | rfl | rfl | rfl | rfl
  all_goals
    go_enter Tryd.func107, Tryd.ntmps107
    go_wp2
    go_ret
    exact ⟨rfl, Below.refl _ _⟩
set_option maxRecDepth 100000 in
theorem imm_else (n : Nat) (w : World) (hT : Tabs w) (hn : n ≤ 255) (h2 : n ≠ 2) (h3 : n ≠ 3) (h4 : n ≠ 4) (h12 : n ≠ 12) (h13 : n ≠ 13) (h14 : n ≠ 14) (h16 : n ≠ 16) (h17 : n ≠ 17) (h32 : n ≠ 32) (h33 : n ≠ 33) (h34 : n ≠ 34) (h35 : n ≠ 35) (h36 : n ≠ 36) (h63 : n ≠ 63) (h64 : n ≠ 64) (h65 : n ≠ 65) (h66 : n ≠ 66) : Calls Tryd.prog 107 #[.int .u8 n] w fun e w' => e = .returned (.int .i64 (immR n)) ∧ Below w.heap.size w w' := by
  have HE := Lib.hid (show immR n = if isAcc n = true then 8 else 0 by unfold immR; rw [if_neg (by omega), if_neg (by omega), if_neg (by omega), if_neg (by omega), if_neg (by omega), if_neg (by omega), if_neg (by omega), if_neg (by omega), if_neg (by omega), if_neg (by omega)])
  have d2 : ((n : Int) == 2) = false := by simp; omega
  have d3 : ((n : Int) == 3) = false := by simp; omega
  have d4 : ((n : Int) == 4) = false := by simp; omega
  have d12 : ((n : Int) == 12) = false := by simp; omega
  have d13 : ((n : Int) == 13) = false := by simp; omega
  have d14 : ((n : Int) == 14) = false := by simp; omega
  have d16 : ((n : Int) == 16) = false := by simp; omega
  have d17 : ((n : Int) == 17) = false := by simp; omega
  have d32 : ((n : Int) == 32) = false := by simp; omega
  have d33 : ((n : Int) == 33) = false := by simp; omega
  have d34 : ((n : Int) == 34) = false := by simp; omega
  have d35 : ((n : Int) == 35) = false := by simp; omega
  have d36 : ((n : Int) == 36) = false := by simp; omega
  have d63 : ((n : Int) == 63) = false := by simp; omega
  have d64 : ((n : Int) == 64) = false := by simp; omega
  have d65 : ((n : Int) == 65) = false := by simp; omega
  have d66 : ((n : Int) == 66) = false := by simp; omega
  clear h2 h3 h4 h12 h13 h14 h16 h17 h32 h33 h34 h35 h36 h63 h64 h65 h66
  have HT := Lib.hid hT
  clear hT
  by_cases hx : isAcc n = true
  · rw [if_pos hx] at HE
    go_enter Tryd.func107, Tryd.ntmps107
    go_wp2_with (go_at_call 143; go_must (refine (access_any n _ HT.out hn).mono ?_; rintro e w' ⟨rfl, hb⟩; have HB := Lib.hid hb; have hz := hb.size; clear hb))
    go_ret
    exact ⟨ret_int (by rw [HE.out]; rfl), HB.out.alloc hz _⟩
  · have hx : isAcc n = false := by simpa using hx
    rw [if_neg (by rw [hx]; decide)] at HE
    go_enter Tryd.func107, Tryd.ntmps107
    go_wp2_with (go_at_call 143; go_must (refine (access_any n _ HT.out hn).mono ?_; rintro e w' ⟨rfl, hb⟩; have HB := Lib.hid hb; have hz := hb.size; clear hb))
    go_ret
    exact ⟨ret_int (by rw [HE.out]; rfl), HB.out.alloc hz _⟩
theorem imm_any (n : Nat) (w : World) (hT : Tabs w) (hn : n ≤ 255) : Calls Tryd.prog 107 #[.int .u8 n] w fun e w' => e = .returned (.int .i64 (immR n)) ∧ Below w.heap.size w w' := by
  by_cases h : n = 2 ∨ n = 3 ∨ n = 4 ∨ n = 12 ∨ n = 13 ∨ n = 14 ∨ n = 16 ∨ n = 17 ∨ n = 32 ∨ n = 33 ∨ n = 34 ∨ n = 35 ∨ n = 36 ∨ n = 63 ∨ n = 64 ∨ n = 65 ∨ n = 66
  · exact imm_const n w h
  · exact imm_else n w hT hn (by omega) (by omega) (by omega) (by omega) (by omega) (by omega) (by omega) (by omega) (by omega) (by omega) (by omega) (by omega) (by omega) (by omega) (by omega) (by omega) (by omega)
theorem opens_any (n : Nat) (w : World) (hT : Tabs w) (hn : n ≤ 255) : Calls Tryd.prog 119 #[.int .u8 n] w fun e w' => e = .returned (.bool (immR n == 1)) ∧ Below w.heap.size w w' := by
  have HT := Lib.hid hT
  clear hT
  by_cases h : immR n = 1
  · have h1 : ((immR n : Int) == 1) = true := by simp; omega
    have HE := Lib.hid (show (immR n == 1) = true by simpa using h)
    clear h
    go_enter Tryd.func119, Tryd.ntmps119
    go_wp2_with (go_at_call 107; go_must (refine (imm_any n _ HT.out hn).mono ?_; rintro e w' ⟨rfl, hb⟩; have HB := Lib.hid hb; clear hb))
    go_ret
    exact ⟨ret_bool (by rw [HE.out]), HB.out⟩
  · have h1 : ((immR n : Int) == 1) = false := by simp; omega
    have HE := Lib.hid (show (immR n == 1) = false by simpa using h)
    clear h
    go_enter Tryd.func119, Tryd.ntmps119
    go_wp2_with (go_at_call 107; go_must (refine (imm_any n _ HT.out hn).mono ?_; rintro e w' ⟨rfl, hb⟩; have HB := Lib.hid hb; clear hb))
    go_ret
    exact ⟨ret_bool (by rw [HE.out]), HB.out⟩

/-- Two strings. -/
abbrev twoV (p : List UInt8 × List UInt8) : Value := .tuple #[.string (S p.1), .string (S p.2)]
theorem ret_two {a b c d : List UInt8} {p : List UInt8 × List UInt8} (h : p = (a, b)) (ha : c = a) (hb : d = b) : Ending.returned (.tuple #[.string (S c), .string (S d)]) = .returned (twoV p) := by subst ha; subst hb; subst h; rfl
def TypesPost (n : Nat) (w : World) (e : Ending) (w' : World) : Prop := e = .returned (twoV (typesR n)) ∧ Below w.heap.size w w'
theorem accTypes_any (n : Nat) (w : World) (hT : Tabs w) (hn : n ≤ 255) : Calls Tryd.prog 142 #[.int .u8 n] w fun e w' => e = .returned (twoV (accTypes n)) ∧ Below w.heap.size w w' := by
  have HT := Lib.hid hT
  clear hT
  by_cases hx : isAcc n = true
  · by_cases hw : (accR n).wr = true
    · by_cases ht : (accR n).t = 127
      · have HE := Lib.hid (show accTypes n = ([127, 127], []) by unfold accTypes; rw [if_neg (by rw [hx]; decide), if_pos hw, if_pos ht])
        have ht1 : (((accR n).t : Int) == 127) = true := by simp; omega
        clear ht
        go_enter Tryd.func142, Tryd.ntmps142
        go_wp2_with (go_at_call 143; go_must (refine (access_any n _ HT.out hn).mono ?_; rintro e w' ⟨rfl, hb⟩; have HB := Lib.hid hb; have hz := hb.size; clear hb))
        go_ret2
        exact ⟨ret_two HE.out rfl rfl, HB.out.alloc hz _⟩
      · have HE := Lib.hid (show accTypes n = ([127, 126], []) by unfold accTypes; rw [if_neg (by rw [hx]; decide), if_pos hw, if_neg ht])
        have ht1 : (((accR n).t : Int) == 127) = false := by simp; omega
        clear ht
        go_enter Tryd.func142, Tryd.ntmps142
        go_wp2_with (go_at_call 143; go_must (refine (access_any n _ HT.out hn).mono ?_; rintro e w' ⟨rfl, hb⟩; have HB := Lib.hid hb; have hz := hb.size; clear hb))
        go_ret2
        exact ⟨ret_two HE.out rfl rfl, HB.out.alloc hz _⟩
    · have hw : (accR n).wr = false := by simpa using hw
      by_cases ht : (accR n).t = 127
      · have HE := Lib.hid (show accTypes n = ([127], [127]) by unfold accTypes; rw [if_neg (by rw [hx]; decide), if_neg (by rw [hw]; decide), if_pos ht])
        have ht1 : (((accR n).t : Int) == 127) = true := by simp; omega
        clear ht
        go_enter Tryd.func142, Tryd.ntmps142
        go_wp2_with (go_at_call 143; go_must (refine (access_any n _ HT.out hn).mono ?_; rintro e w' ⟨rfl, hb⟩; have HB := Lib.hid hb; have hz := hb.size; clear hb))
        go_ret2
        exact ⟨ret_two HE.out rfl rfl, HB.out.alloc hz _⟩
      · have HE := Lib.hid (show accTypes n = ([127], [126]) by unfold accTypes; rw [if_neg (by rw [hx]; decide), if_neg (by rw [hw]; decide), if_neg ht])
        have ht1 : (((accR n).t : Int) == 127) = false := by simp; omega
        clear ht
        go_enter Tryd.func142, Tryd.ntmps142
        go_wp2_with (go_at_call 143; go_must (refine (access_any n _ HT.out hn).mono ?_; rintro e w' ⟨rfl, hb⟩; have HB := Lib.hid hb; have hz := hb.size; clear hb))
        go_ret2
        exact ⟨ret_two HE.out rfl rfl, HB.out.alloc hz _⟩
  · have hx : isAcc n = false := by simpa using hx
    have HE := Lib.hid (show accTypes n = ([], []) by unfold accTypes; rw [if_pos hx])
    go_enter Tryd.func142, Tryd.ntmps142
    go_wp2_with (go_at_call 143; go_must (refine (access_any n _ HT.out hn).mono ?_; rintro e w' ⟨rfl, hb⟩; have HB := Lib.hid hb; have hz := hb.size; clear hb))
    go_ret2
    exact ⟨ret_two HE.out rfl rfl, HB.out.alloc hz _⟩
end Go.Proofs.YtebgmfjgapmpfaaDoor

/- typesOf (made by gen/genTypes.py), float, Check, Of. -/
namespace Go.Proofs.YtebgmfjgapmpfaaDoor
set_option linter.unusedVariables false
open Go.RowKit

set_option maxRecDepth 100000 in
theorem types_0_63 (n : Nat) (w : World) (h : n = 63) : Calls Tryd.prog 106 #[.int .u8 n] w (TypesPost n w) := by
  have HE := Lib.hid (show typesR n = _ by unfold typesR; rw [if_pos (by omega)])
  have t0a : ((n : Int) == 63) = true := by simp; omega
  clear h
  go_enter Tryd.func106, Tryd.ntmps106
  go_wp2_with (go_at_call 141; refine (between_any _ _ _ _).mono ?_; rintro e w' ⟨rfl, rfl⟩)
  go_ret2
  exact ⟨ret_two HE.out rfl rfl, Below.refl _ _⟩
set_option maxRecDepth 100000 in
theorem types_0_65 (n : Nat) (w : World) (h : n = 65) : Calls Tryd.prog 106 #[.int .u8 n] w (TypesPost n w) := by
  have HE := Lib.hid (show typesR n = _ by unfold typesR; rw [if_pos (by omega)])
  have t0a : ((n : Int) == 63) = false := by simp; omega
  have t0b : ((n : Int) == 65) = true := by simp; omega
  clear h
  go_enter Tryd.func106, Tryd.ntmps106
  go_wp2_with (go_at_call 141; refine (between_any _ _ _ _).mono ?_; rintro e w' ⟨rfl, rfl⟩)
  go_ret2
  exact ⟨ret_two HE.out rfl rfl, Below.refl _ _⟩
set_option maxRecDepth 100000 in
theorem types_1_64 (n : Nat) (w : World) (h : n = 64) : Calls Tryd.prog 106 #[.int .u8 n] w (TypesPost n w) := by
  have HE := Lib.hid (show typesR n = _ by unfold typesR; rw [if_neg (by omega), if_pos (by omega)])
  have t0a : ((n : Int) == 63) = false := by simp; omega
  have t0b : ((n : Int) == 65) = false := by simp; omega
  have t1a : ((n : Int) == 64) = true := by simp; omega
  clear h
  go_enter Tryd.func106, Tryd.ntmps106
  go_wp2_with (go_at_call 141; refine (between_any _ _ _ _).mono ?_; rintro e w' ⟨rfl, rfl⟩)
  go_ret2
  exact ⟨ret_two HE.out rfl rfl, Below.refl _ _⟩
set_option maxRecDepth 100000 in
theorem types_2_66 (n : Nat) (w : World) (h : n = 66) : Calls Tryd.prog 106 #[.int .u8 n] w (TypesPost n w) := by
  have HE := Lib.hid (show typesR n = _ by unfold typesR; rw [if_neg (by omega), if_neg (by omega), if_pos (by omega)])
  have t0a : ((n : Int) == 63) = false := by simp; omega
  have t0b : ((n : Int) == 65) = false := by simp; omega
  have t1a : ((n : Int) == 64) = false := by simp; omega
  have t2a : ((n : Int) == 66) = true := by simp; omega
  clear h
  go_enter Tryd.func106, Tryd.ntmps106
  go_wp2_with (go_at_call 141; refine (between_any _ _ _ _).mono ?_; rintro e w' ⟨rfl, rfl⟩)
  go_ret2
  exact ⟨ret_two HE.out rfl rfl, Below.refl _ _⟩
set_option maxRecDepth 100000 in
theorem types_3_69 (n : Nat) (w : World) (h : n = 69) : Calls Tryd.prog 106 #[.int .u8 n] w (TypesPost n w) := by
  have HE := Lib.hid (show typesR n = _ by unfold typesR; rw [if_neg (by omega), if_neg (by omega), if_neg (by omega), if_pos (by omega)])
  have t0a : ((n : Int) == 63) = false := by simp; omega
  have t0b : ((n : Int) == 65) = false := by simp; omega
  have t1a : ((n : Int) == 64) = false := by simp; omega
  have t2a : ((n : Int) == 66) = false := by simp; omega
  have t3a : ((n : Int) == 69) = true := by simp; omega
  clear h
  go_enter Tryd.func106, Tryd.ntmps106
  go_wp2_with (go_at_call 141; refine (between_any _ _ _ _).mono ?_; rintro e w' ⟨rfl, rfl⟩)
  go_ret2
  exact ⟨ret_two HE.out rfl rfl, Below.refl _ _⟩
set_option maxRecDepth 100000 in
theorem types_4 (n : Nat) (w : World) (h : 70 ≤ n ∧ n ≤ 79) : Calls Tryd.prog 106 #[.int .u8 n] w (TypesPost n w) := by
  have HE := Lib.hid (show typesR n = _ by unfold typesR; rw [if_neg (by omega), if_neg (by omega), if_neg (by omega), if_neg (by omega), if_pos (by unfold between; simp; omega)])
  have t0a : ((n : Int) == 63) = false := by simp; omega
  have t0b : ((n : Int) == 65) = false := by simp; omega
  have t1a : ((n : Int) == 64) = false := by simp; omega
  have t2a : ((n : Int) == 66) = false := by simp; omega
  have t3a : ((n : Int) == 69) = false := by simp; omega
  have t4 : between n 70 79 = true := by unfold between; simp; omega
  clear h
  go_enter Tryd.func106, Tryd.ntmps106
  go_wp2_with (go_at_call 141; refine (between_any _ _ _ _).mono ?_; rintro e w' ⟨rfl, rfl⟩)
  go_ret2
  exact ⟨ret_two HE.out rfl rfl, Below.refl _ _⟩
set_option maxRecDepth 100000 in
theorem types_5_80 (n : Nat) (w : World) (h : n = 80) : Calls Tryd.prog 106 #[.int .u8 n] w (TypesPost n w) := by
  have HE := Lib.hid (show typesR n = _ by unfold typesR; rw [if_neg (by omega), if_neg (by omega), if_neg (by omega), if_neg (by omega), if_neg (by unfold between; simp; omega), if_pos (by omega)])
  have t0a : ((n : Int) == 63) = false := by simp; omega
  have t0b : ((n : Int) == 65) = false := by simp; omega
  have t1a : ((n : Int) == 64) = false := by simp; omega
  have t2a : ((n : Int) == 66) = false := by simp; omega
  have t3a : ((n : Int) == 69) = false := by simp; omega
  have t4 : between n 70 79 = false := by unfold between; simp; omega
  have t5a : ((n : Int) == 80) = true := by simp; omega
  clear h
  go_enter Tryd.func106, Tryd.ntmps106
  go_wp2_with (go_at_call 141; refine (between_any _ _ _ _).mono ?_; rintro e w' ⟨rfl, rfl⟩)
  go_ret2
  exact ⟨ret_two HE.out rfl rfl, Below.refl _ _⟩
set_option maxRecDepth 100000 in
theorem types_6 (n : Nat) (w : World) (h : 81 ≤ n ∧ n ≤ 90) : Calls Tryd.prog 106 #[.int .u8 n] w (TypesPost n w) := by
  have HE := Lib.hid (show typesR n = _ by unfold typesR; rw [if_neg (by omega), if_neg (by omega), if_neg (by omega), if_neg (by omega), if_neg (by unfold between; simp; omega), if_neg (by omega), if_pos (by unfold between; simp; omega)])
  have t0a : ((n : Int) == 63) = false := by simp; omega
  have t0b : ((n : Int) == 65) = false := by simp; omega
  have t1a : ((n : Int) == 64) = false := by simp; omega
  have t2a : ((n : Int) == 66) = false := by simp; omega
  have t3a : ((n : Int) == 69) = false := by simp; omega
  have t4 : between n 70 79 = false := by unfold between; simp; omega
  have t5a : ((n : Int) == 80) = false := by simp; omega
  have t6 : between n 81 90 = true := by unfold between; simp; omega
  clear h
  go_enter Tryd.func106, Tryd.ntmps106
  go_wp2_with (go_at_call 141; refine (between_any _ _ _ _).mono ?_; rintro e w' ⟨rfl, rfl⟩)
  go_ret2
  exact ⟨ret_two HE.out rfl rfl, Below.refl _ _⟩
set_option maxRecDepth 100000 in
theorem types_7 (n : Nat) (w : World) (h : 103 ≤ n ∧ n ≤ 105) : Calls Tryd.prog 106 #[.int .u8 n] w (TypesPost n w) := by
  have HE := Lib.hid (show typesR n = _ by unfold typesR; rw [if_neg (by omega), if_neg (by omega), if_neg (by omega), if_neg (by omega), if_neg (by unfold between; simp; omega), if_neg (by omega), if_neg (by unfold between; simp; omega), if_pos (by unfold between; simp; omega)])
  have t0a : ((n : Int) == 63) = false := by simp; omega
  have t0b : ((n : Int) == 65) = false := by simp; omega
  have t1a : ((n : Int) == 64) = false := by simp; omega
  have t2a : ((n : Int) == 66) = false := by simp; omega
  have t3a : ((n : Int) == 69) = false := by simp; omega
  have t4 : between n 70 79 = false := by unfold between; simp; omega
  have t5a : ((n : Int) == 80) = false := by simp; omega
  have t6 : between n 81 90 = false := by unfold between; simp; omega
  have t7 : between n 103 105 = true := by unfold between; simp; omega
  clear h
  go_enter Tryd.func106, Tryd.ntmps106
  go_wp2_with (go_at_call 141; refine (between_any _ _ _ _).mono ?_; rintro e w' ⟨rfl, rfl⟩)
  go_ret2
  exact ⟨ret_two HE.out rfl rfl, Below.refl _ _⟩
set_option maxRecDepth 100000 in
theorem types_8 (n : Nat) (w : World) (h : 106 ≤ n ∧ n ≤ 120) : Calls Tryd.prog 106 #[.int .u8 n] w (TypesPost n w) := by
  have HE := Lib.hid (show typesR n = _ by unfold typesR; rw [if_neg (by omega), if_neg (by omega), if_neg (by omega), if_neg (by omega), if_neg (by unfold between; simp; omega), if_neg (by omega), if_neg (by unfold between; simp; omega), if_neg (by unfold between; simp; omega), if_pos (by unfold between; simp; omega)])
  have t0a : ((n : Int) == 63) = false := by simp; omega
  have t0b : ((n : Int) == 65) = false := by simp; omega
  have t1a : ((n : Int) == 64) = false := by simp; omega
  have t2a : ((n : Int) == 66) = false := by simp; omega
  have t3a : ((n : Int) == 69) = false := by simp; omega
  have t4 : between n 70 79 = false := by unfold between; simp; omega
  have t5a : ((n : Int) == 80) = false := by simp; omega
  have t6 : between n 81 90 = false := by unfold between; simp; omega
  have t7 : between n 103 105 = false := by unfold between; simp; omega
  have t8 : between n 106 120 = true := by unfold between; simp; omega
  clear h
  go_enter Tryd.func106, Tryd.ntmps106
  go_wp2_with (go_at_call 141; refine (between_any _ _ _ _).mono ?_; rintro e w' ⟨rfl, rfl⟩)
  go_ret2
  exact ⟨ret_two HE.out rfl rfl, Below.refl _ _⟩
set_option maxRecDepth 100000 in
theorem types_9 (n : Nat) (w : World) (h : 121 ≤ n ∧ n ≤ 123) : Calls Tryd.prog 106 #[.int .u8 n] w (TypesPost n w) := by
  have HE := Lib.hid (show typesR n = _ by unfold typesR; rw [if_neg (by omega), if_neg (by omega), if_neg (by omega), if_neg (by omega), if_neg (by unfold between; simp; omega), if_neg (by omega), if_neg (by unfold between; simp; omega), if_neg (by unfold between; simp; omega), if_neg (by unfold between; simp; omega), if_pos (by unfold between; simp; omega)])
  have t0a : ((n : Int) == 63) = false := by simp; omega
  have t0b : ((n : Int) == 65) = false := by simp; omega
  have t1a : ((n : Int) == 64) = false := by simp; omega
  have t2a : ((n : Int) == 66) = false := by simp; omega
  have t3a : ((n : Int) == 69) = false := by simp; omega
  have t4 : between n 70 79 = false := by unfold between; simp; omega
  have t5a : ((n : Int) == 80) = false := by simp; omega
  have t6 : between n 81 90 = false := by unfold between; simp; omega
  have t7 : between n 103 105 = false := by unfold between; simp; omega
  have t8 : between n 106 120 = false := by unfold between; simp; omega
  have t9 : between n 121 123 = true := by unfold between; simp; omega
  clear h
  go_enter Tryd.func106, Tryd.ntmps106
  go_wp2_with (go_at_call 141; refine (between_any _ _ _ _).mono ?_; rintro e w' ⟨rfl, rfl⟩)
  go_ret2
  exact ⟨ret_two HE.out rfl rfl, Below.refl _ _⟩
set_option maxRecDepth 100000 in
theorem types_10 (n : Nat) (w : World) (h : 124 ≤ n ∧ n ≤ 138) : Calls Tryd.prog 106 #[.int .u8 n] w (TypesPost n w) := by
  have HE := Lib.hid (show typesR n = _ by unfold typesR; rw [if_neg (by omega), if_neg (by omega), if_neg (by omega), if_neg (by omega), if_neg (by unfold between; simp; omega), if_neg (by omega), if_neg (by unfold between; simp; omega), if_neg (by unfold between; simp; omega), if_neg (by unfold between; simp; omega), if_neg (by unfold between; simp; omega), if_pos (by unfold between; simp; omega)])
  have t0a : ((n : Int) == 63) = false := by simp; omega
  have t0b : ((n : Int) == 65) = false := by simp; omega
  have t1a : ((n : Int) == 64) = false := by simp; omega
  have t2a : ((n : Int) == 66) = false := by simp; omega
  have t3a : ((n : Int) == 69) = false := by simp; omega
  have t4 : between n 70 79 = false := by unfold between; simp; omega
  have t5a : ((n : Int) == 80) = false := by simp; omega
  have t6 : between n 81 90 = false := by unfold between; simp; omega
  have t7 : between n 103 105 = false := by unfold between; simp; omega
  have t8 : between n 106 120 = false := by unfold between; simp; omega
  have t9 : between n 121 123 = false := by unfold between; simp; omega
  have t10 : between n 124 138 = true := by unfold between; simp; omega
  clear h
  go_enter Tryd.func106, Tryd.ntmps106
  go_wp2_with (go_at_call 141; refine (between_any _ _ _ _).mono ?_; rintro e w' ⟨rfl, rfl⟩)
  go_ret2
  exact ⟨ret_two HE.out rfl rfl, Below.refl _ _⟩
set_option maxRecDepth 100000 in
theorem types_11_167 (n : Nat) (w : World) (h : n = 167) : Calls Tryd.prog 106 #[.int .u8 n] w (TypesPost n w) := by
  have HE := Lib.hid (show typesR n = _ by unfold typesR; rw [if_neg (by omega), if_neg (by omega), if_neg (by omega), if_neg (by omega), if_neg (by unfold between; simp; omega), if_neg (by omega), if_neg (by unfold between; simp; omega), if_neg (by unfold between; simp; omega), if_neg (by unfold between; simp; omega), if_neg (by unfold between; simp; omega), if_neg (by unfold between; simp; omega), if_pos (by omega)])
  have t0a : ((n : Int) == 63) = false := by simp; omega
  have t0b : ((n : Int) == 65) = false := by simp; omega
  have t1a : ((n : Int) == 64) = false := by simp; omega
  have t2a : ((n : Int) == 66) = false := by simp; omega
  have t3a : ((n : Int) == 69) = false := by simp; omega
  have t4 : between n 70 79 = false := by unfold between; simp; omega
  have t5a : ((n : Int) == 80) = false := by simp; omega
  have t6 : between n 81 90 = false := by unfold between; simp; omega
  have t7 : between n 103 105 = false := by unfold between; simp; omega
  have t8 : between n 106 120 = false := by unfold between; simp; omega
  have t9 : between n 121 123 = false := by unfold between; simp; omega
  have t10 : between n 124 138 = false := by unfold between; simp; omega
  have t11a : ((n : Int) == 167) = true := by simp; omega
  clear h
  go_enter Tryd.func106, Tryd.ntmps106
  go_wp2_with (go_at_call 141; refine (between_any _ _ _ _).mono ?_; rintro e w' ⟨rfl, rfl⟩)
  go_ret2
  exact ⟨ret_two HE.out rfl rfl, Below.refl _ _⟩
set_option maxRecDepth 100000 in
theorem types_12_172 (n : Nat) (w : World) (h : n = 172) : Calls Tryd.prog 106 #[.int .u8 n] w (TypesPost n w) := by
  have HE := Lib.hid (show typesR n = _ by unfold typesR; rw [if_neg (by omega), if_neg (by omega), if_neg (by omega), if_neg (by omega), if_neg (by unfold between; simp; omega), if_neg (by omega), if_neg (by unfold between; simp; omega), if_neg (by unfold between; simp; omega), if_neg (by unfold between; simp; omega), if_neg (by unfold between; simp; omega), if_neg (by unfold between; simp; omega), if_neg (by omega), if_pos (by omega)])
  have t0a : ((n : Int) == 63) = false := by simp; omega
  have t0b : ((n : Int) == 65) = false := by simp; omega
  have t1a : ((n : Int) == 64) = false := by simp; omega
  have t2a : ((n : Int) == 66) = false := by simp; omega
  have t3a : ((n : Int) == 69) = false := by simp; omega
  have t4 : between n 70 79 = false := by unfold between; simp; omega
  have t5a : ((n : Int) == 80) = false := by simp; omega
  have t6 : between n 81 90 = false := by unfold between; simp; omega
  have t7 : between n 103 105 = false := by unfold between; simp; omega
  have t8 : between n 106 120 = false := by unfold between; simp; omega
  have t9 : between n 121 123 = false := by unfold between; simp; omega
  have t10 : between n 124 138 = false := by unfold between; simp; omega
  have t11a : ((n : Int) == 167) = false := by simp; omega
  have t12a : ((n : Int) == 172) = true := by simp; omega
  clear h
  go_enter Tryd.func106, Tryd.ntmps106
  go_wp2_with (go_at_call 141; refine (between_any _ _ _ _).mono ?_; rintro e w' ⟨rfl, rfl⟩)
  go_ret2
  exact ⟨ret_two HE.out rfl rfl, Below.refl _ _⟩
set_option maxRecDepth 100000 in
theorem types_12_173 (n : Nat) (w : World) (h : n = 173) : Calls Tryd.prog 106 #[.int .u8 n] w (TypesPost n w) := by
  have HE := Lib.hid (show typesR n = _ by unfold typesR; rw [if_neg (by omega), if_neg (by omega), if_neg (by omega), if_neg (by omega), if_neg (by unfold between; simp; omega), if_neg (by omega), if_neg (by unfold between; simp; omega), if_neg (by unfold between; simp; omega), if_neg (by unfold between; simp; omega), if_neg (by unfold between; simp; omega), if_neg (by unfold between; simp; omega), if_neg (by omega), if_pos (by omega)])
  have t0a : ((n : Int) == 63) = false := by simp; omega
  have t0b : ((n : Int) == 65) = false := by simp; omega
  have t1a : ((n : Int) == 64) = false := by simp; omega
  have t2a : ((n : Int) == 66) = false := by simp; omega
  have t3a : ((n : Int) == 69) = false := by simp; omega
  have t4 : between n 70 79 = false := by unfold between; simp; omega
  have t5a : ((n : Int) == 80) = false := by simp; omega
  have t6 : between n 81 90 = false := by unfold between; simp; omega
  have t7 : between n 103 105 = false := by unfold between; simp; omega
  have t8 : between n 106 120 = false := by unfold between; simp; omega
  have t9 : between n 121 123 = false := by unfold between; simp; omega
  have t10 : between n 124 138 = false := by unfold between; simp; omega
  have t11a : ((n : Int) == 167) = false := by simp; omega
  have t12a : ((n : Int) == 172) = false := by simp; omega
  have t12b : ((n : Int) == 173) = true := by simp; omega
  clear h
  go_enter Tryd.func106, Tryd.ntmps106
  go_wp2_with (go_at_call 141; refine (between_any _ _ _ _).mono ?_; rintro e w' ⟨rfl, rfl⟩)
  go_ret2
  exact ⟨ret_two HE.out rfl rfl, Below.refl _ _⟩
set_option maxRecDepth 100000 in
theorem types_else (n : Nat) (w : World) (hT : Tabs w) (hn : n ≤ 255) (h0 : ¬ (n = 63 ∨ n = 65)) (h1 : ¬ (n = 64)) (h2 : ¬ (n = 66)) (h3 : ¬ (n = 69)) (h4 : ¬ (70 ≤ n ∧ n ≤ 79)) (h5 : ¬ (n = 80)) (h6 : ¬ (81 ≤ n ∧ n ≤ 90)) (h7 : ¬ (103 ≤ n ∧ n ≤ 105)) (h8 : ¬ (106 ≤ n ∧ n ≤ 120)) (h9 : ¬ (121 ≤ n ∧ n ≤ 123)) (h10 : ¬ (124 ≤ n ∧ n ≤ 138)) (h11 : ¬ (n = 167)) (h12 : ¬ (n = 172 ∨ n = 173)) : Calls Tryd.prog 106 #[.int .u8 n] w (TypesPost n w) := by
  have HE := Lib.hid (show typesR n = _ by unfold typesR; rw [if_neg (by omega), if_neg (by omega), if_neg (by omega), if_neg (by omega), if_neg (by unfold between; simp; omega), if_neg (by omega), if_neg (by unfold between; simp; omega), if_neg (by unfold between; simp; omega), if_neg (by unfold between; simp; omega), if_neg (by unfold between; simp; omega), if_neg (by unfold between; simp; omega), if_neg (by omega), if_neg (by omega)])
  have t0a : ((n : Int) == 63) = false := by simp; omega
  have t0b : ((n : Int) == 65) = false := by simp; omega
  have t1a : ((n : Int) == 64) = false := by simp; omega
  have t2a : ((n : Int) == 66) = false := by simp; omega
  have t3a : ((n : Int) == 69) = false := by simp; omega
  have t4 : between n 70 79 = false := by unfold between; simp; omega
  have t5a : ((n : Int) == 80) = false := by simp; omega
  have t6 : between n 81 90 = false := by unfold between; simp; omega
  have t7 : between n 103 105 = false := by unfold between; simp; omega
  have t8 : between n 106 120 = false := by unfold between; simp; omega
  have t9 : between n 121 123 = false := by unfold between; simp; omega
  have t10 : between n 124 138 = false := by unfold between; simp; omega
  have t11a : ((n : Int) == 167) = false := by simp; omega
  have t12a : ((n : Int) == 172) = false := by simp; omega
  have t12b : ((n : Int) == 173) = false := by simp; omega
  clear h0 h1 h2 h3 h4 h5 h6 h7 h8 h9 h10 h11 h12
  have HT := Lib.hid hT
  clear hT
  go_enter Tryd.func106, Tryd.ntmps106
  go_wp2_with (first | (go_at_call 141; refine (between_any _ _ _ _).mono ?_; rintro e w' ⟨rfl, rfl⟩) | (go_at_call 142; go_must (refine (accTypes_any n _ HT.out hn).mono ?_; rintro e w' ⟨rfl, hb⟩; have HB := Lib.hid hb; clear hb)))
  go_ret2
  exact ⟨ret_two HE.out rfl rfl, HB.out⟩
theorem types_any (n : Nat) (w : World) (hT : Tabs w) (hn : n ≤ 255) : Calls Tryd.prog 106 #[.int .u8 n] w (TypesPost n w) := by
  by_cases h0_63 : n = 63
  · exact types_0_63 n w h0_63
  by_cases h0_65 : n = 65
  · exact types_0_65 n w h0_65
  by_cases h1_64 : n = 64
  · exact types_1_64 n w h1_64
  by_cases h2_66 : n = 66
  · exact types_2_66 n w h2_66
  by_cases h3_69 : n = 69
  · exact types_3_69 n w h3_69
  by_cases h4 : 70 ≤ n ∧ n ≤ 79
  · exact types_4 n w h4
  by_cases h5_80 : n = 80
  · exact types_5_80 n w h5_80
  by_cases h6 : 81 ≤ n ∧ n ≤ 90
  · exact types_6 n w h6
  by_cases h7 : 103 ≤ n ∧ n ≤ 105
  · exact types_7 n w h7
  by_cases h8 : 106 ≤ n ∧ n ≤ 120
  · exact types_8 n w h8
  by_cases h9 : 121 ≤ n ∧ n ≤ 123
  · exact types_9 n w h9
  by_cases h10 : 124 ≤ n ∧ n ≤ 138
  · exact types_10 n w h10
  by_cases h11_167 : n = 167
  · exact types_11_167 n w h11_167
  by_cases h12_172 : n = 172
  · exact types_12_172 n w h12_172
  by_cases h12_173 : n = 173
  · exact types_12_173 n w h12_173
  exact types_else n w hT hn (by omega) (by omega) (by omega) (by omega) (by omega) (by omega) (by omega) (by omega) (by omega) (by omega) (by omega) (by omega) (by omega)

theorem float_const (n : Nat) (w : World) (h : n = 42 ∨ n = 43 ∨ n = 56 ∨ n = 57 ∨ n = 67 ∨ n = 68) : Calls Tryd.prog 105 #[.int .u8 n] w fun e w' => e = .returned (.bool (floatR n)) ∧ w = w' := by
  rcases h with rfl | rfl | rfl | rfl | rfl | rfl
  all_goals
    go_enter Tryd.func105, Tryd.ntmps105
    go_wp2
    go_ret
    exact ⟨rfl, rfl⟩
theorem float_else (n : Nat) (w : World) (h : ¬ (n = 42 ∨ n = 43 ∨ n = 56 ∨ n = 57 ∨ n = 67 ∨ n = 68)) : Calls Tryd.prog 105 #[.int .u8 n] w fun e w' => e = .returned (.bool (floatR n)) ∧ w = w' := by
  have d42 : ((n : Int) == 42) = false := by simp; omega
  have d43 : ((n : Int) == 43) = false := by simp; omega
  have d56 : ((n : Int) == 56) = false := by simp; omega
  have d57 : ((n : Int) == 57) = false := by simp; omega
  have d67 : ((n : Int) == 67) = false := by simp; omega
  have d68 : ((n : Int) == 68) = false := by simp; omega
  have HE := Lib.hid (show floatR n = (between n 91 102 || between n 139 166 || between n 168 171 || between n 174 191) by unfold floatR; rw [decide_eq_false h]; rfl)
  clear h
  by_cases b1 : between n 91 102 = true
  · rw [b1] at HE
    go_enter Tryd.func105, Tryd.ntmps105
    go_wp2_with (go_at_call 141; refine (between_any _ _ _ _).mono ?_; rintro e w' ⟨rfl, rfl⟩)
    go_ret
    exact ⟨ret_bool (by rw [HE.out]; rfl), rfl⟩
  · have b1 : between n 91 102 = false := by simpa using b1
    rw [b1] at HE
    by_cases b2 : between n 139 166 = true
    · rw [b2] at HE
      go_enter Tryd.func105, Tryd.ntmps105
      go_wp2_with (go_at_call 141; refine (between_any _ _ _ _).mono ?_; rintro e w' ⟨rfl, rfl⟩)
      go_ret
      exact ⟨ret_bool (by rw [HE.out]; rfl), rfl⟩
    · have b2 : between n 139 166 = false := by simpa using b2
      rw [b2] at HE
      by_cases b3 : between n 168 171 = true
      · rw [b3] at HE
        go_enter Tryd.func105, Tryd.ntmps105
        go_wp2_with (go_at_call 141; refine (between_any _ _ _ _).mono ?_; rintro e w' ⟨rfl, rfl⟩)
        go_ret
        exact ⟨ret_bool (by rw [HE.out]; rfl), rfl⟩
      · have b3 : between n 168 171 = false := by simpa using b3
        rw [b3] at HE
        go_enter Tryd.func105, Tryd.ntmps105
        go_wp2_with (go_at_call 141; refine (between_any _ _ _ _).mono ?_; rintro e w' ⟨rfl, rfl⟩)
        go_ret
        exact ⟨ret_bool (by rw [HE.out]; rfl), rfl⟩
theorem float_any (n : Nat) (w : World) : Calls Tryd.prog 105 #[.int .u8 n] w fun e w' => e = .returned (.bool (floatR n)) ∧ w = w' := by
  by_cases h : n = 42 ∨ n = 43 ∨ n = 56 ∨ n = 57 ∨ n = 67 ∨ n = 68
  · exact float_const n w h
  · exact float_else n w h

theorem check_any (n : Nat) (w : World) (hT : Tabs w) (hn : n ≤ 255) : Calls Tryd.prog 65 #[.int .u8 n] w fun e w' => e = .returned (.int .i64 (checkR n)) ∧ w = w' := by
  have HT := Lib.hid hT
  clear hT
  by_cases h : nameR n = []
  · have s1 : (S (nameR n)).toList.isEmpty = true := by rw [S_toList, h]; rfl
    by_cases hf : floatR n = true
    · have HE := Lib.hid (show checkR n = 8 by unfold checkR; rw [if_neg (by simpa using h), if_pos hf])
      clear h
      go_enter Tryd.func65, Tryd.ntmps65
      go_wp2_with (first | (go_at_call 104; go_must (refine (name_any n _ HT.out hn).mono ?_; rintro e w' ⟨rfl, rfl⟩)) | (go_at_call 105; go_must (refine (float_any n _).mono ?_; rintro e w' ⟨rfl, rfl⟩)))
      go_ret
      exact ⟨ret_int (by rw [HE.out]; rfl), rfl⟩
    · have hf : floatR n = false := by simpa using hf
      have HE := Lib.hid (show checkR n = 9 by unfold checkR; rw [if_neg (by simpa using h), if_neg (by rw [hf]; decide)])
      clear h
      go_enter Tryd.func65, Tryd.ntmps65
      go_wp2_with (first | (go_at_call 104; go_must (refine (name_any n _ HT.out hn).mono ?_; rintro e w' ⟨rfl, rfl⟩)) | (go_at_call 105; go_must (refine (float_any n _).mono ?_; rintro e w' ⟨rfl, rfl⟩)))
      go_ret
      exact ⟨ret_int (by rw [HE.out]; rfl), rfl⟩
  · have s1 : (S (nameR n)).toList.isEmpty = false := by rw [S_toList]; simpa using h
    have HE := Lib.hid (show checkR n = 0 by unfold checkR; rw [if_pos h])
    clear h
    go_enter Tryd.func65, Tryd.ntmps65
    go_wp2_with (first | (go_at_call 104; go_must (refine (name_any n _ HT.out hn).mono ?_; rintro e w' ⟨rfl, rfl⟩)) | (go_at_call 105; go_must (refine (float_any n _).mono ?_; rintro e w' ⟨rfl, rfl⟩)))
    go_ret
    exact ⟨ret_int (by rw [HE.out]; rfl), rfl⟩

/-- What Of hands back. -/
def infV (i : Inf) : Value := .agg #[.string (S i.name), .int .i64 i.imm, .string (S i.ps), .string (S i.rs), .bool i.free]
theorem of_any (n : Nat) (w : World) (hT : Tabs w) (hn : n ≤ 255) : Calls Tryd.prog 66 #[.int .u8 n] w fun e w' => e = .returned (infV (infR n)) ∧ Below w.heap.size w w' := by
  have HT := Lib.hid hT
  have HT1 := Lib.hid (fun (o : Obj) => hT.below ((Below.refl w.heap.size w).alloc (Nat.le_refl _) o))
  clear hT
  by_cases h : nameR n = []
  · have s1 : (S (nameR n)).toList.isEmpty = true := by rw [S_toList, h]; rfl
    have HE := Lib.hid (show infR n = ⟨[], 0, [], [], false⟩ by unfold infR; rw [if_pos h])
    clear h
    go_enter Tryd.func66, Tryd.ntmps66
    go_wp2_with (go_at_call 104; go_must (refine (name_any n _ (HT1.out _) hn).mono ?_; rintro e w' ⟨rfl, rfl⟩))
    exact bodyPost_ret (v := infV ⟨[], 0, [], [], false⟩) (by simp [results, Tryd.results66, go_sem]; rfl) rfl ⟨by rw [HE.out], (Below.refl _ _).alloc (Nat.le_refl _) _⟩
  · have s1 : (S (nameR n)).toList.isEmpty = false := by rw [S_toList]; simpa using h
    have HE := Lib.hid (show infR n = ⟨nameR n, immR n, (typesR n).1, (typesR n).2, freeR n⟩ by unfold infR; rw [if_neg h])
    clear h
    go_enter Tryd.func66, Tryd.ntmps66
    go_wp2_with (first | (go_at_call 104; go_must (refine (name_any n _ (HT1.out _) hn).mono ?_; rintro e w' ⟨rfl, rfl⟩)) | (go_at_call 108; go_must (refine (free_any n _ hn).mono ?_; rintro e w' ⟨rfl, rfl⟩)) | (go_at_call 106; go_must (refine (types_any n _ (HT1.out _) hn).mono ?_; rintro e w1 ⟨rfl, hb1⟩; have HB1 := Lib.hid hb1; have hz1 := hb1.size; clear hb1)) | (go_at_call 107; go_must (refine (imm_any n _ ((HT1.out _).below HB1.out) hn).mono ?_; rintro e w2 ⟨rfl, hb2⟩; have hz2 := hb2.size; have hW := Lib.hid (((Whole.made w 115 #[.string ⟨#[]⟩, .int .i64 0, .string ⟨#[]⟩, .string ⟨#[]⟩, .bool false]).below HB1.out).below hb2); have HB2 := Lib.hid hb2; clear hb2; have c0 : w2.cell? ⟨w.heap.size, 0, none⟩ = some (.string ⟨#[]⟩) := hW.out.cell 0; have c1 : w2.cell? ⟨w.heap.size, 1, none⟩ = some (.int .i64 0) := hW.out.cell 1; have c2 : w2.cell? ⟨w.heap.size, 2, none⟩ = some (.string ⟨#[]⟩) := hW.out.cell 2; have c3 : w2.cell? ⟨w.heap.size, 3, none⟩ = some (.string ⟨#[]⟩) := hW.out.cell 3; have c4 : w2.cell? ⟨w.heap.size, 4, none⟩ = some (.bool false) := hW.out.cell 4; have f0 := hW.out.frozen 0; have f1 := hW.out.frozen 1; have f2 := hW.out.frozen 2; have f3 := hW.out.frozen 3; have f4 := hW.out.frozen 4)))
    exact bodyPost_ret (v := infV ⟨nameR n, immR n, (typesR n).1, (typesR n).2, freeR n⟩) (by simp [results, Tryd.results66, go_sem, infV, c0, c1, c2, c3, c4]) rfl ⟨by rw [HE.out],
      ((((((((Below.refl _ _).alloc (Nat.le_refl _) _).trans (HB1.out.mono (by simp))).trans (HB2.out.mono (by simp at hz1; omega))).setCell (Nat.le_refl _) _).setCell (Nat.le_refl _) _).setCell (Nat.le_refl _) _).setCell (Nat.le_refl _) _).setCell (Nat.le_refl _) _⟩
end Go.Proofs.YtebgmfjgapmpfaaDoor
