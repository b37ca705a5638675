/- The tables of package ops in a world; nameOf. -/
import Derived.Test.YtfimjjeabbbciaaDoorMem
import Derived.Test.YtfimjjeabbbciaaDoorData
import Derived.Laws.Rows
import Derived.Lib.Hide
import Derived.Deep.DeepMust
import Derived.LoopTactic
import Derived.KernelRfl
namespace Go.Proofs.YtfimjjeabbbciaaDoor
open Go.RowKit

def strs (l : List (List UInt8)) : Array Value := (l.map fun s => .string (S s)).toArray
def accCells (l : List AccR) : Array Value := (l.flatMap fun a => [.int .i64 a.n, .int .u8 a.t, .bool a.wr, .bool a.sg]).toArray
/-- The tables lie where they are laid. -/
structure Tabs (w : World) : Prop where
  h0 : ∃ t fr, w.heap[1]? = some (.cells (strs tab0) t fr)
  h1 : ∃ t fr, w.heap[2]? = some (.cells (strs tab1) t fr)
  h2 : ∃ t fr, w.heap[3]? = some (.cells (strs tab2) t fr)
  h3 : ∃ t fr, w.heap[4]? = some (.cells (strs tab3) t fr)
  h4 : ∃ t fr, w.heap[5]? = some (.cells (strs tab4) t fr)
  hA : ∃ t fr, w.heap[0]? = some (.cells (accCells tabA) t fr)
theorem tab_below {w wr : World} {g : Nat} {cs : Array Value} (h : ∃ t fr, w.heap[g]? = some (.cells cs t fr)) (hb : Below w.heap.size w wr) : ∃ t fr, wr.heap[g]? = some (.cells cs t fr) := by
  obtain ⟨t, fr, h⟩ := h
  exact ⟨t, fr, (hb.block _ (Array.getElem?_eq_some_iff.1 h).1).trans h⟩
theorem Tabs.below {w wr : World} (h : Tabs w) (hb : Below w.heap.size w wr) : Tabs wr :=
  ⟨tab_below h.h0 hb, tab_below h.h1 hb, tab_below h.h2 hb, tab_below h.h3 hb, tab_below h.h4 hb, tab_below h.hA hb⟩
theorem strs_get (l : List (List UInt8)) (i : Nat) (h : i < l.length) : (strs l)[i]? = some (.string (S (l.getD i []))) := by
  unfold strs
  simp [List.getD, List.getElem?_eq_getElem h]
theorem tab_cell {w : World} {g : Nat} {l : List (List UInt8)} (h : ∃ t fr, w.heap[g]? = some (.cells (strs l) t fr)) (i : Nat) (hi : i < l.length) : w.cell? ⟨g, i, none⟩ = some (.string (S (l.getD i []))) := by
  obtain ⟨t, fr, h⟩ := h
  rw [cell_of_row w g i _ t fr h, strs_get l i hi]

theorem ret_bool {a b : Bool} (h : a = b) : Ending.returned (.bool a) = .returned (.bool b) := by rw [h]
theorem ret_str {a b : List UInt8} (h : a = b) : Ending.returned (.string (S a)) = .returned (.string (S b)) := by rw [h]

theorem between_any (n a b : Nat) (w : World) : Calls Tryd.prog 25 #[.int .u8 n, .int .u8 a, .int .u8 b] w fun e w' => e = .returned (.bool (between n a b)) ∧ w = w' := by
  by_cases h1 : a ≤ n
  · by_cases h2 : n ≤ b
    · have HE := Lib.hid (show between n a b = true by unfold between; simp; omega)
      go_enter Tryd.func25, Tryd.ntmps25
      go_wp2
      go_ret
      exact ⟨ret_bool (by rw [HE.out]), rfl⟩
    · have HE := Lib.hid (show between n a b = false by unfold between; simp; omega)
      have hd : decide (n ≤ b) = false := by simpa using h2
      go_enter Tryd.func25, Tryd.ntmps25
      go_wp2
      go_ret
      exact ⟨ret_bool (by rw [HE.out]), rfl⟩
  · have HE := Lib.hid (show between n a b = false by unfold between; simp; omega)
    have hd : decide (a ≤ n) = false := by simpa using h1
    go_enter Tryd.func25, Tryd.ntmps25
    go_wp2
    go_ret
    exact ⟨ret_bool (by rw [HE.out]), rfl⟩

theorem free_any (n : Nat) (w : World) (hn : n ≤ 255) : Calls Tryd.prog 22 #[.int .u8 n] w fun e w' => e = .returned (.bool (freeR n)) ∧ w = w' := by
  by_cases h1 : n < 37
  · by_cases h2 : n = 1
    · subst h2
      go_enter Tryd.func22, Tryd.ntmps22
      go_wp2
      go_ret
      exact ⟨rfl, rfl⟩
    · have HE := Lib.hid (show freeR n = true by unfold freeR; simp; omega)
      have hd : ((n : Int) != 1) = true := by simp; omega
      go_enter Tryd.func22, Tryd.ntmps22
      go_wp2
      go_ret
      exact ⟨ret_bool (by rw [HE.out]), rfl⟩
  · have HE := Lib.hid (show freeR n = false by unfold freeR; simp; omega)
    have hd : decide (n < 37) = false := by simpa using h1
    go_enter Tryd.func22, Tryd.ntmps22
    go_wp2
    go_ret
    exact ⟨ret_bool (by rw [HE.out]), rfl⟩

theorem name_lo (n : Nat) (w : World) (hT : Tabs w) (hn : n < 37) : Calls Tryd.prog 19 #[.int .u8 n] w fun e w' => e = .returned (.string (S (nameR n))) ∧ w = w' := by
  have hc := tab_cell hT.h0 n (by show _ < 37; omega)
  have HE := Lib.hid (show nameR n = tab0.getD n [] by unfold nameR; rw [if_pos hn])
  obtain ⟨s, hs⟩ : ∃ s, s = tab0.getD n [] := ⟨_, rfl⟩
  rw [← hs] at hc HE
  clear hs
  go_enter Tryd.func19, Tryd.ntmps19
  go_wp2
  go_ret
  exact ⟨ret_str HE.out.symm, rfl⟩
theorem name_mem (n : Nat) (w : World) (hT : Tabs w) (h1 : 40 ≤ n) (h2 : n < 67) : Calls Tryd.prog 19 #[.int .u8 n] w fun e w' => e = .returned (.string (S (nameR n))) ∧ w = w' := by
  have hc := tab_cell hT.h1 (n - 40) (by show _ < 27; omega)
  have HE := Lib.hid (show nameR n = tab1.getD (n - 40) [] by unfold nameR; rw [if_neg (by omega), if_pos ⟨h1, h2⟩])
  obtain ⟨s, hs⟩ : ∃ s, s = tab1.getD (n - 40) [] := ⟨_, rfl⟩
  rw [← hs] at hc HE
  clear hs
  have d0 : decide (n < 37) = false := by simp; omega
  go_enter Tryd.func19, Tryd.ntmps19
  go_wp2
  go_ret
  exact ⟨ret_str HE.out.symm, rfl⟩
theorem name_test (n : Nat) (w : World) (hT : Tabs w) (h1 : 69 ≤ n) (h2 : n < 91) : Calls Tryd.prog 19 #[.int .u8 n] w fun e w' => e = .returned (.string (S (nameR n))) ∧ w = w' := by
  have hc := tab_cell hT.h2 (n - 69) (by show _ < 22; omega)
  have HE := Lib.hid (show nameR n = tab2.getD (n - 69) [] by unfold nameR; rw [if_neg (by omega), if_neg (by omega), if_pos ⟨h1, h2⟩])
  obtain ⟨s, hs⟩ : ∃ s, s = tab2.getD (n - 69) [] := ⟨_, rfl⟩
  rw [← hs] at hc HE
  clear hs
  have d0 : decide (n < 37) = false := by simp; omega
  have d1 : decide (n < 67) = false := by simp; omega
  go_enter Tryd.func19, Tryd.ntmps19
  go_wp2
  go_ret
  exact ⟨ret_str HE.out.symm, rfl⟩
set_option maxRecDepth 100000 in
theorem name_num (n : Nat) (w : World) (hT : Tabs w) (h1 : 103 ≤ n) (h2 : n < 139) : Calls Tryd.prog 19 #[.int .u8 n] w fun e w' => e = .returned (.string (S (nameR n))) ∧ w = w' := by
  have hc := tab_cell hT.h3 (n - 103) (by show _ < 36; omega)
  have HE := Lib.hid (show nameR n = tab3.getD (n - 103) [] by unfold nameR; rw [if_neg (by omega), if_neg (by omega), if_neg (by omega), if_pos ⟨h1, h2⟩])
  obtain ⟨s, hs⟩ : ∃ s, s = tab3.getD (n - 103) [] := ⟨_, rfl⟩
  rw [← hs] at hc HE
  clear hs
  have d0 : decide (n < 37) = false := by simp; omega
  have d1 : decide (n < 67) = false := by simp; omega
  have d2 : decide (n < 91) = false := by simp; omega
  go_enter Tryd.func19, Tryd.ntmps19
  go_wp2
  go_ret
  exact ⟨ret_str HE.out.symm, rfl⟩
set_option maxRecDepth 100000 in
theorem name_conv (n : Nat) (w : World) (hT : Tabs w) (h1 : 167 ≤ n) (h2 : n < 174) : Calls Tryd.prog 19 #[.int .u8 n] w fun e w' => e = .returned (.string (S (nameR n))) ∧ w = w' := by
  have hc := tab_cell hT.h4 (n - 167) (by show _ < 7; omega)
  have HE := Lib.hid (show nameR n = tab4.getD (n - 167) [] by unfold nameR; rw [if_neg (by omega), if_neg (by omega), if_neg (by omega), if_neg (by omega), if_pos ⟨h1, h2⟩])
  obtain ⟨s, hs⟩ : ∃ s, s = tab4.getD (n - 167) [] := ⟨_, rfl⟩
  rw [← hs] at hc HE
  clear hs
  have d0 : decide (n < 37) = false := by simp; omega
  have d1 : decide (n < 67) = false := by simp; omega
  have d2 : decide (n < 91) = false := by simp; omega
  have d3 : decide (n < 139) = false := by simp; omega
  go_enter Tryd.func19, Tryd.ntmps19
  go_wp2
  go_ret
  exact ⟨ret_str HE.out.symm, rfl⟩
set_option maxRecDepth 100000 in
theorem name_none (n : Nat) (w : World) (hn : n ≤ 255) (h : (37 ≤ n ∧ n < 40) ∨ (67 ≤ n ∧ n < 69) ∨ (91 ≤ n ∧ n < 103) ∨ (139 ≤ n ∧ n < 167) ∨ 174 ≤ n) : Calls Tryd.prog 19 #[.int .u8 n] w fun e w' => e = .returned (.string (S (nameR n))) ∧ w = w' := by
  have HE := Lib.hid (show nameR n = [] by unfold nameR; rw [if_neg (by omega), if_neg (by omega), if_neg (by omega), if_neg (by omega), if_neg (by omega)])
  have d0 : decide (n < 37) = false := by simp; omega
  rcases h with ⟨h1, h2⟩ | ⟨h1, h2⟩ | ⟨h1, h2⟩ | ⟨h1, h2⟩ | h1
  all_goals
    go_enter Tryd.func19, Tryd.ntmps19
    go_wp2
    all_goals (first | (exfalso; omega) | (go_ret; exact ⟨ret_str HE.out.symm, rfl⟩))
theorem name_any (n : Nat) (w : World) (hT : Tabs w) (hn : n ≤ 255) : Calls Tryd.prog 19 #[.int .u8 n] w fun e w' => e = .returned (.string (S (nameR n))) ∧ w = w' := by
  by_cases a : n < 37
  · exact name_lo n w hT a
  by_cases b : 40 ≤ n ∧ n < 67
  · exact name_mem n w hT b.1 b.2
  by_cases c : 69 ≤ n ∧ n < 91
  · exact name_test n w hT c.1 c.2
  by_cases d : 103 ≤ n ∧ n < 139
  · exact name_num n w hT d.1 d.2
  by_cases f : 167 ≤ n ∧ n < 174
  · exact name_conv n w hT f.1 f.2
  exact name_none n w hn (by omega)
end Go.Proofs.YtfimjjeabbbciaaDoor

