/- The names of types, as lists of bytes; types.names in the world; types.Name, types.Byte, creelref04.Name. -/
import Derived.Test.YtlhjgjplnaoieaaDoorRow
import Derived.Laws.Rows
import Derived.Deep.DeepMust
namespace Go.Proofs.YtlhjgjplnaoieaaDoor
open Go.RowKit

/-- The name of a type, by its byte's number. -/
def nameZ (n : Int) : List UInt8 :=
  if n = 127 then [105, 51, 50] else if n = 126 then [105, 54, 52] else if n = 125 then [102, 51, 50] else if n = 124 then [102, 54, 52] else if n = 112 then [102, 117, 110, 99, 114, 101, 102] else [63]
/-- The byte of a name, or 0. -/
def byteZ (s : List UInt8) : Int :=
  if s = [105, 51, 50] then 127 else if s = [105, 54, 52] then 126 else if s = [102, 51, 50] then 125 else if s = [102, 54, 52] then 124 else if s = [102, 117, 110, 99, 114, 101, 102] then 112 else 0
theorem nameZ_len (n : Int) : 1 ≤ (nameZ n).length ∧ (nameZ n).length ≤ 7 := by
  unfold nameZ
  repeat' split
  all_goals simp
theorem byteZ_bd (s : List UInt8) : 0 ≤ byteZ s ∧ byteZ s ≤ 127 := by
  unfold byteZ
  repeat' split
  all_goals omega
/-- A byte from 1 on bears this name, which isn't the question mark: it is the name's byte. -/
theorem name_byte (s : List UInt8) (n : Int) (h1 : 1 ≤ n) : (nameZ n = s ∧ s ≠ [63]) ↔ byteZ s = n := by
  constructor
  · rintro ⟨rfl, h⟩
    unfold nameZ at h ⊢
    by_cases a1 : n = 127
    · subst a1; rfl
    by_cases a2 : n = 126
    · subst a2; rfl
    by_cases a3 : n = 125
    · subst a3; rfl
    by_cases a4 : n = 124
    · subst a4; rfl
    by_cases a5 : n = 112
    · subst a5; rfl
    rw [if_neg a1, if_neg a2, if_neg a3, if_neg a4, if_neg a5] at h
    exact absurd rfl h
  · intro h
    unfold byteZ at h
    by_cases a1 : s = [105, 51, 50]
    · subst a1; simp at h; subst h; decide
    by_cases a2 : s = [105, 54, 52]
    · subst a2; simp at h; subst h; decide
    by_cases a3 : s = [102, 51, 50]
    · subst a3; simp at h; subst h; decide
    by_cases a4 : s = [102, 54, 52]
    · subst a4; simp at h; subst h; decide
    by_cases a5 : s = [102, 117, 110, 99, 114, 101, 102]
    · subst a5; simp at h; subst h; decide
    rw [if_neg a1, if_neg a2, if_neg a3, if_neg a4, if_neg a5] at h
    omega

/-- What types.names holds. -/
def rowN : Array Value := #[.int .u8 127, .string (S [105, 51, 50]), .int .u8 126, .string (S [105, 54, 52]), .int .u8 125, .string (S [102, 51, 50]), .int .u8 124, .string (S [102, 54, 52]), .int .u8 112, .string (S [102, 117, 110, 99, 114, 101, 102])]
def Tab (w : World) : Prop := ∃ t fr, w.heap[0]? = some (.cells rowN t fr)
theorem Tab.below {w wr : World} (h : Tab w) (hb : Below w.heap.size w wr) : Tab wr := by
  obtain ⟨t, fr, h⟩ := h
  exact ⟨t, fr, (hb.block _ (Array.getElem?_eq_some_iff.1 h).1).trans h⟩
theorem Tab.drew {w : World} (h : Tab w) : Tab w.drew := h
theorem Tab.drewN {w : World} (h : Tab w) (n : Nat) : Tab (w.drewN n) := h
theorem Tab.alloc {w : World} (h : Tab w) (o : Obj) : Tab (w.alloc o) := h.below ((Below.refl _ _).alloc (Nat.le_refl _) _)
/-- The parts of the table. -/
def partN (k : Nat) : Int × List UInt8 := match k with
  | 0 => (127, [105, 51, 50])
  | 1 => (126, [105, 54, 52])
  | 2 => (125, [102, 51, 50])
  | 3 => (124, [102, 54, 52])
  | _ => (112, [102, 117, 110, 99, 114, 101, 102])
theorem part0 (w : World) : (Instr.index 67 (.agg rowN) (.int .i64 0)).run Tryd.prog w = .ok (.agg #[.int .u8 127, .string (S [105, 51, 50])]) w := by kernel_rfl
theorem part1 (w : World) : (Instr.index 67 (.agg rowN) (.int .i64 1)).run Tryd.prog w = .ok (.agg #[.int .u8 126, .string (S [105, 54, 52])]) w := by kernel_rfl
theorem part2 (w : World) : (Instr.index 67 (.agg rowN) (.int .i64 2)).run Tryd.prog w = .ok (.agg #[.int .u8 125, .string (S [102, 51, 50])]) w := by kernel_rfl
theorem part3 (w : World) : (Instr.index 67 (.agg rowN) (.int .i64 3)).run Tryd.prog w = .ok (.agg #[.int .u8 124, .string (S [102, 54, 52])]) w := by kernel_rfl
theorem part4 (w : World) : (Instr.index 67 (.agg rowN) (.int .i64 4)).run Tryd.prog w = .ok (.agg #[.int .u8 112, .string (S [102, 117, 110, 99, 114, 101, 102])]) w := by kernel_rfl
theorem part_at (k : Nat) (hk : k < 5) (w : World) : (Instr.index 67 (.agg rowN) (.int .i64 (k : Int))).run Tryd.prog w = .ok (.agg #[.int .u8 (partN k).1, .string (S (partN k).2)]) w := by
  match k, hk with
  | 0, _ => exact part0 w
  | 1, _ => exact part1 w
  | 2, _ => exact part2 w
  | 3, _ => exact part3 w
  | 4, _ => exact part4 w
theorem nameZ_none {n : Int} (h : ∀ j, j < 5 → (partN j).1 ≠ n) : nameZ n = [63] := by
  have h0 := h 0 (by omega); have h1 := h 1 (by omega); have h2 := h 2 (by omega); have h3 := h 3 (by omega); have h4 := h 4 (by omega)
  simp only [partN] at h0 h1 h2 h3 h4
  unfold nameZ
  rw [if_neg (by omega), if_neg (by omega), if_neg (by omega), if_neg (by omega), if_neg (by omega)]
theorem nameZ_part (k : Nat) : nameZ (partN k).1 = (partN k).2 := by
  unfold partN; split <;> rfl
theorem byteZ_part (k : Nat) : byteZ (partN k).2 = (partN k).1 := by
  unfold partN; split <;> rfl
theorem byteZ_none {s : List UInt8} (h : ∀ j, j < 5 → (partN j).2 ≠ s) : byteZ s = 0 := by
  have h0 := h 0 (by omega); have h1 := h 1 (by omega); have h2 := h 2 (by omega); have h3 := h 3 (by omega); have h4 := h 4 (by omega)
  simp only [partN] at h0 h1 h2 h3 h4
  unfold byteZ
  rw [if_neg (fun e => h0 e.symm), if_neg (fun e => h1 e.symm), if_neg (fun e => h2 e.symm), if_neg (fun e => h3 e.symm), if_neg (fun e => h4 e.symm)]

theorem ret_str {a b : List UInt8} (h : a = b) : Ending.returned (.string (S a)) = .returned (.string (S b)) := by rw [h]

set_option maxHeartbeats 400000 in
theorem name_any (n : Int) (w : World) (hT : Tab w) : Calls Tryd.prog 18 #[.int .u8 n] w fun e w' => e = .returned (.string (S (nameZ n))) ∧ Below w.heap.size w w' := by
  obtain ⟨t, fr, hg⟩ := hT
  have HG := Lib.hid hg
  clear hg
  go_enter Tryd.func18, Tryd.ntmps18
  go_wp2_with (refine wpList_load_row rfl _ _ rfl _ rfl _ rowN _ _ HG.out Tryd.underlying67 rfl (by kernel_rfl) ?_)
  go_loopw [6] (fun i wr => ∃ k : Nat, k ≤ 5 ∧ i = .int .i64 k ∧ (∀ j, j < k → (partN j).1 ≠ n) ∧ Below w.heap.size w wr) (fun i _ => 5 - (intOf i).toNat)
  case atStart => exact ⟨0, by omega, rfl, fun j hj => by omega, Below.refl _ _⟩
  case round =>
    obtain ⟨k, hk, rfl, hno, hbe⟩ := hrel
    have HB := Lib.hid hbe
    have HN := Lib.hid hno
    have hsz := hbe.size
    clear hbe hno
    by_cases hlt : k < 5
    · have hp := part_at k hlt
      have HE := Lib.hid (nameZ_part k)
      obtain ⟨p1, hp1⟩ : ∃ p1, p1 = (partN k).1 := ⟨_, rfl⟩
      obtain ⟨p2, hp2⟩ : ∃ p2, p2 = (partN k).2 := ⟨_, rfl⟩
      rw [← hp1, ← hp2] at hp HE
      have HP1 := Lib.hid hp1
      clear hp1 hp2
      by_cases he : p1 = n
      · subst he
        have hb : (p1 == p1) = true := by simp
        go_wp2
        go_ret
        exact ⟨ret_str HE.out.symm, HB.out.alloc HB.out.size _⟩
      · have hb : (p1 == n) = false := by simpa using he
        have HX := Lib.hid he
        clear he
        go_wp2
        go_roundw
        case rel => exact ⟨k + 1, by omega, by go_num, fun j hj => by
          rcases Nat.lt_or_ge j k with g | g
          · exact HN.out j g
          · obtain rfl : j = k := by omega
            rw [← HP1.out]; exact HX.out, HB.out.alloc HB.out.size _⟩
        case measure => simp [intOf]; omega
    · obtain rfl : k = 5 := by omega
      go_wp2
      go_ret
      exact ⟨ret_str (nameZ_none HN.out).symm, HB.out⟩

theorem ret_u8 {a b : Int} (h : a = b) : Ending.returned (.int .u8 a) = .returned (.int .u8 b) := by rw [h]
theorem S_beq (a b : List UInt8) : ((S a).toList == (S b).toList) = (a == b) := by rw [S_toList, S_toList]
set_option maxHeartbeats 400000 in
theorem byte_any (s : List UInt8) (w : World) (hT : Tab w) : Calls Tryd.prog 19 #[.string (S s)] w fun e w' => e = .returned (.int .u8 (byteZ s)) ∧ Below w.heap.size w w' := by
  obtain ⟨t, fr, hg⟩ := hT
  have HG := Lib.hid hg
  clear hg
  go_enter Tryd.func19, Tryd.ntmps19
  go_wp2_with (refine wpList_load_row rfl _ _ rfl _ rfl _ rowN _ _ HG.out Tryd.underlying67 rfl (by kernel_rfl) ?_)
  go_loopw [6] (fun i wr => ∃ k : Nat, k ≤ 5 ∧ i = .int .i64 k ∧ (∀ j, j < k → (partN j).2 ≠ s) ∧ Below w.heap.size w wr) (fun i _ => 5 - (intOf i).toNat)
  case atStart => exact ⟨0, by omega, rfl, fun j hj => by omega, Below.refl _ _⟩
  case round =>
    obtain ⟨k, hk, rfl, hno, hbe⟩ := hrel
    have HB := Lib.hid hbe
    have HN := Lib.hid hno
    have hsz := hbe.size
    clear hbe hno
    by_cases hlt : k < 5
    · have hp := part_at k hlt
      have HE := Lib.hid (byteZ_part k)
      obtain ⟨p1, hp1⟩ : ∃ p1, p1 = (partN k).1 := ⟨_, rfl⟩
      obtain ⟨p2, hp2⟩ : ∃ p2, p2 = (partN k).2 := ⟨_, rfl⟩
      rw [← hp1, ← hp2] at hp HE
      have HP2 := Lib.hid hp2
      clear hp1 hp2
      by_cases he : p2 = s
      · subst he
        have hb : ((S p2).toList == (S p2).toList) = true := by simp
        go_wp2
        go_ret
        exact ⟨ret_u8 HE.out.symm, HB.out.alloc HB.out.size _⟩
      · have hb : ((S p2).toList == (S s).toList) = false := by rw [S_beq]; simpa using he
        have HX := Lib.hid he
        clear he
        go_wp2
        go_roundw
        case rel => exact ⟨k + 1, by omega, by go_num, fun j hj => by
          rcases Nat.lt_or_ge j k with g | g
          · exact HN.out j g
          · obtain rfl : j = k := by omega
            rw [← HP2.out]; exact HX.out, HB.out.alloc HB.out.size _⟩
        case measure => simp [intOf]; omega
    · obtain rfl : k = 5 := by omega
      go_wp2
      go_ret
      exact ⟨ret_u8 (byteZ_none HN.out).symm, HB.out⟩

/-- creelref04.Name. -/
theorem refName_any (n : Int) (w : World) (h0 : 0 ≤ n) (h1 : n ≤ 255) : Calls Tryd.prog 7 #[.int .i64 n] w fun e w' => e = .returned (.string (S (nameZ n))) ∧ Below w.heap.size w w' := by
  by_cases a : 124 ≤ n
  · by_cases b : n ≤ 127
    · have hn : n = 127 ∨ n = 126 ∨ n = 125 ∨ n = 124 := by omega
      rcases hn with rfl | rfl | rfl | rfl
      all_goals
        go_enter Tryd.func7, Tryd.ntmps7
        go_wp2
        go_ret
        exact ⟨rfl, (Below.refl _ _).alloc (Nat.le_refl _) _⟩
    · have e : nameZ n = [63] := by unfold nameZ; rw [if_neg (by omega), if_neg (by omega), if_neg (by omega), if_neg (by omega), if_neg (by omega)]
      have HE := Lib.hid e
      have hd : decide (n ≤ 127) = false := by simpa using b
      have he : (n == 112) = false := by simp; omega
      clear e
      go_enter Tryd.func7, Tryd.ntmps7
      go_wp2
      go_ret
      exact ⟨ret_str HE.out.symm, (Below.refl _ _).alloc (Nat.le_refl _) _⟩
  · have hd : decide (124 ≤ n) = false := by simpa using a
    by_cases b : n = 112
    · subst b
      go_enter Tryd.func7, Tryd.ntmps7
      go_wp2
      go_ret
      exact ⟨rfl, (Below.refl _ _).alloc (Nat.le_refl _) _⟩
    · have e : nameZ n = [63] := by unfold nameZ; rw [if_neg (by omega), if_neg (by omega), if_neg (by omega), if_neg (by omega), if_neg (by omega)]
      have HE := Lib.hid e
      have he : (n == 112) = false := by simpa using b
      clear e b
      go_enter Tryd.func7, Tryd.ntmps7
      go_wp2
      go_ret
      exact ⟨ret_str HE.out.symm, (Below.refl _ _).alloc (Nat.le_refl _) _⟩
end Go.Proofs.YtlhjgjplnaoieaaDoor
