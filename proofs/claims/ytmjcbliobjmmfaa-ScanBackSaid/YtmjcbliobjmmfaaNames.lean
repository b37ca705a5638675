/- The names of types, as lists of bytes; types.names in the world; types.Name, types.Byte, creelref04.Name. -/
import Derived.Test.YtmjcbliobjmmfaaRow
import Derived.Laws.Rows
import Derived.Deep.DeepMust
namespace Go.Proofs.Ytmjcbliobjmmfaa
open Go.RowKit

/-- The name of a type, by its byte's number. -/
def nameZ (n : Int) : List UInt8 :=
  if n = 127 then [105, 51, 50] else if n = 126 then [105, 54, 52] else if n = 125 then [102, 51, 50] else if n = 124 then [102, 54, 52] else if n = 112 then [102, 117, 110, 99, 114, 101, 102] else [63]
/-- The byte of a name, or 0. -/
def byteZ (s : List UInt8) : Int :=
  if s = [105, 51, 50] then 127 else if s = [105, 54, 52] then 126 else if s = [102, 51, 50] then 125 else if s = [102, 54, 52] then 124 else if s = [102, 117, 110, 99, 114, 101, 102] then 112 else 0
theorem nameZ_len (n : Int) : 1 ≤ (nameZ n).length ∧ (nameZ n).length ≤ 7 := by
  unfold nameZ
  repeat' split
  all_goals simp
theorem byteZ_bd (s : List UInt8) : 0 ≤ byteZ s ∧ byteZ s ≤ 127 := by
  unfold byteZ
  repeat' split
  all_goals omega
/-- A byte from 1 on bears this name, which isn't the question mark: it is the name's byte. -/
theorem name_byte (s : List UInt8) (n : Int) (h1 : 1 ≤ n) : (nameZ n = s ∧ s ≠ [63]) ↔ byteZ s = n := by
  constructor
  · rintro ⟨rfl, h⟩
    unfold nameZ at h ⊢
    by_cases a1 : n = 127
    · subst a1; rfl
    by_cases a2 : n = 126
    · subst a2; rfl
    by_cases a3 : n = 125
    · subst a3; rfl
    by_cases a4 : n = 124
    · subst a4; rfl
    by_cases a5 : n = 112
    · subst a5; rfl
    rw [if_neg a1, if_neg a2, if_neg a3, if_neg a4, if_neg a5] at h
    exact absurd rfl h
  · intro h
    unfold byteZ at h
    by_cases a1 : s = [105, 51, 50]
    · subst a1; simp at h; subst h; decide
    by_cases a2 : s = [105, 54, 52]
    · subst a2; simp at h; subst h; decide
    by_cases a3 : s = [102, 51, 50]
    · subst a3; simp at h; subst h; decide
    by_cases a4 : s = [102, 54, 52]
    · subst a4; simp at h; subst h; decide
    by_cases a5 : s = [102, 117, 110, 99, 114, 101, 102]
    · subst a5; simp at h; subst h; decide
    rw [if_neg a1, if_neg a2, if_neg a3, if_neg a4, if_neg a5] at h
    omega

/-- What types.names holds. -/
def rowN : Array Value := #[.int .u8 127, .string (S [105, 51, 50]), .int .u8 126, .string (S [105, 54, 52]), .int .u8 125, .string (S [102, 51, 50]), .int .u8 124, .string (S [102, 54, 52]), .int .u8 112, .string (S [102, 117, 110, 99, 114, 101, 102])]
/-- The parts of the table. -/
def partN (k : Nat) : Int × List UInt8 := match k with
  | 0 => (127, [105, 51, 50])
  | 1 => (126, [105, 54, 52])
  | 2 => (125, [102, 51, 50])
  | 3 => (124, [102, 54, 52])
  | _ => (112, [102, 117, 110, 99, 114, 101, 102])
theorem nameZ_none {n : Int} (h : ∀ j, j < 5 → (partN j).1 ≠ n) : nameZ n = [63] := by
  have h0 := h 0 (by omega); have h1 := h 1 (by omega); have h2 := h 2 (by omega); have h3 := h 3 (by omega); have h4 := h 4 (by omega)
  simp only [partN] at h0 h1 h2 h3 h4
  unfold nameZ
  rw [if_neg (by omega), if_neg (by omega), if_neg (by omega), if_neg (by omega), if_neg (by omega)]
theorem nameZ_part (k : Nat) : nameZ (partN k).1 = (partN k).2 := by
  unfold partN; split <;> rfl
theorem byteZ_part (k : Nat) : byteZ (partN k).2 = (partN k).1 := by
  unfold partN; split <;> rfl
theorem byteZ_none {s : List UInt8} (h : ∀ j, j < 5 → (partN j).2 ≠ s) : byteZ s = 0 := by
  have h0 := h 0 (by omega); have h1 := h 1 (by omega); have h2 := h 2 (by omega); have h3 := h 3 (by omega); have h4 := h 4 (by omega)
  simp only [partN] at h0 h1 h2 h3 h4
  unfold byteZ
  rw [if_neg (fun e => h0 e.symm), if_neg (fun e => h1 e.symm), if_neg (fun e => h2 e.symm), if_neg (fun e => h3 e.symm), if_neg (fun e => h4 e.symm)]

theorem ret_str {a b : List UInt8} (h : a = b) : Ending.returned (.string (S a)) = .returned (.string (S b)) := by rw [h]

theorem ret_u8 {a b : Int} (h : a = b) : Ending.returned (.int .u8 a) = .returned (.int .u8 b) := by rw [h]
theorem S_beq (a b : List UInt8) : ((S a).toList == (S b).toList) = (a == b) := by rw [S_toList, S_toList]
end Go.Proofs.Ytmjcbliobjmmfaa

