/- How a text is shown, as lists of bytes: each byte's code, that codes are told apart, what is read. No program here. -/
import Derived.Test.YtcagnlafmakebaaDoorRows
import Derived.Laws.BytesArg
namespace Go.Proofs.YtcagnlafmakebaaDoor

/-- A byte that is copied. -/
def plainB (c : UInt8) : Bool := decide (32 ≤ c.toNat) && decide (c.toNat ≤ 126) && !(c.toNat == 34) && !(c.toNat == 92)
/-- The digit of a number below 16. -/
def hexB (n : Nat) : UInt8 := if n < 10 then UInt8.ofNat (48 + n) else UInt8.ofNat (87 + n)
/-- How one byte is written. -/
def code (c : UInt8) : List UInt8 := if plainB c then [c] else [92, hexB (c.toNat / 16), hexB (c.toNat % 16)]
def codes (l : List UInt8) : List UInt8 := l.flatMap code
def showL (l : List UInt8) : List UInt8 := 34 :: (codes l ++ [34])

theorem codes_nil : codes [] = [] := rfl
theorem codes_cons (c : UInt8) (l : List UInt8) : codes (c :: l) = code c ++ codes l := by simp [codes]
theorem codes_append (a b : List UInt8) : codes (a ++ b) = codes a ++ codes b := by simp [codes]
theorem codes_snoc (a : List UInt8) (c : UInt8) : codes (a ++ [c]) = codes a ++ code c := by simp [codes]
theorem code_len (c : UInt8) : (code c).length = 1 ∨ (code c).length = 3 := by
  unfold code; split <;> simp
theorem code_pos (c : UInt8) : 1 ≤ (code c).length := by have := code_len c; omega
theorem code_ne (c : UInt8) : code c ≠ [] := by
  intro h; have := code_pos c; rw [h] at this; simp at this
theorem codes_length (l : List UInt8) : l.length ≤ (codes l).length ∧ (codes l).length ≤ 3 * l.length := by
  induction l with
  | nil => simp [codes]
  | cons c l ih => rw [codes_cons]; have := code_len c; simp; omega
theorem showL_length (l : List UInt8) : (showL l).length = (codes l).length + 2 := by simp [showL]

theorem hexB_inj : ∀ a b : Fin 16, hexB a.val = hexB b.val → a = b := by decide
theorem hexB_eq {a b : Nat} (ha : a < 16) (hb : b < 16) (h : hexB a = hexB b) : a = b := by
  have := hexB_inj ⟨a, ha⟩ ⟨b, hb⟩ h
  simpa using this
theorem u8_ext {a b : UInt8} (h : a.toNat = b.toNat) : a = b := UInt8.toNat_inj.1 h
theorem plainB_92 : plainB 92 = false := by decide
theorem plainB_34 : plainB 34 = false := by decide

/-- Codes are told apart. -/
theorem code_split {a b : UInt8} {x y : List UInt8} (h : code a ++ x = code b ++ y) : a = b ∧ x = y := by
  unfold code at h
  by_cases ha : plainB a = true
  · by_cases hb : plainB b = true
    · rw [if_pos ha, if_pos hb] at h
      simpa using h
    · rw [if_pos ha, if_neg hb] at h
      simp only [List.cons_append, List.nil_append, List.cons.injEq] at h
      rw [h.1, plainB_92] at ha
      cases ha
  · by_cases hb : plainB b = true
    · rw [if_neg ha, if_pos hb] at h
      simp only [List.cons_append, List.nil_append, List.cons.injEq] at h
      rw [← h.1, plainB_92] at hb
      cases hb
    · rw [if_neg ha, if_neg hb] at h
      simp only [List.cons_append, List.nil_append, List.cons.injEq, true_and] at h
      obtain ⟨h1, h2, h3⟩ := h
      have la := a.toNat_lt; have lb := b.toNat_lt
      have e1 := hexB_eq (by omega) (by omega) h1
      have e2 := hexB_eq (by omega) (by omega) h2
      exact ⟨u8_ext (by omega), h3⟩
theorem codes_inj : ∀ {a b : List UInt8}, codes a = codes b → a = b
  | [], [], _ => rfl
  | [], b :: l2, h => by
    rw [codes_nil, codes_cons] at h
    exact absurd (List.append_eq_nil_iff.1 h.symm).1 (code_ne b)
  | a :: l1, [], h => by
    rw [codes_nil, codes_cons] at h
    exact absurd (List.append_eq_nil_iff.1 h).1 (code_ne a)
  | a :: l1, b :: l2, h => by
    rw [codes_cons, codes_cons] at h
    obtain ⟨rfl, h2⟩ := code_split h
    rw [codes_inj h2]
theorem codes_of_showL {v t : List UInt8} (h : showL v = 34 :: (t ++ [34])) : codes v = t := by
  unfold showL at h
  simpa using h
theorem showL_inj {a b : List UInt8} (h : showL a = showL b) : a = b := codes_inj (codes_of_showL h)

/-- What reading t answers: the text that is shown so, or nothing. -/
def IsRead (t u : List UInt8) (ok : Bool) : Prop := (ok = true ∧ showL u = t) ∨ (ok = false ∧ u = [] ∧ ∀ v, showL v ≠ t)
theorem IsRead.unique {t u u' : List UInt8} {ok ok' : Bool} (h : IsRead t u ok) (h' : IsRead t u' ok') : u = u' ∧ ok = ok' := by
  rcases h with ⟨rfl, h⟩ | ⟨rfl, rfl, h⟩
  · rcases h' with ⟨rfl, h'⟩ | ⟨rfl, rfl, h'⟩
    · exact ⟨showL_inj (h.trans h'.symm), rfl⟩
    · exact absurd h (h' _)
  · rcases h' with ⟨rfl, h'⟩ | ⟨rfl, rfl, h'⟩
    · exact absurd h' (h _)
    · exact ⟨rfl, rfl⟩
theorem IsRead.of_show {s u : List UInt8} {ok : Bool} (h : IsRead (showL s) u ok) : u = s ∧ ok = true := h.unique (.inl ⟨rfl, rfl⟩)

/-- What one code at the front of l answers: its byte and its length, or 0. -/
def Shown (l : List UInt8) (c n : Int) : Prop := (n = 0 ∧ ∀ a r, l ≠ code a ++ r) ∨ (∃ a : UInt8, ∃ r, c = (a.toNat : Int) ∧ n = ((code a).length : Int) ∧ l = code a ++ r)

/-- A string of bytes. -/
def S (l : List UInt8) : ByteArray := ⟨l.toArray⟩
theorem S_size (l : List UInt8) : (S l).size = l.length := by simp [S, ByteArray.size]
theorem S_list (l : List UInt8) : (S l).data.toList = l := by simp [S]
theorem S_of (s : ByteArray) : S s.data.toList = s := by cases s; simp [S]
theorem S_inj {a b : List UInt8} (h : S a = S b) : a = b := by
  have := congrArg (fun s => s.data.toList) h
  simpa [S] using this
theorem S_append (a b : List UInt8) : S a ++ S b = S (a ++ b) := by
  apply ByteArray.ext
  simp [S]
theorem S_extract (l : List UInt8) (i j : Nat) : (S l).extract i j = S ((l.drop i).take (j - i)) := by
  apply ByteArray.ext
  apply Array.toList_inj.1
  simp [S, List.extract]
theorem S_get (l : List UInt8) (i : Nat) (h : i < (S l).size) : (S l)[i] = l[i]'(by rw [S_size] at h; exact h) := by
  show (S l).data[i] = _
  simp [S]
/-- Bytes as numbers. -/
def nums (l : List UInt8) : List Int := l.map fun c => (c.toNat : Int)
theorem nums_length (l : List UInt8) : (nums l).length = l.length := by simp [nums]
theorem nums_append (a b : List UInt8) : nums (a ++ b) = nums a ++ nums b := by simp [nums]
theorem strOfNums_nums (l : List UInt8) : strOfNums (nums l) = S l := by
  unfold strOfNums nums S
  congr 2
  rw [List.map_map]
  conv => rhs; rw [← List.map_id l]
  apply List.map_congr_left
  intro c _
  simp
end Go.Proofs.YtcagnlafmakebaaDoor
