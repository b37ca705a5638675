/- Steps, as plain mathematics: where a part ends, what is counted, what goes on. -/
namespace Go.Proofs.Ytmgihoogdkpjoaa

/-- A step: its kind, its code, its place. -/
structure St where
  k : Int
  c : Int
  a : Int

/-- How many steps lie ahead of the 4 that ends what began, or ahead of the end. -/
def endFrom : List St → Nat → Nat
  | [], _ => 0
  | s :: r, d => if s.k = 2 ∨ s.k = 3 then 1 + endFrom r (d + 1) else if s.k = 4 then (if d = 0 then 0 else 1 + endFrom r (d - 1)) else 1 + endFrom r d

theorem endFrom_le (l : List St) : ∀ d, endFrom l d ≤ l.length := by
  induction l with
  | nil => intro d; simp [endFrom]
  | cons s r ih =>
    intro d
    have h1 := ih (d + 1)
    have h2 := ih (d - 1)
    have h3 := ih d
    simp only [endFrom, List.length_cons]
    split
    · omega
    · split
      · split <;> omega
      · omega

theorem drop_at {l : List St} {k : Nat} {s : St} (h : l[k]? = some s) : l.drop k = s :: l.drop (k + 1) := by
  obtain ⟨hk, e⟩ := List.getElem?_eq_some_iff.1 h
  rw [← e]
  exact List.drop_eq_getElem_cons hk
theorem drop_end {l : List St} {k : Nat} (h : l.length ≤ k) : l.drop k = [] := List.drop_eq_nil_of_le h
theorem ends_open {l : List St} {k e : Nat} {s : St} (h : l[k]? = some s) (hk : s.k = 2 ∨ s.k = 3) : endFrom (l.drop k) e = 1 + endFrom (l.drop (k + 1)) (e + 1) := by
  rw [drop_at h]; simp [endFrom, hk]
theorem ends_here {l : List St} {k : Nat} {s : St} (h : l[k]? = some s) (hk : s.k = 4) : endFrom (l.drop k) 0 = 0 := by
  rw [drop_at h]; simp [endFrom, hk]
theorem ends_shut {l : List St} {k e : Nat} {s : St} (h : l[k]? = some s) (hk : s.k = 4) (he : 0 < e) : endFrom (l.drop k) e = 1 + endFrom (l.drop (k + 1)) (e - 1) := by
  have h0 : ¬ e = 0 := by omega
  rw [drop_at h]; simp [endFrom, hk, h0]
theorem ends_plain {l : List St} {k e : Nat} {s : St} (h : l[k]? = some s) (h2 : ¬ s.k = 2) (h3 : ¬ s.k = 3) (h4 : ¬ s.k = 4) : endFrom (l.drop k) e = 1 + endFrom (l.drop (k + 1)) e := by
  rw [drop_at h]; simp [endFrom, h2, h3, h4]

/-- What steps come to: how many are counted; the code and the place that go on (code 0: none). -/
def runF : Nat → List St → Int × Int × Int
  | 0, _ => (0, 0, 0)
  | _ + 1, [] => (0, 0, 0)
  | f + 1, s :: r =>
    if s.k = 0 then ((runF f r).1 + 1, (runF f r).2)
    else if s.k = 1 then (0, s.c, s.a)
    else if s.k = 2 then
      ((runF f (r.take (endFrom r 0))).1 + (if (runF f (r.take (endFrom r 0))).2.1 = 0 then 0 else 1000) + (runF f (r.drop (endFrom r 0 + 1))).1, (runF f (r.drop (endFrom r 0 + 1))).2)
    else if s.k = 3 then
      if (runF f (r.take (endFrom r 0))).2.1 = 0 then ((runF f (r.take (endFrom r 0))).1 + (runF f (r.drop (endFrom r 0 + 1))).1, (runF f (r.drop (endFrom r 0 + 1))).2)
      else ((runF f (r.take (endFrom r 0))).1, (runF f (r.take (endFrom r 0))).2.1, (runF f (r.take (endFrom r 0))).2.2 + s.a)
    else runF f r

theorem runF_nil (f : Nat) : runF f [] = (0, 0, 0) := by cases f <;> rfl

theorem runF_more : ∀ (n : Nat) (l : List St), l.length ≤ n → ∀ f g, l.length ≤ f → l.length ≤ g → runF f l = runF g l := by
  intro n
  induction n with
  | zero =>
    intro l hl f g _ _
    have : l = [] := List.eq_nil_of_length_eq_zero (by omega)
    subst this
    rw [runF_nil, runF_nil]
  | succ n ih =>
    intro l hl f g hf hg
    cases l with
    | nil => rw [runF_nil, runF_nil]
    | cons s r =>
      simp only [List.length_cons] at hl hf hg
      match f, g, hf, hg with
      | f + 1, g + 1, hf, hg =>
        have e1 := ih r (by omega) f g (by omega) (by omega)
        have t1 : (r.take (endFrom r 0)).length ≤ r.length := by simp; omega
        have t2 : (r.drop (endFrom r 0 + 1)).length ≤ r.length := by simp
        have e2 := ih (r.take (endFrom r 0)) (by omega) f g (by omega) (by omega)
        have e3 := ih (r.drop (endFrom r 0 + 1)) (by omega) f g (by omega) (by omega)
        simp only [runF, e1, e2, e3]

/-- The same, with as many rounds as are needed. -/
def runS (l : List St) : Int × Int × Int := runF l.length l

theorem runS_nil : runS [] = (0, 0, 0) := rfl
theorem runF_eq (f : Nat) (l : List St) (h : l.length ≤ f) : runF f l = runS l := runF_more f l h f l.length h (Nat.le_refl _)

theorem runS_cons (s : St) (r : List St) : runS (s :: r) =
    if s.k = 0 then ((runS r).1 + 1, (runS r).2)
    else if s.k = 1 then (0, s.c, s.a)
    else if s.k = 2 then
      ((runS (r.take (endFrom r 0))).1 + (if (runS (r.take (endFrom r 0))).2.1 = 0 then 0 else 1000) + (runS (r.drop (endFrom r 0 + 1))).1, (runS (r.drop (endFrom r 0 + 1))).2)
    else if s.k = 3 then
      if (runS (r.take (endFrom r 0))).2.1 = 0 then ((runS (r.take (endFrom r 0))).1 + (runS (r.drop (endFrom r 0 + 1))).1, (runS (r.drop (endFrom r 0 + 1))).2)
      else ((runS (r.take (endFrom r 0))).1, (runS (r.take (endFrom r 0))).2.1, (runS (r.take (endFrom r 0))).2.2 + s.a)
    else runS r := by
  have t1 : (r.take (endFrom r 0)).length ≤ r.length := by simp; omega
  have t2 : (r.drop (endFrom r 0 + 1)).length ≤ r.length := by simp
  have e1 := runF_eq r.length r (Nat.le_refl _)
  have e2 := runF_eq r.length (r.take (endFrom r 0)) t1
  have e3 := runF_eq r.length (r.drop (endFrom r 0 + 1)) t2
  show runF (r.length + 1) (s :: r) = _
  simp only [runF, e1, e2, e3]

theorem runS_at0 {l : List St} {k : Nat} {s : St} (h : l[k]? = some s) (hk : s.k = 0) : (runS (l.drop k)).1 = (runS (l.drop (k + 1))).1 + 1 ∧ (runS (l.drop k)).2 = (runS (l.drop (k + 1))).2 := by
  rw [drop_at h, runS_cons, if_pos hk]; exact ⟨rfl, rfl⟩
theorem runS_at1 {l : List St} {k : Nat} {s : St} (h : l[k]? = some s) (h0 : ¬ s.k = 0) (hk : s.k = 1) : (runS (l.drop k)).1 = 0 ∧ (runS (l.drop k)).2 = (s.c, s.a) := by
  rw [drop_at h, runS_cons, if_neg h0, if_pos hk]; exact ⟨rfl, rfl⟩
/-- The part that begins behind place k. -/
def part (l : List St) (k E : Nat) : List St := (l.drop (k + 1)).take (E - (k + 1))
theorem runS_at2 {l : List St} {k E : Nat} {s : St} (h : l[k]? = some s) (h0 : ¬ s.k = 0) (h1 : ¬ s.k = 1) (hk : s.k = 2) (hE : E = k + 1 + endFrom (l.drop (k + 1)) 0) :
    (runS (l.drop k)).1 = (runS (part l k E)).1 + (if (runS (part l k E)).2.1 = 0 then 0 else 1000) + (runS (l.drop (E + 1))).1 ∧ (runS (l.drop k)).2 = (runS (l.drop (E + 1))).2 := by
  have e1 : E - (k + 1) = endFrom (l.drop (k + 1)) 0 := by omega
  have e2 : l.drop (E + 1) = (l.drop (k + 1)).drop (endFrom (l.drop (k + 1)) 0 + 1) := by rw [List.drop_drop]; congr 1; omega
  rw [drop_at h, runS_cons, if_neg h0, if_neg h1, if_pos hk, part, e1, e2]; exact ⟨rfl, rfl⟩
theorem runS_at3 {l : List St} {k E : Nat} {s : St} (h : l[k]? = some s) (h0 : ¬ s.k = 0) (h1 : ¬ s.k = 1) (h2 : ¬ s.k = 2) (hk : s.k = 3) (hE : E = k + 1 + endFrom (l.drop (k + 1)) 0) :
    ((runS (part l k E)).2.1 = 0 → (runS (l.drop k)).1 = (runS (part l k E)).1 + (runS (l.drop (E + 1))).1 ∧ (runS (l.drop k)).2 = (runS (l.drop (E + 1))).2) ∧
    (¬ (runS (part l k E)).2.1 = 0 → (runS (l.drop k)).1 = (runS (part l k E)).1 ∧ (runS (l.drop k)).2 = ((runS (part l k E)).2.1, (runS (part l k E)).2.2 + s.a)) := by
  have e1 : E - (k + 1) = endFrom (l.drop (k + 1)) 0 := by omega
  have e2 : l.drop (E + 1) = (l.drop (k + 1)).drop (endFrom (l.drop (k + 1)) 0 + 1) := by rw [List.drop_drop]; congr 1; omega
  rw [drop_at h, runS_cons, if_neg h0, if_neg h1, if_neg h2, if_pos hk, part, e1, e2]
  refine ⟨fun hc => ?_, fun hc => ?_⟩
  · rw [if_pos hc]; exact ⟨rfl, rfl⟩
  · rw [if_neg hc]; exact ⟨rfl, rfl⟩
theorem runS_at4 {l : List St} {k : Nat} {s : St} (h : l[k]? = some s) (h0 : ¬ s.k = 0) (h1 : ¬ s.k = 1) (h2 : ¬ s.k = 2) (h3 : ¬ s.k = 3) : (runS (l.drop k)) = (runS (l.drop (k + 1))) := by
  rw [drop_at h, runS_cons, if_neg h0, if_neg h1, if_neg h2, if_neg h3]
theorem part_length {l : List St} {k E : Nat} (h1 : k < l.length) (hE : E = k + 1 + endFrom (l.drop (k + 1)) 0) : (part l k E).length = E - (k + 1) ∧ k + 1 ≤ E ∧ E ≤ l.length := by
  have := endFrom_le (l.drop (k + 1)) 0
  simp only [List.length_drop] at this
  simp only [part, List.length_take, List.length_drop]
  omega

/-- Steps whose codes are those of errors, and whose places are small. -/
def Good (l : List St) : Prop := ∀ s ∈ l, 1 ≤ s.c ∧ s.c ≤ 64 ∧ 0 ≤ s.a ∧ s.a ≤ 1023

theorem Good.tail {s : St} {r : List St} (h : Good (s :: r)) : Good r := fun x hx => h x (List.mem_cons_of_mem _ hx)
theorem Good.take {l : List St} (h : Good l) (n : Nat) : Good (l.take n) := fun x hx => h x (List.mem_of_mem_take hx)
theorem Good.drop {l : List St} (h : Good l) (n : Nat) : Good (l.drop n) := fun x hx => h x (List.mem_of_mem_drop hx)

theorem runS_bounds : ∀ (n : Nat) (l : List St), l.length ≤ n → Good l →
    0 ≤ (runS l).1 ∧ (runS l).1 ≤ 1000 * l.length ∧ 0 ≤ (runS l).2.1 ∧ (runS l).2.1 ≤ 64 ∧ 0 ≤ (runS l).2.2 ∧ (runS l).2.2 ≤ 1023 * l.length ∧ ((runS l).2.1 = 0 → (runS l).2.2 = 0) := by
  intro n
  induction n with
  | zero =>
    intro l hl _
    have : l = [] := List.eq_nil_of_length_eq_zero (by omega)
    subst this
    simp [runS_nil]
  | succ n ih =>
    intro l hl hg
    cases l with
    | nil => simp [runS_nil]
    | cons s r =>
      simp only [List.length_cons] at hl
      have hs := hg s (List.mem_cons_self)
      have he := endFrom_le r 0
      have t1 : (r.take (endFrom r 0)).length = endFrom r 0 := by simp; omega
      have t2 : (r.drop (endFrom r 0 + 1)).length = r.length - (endFrom r 0 + 1) := by simp
      have i1 := ih r (by omega) hg.tail
      have i2 := ih (r.take (endFrom r 0)) (by omega) (hg.tail.take _)
      have i3 := ih (r.drop (endFrom r 0 + 1)) (by omega) (hg.tail.drop _)
      rw [t1] at i2
      rw [t2] at i3
      rw [runS_cons]
      simp only [List.length_cons]
      by_cases k0 : s.k = 0
      · rw [if_pos k0]; simp only; omega
      · rw [if_neg k0]
        by_cases k1 : s.k = 1
        · rw [if_pos k1]; simp only; omega
        · rw [if_neg k1]
          by_cases k2 : s.k = 2
          · rw [if_pos k2]
            by_cases hc : (runS (r.take (endFrom r 0))).2.1 = 0
            · rw [if_pos hc]; simp only; omega
            · rw [if_neg hc]; simp only; omega
          · rw [if_neg k2]
            by_cases k3 : s.k = 3
            · rw [if_pos k3]
              by_cases hc : (runS (r.take (endFrom r 0))).2.1 = 0
              · rw [if_pos hc]; simp only; omega
              · rw [if_neg hc]; simp only; omega
            · rw [if_neg k3]; omega
theorem Good.part {l : List St} (h : Good l) (k E : Nat) : Good (part l k E) := (h.drop _).take _

/-- A step with an error's code and a small place. -/
def plainSt (s : St) : St := ⟨s.k, 1 + s.c % 64, s.a % 1024⟩
theorem good_plain (l : List St) : Good (l.map plainSt) := by
  intro s hs
  obtain ⟨t, _, rfl⟩ := List.mem_map.1 hs
  simp only [plainSt]
  omega
end Go.Proofs.Ytmgihoogdkpjoaa
