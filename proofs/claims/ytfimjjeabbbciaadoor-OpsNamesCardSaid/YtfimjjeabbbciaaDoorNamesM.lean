/- Names: what the reference's rows and Find tell of a name is the same. No program here, but for the answers' names. -/
import Derived.Test.YtfimjjeabbbciaaDoorRows1
import Derived.Test.YtfimjjeabbbciaaDoorFind
namespace Go.Proofs.YtfimjjeabbbciaaDoor

theorem agree_all : ∀ n, n < 256 → (match refR n with | some r => decide (r.op = n ∧ r.name = nameR n ∧ nameR n ≠ []) | none => decide (nameR n = [])) = true := by decide +kernel
theorem alone_all : ∀ n, n < 256 → nameR n ≠ [] → findR (nameR n) = some n := by decide +kernel
theorem rows_len : (rowsTo 256).length = 104 := by decide +kernel
theorem rows_op : ∀ i, i < 104 → ((rowsTo 256).getD i row0).op ≤ 255 := by decide +kernel
/-- What has been found of the rows l. -/
def Look (s : List UInt8) (l : List RowR) (a : Nat) (b : Bool) : Prop := (b = false ∧ a = 0 ∧ ∀ r ∈ l, r.name ≠ s) ∨ (b = true ∧ ∃ r ∈ l, r.op = a ∧ r.name = s)
theorem look_yes {s : List UInt8} {l : List RowR} {i : Nat} (hi : i < l.length) (h : (l.getD i row0).name = s) : Look s (l.take (i + 1)) (l.getD i row0).op true := by
  rw [List.getD, List.getElem?_eq_getElem hi] at h ⊢
  exact .inr ⟨rfl, l[i], by rw [List.take_succ_eq_append_getElem hi]; exact List.mem_append_right _ (List.mem_singleton.2 rfl), rfl, h⟩
theorem look_no {s : List UInt8} {l : List RowR} {i a : Nat} {b : Bool} (H : Look s (l.take i) a b) (hi : i < l.length) (h : (l.getD i row0).name ≠ s) : Look s (l.take (i + 1)) a b := by
  rw [List.getD, List.getElem?_eq_getElem hi] at h
  rw [List.take_succ_eq_append_getElem hi]
  rcases H with ⟨h1, h2, h3⟩ | ⟨h1, r, h2, h3⟩
  · refine .inl ⟨h1, h2, fun r hr => ?_⟩
    rcases List.mem_append.1 hr with hr | hr
    · exact h3 r hr
    · simp only [List.mem_cons, List.not_mem_nil, or_false] at hr
      subst hr
      exact h
  · exact .inr ⟨h1, r, List.mem_append_left _ h2, h3⟩
theorem look_end {s : List UInt8} {a : Nat} {b : Bool} (H : Look s (rowsTo 256) a b) : a = (findR s).getD 0 ∧ b = (findR s).isSome := by
  rcases H with ⟨rfl, rfl, h⟩ | ⟨rfl, r, hr, rfl, hn'⟩
  · have e : findR s = none := by
      unfold findR
      split
      · rfl
      · rename_i hs
        rw [List.find?_eq_none]
        intro n hn he
        have hn : n < 256 := by simpa using hn
        have he : nameR n = s := by simpa using he
        have hag := agree_all n hn
        cases hr : refR n with
        | none =>
          rw [hr] at hag
          exact hs (he.symm.trans (of_decide_eq_true hag))
        | some r =>
          rw [hr] at hag
          have hag := of_decide_eq_true hag
          refine h r ?_ (hag.2.1.trans he)
          unfold rowsTo
          rw [List.mem_filterMap]
          exact ⟨n, by simpa using hn, hr⟩
    rw [e]
    exact ⟨rfl, rfl⟩
  · unfold rowsTo at hr
    rw [List.mem_filterMap] at hr
    obtain ⟨n, hn, hr⟩ := hr
    have hn : n < 256 := by simpa using hn
    have hag := agree_all n hn
    rw [hr] at hag
    have hag := of_decide_eq_true hag
    have e := alone_all n hn hag.2.2
    rw [← hag.2.1, hn'] at e
    rw [e, hag.1]
    exact ⟨rfl, rfl⟩
theorem inf_name (n : Nat) : (infR n).name = nameR n := by
  unfold infR
  split
  · rename_i h; exact h.symm
  · rfl
theorem find_own (n : Nat) (hn : n ≤ 255) : findR (nameR n) = if nameR n = [] then none else some n := by
  split
  · rename_i h; rw [h]; rfl
  · rename_i h; exact alone_all n (by omega) h
end Go.Proofs.YtfimjjeabbbciaaDoor

