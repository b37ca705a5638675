/- Byte, Sub, End, bytes.Clone, Over. -/
import Derived.Test.YtmjcbliobjmmfaaTake
import Derived.Laws.AppendOwnNone
namespace Go.Proofs.Ytmjcbliobjmmfaa
open Go.RowKit
set_option linter.unusedVariables false

/-- The next byte. -/
def byteR (l : List UInt8) (k : Nat) : Res UInt8 := match l[k]? with
  | some c => .ok c (k + 1)
  | none => .err 2 k
abbrev encB (c : UInt8) : Value := .int .u8 c.toNat

theorem byte_any {w : World} {p : Nat} {l : List UInt8} {k : Nat} (h : Sc w p l k) :
    Calls Try.prog 13 #[.pointer (some ⟨p, 0, none⟩)] w (Did encB p l w (byteR l k)) := by
  unfold byteR
  by_cases hk : k < l.length
  · have hc : l[k]? = some l[k] := List.getElem?_eq_getElem hk
    rw [hc]
    have HT := Lib.hid (show Calls Try.prog 29 #[.pointer (some ⟨p, 0, none⟩), .int .i64 1] w (Took p l k 1 w) from take_ok h 1 (by omega))
    have HE := Lib.hid (show nums ((l.drop k).take 1) = [(l[k].toNat : Int)] by rw [List.drop_eq_getElem_cons hk]; rfl)
    obtain ⟨c, hcc⟩ : ∃ c, c = l[k] := ⟨_, rfl⟩
    rw [← hcc] at HE ⊢
    clear hc hcc h hk
    go_enter Try.func13, Try.ntmps13
    go_wp2_with (go_at_call 29; go_must ((with_reducible refine HT.out.mono ?_); rintro e w1 ⟨A, cc, rfl, h1, h2, hl, hs, hg⟩; rw [HE.out] at hl; obtain ⟨b, off, rfl, hb, hcell⟩ := hl.byte (i := 0) rfl; rw [Nat.add_zero] at hcell; have HS := Lib.hid hs; have HG := Lib.hid hg; clear hs hg hl))
    go_ret
    exact ⟨rfl, HS.out, HG.out⟩
  · have hc : l[k]? = none := List.getElem?_eq_none (by omega)
    rw [hc]
    have HT := Lib.hid (show Calls Try.prog 29 #[.pointer (some ⟨p, 0, none⟩), .int .i64 1] w (Failed p 2 k w) from take_short h 1 (by omega))
    clear hc h hk
    go_enter Try.func13, Try.ntmps13
    go_wp2_with (go_at_call 29; go_must ((with_reducible refine HT.out.mono ?_); rintro e w1 ⟨rfl, hg⟩; have HG := Lib.hid hg; clear hg))
    exact ⟨rfl, rfl, HG.out⟩

/-- A scanner of the next n bytes, at a new block. -/
def Subbed (p : Nat) (l : List UInt8) (k n : Nat) (w : World) (e : Ending) (w' : World) : Prop :=
  ∃ q, e = .returned (.pointer (some ⟨q, 0, none⟩)) ∧ w.heap.size ≤ q ∧ Sc w' q ((l.drop k).take n) 0 ∧ Sc w' p l (k + n) ∧ w.grownBy w' (some p)
theorem sub_ok {w : World} {p : Nat} {l : List UInt8} {k : Nat} (h : Sc w p l k) (n : Nat) (hn : k + n ≤ l.length) :
    Calls Try.prog 14 #[.pointer (some ⟨p, 0, none⟩), .int .i64 n] w (Subbed p l k n w) := by
  have HT := Lib.hid (take_ok h n hn)
  have hlen : ((l.drop k).take n).length = n := by rw [List.length_take, List.length_drop]; omega
  have HLEN := Lib.hid hlen
  have HP := Lib.hid h.lt
  clear hlen h
  go_enter Try.func14, Try.ntmps14
  go_wp2_with (go_at_call 29; go_must ((with_reducible refine HT.out.mono ?_); rintro e w1 ⟨A, c, rfl, h1, h2, hl, hs, hg⟩; have HL := Lib.hid hl; have HS := Lib.hid hs; have HG := Lib.hid hg; have h1' := Lib.hid h1; have h2' := Lib.hid h2; clear hl hs hg h1 h2))
  go_ret
  refine ⟨w1.heap.size, rfl, HG.out.size, ⟨A, c, ?_, ?_, by rw [HLEN.out]; exact h1'.out, h2'.out, by simp⟩, HS.out.alloc _, gb_alloc HG.out _⟩
  · rw [HLEN.out]; exact Whole.made _ _ _
  · exact (HL.out.below (below_box w1 _) (by have := HG.out.size; have := HP.out; omega)).more (by have := HG.out.size; have := HP.out; omega)

/-- bytes.Clone of bytes that lie somewhere, one at least. -/
theorem clone_ok {w : World} {A : Option Addr} {cap : Nat} {l : List UInt8} (hl : Lies w w.heap.size A (cells (nums l))) (h0 : 0 < l.length) (hc : l.length ≤ 1000000) :
    Calls Try.prog 25 #[.slice A l.length cap] w (BytesL l w) := by
  have hA : ∃ b off, A = some ⟨b, off, none⟩ := by
    obtain ⟨b, off, e, _⟩ := hl.byte (i := 0) (c := ((nums l)[0]'(by rw [nums_length]; exact h0))) (List.getElem?_eq_getElem _)
    exact ⟨b, off, e⟩
  obtain ⟨b, off, rfl⟩ := hA
  have hnil : ∀ w : World, (binOp BinOp.eql 32 (.slice (some ⟨b, off, none⟩) l.length cap) (.slice none 0 0)).run Try.prog w = .ok (.bool false) w := fun w => by
    simp only [binOp]
    simp [run_equal_slice_nil w 32 5 _ _ _ Try.underlying32]
  have R0 := Lib.hid (Row.made w [] w.heap.size w.heap.size rfl (Nat.le_refl _) (by simp))
  have HL := Lib.hid (hl.below (below_box w (.cells #[] 5)) (Nat.le_refl _))
  clear hl
  go_enter Try.func25, Try.ntmps25
  go_wp2_with (at_builtin; (refine row_lies rfl _ _ rfl w.heap.size _ _ rfl R0.out _ _ _ _ l rfl rfl HL.out h0 (by simp; omega) (by simp) ?_; intro v2 w2 hr2 hb2; have HR2 := Lib.hid hr2; have HB2 := Lib.hid hb2; clear hr2 hb2))
  go_ret
  exact ⟨_, rfl, HR2.out, (below_box w _).trans HB2.out⟩
/-- A new scanner of bytes that lie somewhere, one at least. -/
def Overs (l : List UInt8) (w : World) (e : Ending) (w' : World) : Prop :=
  ∃ q, e = .returned (.pointer (some ⟨q, 0, none⟩)) ∧ w.heap.size ≤ q ∧ Sc w' q l 0 ∧ Below w.heap.size w w'
theorem over_ok {w : World} {A : Option Addr} {cap : Nat} {l : List UInt8} (hl : Lies w w.heap.size A (cells (nums l))) (h0 : 0 < l.length) (hc : l.length ≤ 1000000) :
    Calls Try.prog 10 #[.slice A l.length cap] w (Overs l w) := by
  have HC := Lib.hid (clone_ok (cap := cap) hl h0 hc)
  clear hl
  go_enter Try.func10, Try.ntmps10
  go_wp2_with (go_at_call 25; go_must ((with_reducible refine HC.out.mono ?_); intro e w1 h; obtain ⟨v, rfl, hr, hb⟩ := h; obtain ⟨A1, c1, rfl, h1, h2, hl1, _⟩ := lies_own hr; have HL := Lib.hid hl1; have H1 := Lib.hid h1; have H2 := Lib.hid h2; have HB := Lib.hid hb; clear hl1 hr h1 h2 hb))
  go_ret
  exact ⟨w1.heap.size, rfl, HB.out.size, ⟨A1, c1, Whole.made _ _ _, HL.out.below (below_box w1 _) (Nat.le_refl _), H1.out, H2.out, by simp⟩, HB.out.trans ((below_box w1 _).mono HB.out.size)⟩

theorem end_hd {w : World} {p n : Nat} (h : Hd w p n n) :
    Calls Try.prog 18 #[.pointer (some ⟨p, 0, none⟩)] w fun e w' => e = .returned (.tuple #[]) ∧ ∃ m, w' = w.drewN m := by
  have HD := Lib.hid (fun m => by have := done_hd (h.drewN m); rwa [Int.sub_self, beq_self_eq_true] at this)
  have c1 : w.cell? ⟨p, 1, none⟩ = some (.int .i64 n) := by
    obtain ⟨A, cap, h1, _⟩ := h
    exact h1.cell 1
  clear h
  go_enter Try.func18, Try.ntmps18
  go_wp2
  go_quiet (first
    | (go_at_call 22; exact Calls.quiet_of (HD.out _))
    | (go_at_call 33; exact (unlessT _ _ _).mono fun _ _ h => ⟨h.1, _, h.2.symm⟩))
  go_wp2
  go_end0
  exact ⟨rfl, _, rfl⟩
theorem end_ok {w : World} {p : Nat} {l : List UInt8} (h : Sc w p l l.length) :
    Calls Try.prog 18 #[.pointer (some ⟨p, 0, none⟩)] w fun e w' => e = .returned (.tuple #[]) ∧ ∃ m, w' = w.drewN m := end_hd h.hd
end Go.Proofs.Ytmjcbliobjmmfaa

