/- Byte, Sub, End, bytes.Clone, Over. -/
import Derived.Test.YtohliaellefhaaaDoorQs04
import Derived.Laws.AppendOwnNone
import Derived.Laws.MakeOwn
namespace Go.Proofs.YtohliaellefhaaaDoor
set_option maxRecDepth 100000
open Go.RowKit
set_option linter.unusedVariables false

/-- The next byte. -/
def byteR (l : List UInt8) (k : Nat) : Res UInt8 := match l[k]? with
  | some c => .ok c (k + 1)
  | none => .err 2 k
abbrev encB (c : UInt8) : Value := .int .u8 c.toNat

theorem byte_any {w : World} {p : Nat} {l : List UInt8} {k : Nat} (h : Sc w p l k) :
    Calls Tryd.prog 70 #[.pointer (some ⟨p, 0, none⟩)] w (Did encB p l w (byteR l k)) := by
  unfold byteR
  by_cases hk : k < l.length
  · have hc : l[k]? = some l[k] := List.getElem?_eq_getElem hk
    rw [hc]
    have HT := Lib.hid (show Calls Tryd.prog 45 #[.pointer (some ⟨p, 0, none⟩), .int .i64 1] w (Took p l k 1 w) from take_ok h 1 (by omega))
    have HE := Lib.hid (show nums ((l.drop k).take 1) = [(l[k].toNat : Int)] by rw [List.drop_eq_getElem_cons hk]; rfl)
    obtain ⟨c, hcc⟩ : ∃ c, c = l[k] := ⟨_, rfl⟩
    rw [← hcc] at HE ⊢
    clear hc hcc h hk
    go_enter Tryd.func70, Tryd.ntmps70
    go_wp2_with (go_at_call 45; go_must ((with_reducible refine HT.out.mono ?_); rintro e w1 ⟨A, cc, rfl, h1, h2, hl, hs, hg⟩; rw [HE.out] at hl; obtain ⟨b, off, rfl, hb, hcell⟩ := hl.byte (i := 0) rfl; rw [Nat.add_zero] at hcell; have HS := Lib.hid hs; have HG := Lib.hid hg; clear hs hg hl))
    go_ret
    exact ⟨rfl, HS.out, HG.out⟩
  · have hc : l[k]? = none := List.getElem?_eq_none (by omega)
    rw [hc]
    have HT := Lib.hid (show Calls Tryd.prog 45 #[.pointer (some ⟨p, 0, none⟩), .int .i64 1] w (Failed p 2 k w) from take_short h 1 (by omega))
    clear hc h hk
    go_enter Tryd.func70, Tryd.ntmps70
    go_wp2_with (go_at_call 45; go_must ((with_reducible refine HT.out.mono ?_); rintro e w1 ⟨rfl, hg⟩; have HG := Lib.hid hg; clear hg))
    exact ⟨rfl, rfl, HG.out⟩

/-- A scanner of the next n bytes, at a new block. -/
def Subbed (p : Nat) (l : List UInt8) (k n : Nat) (w : World) (e : Ending) (w' : World) : Prop :=
  ∃ q, e = .returned (.pointer (some ⟨q, 0, none⟩)) ∧ w.heap.size ≤ q ∧ Sc w' q ((l.drop k).take n) 0 ∧ Sc w' p l (k + n) ∧ w.grownBy w' (some p)
theorem sub_ok {w : World} {p : Nat} {l : List UInt8} {k : Nat} (h : Sc w p l k) (n : Nat) (hn : k + n ≤ l.length) :
    Calls Tryd.prog 72 #[.pointer (some ⟨p, 0, none⟩), .int .i64 n] w (Subbed p l k n w) := by
  have HT := Lib.hid (take_ok h n hn)
  have hlen : ((l.drop k).take n).length = n := by rw [List.length_take, List.length_drop]; omega
  have HLEN := Lib.hid hlen
  have HP := Lib.hid h.lt
  clear hlen h
  go_enter Tryd.func72, Tryd.ntmps72
  go_wp2_with (go_at_call 45; go_must ((with_reducible refine HT.out.mono ?_); rintro e w1 ⟨A, c, rfl, h1, h2, hl, hs, hg⟩; have HL := Lib.hid hl; have HS := Lib.hid hs; have HG := Lib.hid hg; have h1' := Lib.hid h1; have h2' := Lib.hid h2; clear hl hs hg h1 h2))
  go_ret
  refine ⟨w1.heap.size, rfl, HG.out.size, ⟨A, c, ?_, ?_, by rw [HLEN.out]; exact h1'.out, h2'.out, by simp⟩, HS.out.alloc _, gb_alloc HG.out _⟩
  · rw [HLEN.out]; exact Whole.made _ _ _
  · exact (HL.out.below (below_box w1 _) (by have := HG.out.size; have := HP.out; omega)).more (by have := HG.out.size; have := HP.out; omega)

/-- bytes.Clone of bytes that lie somewhere, one at least. -/
theorem clone_ok {w : World} {A : Option Addr} {cap : Nat} {l : List UInt8} (hl : Lies w w.heap.size A (cells (nums l))) (h0 : 0 < l.length) (hc : l.length ≤ 1000000) :
    Calls Tryd.prog 25 #[.slice A l.length cap] w (BytesL l w) := by
  have hA : ∃ b off, A = some ⟨b, off, none⟩ := by
    obtain ⟨b, off, e, _⟩ := hl.byte (i := 0) (c := ((nums l)[0]'(by rw [nums_length]; exact h0))) (List.getElem?_eq_getElem _)
    exact ⟨b, off, e⟩
  obtain ⟨b, off, rfl⟩ := hA
  have hnil : ∀ w : World, (binOp BinOp.eql 36 (.slice (some ⟨b, off, none⟩) l.length cap) (.slice none 0 0)).run Tryd.prog w = .ok (.bool false) w := fun w => by
    simp only [binOp]
    simp [run_equal_slice_nil w 36 5 _ _ _ Tryd.underlying36]
  have R0 := Lib.hid (Row.made w [] w.heap.size w.heap.size rfl (Nat.le_refl _) (by simp))
  have HL := Lib.hid (hl.below (below_box w (.cells #[] 5)) (Nat.le_refl _))
  clear hl
  go_enter Tryd.func25, Tryd.ntmps25
  go_wp2_with (at_builtin; (refine row_lies rfl _ _ rfl w.heap.size _ _ rfl R0.out _ _ _ _ l rfl rfl HL.out h0 (by simp; omega) (by simp) ?_; intro v2 w2 hr2 hb2; have HR2 := Lib.hid hr2; have HB2 := Lib.hid hb2; clear hr2 hb2))
  go_ret
  exact ⟨_, rfl, HR2.out, (below_box w _).trans HB2.out⟩
/-- A new scanner of bytes that lie somewhere, one at least. -/
def Overs (l : List UInt8) (w : World) (e : Ending) (w' : World) : Prop :=
  ∃ q, e = .returned (.pointer (some ⟨q, 0, none⟩)) ∧ w.heap.size ≤ q ∧ Sc w' q l 0 ∧ Below w.heap.size w w'
theorem over_ok {w : World} {A : Option Addr} {cap : Nat} {l : List UInt8} (hl : Lies w w.heap.size A (cells (nums l))) (h0 : 0 < l.length) (hc : l.length ≤ 1000000) :
    Calls Tryd.prog 30 #[.slice A l.length cap] w (Overs l w) := by
  have HC := Lib.hid (clone_ok (cap := cap) hl h0 hc)
  clear hl
  go_enter Tryd.func30, Tryd.ntmps30
  go_wp2_with (go_at_call 25; go_must ((with_reducible refine HC.out.mono ?_); intro e w1 h; obtain ⟨v, rfl, hr, hb⟩ := h; obtain ⟨A1, c1, rfl, h1, h2, hl1, _⟩ := lies_own hr; have HL := Lib.hid hl1; have H1 := Lib.hid h1; have H2 := Lib.hid h2; have HB := Lib.hid hb; clear hl1 hr h1 h2 hb))
  go_ret
  exact ⟨w1.heap.size, rfl, HB.out.size, ⟨A1, c1, Whole.made _ _ _, HL.out.below (below_box w1 _) (Nat.le_refl _), H1.out, H2.out, by simp⟩, HB.out.trans ((below_box w1 _).mono HB.out.size)⟩

end Go.Proofs.YtohliaellefhaaaDoor

/- leb.ReadUint of any bytes; number, Uint, Index. -/
namespace Go.Proofs.YtohliaellefhaaaDoor
set_option maxRecDepth 100000
open Go.RowKit
set_option linter.unusedVariables false

/-- How many bytes of a varint of n bits go on. -/
noncomputable def onN (l : List UInt8) (k n : Nat) : Nat := (stop_ex ((nums l).drop k) ((n + 6) / 7)).choose
theorem onN_stop (l : List UInt8) (k n : Nat) : Stop ((n + 6) / 7) ((nums l).drop k) (onN l k n) := (stop_ex ((nums l).drop k) ((n + 6) / 7)).choose_spec
/-- A number of n bits. -/
noncomputable def uintR (l : List UInt8) (k n : Nat) : Res Int :=
  if 1 ≤ n ∧ n ≤ 64 then
    if onN l k n = (n + 6) / 7 then .err 3 k else
      match ((nums l).drop k)[onN l k n]? with
      | none => .err 2 k
      | some c => if c / 2 ^ (n - 7 * onN l k n) = 0 then .ok (numU (((nums l).drop k).take (onN l k n)) c) (k + (onN l k n + 1)) else .err 3 k
  else .err 1 k
theorem uintR_err {l : List UInt8} {k n : Nat} {c a : Int} (h : uintR l k n = .err c a) : a = k ∧ (c = 1 ∨ c = 2 ∨ c = 3) := by
  unfold uintR at h
  repeat' split at h
  all_goals first | (injection h with h1 h2; subst h1; subst h2; exact ⟨rfl, by omega⟩) | cases h
theorem nums_wf (l : List UInt8) : ∀ c ∈ nums l, 0 ≤ c ∧ c ≤ 255 := by
  intro c hc
  obtain ⟨b, _, rfl⟩ := List.mem_map.1 hc
  have := b.toNat_lt
  omega
theorem uintR_ok {l : List UInt8} {k n : Nat} {v : Int} {k' : Nat} (h : uintR l k n = .ok v k') : k' ≤ l.length ∧ 0 ≤ v ∧ v < 2 ^ n := by
  have hp := onN_stop l k n
  unfold uintR at h
  by_cases h64 : 1 ≤ n ∧ n ≤ 64
  · rw [if_pos h64] at h
    by_cases h1 : onN l k n = (n + 6) / 7
    · rw [if_pos h1] at h; cases h
    · rw [if_neg h1] at h
      cases hpc : ((nums l).drop k)[onN l k n]? with
      | none => rw [hpc] at h; cases h
      | some c =>
        rw [hpc] at h
        by_cases hf : c / 2 ^ (n - 7 * onN l k n) = 0
        · simp only [if_pos hf] at h
          injection h with e1 e2
          subst e1; subst e2
          have hlen := (List.getElem?_eq_some_iff.1 hpc).1
          rw [List.length_drop, nums_length] at hlen
          have hl : (((nums l).drop k).take (onN l k n)).length = onN l k n := by rw [List.length_take, List.length_drop, nums_length]; omega
          obtain ⟨l0, l1⟩ := low_bd (((nums l).drop k).take (onN l k n))
          rw [hl] at l1
          have hM := hp.leM
          have c0 := (nums_wf l c (List.mem_of_mem_drop (List.mem_of_getElem? hpc))).1
          have := bdU l0 l1 c0 (b := n) (by omega) hf
          unfold numU
          rw [hl]
          exact ⟨by omega, this.1, this.2⟩
        · simp only [if_neg hf] at h; cases h
  · rw [if_neg h64] at h; cases h
/-- What leb.ReadUint hands back. -/
def readT : Res Int → Value
  | .ok v k => .tuple #[.int .u64 v, .int .i64 k, .int .i64 0]
  | .err c _ => .tuple #[.int .u64 0, .int .i64 0, .int .i64 c]
theorem readU_any {w : World} {B : Nat} {A : Option Addr} {cap : Nat} {l : List UInt8} (hl : Lies w B A (cells (nums l))) (hc : l.length ≤ cap) (hm : cap ≤ maxLen) (k n : Nat) (hk : k ≤ l.length) :
    Calls Tryd.prog 96 #[.slice A l.length cap, .int .i64 k, .int .i64 n] w fun x w' => x = .returned (readT (uintR l k n)) ∧ w = w' := by
  have hlen := nums_length l
  have hb := nums_wf l
  have hp := onN_stop l k n
  have hpM := hp.leM
  have hpR := hp.leR
  rw [List.length_drop, hlen] at hpR
  rw [← hlen] at hc hk ⊢
  unfold uintR
  by_cases h64 : 1 ≤ n ∧ n ≤ 64
  · rw [if_pos h64]
    obtain ⟨n1, n2⟩ := h64
    by_cases h1 : onN l k n = (n + 6) / 7
    · rw [if_pos h1]
      refine ru_fail _ _ _ 3 w (.inr (.inr rfl)) ?_
      have := length_right (nums l) A cap B k n _ w hl hb hc hm hk n1 n2 hp
      unfold lenN lenE at this
      rwa [if_pos h1, if_pos h1] at this
    · rw [if_neg h1]
      by_cases h2 : onN l k n = (nums l).length - k
      · have e : ((nums l).drop k)[onN l k n]? = none := List.getElem?_eq_none (by rw [List.length_drop]; omega)
        rw [e]
        refine ru_fail _ _ _ 2 w (.inr (.inl rfl)) ?_
        have := length_right (nums l) A cap B k n _ w hl hb hc hm hk n1 n2 hp
        unfold lenN lenE at this
        rwa [if_neg h1, if_neg h1, if_pos h2, if_pos h2] at this
      · obtain ⟨c, hpc⟩ : ∃ c, ((nums l).drop k)[onN l k n]? = some c := ⟨_, List.getElem?_eq_getElem (by rw [List.length_drop]; omega)⟩
        rw [hpc]
        by_cases hf : c / 2 ^ (n - 7 * onN l k n) = 0
        · simp only [if_pos hf]
          exact ru_ok (nums l) A cap B k n _ c w hl hb hc hm hk n1 n2 hp (by omega) hpc hf
        · simp only [if_neg hf]
          exact ru_far (nums l) A cap B k n _ c w hl hb hc hm hk n1 n2 hp (by omega) hpc hf
  · rw [if_neg h64]
    exact ru_fail _ _ _ 1 w (.inl rfl) (length_wrong (nums l) A cap _ _ w (by omega))
abbrev enc64 (v : Int) : Value := .int .u64 v
set_option maxHeartbeats 800000 in
theorem number_scan {w : World} {p : Nat} {l : List UInt8} {k : Nat} (h : Sc w p l k) (n : Nat) :
    Calls Tryd.prog 95 #[.pointer (some ⟨p, 0, none⟩), .int .i64 n, .func (.func 96) #[] #[]] w (Did enc64 p l w (uintR l k n)) := by
  have c1 := h.at
  obtain ⟨A, cap, c0, hl, hc, hm⟩ := h.data
  have hU : ∀ m, _ := fun m => readU_any (w := w.drewN m) hl hc hm k n h.le.1
  cases hr : uintR l k n with
  | ok v k' =>
    simp only [hr, readT] at hU
    have HU := Lib.hid hU
    have HS := Lib.hid h
    have f1 := h.free
    have HK := Lib.hid (uintR_ok hr).1
    clear hU hr hl h
    go_enter Tryd.func95, Tryd.ntmps95
    go_wp2
    go_quiet (first
      | (go_at_call 96; exact (HU.out _).mono fun _ _ h => ⟨h.1, _, h.2.symm⟩))
    go_wp2_with (go_at_call 29; go_must ((with_reducible refine (unlessT _ _ _).mono ?_); rintro e w' ⟨rfl, rfl⟩))
    go_ret
    exact ⟨rfl, HS.out.moved nq k' k' rfl HK.out⟩
  | err c a =>
    simp only [hr, readT] at hU
    have HU := Lib.hid hU
    obtain ⟨rfl, hcs⟩ := uintR_err hr
    have e2 : (c == 0) = false := by simp; omega
    clear hU hr hl h hcs
    go_enter Tryd.func95, Tryd.ntmps95
    go_wp2
    go_quiet (first
      | (go_at_call 96; exact (HU.out _).mono fun _ _ h => ⟨h.1, _, h.2.symm⟩))
    go_wp2_with (go_at_call 29; go_must ((with_reducible refine (unlessF _ _ _).mono ?_); rintro e w' ⟨rfl, rfl⟩))
    exact ⟨rfl, rfl, gb_drewN (gb_refl _ _) _⟩
/-- Scanner.Uint. -/
theorem uint_scan {w : World} {p : Nat} {l : List UInt8} {k : Nat} (h : Sc w p l k) (n : Nat) :
    Calls Tryd.prog 85 #[.pointer (some ⟨p, 0, none⟩), .int .i64 n] w (Did enc64 p l w (uintR l k n)) := by
  have hN := number_scan h n
  cases hr : uintR l k n with
  | ok v k' =>
    rw [hr] at hN
    have HN := Lib.hid hN
    clear hN hr h
    go_enter Tryd.func85, Tryd.ntmps85
    go_wp2_with (go_at_call 95; go_must ((with_reducible refine HN.out.mono ?_); rintro e w1 ⟨rfl, hs, hg⟩; have HS := Lib.hid hs; have HG := Lib.hid hg; clear hs hg))
    go_ret
    exact ⟨rfl, HS.out, HG.out⟩
  | err c a =>
    rw [hr] at hN
    have HN := Lib.hid hN
    clear hN hr h
    go_enter Tryd.func85, Tryd.ntmps85
    go_wp2_with (go_at_call 95; go_must ((with_reducible refine HN.out.mono ?_); rintro e w1 ⟨rfl, hg⟩; have HG := Lib.hid hg; clear hg))
    exact ⟨rfl, rfl, HG.out⟩
/-- A number of 32 bits. -/
noncomputable def indexR (l : List UInt8) (k : Nat) : Res Int := uintR l k 32
abbrev enc32 (v : Int) : Value := .int .u32 v
theorem index_scan {w : World} {p : Nat} {l : List UInt8} {k : Nat} (h : Sc w p l k) :
    Calls Tryd.prog 71 #[.pointer (some ⟨p, 0, none⟩)] w (Did enc32 p l w (indexR l k)) := by
  have hN : Calls Tryd.prog 85 #[.pointer (some ⟨p, 0, none⟩), .int .i64 32] w (Did enc64 p l w (uintR l k 32)) := uint_scan h 32
  unfold indexR
  cases hr : uintR l k 32 with
  | ok v k' =>
    rw [hr] at hN
    have HN := Lib.hid hN
    obtain ⟨hk, v0, v1⟩ := uintR_ok hr
    have v2 : v < 4294967296 := v1
    have hw : IntKind.u32.wrap v = v := by simp [IntKind.wrap, IntKind.bits, IntKind.signed]; omega
    clear hN hr h v1
    go_enter Tryd.func71, Tryd.ntmps71
    go_wp2_with (go_at_call 85; go_must ((with_reducible refine HN.out.mono ?_); rintro e w1 ⟨rfl, hs, hg⟩; have HS := Lib.hid hs; have HG := Lib.hid hg; clear hs hg))
    go_ret
    exact ⟨rfl, HS.out, HG.out⟩
  | err c a =>
    rw [hr] at hN
    have HN := Lib.hid hN
    clear hN hr h
    go_enter Tryd.func71, Tryd.ntmps71
    go_wp2_with (go_at_call 85; go_must ((with_reducible refine HN.out.mono ?_); rintro e w1 ⟨rfl, hg⟩; have HG := Lib.hid hg; clear hg))
    exact ⟨rfl, rfl, HG.out⟩
end Go.Proofs.YtohliaellefhaaaDoor

/- atMost, Count, flag, tag, ValType. -/
namespace Go.Proofs.YtohliaellefhaaaDoor
set_option maxRecDepth 100000
open Go.RowKit
set_option linter.unusedVariables false

abbrev encI (v : Int) : Value := .int .i64 v
abbrev encO (v : Bool) : Value := .bool v
abbrev encU (v : Unit) : Value := .tuple #[]
theorem Res.bind_ok {α β : Type} (v : α) (k : Nat) (f : α → Nat → Res β) : (Res.ok v k).bind f = f v k := rfl
theorem Res.bind_err {α β : Type} (c a : Int) (f : α → Nat → Res β) : (Res.err (α := α) c a).bind f = .err c a := rfl

/-- An index that is at most m. -/
noncomputable def atMostR (l : List UInt8) (k : Nat) (m c : Int) : Res Int := (indexR l k).bind fun v k' => if v ≤ m then .ok v k' else .err c k
theorem atMost_scan {w : World} {p : Nat} {l : List UInt8} {k : Nat} (h : Sc w p l k) (m c : Int) :
    Calls Tryd.prog 73 #[.pointer (some ⟨p, 0, none⟩), .int .u32 m, .int .i64 c] w (Did encI p l w (atMostR l k m c)) := by
  have hN := index_scan h
  have c1 := h.at
  unfold atMostR
  cases hr : indexR l k with
  | ok v k' =>
    rw [hr] at hN
    rw [Res.bind_ok]
    have HN := Lib.hid hN
    obtain ⟨hk, v0, v1⟩ := uintR_ok (show uintR l k 32 = .ok v k' from hr)
    have v2 : v < 4294967296 := v1
    have hw : IntKind.i64.wrap v = v := by rw [IntKind.wrap_i64]; omega
    clear hN hr h v1
    by_cases hm : v ≤ m
    · rw [if_pos hm]
      have HM := Lib.hid hm
      have d1 : decide (v ≤ m) = true := by simpa using hm
      go_enter Tryd.func73, Tryd.ntmps73
      go_wp2_with (first
        | (go_at_call 71; go_must ((with_reducible refine HN.out.mono ?_); rintro e w1 ⟨rfl, hs, hg⟩; have HS := Lib.hid hs; have HG := Lib.hid hg; clear hs hg))
        | (go_at_call 29; go_must ((with_reducible refine (unlessT _ _ _).mono ?_); rintro e w' ⟨rfl, rfl⟩)))
      go_ret
      exact ⟨rfl, HS.out, HG.out⟩
    · rw [if_neg hm]
      have HM := Lib.hid hm
      have d1 : decide (v ≤ m) = false := by simpa using hm
      clear hm
      go_enter Tryd.func73, Tryd.ntmps73
      go_wp2_with (first
        | (go_at_call 71; go_must ((with_reducible refine HN.out.mono ?_); rintro e w1 ⟨rfl, hs, hg⟩; have HS := Lib.hid hs; have HG := Lib.hid hg; clear hs hg))
        | (go_at_call 29; go_must ((with_reducible refine (unlessF _ _ _).mono ?_); rintro e w' ⟨rfl, rfl⟩)))
      exact ⟨rfl, rfl, HG.out⟩
  | err c2 a =>
    rw [hr] at hN
    rw [Res.bind_err]
    have HN := Lib.hid hN
    clear hN hr h
    go_enter Tryd.func73, Tryd.ntmps73
    go_wp2_with (go_at_call 71; go_must ((with_reducible refine HN.out.mono ?_); rintro e w1 ⟨rfl, hg⟩; have HG := Lib.hid hg; clear hg))
    exact ⟨rfl, rfl, HG.out⟩
/-- How many things follow. -/
noncomputable def countR (l : List UInt8) (k : Nat) : Res Int := atMostR l k 10000 29
/-- A byte that is 0 or 1. -/
def flagR (l : List UInt8) (k : Nat) : Res Bool := (byteR l k).bind fun c k' => if (c.toNat : Int) ≤ 1 then .ok ((c.toNat : Int) == 1) k' else .err 10 k
/-- A byte that can only be one. -/
def tagR (l : List UInt8) (k : Nat) (t : Int) : Res Unit := (byteR l k).bind fun c k' => if (c.toNat : Int) = t then .ok () k' else .err 7 k
/-- A type of values. -/
def valR (l : List UInt8) (k : Nat) : Res UInt8 := (byteR l k).bind fun c k' => if valueZ c.toNat = 0 then .ok c k' else .err (valueZ c.toNat) k
end Go.Proofs.YtohliaellefhaaaDoor

/- valTypes. -/
namespace Go.Proofs.YtohliaellefhaaaDoor
set_option maxRecDepth 100000
open Go.RowKit
set_option linter.unusedVariables false

abbrev encS (t : List UInt8) : Value := .string (S t)
/-- n more types, behind those that were read. -/
def valsK (l : List UInt8) : Nat → Nat → List UInt8 → Res (List UInt8)
  | 0, k, acc => .ok acc k
  | n + 1, k, acc => (valR l k).bind fun c k' => valsK l n k' (acc ++ [c])
/-- How many types there are, and these. -/
noncomputable def valsR (l : List UInt8) (k : Nat) : Res (List UInt8) := (countR l k).bind fun n k' => valsK l n.toNat k' []
theorem valsK_more {l : List UInt8} {n i k : Nat} {acc : List UInt8} (h : i < n) : valsK l (n - i) k acc = (valR l k).bind fun c k' => valsK l (n - (i + 1)) k' (acc ++ [c]) := by
  rw [show n - i = n - (i + 1) + 1 by omega]
  rfl
theorem countR_ok {l : List UInt8} {k : Nat} {v : Int} {k' : Nat} (h : countR l k = .ok v k') : 0 ≤ v ∧ v ≤ 10000 := by
  unfold countR atMostR at h
  cases hr : indexR l k with
  | ok u q =>
    rw [hr, Res.bind_ok] at h
    have hb := uintR_ok (show uintR l k 32 = .ok u q from hr)
    by_cases hm : u ≤ 10000
    · rw [if_pos hm] at h; injection h with h1 h2; omega
    · rw [if_neg hm] at h; cases h
  | err c a => rw [hr, Res.bind_err] at h; cases h

/-- Cells that are made, of one kind. -/
theorem made_one (v : Value) (n : Nat) : madeCells #[v] n = Array.replicate n v := by
  apply Array.ext
  · simp [madeCells]
  · intro i h1 h2
    simp [madeCells, Nat.mod_one]
theorem make_bytes (n : Nat) (hn : n ≤ 100000) (w : World) : (Instr.makeSlice 36 (.int .i64 (n : Int)) (.int .i64 (n : Int))).run Tryd.prog w = .ok (.slice (some ⟨w.heap.size, 0, none⟩) n n) (w.alloc (.cells (List.replicate n (.int .u8 0)).toArray 5)) := by
  obtain ⟨i0, hi0, hz0, hz1, hz2⟩ := info_parts infoB
  have hr := run_make (P := Tryd.prog) w 36 5 i0 _ Tryd.underlying36 hi0 hz0 .i64 .i64 (n : Int) (n : Int) (by omega) (Int.le_refl _) (by rw [hz2]; omega) (by omega)
  rw [hr, hz1]
  have e : (Value.int IntKind.u8 0).cells = #[.int .u8 0] := rfl
  rw [e, made_one]
  simp
/-- A block of n bytes, of which the first are written. -/
def Part (w : World) (g n : Nat) (acc : List UInt8) : Prop := Whole w g 5 (cells (nums acc) ++ List.replicate (n - acc.length) (Value.int .u8 0)).toArray ∧ acc.length ≤ n
theorem Part.start (w : World) (n : Nat) : Part (w.alloc (.cells (List.replicate n (.int .u8 0)).toArray 5)) w.heap.size n [] := ⟨Whole.made _ _ _, Nat.zero_le _⟩
theorem Part.put {w : World} {g n : Nat} {acc : List UInt8} (h : Part w g n acc) (c : UInt8) (hlt : acc.length < n) : Part (w.setCell ⟨g, acc.length, none⟩ (.int .u8 c.toNat)) g n (acc ++ [c]) := by
  refine ⟨?_, by simp; omega⟩
  have h1 := h.1.put acc.length (.int .u8 c.toNat)
  have e : ((cells (nums acc) ++ List.replicate (n - acc.length) (Value.int .u8 0)).toArray.setIfInBounds acc.length (.int .u8 c.toNat)) = (cells (nums (acc ++ [c])) ++ List.replicate (n - (acc ++ [c]).length) (Value.int .u8 0)).toArray := by
    have hl : (cells (nums acc)).length = acc.length := by rw [cells_length, nums_length]
    have hr : List.replicate (n - acc.length) (Value.int .u8 0) = .int .u8 0 :: List.replicate (n - (acc.length + 1)) (.int .u8 0) := by
      rw [show n - acc.length = n - (acc.length + 1) + 1 by omega]; rfl
    rw [hr, List.setIfInBounds_toArray, List.set_append_right _ _ (by omega), hl, Nat.sub_self, List.set_cons_zero, nums_append]
    simp [cells, nums]
  rw [e] at h1
  exact h1
theorem Part.row {w : World} {g n : Nat} {acc : List UInt8} (h : Part w g n acc) (hn : acc.length = n) (base : Nat) (hb : base ≤ g) (hm : n ≤ 100000) : Row w base (.slice (some ⟨g, 0, none⟩) n n) acc := by
  subst hn
  have h1 := h.1
  rw [Nat.sub_self, List.replicate_zero, List.append_nil] at h1
  have hl : (cells (nums acc)).length = acc.length := by rw [cells_length, nums_length]
  exact ⟨by omega, .inr ⟨g, acc.length, (cells (nums acc)).toArray, rfl, hb, h1, Nat.le_refl _, by unfold maxLen; omega, by simp [hl], by rw [List.take_of_length_le (by simp [hl])]⟩⟩
theorem Part.cell {w : World} {g n : Nat} {acc : List UInt8} (h : Part w g n acc) (hlt : acc.length < n) : ∃ u, w.cell? ⟨g, acc.length, none⟩ = some u := by
  have hl : (cells (nums acc)).length = acc.length := by rw [cells_length, nums_length]
  exact ⟨_, (h.1.cell acc.length).trans (Array.getElem?_eq_getElem (by simp [hl]; omega))⟩
end Go.Proofs.YtohliaellefhaaaDoor

/- FuncType. -/
namespace Go.Proofs.YtohliaellefhaaaDoor
set_option maxRecDepth 100000
open Go.RowKit
set_option linter.unusedVariables false

abbrev encF (x : List UInt8 × List UInt8) : Value := .agg #[.string (S x.1), .string (S x.2)]
/-- A function's type. -/
noncomputable def funcR (l : List UInt8) (k : Nat) : Res (List UInt8 × List UInt8) :=
  (tagR l k 96).bind fun _ k1 => (valsR l k1).bind fun a k2 => (valsR l k2).bind fun b k3 => if funcZ a b = 0 then .ok (a, b) k3 else .err (funcZ a b) k
theorem valsK_len {l : List UInt8} : ∀ (n k : Nat) (acc a : List UInt8) (q : Nat), valsK l n k acc = .ok a q → a.length = acc.length + n
  | 0, k, acc, a, q, h => by injection h with h1 h2; rw [← h1]; rfl
  | n + 1, k, acc, a, q, h => by
    unfold valsK at h
    cases hc : valR l k with
    | ok c q2 =>
      rw [hc, Res.bind_ok] at h
      have := valsK_len n q2 (acc ++ [c]) a q h
      simp at this; omega
    | err c x => rw [hc, Res.bind_err] at h; cases h
theorem valsR_len {l : List UInt8} {k : Nat} {a : List UInt8} {q : Nat} (h : valsR l k = .ok a q) : a.length ≤ 10000 := by
  unfold valsR at h
  cases hc : countR l k with
  | ok v q2 =>
    rw [hc, Res.bind_ok] at h
    have := countR_ok hc
    have := valsK_len _ _ _ _ _ h
    simp at this; omega
  | err c x => rw [hc, Res.bind_err] at h; cases h

end Go.Proofs.YtohliaellefhaaaDoor

/- Limits, Global. -/
namespace Go.Proofs.YtohliaellefhaaaDoor
set_option maxRecDepth 100000
open Go.RowKit
set_option linter.unusedVariables false

/-- Three cells of one block, all written. -/
theorem three_put {w : World} {b : Nat} {t : TypeId} {x y z u v s : Value} (hb : Whole w b t #[x, y, z]) :
    Whole (((w.setCell ⟨b, 0, none⟩ u).setCell ⟨b, 1, none⟩ v).setCell ⟨b, 2, none⟩ s) b t #[u, v, s] ∧ w.grownBy (((w.setCell ⟨b, 0, none⟩ u).setCell ⟨b, 1, none⟩ v).setCell ⟨b, 2, none⟩ s) (some b) :=
  ⟨((hb.put 0 u).put 1 v).put 2 s, gb_put (p := ⟨b, 2, none⟩) (gb_put (p := ⟨b, 1, none⟩) (gb_put (p := ⟨b, 0, none⟩) (gb_refl w _) (.inl rfl) u) (.inl rfl) v) (.inl rfl) s⟩
abbrev encT (x : Int × Int × Bool) : Value := .agg #[.int .u32 x.1, .int .u32 x.2.1, .bool x.2.2]
/-- Limits. -/
noncomputable def limR (l : List UInt8) (k : Nat) : Res (Int × Int × Bool) :=
  (flagR l k).bind fun b k1 => (indexR l k1).bind fun mn k2 => if b then (indexR l k2).bind fun mx k3 => .ok (mn, mx, true) k3 else .ok (mn, 0, false) k2

abbrev encGl (x : UInt8 × Bool) : Value := .agg #[.int .u8 x.1.toNat, .bool x.2]
/-- A global's type. -/
def globR (l : List UInt8) (k : Nat) : Res (UInt8 × Bool) := (valR l k).bind fun t k1 => (flagR l k1).bind fun m k2 => .ok (t, m) k2
end Go.Proofs.YtohliaellefhaaaDoor

/- Plain mathematics: the bits of a varint's number, with and without a sign; when it fits. -/
namespace Go.Proofs.YtohliaellefhaaaDoor
open Go.RowKit
set_option linter.unusedVariables false

theorem bit_step (d x : Int) (i : Nat) : bit (d % 128 + 128 * x) (7 + i) = bit x i := by
  rw [← bit_div]
  have e : (d % 128 + 128 * x) / 2 ^ 7 = x := by
    show (d % 128 + 128 * x) / 128 = x
    omega
  rw [e]
theorem bit_byte (d x : Int) (i : Nat) (hi : i < 7) : bit (d % 128 + 128 * x) i = bit d i := by
  unfold bit
  have h : i = 0 ∨ i = 1 ∨ i = 2 ∨ i = 3 ∨ i = 4 ∨ i = 5 ∨ i = 6 := by omega
  have key : (d % 128 + 128 * x) / 2 ^ i % 2 = d / 2 ^ i % 2 := by
    rcases h with rfl | rfl | rfl | rfl | rfl | rfl | rfl <;> simp <;> omega
  rw [key]
theorem bit_low : ∀ (l : List Int) (j i : Nat) (c : Int), i < 7 → l[j]? = some c → bit (low l) (7 * j + i) = bit c i
  | [], j, i, c, _, h => by simp at h
  | d :: r, 0, i, c, hi, h => by
    have : d = c := by simpa using h
    subst this
    rw [Nat.mul_zero, Nat.zero_add]
    exact bit_byte d _ i hi
  | d :: r, j + 1, i, c, hi, h => by
    have ih := bit_low r j i c hi (by simpa using h)
    rw [show 7 * (j + 1) + i = 7 + (7 * j + i) by omega, ← ih]
    exact bit_step d _ _

/-- The number of n bits, m of them known: with a sign, or without. -/
def ext (s : Bool) (N : Int) (m : Nat) : Int := if s && bit N (m - 1) then N - 2 ^ m else N
theorem ext_low (s : Bool) (N : Int) (m j : Nat) (h : j < m) : bit (ext s N m) j = bit N j := by
  unfold ext
  split
  · unfold bit
    have e : (2 : Int) ^ m = 2 ^ j * 2 * 2 ^ (m - j - 1) := by
      rw [show (2 : Int) ^ j * 2 = 2 ^ (j + 1) from (Int.pow_succ 2 j).symm, ← Int.pow_add]; congr 1; omega
    have hp := p2 j
    have e2 : N - 2 ^ m = N + 2 ^ j * (2 * -2 ^ (m - j - 1)) := by rw [e]; generalize (2 : Int) ^ (m - j - 1) = t; generalize (2 : Int) ^ j = u; grind
    rw [e2, Int.add_mul_ediv_left _ _ (Int.ne_of_gt hp)]
    congr 1
    omega
  · rfl
theorem ext_bd (s : Bool) {N : Int} {m : Nat} (hm : 1 ≤ m) (h0 : 0 ≤ N) (h1 : N < 2 ^ m) : -2 ^ m ≤ ext s N m ∧ ext s N m < 2 ^ m := by
  unfold ext
  have := p2 m
  split <;> omega
theorem bit_top {N : Int} {m : Nat} (hm : 1 ≤ m) (h0 : 0 ≤ N) (h1 : N < 2 ^ m) : bit N (m - 1) = decide (2 ^ (m - 1) ≤ N) := by
  have e : (2 : Int) ^ m = 2 * 2 ^ (m - 1) := by rw [show m = m - 1 + 1 by omega, Int.pow_succ, Int.mul_comm]; rfl
  have hp := p2 (m - 1)
  unfold bit
  by_cases h : 2 ^ (m - 1) ≤ N
  · have : N / 2 ^ (m - 1) = 1 := by rw [Int.ediv_eq_iff_of_pos hp]; constructor <;> omega
    rw [this]; simp [h]
  · have : N / 2 ^ (m - 1) = 0 := Int.ediv_eq_zero_of_lt h0 (by omega)
    rw [this]; simp [h]
theorem ext_over (s : Bool) {N : Int} {m : Nat} (hm : 1 ≤ m) (h0 : 0 ≤ N) (h1 : N < 2 ^ m) : ext s N m / 2 ^ m = if s && bit N (m - 1) then -1 else 0 := by
  unfold ext
  split
  · rw [Int.ediv_eq_iff_of_pos (p2 m)]; constructor <;> omega
  · exact Int.ediv_eq_zero_of_lt h0 h1
theorem ext_high (s : Bool) {N : Int} {m : Nat} (hm : 1 ≤ m) (h0 : 0 ≤ N) (h1 : N < 2 ^ m) (j : Nat) (hj : m ≤ j) : bit (ext s N m) j = (s && bit N (m - 1)) :=
  from_same (ext_over s hm h0 h1) j hj

/-- The sign that is asked for above the lowest n bits. -/
def topB (s : Bool) (N : Int) (m n : Nat) : Bool := s && bit N (min n m - 1)
/-- All known bits above the lowest n are the sign. -/
def Good (s : Bool) (N : Int) (m n : Nat) : Prop := ∀ j, n ≤ j → j < m → bit N j = topB s N m n

theorem good_ext {s : Bool} {N : Int} {m n : Nat} (hm : 1 ≤ m) (h0 : 0 ≤ N) (h1 : N < 2 ^ m) (hg : Good s N m n) (i : Nat) (hi : n ≤ i ∨ m ≤ i) : bit (ext s N m) i = topB s N m n := by
  rcases Nat.lt_or_ge i m with g | g
  · rw [ext_low s N m i g]; exact hg i (by omega) g
  · rw [ext_high s hm h0 h1 i g]
    rcases Nat.lt_or_ge n m with k | k
    · have h2 := hg (m - 1) (by omega) (by omega)
      rw [h2]
      unfold topB
      cases s <;> simp
    · unfold topB
      rw [Nat.min_eq_right k]
/-- It fits n bits. -/
def Fits (s : Bool) (X : Int) (n : Nat) : Prop := if s then X / 2 ^ (n - 1) = 0 ∨ X / 2 ^ (n - 1) = -1 else X / 2 ^ n = 0
theorem good_fits {s : Bool} {N : Int} {m n : Nat} (hm : 1 ≤ m) (hn : 1 ≤ n) (h0 : 0 ≤ N) (h1 : N < 2 ^ m) : Good s N m n ↔ Fits s (ext s N m) n := by
  obtain ⟨b1, b2⟩ := ext_bd s hm h0 h1
  have mm := mono2 (Nat.le_max_left m n)
  constructor
  · intro hg
    have hx := good_ext hm h0 h1 hg
    cases s
    · have h := same_from (x := ext false N m) (a := n) (b := max m n) (t := false) (by omega) (by omega) (by omega) (fun j hj _ => by rw [hx j (.inl hj)]; simp [topB])
      unfold Fits
      simpa using h
    · have h := same_from (x := ext true N m) (a := n - 1) (b := max m n) (t := topB true N m n) (by omega) (by omega) (by omega) (fun j hj _ => by
        rcases Nat.lt_or_ge j n with g | g
        · obtain rfl : j = n - 1 := by omega
          rcases Nat.lt_or_ge (n - 1) m with k | k
          · rw [ext_low _ _ _ _ k]; unfold topB; rw [Nat.min_eq_left (by omega)]; simp
          · exact hx _ (.inr k)
        · exact hx j (.inl g))
      unfold Fits
      rw [if_pos rfl, h]
      cases topB true N m n <;> simp
  · intro hf j hj hjm
    unfold Fits at hf
    rw [← ext_low s N m j hjm]
    cases s
    · simp only [Bool.false_eq_true, if_false] at hf
      rw [from_same (a := n) (t := false) (by simpa using hf) j hj]; simp [topB]
    · simp only [if_true] at hf
      have hb : ∀ i, n - 1 ≤ i → bit (ext true N m) i = bit (ext true N m) (n - 1) := fun i hi => by
        rcases hf with hf | hf
        · rw [from_same (a := n - 1) (t := false) (by simpa using hf) i hi, from_same (a := n - 1) (t := false) (by simpa using hf) (n - 1) (by omega)]
        · rw [from_same (a := n - 1) (t := true) (by simpa using hf) i hi, from_same (a := n - 1) (t := true) (by simpa using hf) (n - 1) (by omega)]
      rw [hb j (by omega), ext_low true N m (n - 1) (by omega)]
      unfold topB
      rw [Nat.min_eq_left (by omega)]
      simp
end Go.Proofs.YtohliaellefhaaaDoor

/- creelref02.Read. -/
namespace Go.Proofs.YtohliaellefhaaaDoor
open Go.RowKit
set_option linter.unusedVariables false

end Go.Proofs.YtohliaellefhaaaDoor

/- Both readers, each beside the reference: the same answer. -/
namespace Go.Proofs.YtohliaellefhaaaDoor
open Go.RowKit
set_option linter.unusedVariables false

theorem low_take {q : List Int} {p : Nat} {c : Int} (hpc : q[p]? = some c) (c0 : 0 ≤ c) (c2 : c < 128) : low (q.take (p + 1)) = numU (q.take p) c := by
  have hp := (List.getElem?_eq_some_iff.1 hpc).1
  rw [take_snoc hpc, low_snoc]
  unfold numU
  rw [Int.emod_eq_of_lt c0 c2]
theorem take_len {q : List Int} {p : Nat} {c : Int} (hpc : q[p]? = some c) : (q.take p).length = p := by
  have hp := (List.getElem?_eq_some_iff.1 hpc).1
  rw [List.length_take]; omega
theorem num_bd {q : List Int} {p : Nat} {c : Int} (hpc : q[p]? = some c) (c0 : 0 ≤ c) (c2 : c < 128) : 0 ≤ numU (q.take p) c ∧ numU (q.take p) c < 2 ^ (7 * (p + 1)) := by
  have hp := (List.getElem?_eq_some_iff.1 hpc).1
  have h := low_bd (q.take (p + 1))
  rw [low_take hpc c0 c2, List.length_take, show min (p + 1) q.length = p + 1 by omega] at h
  exact h
theorem ext_signed {q : List Int} {p : Nat} {c : Int} (hpc : q[p]? = some c) (c0 : 0 ≤ c) (c2 : c < 128) : ext true (numU (q.take p) c) (7 * (p + 1)) = numS (q.take p) c := by
  obtain ⟨b0, b1⟩ := num_bd hpc c0 c2
  have hb := bit_top (m := 7 * (p + 1)) (by omega) b0 b1
  obtain ⟨l0, l1⟩ := low_bd (q.take p)
  unfold ext
  unfold numS numU at *
  rw [take_len hpc] at *
  rw [hb]
  have e1 : (2 : Int) ^ (7 * (p + 1) - 1) = 64 * 2 ^ (7 * p) := by rw [show 7 * (p + 1) - 1 = 7 * p + 6 by omega, Int.pow_add, Int.mul_comm]; rfl
  have e2 : (2 : Int) ^ (7 * (p + 1)) = 128 * 2 ^ (7 * p) := by rw [show 7 * (p + 1) = 7 * p + 7 by omega, Int.pow_add, Int.mul_comm]; rfl
  rw [e1, e2]
  unfold sg
  generalize (2 : Int) ^ (7 * p) = t at *
  by_cases h : 64 ≤ c
  · have : 64 * t ≤ low (q.take p) + c * t := by
      have := Int.mul_le_mul_of_nonneg_right h (show 0 ≤ t by omega)
      omega
    simp only [this, decide_true, Bool.and_self, if_true, if_pos h]
    grind
  · have : ¬ 64 * t ≤ low (q.take p) + c * t := by
      have := Int.mul_le_mul_of_nonneg_right (show c ≤ 63 by omega) (show 0 ≤ t by omega)
      omega
    simp only [this, decide_false, Bool.and_false, Bool.false_eq_true, if_false, if_neg h]

/-- What is asked of a slice that comes in: it reads as these bytes. -/
structure Has (w : World) (B : Nat) (A : Option Addr) (cap : Nat) (r : List Int) : Prop where
  lies : Lies w B A (cells r)
  low_ : B ≤ w.heap.size
  room : r.length ≤ cap
  most : cap ≤ maxLen

end Go.Proofs.YtohliaellefhaaaDoor

/- The law LebReads. -/
namespace Go.Proofs.YtohliaellefhaaaDoor
open Go.RowKit
set_option linter.unusedVariables false

theorem Has.below {w w' : World} {B : Nat} {A : Option Addr} {cap : Nat} {r : List Int} (h : Has w B A cap r) (hb : Below w.heap.size w w') : Has w' B A cap r :=
  ⟨h.lies.below hb h.low_, Nat.le_trans h.low_ hb.size, h.room, h.most⟩
theorem back_s {V : Int} (h0 : -9223372036854775808 ≤ V) (h1 : V ≤ 9223372036854775807) : IntKind.i64.wrap (V % 2 ^ 64) = V := by
  have e : (2 : Int) ^ 64 = 18446744073709551616 := rfl
  rw [IntKind.wrap_i64, e]
  omega

end Go.Proofs.YtohliaellefhaaaDoor
