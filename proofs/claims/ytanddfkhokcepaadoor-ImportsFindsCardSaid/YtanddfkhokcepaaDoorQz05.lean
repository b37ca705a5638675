/- creelref03.Count. -/
import Derived.Test.YtanddfkhokcepaaDoorQz04
import Derived.Test.YtanddfkhokcepaaDoorShelf
import Derived.Shelf.Unicode.WordAny
import Derived.Lib.ValidAsc
import Derived.Laws.BitsAllLaws
import Derived.Deep.QuietTactic
import Derived.BigQuiet
import Derived.Deep.LoopGhost
import Derived.Deep.DeepMust
import Derived.Deep.CutBlock
import Derived.Deep.DeepCutAuto
import Derived.Laws.IdiomStrings
namespace Go.Proofs.YtanddfkhokcepaaDoor
set_option linter.unusedVariables false
open Go.RowKit Go.Lib

def strLen : Value → Nat
  | .string s => s.size
  | _ => 0
theorem run_tail {n : Nat} {l : List UInt8} (h : n ≤ l.length) (w : World) : (Instr.slice 9 (.string (S l)) (some (.int .i64 (n : Int))) none none).run Tryd.prog w = .ok (.string (S (l.drop n))) w := by
  have h := run_slice_string_l (P := Tryd.prog) w 9 (S l) Tryd.underlying9 .i64 (n : Int) (by omega) (by rw [S_size]; omega)
  rw [h, S_extract, S_size, show ((n : Int)).toNat = n from rfl, List.take_of_length_le (by simp)]
theorem countZ_nil : countZ [] = 0 := by decide
theorem ret_val {k : IntKind} {a b : Int} (h : a = b) : Ending.returned (.int k a) = .returned (.int k b) := by rw [h]

set_option maxHeartbeats 1000000 in
theorem refCount_any (l : List UInt8) (w : World) (hl : l.length ≤ 1000000) : Calls Tryd.prog 13 #[.string (S l)] w fun e w' => e = .returned (.int .i64 (countZ l)) ∧ Below w.heap.size w w' := by
  go_enter Tryd.func13, Tryd.ntmps13
  go_wp2
  go_loopw [0, 3] (fun v c wr => ∃ (r : List UInt8) (k : Nat), v = .string (S r) ∧ c = .int .i64 k ∧ validD l = validD r ∧ runeCountL l = k + runeCountL r ∧ r.length ≤ 1000000 ∧ Below w.heap.size w wr) (fun v _ _ => strLen v)
  case atStart => exact ⟨l, 0, rfl, rfl, rfl, by omega, hl, Below.refl _ _⟩
  case round =>
    obtain ⟨r, k, rfl, rfl, hv, hc, hr, hbe⟩ := hrel
    have HB := Lib.hid hbe
    have hk : k ≤ 1000000 := by have := count_le l; omega
    clear hbe
    by_cases h0 : r = []
    · subst h0
      have e : countZ l = (k : Int) := by
        unfold countZ
        rw [if_pos (by rw [hv]; rfl), hc]
        have : runeCountL [] = 0 := rfl
        omega
      have HE := Lib.hid e
      have hz : (S []).size = 0 := rfl
      clear hv hc e
      go_wp2
      go_ret
      exact ⟨ret_val HE.out.symm, HB.out⟩
    · have hlen : 0 < r.length := List.length_pos_iff.2 h0
      have hz : 0 < (S r).size := by rw [S_size]; exact hlen
      have hle := firstN_le r
      by_cases hn : (firstN r).2 = 0
      · have e : countZ l = -1 := by
          unfold countZ
          rw [if_neg (by rw [hv, valid_none h0 hn]; simp)]
        have HE := Lib.hid e
        have HH := Lib.hid hn
        clear hv hc e hn
        go_wp2_with fail
        refine (refFirst_any r _ hr).mono ?_
        rintro e w1 ⟨rfl, hb1⟩
        rw [HH.out]
        have H1 := Lib.hid (two HB.out (Nat.le_refl _) hb1)
        clear hb1 HB
        go_wp2
        go_ret
        exact ⟨ret_val HE.out.symm, H1.out⟩
      · have hv2 := valid_some h0 hn
        have hc2 := count_some h0 hn
        have hsl := run_tail (n := (firstN r).2) (l := r) hle.2.1
        have hlt : strLen (.string (S (r.drop (firstN r).2))) < strLen (.string (S r)) := by
          show (S _).size < (S _).size
          rw [S_size, S_size, List.length_drop]; omega
        have hr2 : (r.drop (firstN r).2).length ≤ 1000000 := by rw [List.length_drop]; omega
        have HV := Lib.hid (hv.trans hv2)
        have HC := Lib.hid (show runeCountL l = (k + 1) + runeCountL (r.drop (firstN r).2) by omega)
        have HL := Lib.hid hlt
        have HR := Lib.hid hr2
        have hne : (((firstN r).2 : Int) == 0) = false := beq_eq_false_iff_ne.2 (by omega)
        clear hv hc hv2 hc2 hlt hr2
        go_wp2_with fail
        refine (refFirst_any r _ hr).mono ?_
        rintro e w1 ⟨rfl, hb1⟩
        have H1 := Lib.hid (two HB.out (Nat.le_refl _) hb1)
        clear hb1 HB
        generalize (firstN r).2 = n at *
        generalize (firstN r).1 = v at *
        go_wp2
        go_roundw
        case rel => exact ⟨_, k + 1, rfl, by go_num, HV.out, HC.out, HR.out, H1.out⟩
        case measure => exact HL.out
end Go.Proofs.YtanddfkhokcepaaDoor

/- utf.First, utf.Count, utf.Check over the library's contracts. -/
namespace Go.Proofs.YtanddfkhokcepaaDoor
set_option linter.unusedVariables false
set_option maxRecDepth 100000
open Go.RowKit Go.Lib

/-- The two tables of unicode/utf8 hold what they are laid with. -/
def Tabs (w : World) : Prop := Lib.Utf8Tabs 0 1 w
theorem Tabs.below {w wr : World} (h : Tabs w) (hb : Below w.heap.size w wr) : Tabs wr := Utf8Tabs_below h hb
theorem Tabs.on {B w wr : World} (h : Tabs B) (hB : Below B.heap.size B w) (hb : Below w.heap.size w wr) : Tabs wr := (h.below hB).below hb

theorem valid_any (l : List UInt8) (w : World) (hl : l.length ≤ 1000000) (hT : Tabs w) : Calls Tryd.prog 107 #[.string (S l)] w fun e w' => e = .returned (.bool (validD l)) ∧ Below w.heap.size w w' := by
  have h := Any.utf8_ValidString Tryd.lays196 (S l) w (by rw [S_size]; omega) hT
  rw [S_list] at h
  exact h
/-- api.ErrLong is 13, api.ErrUTF 4, api.OK 0. -/
def checkZ (l : List UInt8) : Int := if 200 < l.length then 13 else if validD l = true then 0 else 4
theorem check_any (l : List UInt8) (w : World) (hl : l.length ≤ 1000000) (hT : Tabs w) : Calls Tryd.prog 72 #[.string (S l)] w fun e w' => e = .returned (.int .i64 (checkZ l)) ∧ Below w.heap.size w w' := by
  have hs : (S l).size = l.length := S_size l
  by_cases h2 : 200 < l.length
  · have e : checkZ l = 13 := by unfold checkZ; rw [if_pos h2]
    have HE := Lib.hid e
    have hs2 : 200 < (S l).size := by omega
    clear e hs
    go_enter Tryd.func72, Tryd.ntmps72
    go_wp2
    go_ret
    exact ⟨ret_val HE.out.symm, Below.refl _ _⟩
  · have hd : decide ((200 : Int) < ((S l).size : Int)) = false := by simp; omega
    clear hs
    by_cases hv : validD l = true
    · have e : checkZ l = 0 := by unfold checkZ; rw [if_neg h2, if_pos hv]
      have HE := Lib.hid e
      clear e
      go_enter Tryd.func72, Tryd.ntmps72
      go_wp2_with (first
        | (go_at_call 107; go_must (refine (valid_any l _ hl hT).mono ?_; rintro e w1 ⟨rfl, hb1⟩; have H1 := Lib.hid hb1; clear hb1)))
      go_ret
      exact ⟨ret_val HE.out.symm, H1.out⟩
    · have hv' : validD l = false := by simpa using hv
      have e : checkZ l = 4 := by unfold checkZ; rw [if_neg h2, if_neg hv]
      have HE := Lib.hid e
      clear e hv
      go_enter Tryd.func72, Tryd.ntmps72
      go_wp2_with (first
        | (go_at_call 107; go_must (refine (valid_any l _ hl hT).mono ?_; rintro e w1 ⟨rfl, hb1⟩; have H1 := Lib.hid hb1; clear hb1)))
      go_ret
      exact ⟨ret_val HE.out.symm, H1.out⟩

/-- The bytes l lie at b, from off on. -/
def Bys (w : World) (b off : Nat) (l : List UInt8) : Prop := ∀ j (h : j < l.length), w.cell? ⟨b, off + j, none⟩ = some (.int .u8 ((l[j]'h).toNat : Int))
theorem Bys.below {w w' : World} {b off : Nat} {l : List UInt8} (h : Bys w b off l) (hb : Below w.heap.size w w') (hlt : b < w.heap.size) : Bys w' b off l := fun j hj =>
  (hb.cell (p := ⟨b, off + j, none⟩) hlt).trans (h j hj)
end Go.Proofs.YtanddfkhokcepaaDoor

/- unicode/utf8.word at a slice of bytes; cuts of a slice whose capacity is its length; what is left of a text. -/
namespace Go.Proofs.YtanddfkhokcepaaDoor
set_option linter.unusedVariables false
set_option maxRecDepth 100000
open Go.RowKit Go.Lib

/-- The bytes of s lie at b, from off on. -/
def Bya (w : World) (b off : Nat) (s : ByteArray) : Prop := ∀ j, j < s.size → w.cell? ⟨b, off + j, none⟩ = some (.int .u8 ((s.get! j).toNat : Int))
theorem Bya.of_bys {w : World} {b off : Nat} {l : List UInt8} (h : Bys w b off l) : Bya w b off (S l) := fun j hj => by
  have hj' : j < l.length := by rw [S_size] at hj; exact hj
  rw [h j hj', show (S l).get! j = (S l)[j]'hj from Utf8W.get!_of_lt (S l) j hj, S_get]
theorem Bya.below {w w' : World} {b off : Nat} {s : ByteArray} (h : Bya w b off s) (hb : Below w.heap.size w w') (hlt : b < w.heap.size) : Bya w' b off s := fun j hj =>
  (hb.cell (p := ⟨b, off + j, none⟩) hlt).trans (h j hj)
theorem cell_heap {w w' : World} (h : w'.heap = w.heap) (p : Addr) : w'.cell? p = w.cell? p := by unfold World.cell?; rw [h]
/-- One byte, as a number. -/
theorem Bya.byte {w : World} {b off : Nat} {s : ByteArray} (h : Bya w b off s) (j : Nat) (hj : j < s.size) : ∃ a : Nat, a < 256 ∧ (s.get! j).toNat = a ∧ w.cell? ⟨b, off + j, none⟩ = some (.int .u8 (a : Int)) :=
  ⟨_, (s.get! j).toNat_lt, rfl, h j hj⟩

theorem elemB : Tryd.prog.elem 25 = 5 := by kernel_rfl
/-- p[k:] where the capacity is the length. -/
theorem run_cut (s : ByteArray) (k : Nat) (c : Int) (hc : c = (k : Int)) (hk : k ≤ s.size) (b o : Nat) :
    ∃ o', (∀ w, (Instr.slice 25 (.slice (some ⟨b, o, none⟩) s.size s.size) (some (.int .i64 c)) none none).run Tryd.prog w = .ok (.slice (some ⟨b, o', none⟩) (s.extract k s.size).size (s.extract k s.size).size) w) ∧
      ∀ w, Bya w b o s → Bya w b o' (s.extract k s.size) := by
  subst hc
  have hz : (s.extract k s.size).size = s.size - k := Lib.ext_size s k
  have h : ∀ w, _ := fun w => run_slice_l (P := Tryd.prog) w 25 (some ⟨b, o, none⟩) s.size s.size Tryd.underlying25 .i64 (k : Int) (by omega) (by omega)
  by_cases hks : s.size = k
  · refine ⟨o, fun w => ?_, fun w _ j hj => by rw [hz] at hj; omega⟩
    rw [h w, elemB, Tryd.sizeOf5]
    simp [sliced, hks]
  · refine ⟨o + k, fun w => ?_, fun w hp j hj => ?_⟩
    · rw [h w, elemB, Tryd.sizeOf5]
      simp [sliced, hks, hz, Go.WideShapes.add_plain]
    · rw [hz] at hj
      rw [Nat.add_assoc, hp (k + j) (by omega), Lib.tail_get!]
theorem run_full (n cap b o : Nat) (hn : n ≤ cap) (w : World) : (Instr.slice 25 (.slice (some ⟨b, o, none⟩) n cap) none (some (.int .i64 (n : Int))) (some (.int .i64 (n : Int)))).run Tryd.prog w = .ok (.slice (some ⟨b, o, none⟩) n n) w := by
  have h := run_slice_hm (P := Tryd.prog) w 25 (some ⟨b, o, none⟩) n cap Tryd.underlying25 .i64 .i64 (n : Int) (n : Int) (by omega) (by omega) (by omega)
  rw [h, elemB, Tryd.sizeOf5]
  simp [sliced, Go.WideShapes.add_plain]

/-- The number that the first eight bytes spell. -/
def spell (s : ByteArray) : Nat := leNat [s.get! 0, s.get! 1, s.get! 2, s.get! 3, s.get! 4, s.get! 5, s.get! 6, s.get! 7]
set_option maxHeartbeats 8000000 in
set_option maxRecDepth 100000 in
theorem word_any (s : ByteArray) (b off cap : Nat) (w : World) (hs : 8 ≤ s.size) (hp : Bya w b off s) :
    Calls Tryd.prog 135 #[.slice (some ⟨b, off, none⟩) s.size cap] w fun e w' => e = .returned (.int .u64 (spell s : Int)) ∧ ∃ q, w' = w.drewN q := by
  obtain ⟨a0, l0, e0, c0⟩ := hp.byte 0 (by omega)
  obtain ⟨a1, l1, e1, c1⟩ := hp.byte 1 (by omega)
  obtain ⟨a2, l2, e2, c2⟩ := hp.byte 2 (by omega)
  obtain ⟨a3, l3, e3, c3⟩ := hp.byte 3 (by omega)
  obtain ⟨a4, l4, e4, c4⟩ := hp.byte 4 (by omega)
  obtain ⟨a5, l5, e5, c5⟩ := hp.byte 5 (by omega)
  obtain ⟨a6, l6, e6, c6⟩ := hp.byte 6 (by omega)
  obtain ⟨a7, l7, e7, c7⟩ := hp.byte 7 (by omega)
  have hv : (spell s : Int) = (a0 : Int) + (a1 : Int) * 256 + (a2 : Int) * 65536 + (a3 : Int) * 16777216 + (a4 : Int) * 4294967296 + (a5 : Int) * 1099511627776 + (a6 : Int) * 281474976710656 + (a7 : Int) * 72057594037927936 := by
    simp only [spell, leNat, e0, e1, e2, e3, e4, e5, e6, e7]
    omega
  rw [Nat.add_zero] at c0
  have HV := Lib.hid hv
  clear hv hp e0 e1 e2 e3 e4 e5 e6 e7
  have i0 : (0 : Int) < (s.size : Int) := by omega
  have i1 : (1 : Int) < (s.size : Int) := by omega
  have i2 : (2 : Int) < (s.size : Int) := by omega
  have i3 : (3 : Int) < (s.size : Int) := by omega
  have i4 : (4 : Int) < (s.size : Int) := by omega
  have i5 : (5 : Int) < (s.size : Int) := by omega
  have i6 : (6 : Int) < (s.size : Int) := by omega
  have i7 : (7 : Int) < (s.size : Int) := by omega
  go_enter Tryd.func135, Tryd.ntmps135
  go_wp2
  go_quiet (fail)
  go_wp2
  go_ret
  exact ⟨by rw [HV.out]; simp (disch := omega) only [u64_or8, u64_or16, u64_or24, u64_or32, u64_or40, u64_or48, u64_or56]; rfl, _, rfl⟩

/-- What is left to read: t, at o; and what it answers. -/
structure Rest (w : World) (b o : Nat) (t : ByteArray) (ans : Bool) : Prop where
  lies : Bya w b o t
  same : validD t.data.toList = ans
  most : t.size ≤ 1000000
/-- The call of word at t, in every world that has this heap. -/
abbrev Words (wq : World) (b o : Nat) (t : ByteArray) (A : Nat) : Prop := ∀ W : World, W.heap = wq.heap → Calls Tryd.prog 135 #[.slice (some ⟨b, o, none⟩) t.size t.size] W fun e w' => e = .returned (.int .u64 (A : Int)) ∧ ∃ q, w' = W.drewN q
/-- p[k:] at t is t2, at o2. -/
abbrev Cuts (b o : Nat) (t : ByteArray) (k : Int) (o2 : Nat) (t2 : ByteArray) : Prop := ∀ w, (Instr.slice 25 (.slice (some ⟨b, o, none⟩) t.size t.size) (some (.int .i64 k)) none none).run Tryd.prog w = .ok (.slice (some ⟨b, o2, none⟩) t2.size t2.size) w

section
variable {w wq : World} {b o : Nat} {t : ByteArray} {ans : Bool}
theorem Rest.cut (h : Rest w b o t ans) (k : Nat) (c : Int) (hc : c = (k : Int)) (hk : k ≤ t.size) (hv : validD (t.extract k t.size).data.toList = validD t.data.toList) :
    ∃ o' t', Cuts b o t c o' t' ∧ Rest w b o' t' ans ∧ t'.size + k = t.size := by
  obtain ⟨o', h1, h2⟩ := run_cut t k c hc hk b o
  have hz : (t.extract k t.size).size = t.size - k := Lib.ext_size t k
  exact ⟨o', _, h1, ⟨h2 w h.lies, hv.trans h.same, by have := h.most; omega⟩, by omega⟩
theorem Rest.skip (h : Rest w b o t ans) (k : Nat) (c : Int) (hc : c = (k : Int)) (hk : k ≤ t.size) (ha : Asc t k) : ∃ o' t', Cuts b o t c o' t' ∧ Rest w b o' t' ans ∧ t'.size + k = t.size :=
  h.cut k c hc hk (valid_skip t k ha)
theorem words_of (hp : Bya w b o t) (hlt : b < w.heap.size) (hb : Below w.heap.size w wq) (h8 : 8 ≤ t.size) : Words wq b o t (spell t) := fun W hW =>
  word_any t b o t.size W h8 fun j hj => (cell_heap hW _).trans (hp.below hb hlt j hj)
theorem mask_int {A : Nat} (h : A < 18446744073709551616) : bits .and .u64 (A : Int) 9259542123273814144 = ((A &&& 9259542123273814144 : Nat) : Int) := u64_and_nat A 9259542123273814144 h (by omega)
/-- One word: its test says that eight bytes are below 128. -/
theorem Rest.one (h : Rest w b o t ans) (hlt : b < w.heap.size) (hb : Below w.heap.size w wq) (h8 : 8 ≤ t.size) :
    ∃ A Z, Words wq b o t A ∧ bits .and .u64 (A : Int) 9259542123273814144 = ((Z : Nat) : Int) ∧ (Z = 0 → Asc t 8) :=
  ⟨spell t, _, words_of h.lies hlt hb h8, mask_int (word_lt t), (word_asc t h8).1⟩
/-- Two words. -/
theorem Rest.two (h : Rest w b o t ans) (hlt : b < w.heap.size) (hb : Below w.heap.size w wq) (h8 : 16 ≤ t.size) :
    ∃ o2 t2 A B O Z, Cuts b o t 8 o2 t2 ∧ Words wq b o t A ∧ Words wq b o2 t2 B ∧ bits .or .u64 (A : Int) (B : Int) = ((O : Nat) : Int) ∧ bits .and .u64 (O : Int) 9259542123273814144 = ((Z : Nat) : Int) ∧ (Z = 0 → Asc t 16) ∧ t2.size + 8 = t.size ∧ (A < 18446744073709551616 ∧ B < 18446744073709551616 ∧ O < 18446744073709551616) ∧ O &&& 9259542123273814144 = Z := by
  obtain ⟨o2, h1, h2⟩ := run_cut t 8 8 rfl (by omega) b o
  have hz : (t.extract 8 t.size).size = t.size - 8 := Lib.ext_size t 8
  have hO := Nat.or_lt_two_pow (n := 64) (word_lt t) (word_lt (t.extract 8 t.size))
  refine ⟨o2, _, spell t, spell (t.extract 8 t.size), _, _, h1, words_of h.lies hlt hb (by omega), words_of (h2 w h.lies) hlt hb (by omega), u64_or_nat _ _ (word_lt _) (word_lt _), mask_int hO, fun h0 => ?_, by omega, ⟨word_lt _, word_lt _, hO⟩, rfl⟩
  obtain ⟨e1, e2⟩ := (or_mask _ _ _).1 h0
  exact asc_add t 8 8 ((word_asc t (by omega)).1 e1) ((word_asc _ (by omega)).1 e2)
/-- Four words. -/
theorem Rest.four (h : Rest w b o t ans) (hlt : b < w.heap.size) (hb : Below w.heap.size w wq) (h8 : 32 ≤ t.size) :
    ∃ o2 t2 o3 t3 o4 t4 A B C D O1 O2 O3 Z, (Cuts b o t 8 o2 t2 ∧ Cuts b o t 16 o3 t3 ∧ Cuts b o t 24 o4 t4) ∧ (Words wq b o t A ∧ Words wq b o2 t2 B ∧ Words wq b o3 t3 C ∧ Words wq b o4 t4 D) ∧
      (bits .or .u64 (A : Int) (B : Int) = ((O1 : Nat) : Int) ∧ bits .or .u64 (C : Int) (D : Int) = ((O2 : Nat) : Int) ∧ bits .or .u64 (O1 : Int) (O2 : Int) = ((O3 : Nat) : Int) ∧ bits .and .u64 (O3 : Int) 9259542123273814144 = ((Z : Nat) : Int)) ∧
      (Z = 0 → Asc t 32) ∧ (t2.size + 8 = t.size ∧ t3.size + 16 = t.size ∧ t4.size + 24 = t.size) := by
  obtain ⟨o2, t2, A, B, O, Z, h1, h2, h3, h4, _, h6, h7, ⟨_, _, h10⟩, e1⟩ := h.two hlt hb (by omega)
  obtain ⟨o3, k1, k2⟩ := run_cut t 16 16 rfl (by omega) b o
  obtain ⟨o4, m1, m2⟩ := run_cut t 24 24 rfl (by omega) b o
  have z3 : (t.extract 16 t.size).size = t.size - 16 := Lib.ext_size t 16
  have z4 : (t.extract 24 t.size).size = t.size - 24 := Lib.ext_size t 24
  have hO2 := Nat.or_lt_two_pow (n := 64) (word_lt (t.extract 16 t.size)) (word_lt (t.extract 24 t.size))
  refine ⟨o2, t2, o3, _, o4, _, A, B, spell (t.extract 16 t.size), spell (t.extract 24 t.size), O, _, _, _, ⟨h1, k1, m1⟩, ⟨h2, h3, words_of (k2 w h.lies) hlt hb (by omega), words_of (m2 w h.lies) hlt hb (by omega)⟩,
    ⟨h4, u64_or_nat _ _ (word_lt _) (word_lt _), u64_or_nat _ _ h10 hO2, mask_int (Nat.or_lt_two_pow (n := 64) h10 hO2)⟩, fun h0 => ?_, h7, by omega, by omega⟩
  obtain ⟨f1, f2⟩ := (or_mask _ _ _).1 h0
  obtain ⟨f3, f4⟩ := (or_mask _ _ _).1 f2
  have a16 : Asc t 16 := h6 (e1.symm.trans f1)
  have a24 : Asc t 24 := asc_add t 16 8 a16 ((word_asc _ (by omega)).1 f3)
  exact asc_add t 24 8 a24 ((word_asc _ (by omega)).1 f4)
end
end Go.Proofs.YtanddfkhokcepaaDoor

/- unicode/utf8.Valid at a slice of bytes. -/
namespace Go.Proofs.YtanddfkhokcepaaDoor
set_option maxRecDepth 100000
open Go.RowKit Go.Lib
set_option linter.unusedVariables false

theorem below_drewV {B : Nat} {a w : World} (h : Below B a w) : ∀ q, Below B a (w.drewN q)
  | 0 => h
  | q + 1 => (below_drewV h q).drew
set_option maxRecDepth 100000 in
theorem and7f : ∀ X : Fin 256, bits .and .u8 ((X.val : Nat) : Int) 7 = ((X.val % 8 : Nat) : Int) := by decide
theorem zero_bool {Z : Nat} (h : Z = 0) : ((Z : Int) == 0) = true := by simp [h]
theorem some_bool {Z : Nat} (h : ¬ Z = 0) : ((Z : Int) == 0) = false := by simp; omega

set_option maxHeartbeats 16000000 in
set_option maxRecDepth 1000000 in
theorem valid_slice (s : ByteArray) (b off cap : Nat) (w : World) (hs : s.size ≤ 1000000) (hcap : s.size ≤ cap) (hT : Tabs w) (hp : Bya w b off s) :
    Calls Tryd.prog 129 #[.slice (some ⟨b, off, none⟩) s.size cap] w fun e w' => e = .returned (.bool (validD s.data.toList)) ∧ Below w.heap.size w w' := by
  obtain ⟨ans, hans⟩ : ∃ ans, validD s.data.toList = ans := ⟨_, rfl⟩
  rw [hans]
  have hfull := run_full s.size cap b off hcap
  have R0 := Lib.hid (show Rest w b off s ans from ⟨hp, hans, hs⟩)
  clear hp hans
  go_enter Tryd.func129, Tryd.ntmps129
  go_wp2
  clear hfull
  go_loopg [0] (s.size + 1) (fun gk v wx => Below w.heap.size w wx ∧ ∃ (t : ByteArray) (o : Nat), v = .slice (some ⟨b, o, none⟩) t.size t.size ∧ Rest w b o t ans ∧ t.size < gk)
  case atStart => exact ⟨Below.refl _ _, s, off, rfl, R0.out, by omega⟩
  case round =>
    obtain ⟨hbw, t, o, rfl, hr, hg⟩ := hrel
    clear R0
    have hmost := hr.most
    by_cases h0 : 0 < t.size
    · obtain ⟨g, rfl⟩ : ∃ g, gk = g + 1 := ⟨gk - 1, by omega⟩
      obtain ⟨a0, l0, e0, c0⟩ := hr.lies.byte 0 h0
      rw [Nat.add_zero] at c0
      have hblt : b < w.heap.size := block_lt_of_cell c0
      have hblr : b < wr.heap.size := Nat.lt_of_lt_of_le hblt hbw.size
      have h00 : (0 : Int) < (t.size : Int) := by omega
      replace c0 : wr.cell? ⟨b, o, none⟩ = some (.int .u8 (a0 : Int)) := (hbw.cell (p := ⟨b, o, none⟩) hblt).trans c0
      by_cases hasc : a0 < 128
      · have ha : (a0 : Int) < 128 := by omega
        obtain ⟨o1, t1, hc1, hr1, hz1⟩ := hr.skip 1 1 rfl (by omega) (asc_one t h0 (by rw [e0]; exact hasc))
        have R1 := Lib.hid hr1
        have m1 := hr1.most
        clear hr e0
        by_cases c8 : 8 < t1.size
        · have i8 : (8 : Int) < (t1.size : Int) := by omega
          obtain ⟨A, Z, hwA, hand, hz8⟩ := hr1.one hblt hbw (by omega)
          have HA := Lib.hid hwA
          clear hwA hr1
          by_cases hZ : Z = 0
          · have hZb := zero_bool hZ
            obtain ⟨o2, t2, hc2, hr2, hz2⟩ := R1.out.skip 8 8 rfl (by omega) (hz8 hZ)
            have R2 := Lib.hid hr2
            have m2 := hr2.most
            clear hZ hz8 hr2
            go_wp2_with (go_at_call 135; go_must (refine (HA.out _ rfl).mono ?_; rintro e w1 ⟨rfl, q1, rfl⟩))
            have hb1 : Below w.heap.size w (wr.drewN q1) := below_drewV hbw q1
            generalize wr.drewN q1 = wq at hb1 ⊢
            clear HA hbw hand hZb
            by_cases c16 : 16 < t2.size
            · have i16 : (16 : Int) < (t2.size : Int) := by omega
              have i8' : (8 : Int) ≤ (t2.size : Int) := by omega
              obtain ⟨o3, t3, A, B, O, Z, hc3, hwA, hwB, hor, hand, hz16, hz3, _, _⟩ := R2.out.two hblt hb1 (by omega)
              have HA := Lib.hid hwA
              have HB := Lib.hid hwB
              clear hwA hwB
              by_cases hZ : Z = 0
              · as_aux_lemma =>
                  have hZb := zero_bool hZ
                  obtain ⟨o4, t4, hc4, hr4, hz4⟩ := R2.out.skip 16 16 rfl (by omega) (hz16 hZ)
                  have R4 := Lib.hid hr4
                  have m4 := hr4.most
                  clear hZ hz16 hr4
                  go_quiet (first | (go_at_call 135; (with_reducible refine Calls.quiet_of (HA.out _ ?_)); rfl) | (go_at_call 135; (with_reducible refine Calls.quiet_of (HB.out _ ?_)); rfl))
                  have hb2 : Below w.heap.size w (wq.drewN nq) := below_drewV hb1 nq
                  generalize wq.drewN nq = wq2 at hb2 ⊢
                  clear HA HB hb1 hor hand hZb
                  go_wp2
                  go_loopg [0] (t4.size + 1) (fun gi v wx => Below w.heap.size w wx ∧ ∃ (u : ByteArray) (p : Nat), v = .slice (some ⟨b, p, none⟩) u.size u.size ∧ Rest w b p u ans ∧ u.size < gi ∧ u.size ≤ t4.size)
                  case atStart => exact ⟨hb2, t4, o4, rfl, R4.out, by omega, Nat.le_refl _⟩
                  case round =>
                    obtain ⟨hbu, u, p, rfl, hru, hgi, hut⟩ := hrel
                    have RU := Lib.hid hru
                    have mu := hru.most
                    clear hru
                    by_cases c32 : 32 < u.size
                    · obtain ⟨gi, rfl⟩ : ∃ g2, gk = g2 + 1 := ⟨gk - 1, by omega⟩
                      have i32 : (32 : Int) < (u.size : Int) := by omega
                      have i8 : (8 : Int) ≤ (u.size : Int) := by omega
                      have i16 : (16 : Int) ≤ (u.size : Int) := by omega
                      have i24 : (24 : Int) ≤ (u.size : Int) := by omega
                      obtain ⟨p2, u2, p3, u3, p4, u4, A, B, C, D, O1, O2, O3, Z, ⟨k2, k3, k4⟩, ⟨hwA, hwB, hwC, hwD⟩, ⟨x1, x2, x3, x4⟩, hz32, _⟩ := RU.out.four hblt hbu (by omega)
                      have HA := Lib.hid hwA
                      have HB := Lib.hid hwB
                      have HC := Lib.hid hwC
                      have HD := Lib.hid hwD
                      clear hwA hwB hwC hwD
                      by_cases hZ : Z = 0
                      · have hZb := zero_bool hZ
                        obtain ⟨p5, u5, k5, hr5, hz5⟩ := RU.out.skip 32 32 rfl (by omega) (hz32 hZ)
                        have R5 := Lib.hid hr5
                        clear hZ hz32 hr5
                        go_wp2_with fail
                        go_quiet (first | (go_at_call 135; (with_reducible refine Calls.quiet_of (HA.out _ ?_)); rfl) | (go_at_call 135; (with_reducible refine Calls.quiet_of (HB.out _ ?_)); rfl) | (go_at_call 135; (with_reducible refine Calls.quiet_of (HC.out _ ?_)); rfl) | (go_at_call 135; (with_reducible refine Calls.quiet_of (HD.out _ ?_)); rfl))
                        go_wp2
                        go_roundg gi
                        case measure => omega
                        case rel => exact ⟨below_drewV hbu nq, u5, p5, rfl, R5.out, by omega, by omega⟩
                      · have hZb := some_bool hZ
                        clear hZ hz32
                        go_wp2_with fail
                        go_quiet (first | (go_at_call 135; (with_reducible refine Calls.quiet_of (HA.out _ ?_)); rfl) | (go_at_call 135; (with_reducible refine Calls.quiet_of (HB.out _ ?_)); rfl) | (go_at_call 135; (with_reducible refine Calls.quiet_of (HC.out _ ?_)); rfl) | (go_at_call 135; (with_reducible refine Calls.quiet_of (HD.out _ ?_)); rfl))
                        go_wp2
                        go_roundg g
                        case measure => omega
                        case rel => exact ⟨below_drewV hbu nq, u, p, rfl, RU.out, by omega⟩
                    · have i32 : decide ((32 : Int) < (u.size : Int)) = false := decide_eq_false (by omega)
                      have i32' : ¬ (32 : Int) < (u.size : Int) := by omega
                      go_wp2_with fail
                      go_quiet (fail)
                      go_wp2
                      go_roundg g
                      case measure => omega
                      case rel => exact ⟨below_drewV hbu nq, u, p, rfl, RU.out, by omega⟩
              · have hZb := some_bool hZ
                clear hZ hz16
                go_quiet (first | (go_at_call 135; (with_reducible refine Calls.quiet_of (HA.out _ ?_)); rfl) | (go_at_call 135; (with_reducible refine Calls.quiet_of (HB.out _ ?_)); rfl))
                go_wp2
                go_roundg g
                case measure => omega
                case rel => exact ⟨below_drewV hb1 nq, t2, o2, rfl, R2.out, by omega⟩
            · have i16 : decide ((16 : Int) < (t2.size : Int)) = false := decide_eq_false (by omega)
              have i16' : ¬ (16 : Int) < (t2.size : Int) := by omega
              go_quiet (fail)
              go_wp2
              go_roundg g
              case measure => omega
              case rel => exact ⟨below_drewV hb1 nq, t2, o2, rfl, R2.out, by omega⟩
          · have hZb := some_bool hZ
            clear hZ hz8
            go_wp2_with (go_at_call 135; go_must (refine (HA.out _ rfl).mono ?_; rintro e w1 ⟨rfl, q1, rfl⟩))
            go_roundg g
            case measure => omega
            case rel => exact ⟨below_drewV hbw q1, t1, o1, rfl, R1.out, by omega⟩
        · have i8 : ¬ (8 : Int) < (t1.size : Int) := by omega
          go_wp2
          go_roundg g
          case measure => omega
          case rel => exact ⟨hbw, t1, o1, rfl, R1.out, by omega⟩
      · have ha : ¬ (a0 : Int) < 128 := by omega
        have hne : t.data.toList ≠ [] := fun h => by rw [Lib.size_eq, h] at h0; simp at h0
        have hlead := validD_lead t.data.toList hne (by rw [Lib.getD_get!', e0]; omega)
        rw [Lib.getD_get!', Lib.getD_get!', Lib.getD_get!', Lib.getD_get!', e0, ← Lib.size_eq, hr.same] at hlead
        have hTr : Utf8Tabs 0 1 wr := Utf8Tabs_below hT hbw
        have hX := hTr.1 a0 l0
        have hXlt : firstT a0 < 256 := by rcases firstT_cases a0 with h | h | h | h | h | h | h | h | h <;> omega
        generalize firstT a0 = X at *
        have h7 : bits .and .u8 (X : Int) 7 = ((X % 8 : Nat) : Int) := and7f ⟨X, hXlt⟩
        obtain ⟨hlo, hhi⟩ := hTr.2 (X / 16) (by omega)
        rw [Nat.mul_comm] at hlo hhi
        generalize accLo (X / 16) = LO at *
        generalize accHi (X / 16) = HI at *
        obtain ⟨x1, hx1⟩ : ∃ x, (t.get! 1).toNat = x := ⟨_, rfl⟩
        obtain ⟨x2, hx2⟩ : ∃ x, (t.get! 2).toNat = x := ⟨_, rfl⟩
        obtain ⟨x3, hx3⟩ : ∃ x, (t.get! 3).toNat = x := ⟨_, rfl⟩
        have y1 : x1 < 256 := hx1 ▸ (t.get! 1).toNat_lt
        have y2 : x2 < 256 := hx2 ▸ (t.get! 2).toNat_lt
        have y3 : x3 < 256 := hx3 ▸ (t.get! 3).toNat_lt
        rw [hx1, hx2, hx3] at hlead
        have g1 : 1 < t.size → wr.cell? ⟨b, o + 1, none⟩ = some (.int .u8 (x1 : Int)) := fun h => by rw [← hx1]; exact hr.lies.below hbw hblt 1 h
        have g2 : 2 < t.size → wr.cell? ⟨b, o + 2, none⟩ = some (.int .u8 (x2 : Int)) := fun h => by rw [← hx2]; exact hr.lies.below hbw hblt 2 h
        have g3 : 3 < t.size → wr.cell? ⟨b, o + 3, none⟩ = some (.int .u8 (x3 : Int)) := fun h => by rw [← hx3]; exact hr.lies.below hbw hblt 3 h
        have G1 := Lib.hid g1
        have G2 := Lib.hid g2
        have G3 := Lib.hid g3
        have R := Lib.hid hr
        have HT := Lib.hid hT
        clear g1 g2 g3 hr hTr hT hne hx1 hx2 hx3 e0
        by_cases s2 : X % 8 = 2
        · as_aux_lemma =>
            rw [s2] at hlead h7
            have s2' : (X : Int) % 8 = 2 := by omega
            simp only [checkN, Nat.reduceEqDiff, if_true, if_false] at hlead
            go_upto_region 18 with fail
            go_cut [103] from 85 to 103 (fun c wx => (∃ v, c = .bool v ∧ v = decide (t.size < 2 ∨ x1 < LO ∨ HI < x1)) ∧ Below w.heap.size w wx)
            case first =>
              have ways : ((t.size : Int) < 2) ∨ (¬ (t.size : Int) < 2 ∧ (x1 : Int) < (LO : Int)) ∨ (¬ (t.size : Int) < 2 ∧ ¬ (x1 : Int) < (LO : Int) ∧ (HI : Int) < (x1 : Int)) ∨ (¬ (t.size : Int) < 2 ∧ ¬ (x1 : Int) < (LO : Int) ∧ ¬ (HI : Int) < (x1 : Int)) := by omega
              rcases ways with q0 | ⟨q0, q1⟩ | ⟨q0, q1, q2⟩ | ⟨q0, q1, q2⟩
              · have b : decide (t.size < 2 ∨ x1 < LO ∨ HI < x1) = true := decide_eq_true (by omega)
                have HBO := Lib.hid b
                clear b hlead
                go_quiet (fail)
                go_wp2
                go_meet
                exact ⟨⟨_, rfl, HBO.out.symm⟩, below_drewV (hbw.alloc hbw.size _) _⟩
              · have b : decide (t.size < 2 ∨ x1 < LO ∨ HI < x1) = true := decide_eq_true (by omega)
                have c1 := G1.out (by omega)
                have j1 : (1 : Int) < (t.size : Int) := by omega
                have HBO := Lib.hid b
                clear b hlead
                go_quiet (fail)
                go_wp2
                go_meet
                exact ⟨⟨_, rfl, HBO.out.symm⟩, below_drewV (hbw.alloc hbw.size _) _⟩
              · have b : decide (t.size < 2 ∨ x1 < LO ∨ HI < x1) = true := decide_eq_true (by omega)
                have c1 := G1.out (by omega)
                have j1 : (1 : Int) < (t.size : Int) := by omega
                have HBO := Lib.hid b
                clear b hlead
                go_quiet (fail)
                go_wp2
                go_meet
                exact ⟨⟨_, rfl, HBO.out.symm⟩, below_drewV (hbw.alloc hbw.size _) _⟩
              · have b : decide (t.size < 2 ∨ x1 < LO ∨ HI < x1) = false := decide_eq_false (by omega)
                have c1 := G1.out (by omega)
                have j1 : (1 : Int) < (t.size : Int) := by omega
                have HBO := Lib.hid b
                clear b hlead
                go_quiet (fail)
                go_wp2
                go_meet
                exact ⟨⟨_, rfl, HBO.out.symm⟩, below_drewV (hbw.alloc hbw.size _) _⟩
            case rest =>
              obtain ⟨⟨v, rfl, hv⟩, hbc⟩ := hcut
              by_cases hbad : t.size < 2 ∨ x1 < LO ∨ HI < x1
              · rw [if_pos hbad] at hlead
                rw [decide_eq_true hbad] at hv
                subst hv
                subst hlead
                clear hbad
                go_wp2
                go_ret
                exact ⟨rfl, hbc⟩
              · rw [if_neg hbad] at hlead
                rw [decide_eq_false hbad] at hv
                subst hv
                obtain ⟨o2, t2, hc2, hr2, hz2⟩ := R.out.cut 2 2 rfl (by omega) (by rw [Lib.ext_list]; exact hlead.symm.trans R.out.same.symm)
                have R2 := Lib.hid hr2
                clear hbad hlead hr2
                go_wp2
                go_roundg g
                case measure => omega
                case rel => exact ⟨hbc, t2, o2, rfl, R2.out, by omega⟩
        by_cases s3 : X % 8 = 3
        · as_aux_lemma =>
            rw [s3] at hlead h7
            have s3' : (X : Int) % 8 = 3 := by omega
            simp only [checkN, Nat.reduceEqDiff, if_true, if_false] at hlead
            go_upto_region 22 with fail
            go_cut [138] from 108 to 138 (fun c wx => (∃ v, c = .bool v ∧ v = decide (t.size < 3 ∨ x1 < LO ∨ HI < x1 ∨ x2 < 128 ∨ 191 < x2)) ∧ Below w.heap.size w wx)
            case first =>
              have ways : ((t.size : Int) < 3) ∨ (¬ (t.size : Int) < 3 ∧ (x1 : Int) < (LO : Int)) ∨ (¬ (t.size : Int) < 3 ∧ ¬ (x1 : Int) < (LO : Int) ∧ (HI : Int) < (x1 : Int)) ∨ (¬ (t.size : Int) < 3 ∧ ¬ (x1 : Int) < (LO : Int) ∧ ¬ (HI : Int) < (x1 : Int) ∧ (x2 : Int) < 128) ∨ (¬ (t.size : Int) < 3 ∧ ¬ (x1 : Int) < (LO : Int) ∧ ¬ (HI : Int) < (x1 : Int) ∧ ¬ (x2 : Int) < 128 ∧ (191 : Int) < (x2 : Int)) ∨ (¬ (t.size : Int) < 3 ∧ ¬ (x1 : Int) < (LO : Int) ∧ ¬ (HI : Int) < (x1 : Int) ∧ ¬ (x2 : Int) < 128 ∧ ¬ (191 : Int) < (x2 : Int)) := by omega
              rcases ways with q0 | ⟨q0, q1⟩ | ⟨q0, q1, q2⟩ | ⟨q0, q1, q2, q3⟩ | ⟨q0, q1, q2, q3, q4⟩ | ⟨q0, q1, q2, q3, q4⟩
              · have b : decide (t.size < 3 ∨ x1 < LO ∨ HI < x1 ∨ x2 < 128 ∨ 191 < x2) = true := decide_eq_true (by omega)
                have HBO := Lib.hid b
                clear b hlead
                go_quiet (fail)
                go_wp2
                go_meet
                exact ⟨⟨_, rfl, HBO.out.symm⟩, below_drewV (hbw.alloc hbw.size _) _⟩
              · have b : decide (t.size < 3 ∨ x1 < LO ∨ HI < x1 ∨ x2 < 128 ∨ 191 < x2) = true := decide_eq_true (by omega)
                have c1 := G1.out (by omega)
                have j1 : (1 : Int) < (t.size : Int) := by omega
                have c2 := G2.out (by omega)
                have j2 : (2 : Int) < (t.size : Int) := by omega
                have HBO := Lib.hid b
                clear b hlead
                go_quiet (fail)
                go_wp2
                go_meet
                exact ⟨⟨_, rfl, HBO.out.symm⟩, below_drewV (hbw.alloc hbw.size _) _⟩
              · have b : decide (t.size < 3 ∨ x1 < LO ∨ HI < x1 ∨ x2 < 128 ∨ 191 < x2) = true := decide_eq_true (by omega)
                have c1 := G1.out (by omega)
                have j1 : (1 : Int) < (t.size : Int) := by omega
                have c2 := G2.out (by omega)
                have j2 : (2 : Int) < (t.size : Int) := by omega
                have HBO := Lib.hid b
                clear b hlead
                go_quiet (fail)
                go_wp2
                go_meet
                exact ⟨⟨_, rfl, HBO.out.symm⟩, below_drewV (hbw.alloc hbw.size _) _⟩
              · have b : decide (t.size < 3 ∨ x1 < LO ∨ HI < x1 ∨ x2 < 128 ∨ 191 < x2) = true := decide_eq_true (by omega)
                have c1 := G1.out (by omega)
                have j1 : (1 : Int) < (t.size : Int) := by omega
                have c2 := G2.out (by omega)
                have j2 : (2 : Int) < (t.size : Int) := by omega
                have HBO := Lib.hid b
                clear b hlead
                go_quiet (fail)
                go_wp2
                go_meet
                exact ⟨⟨_, rfl, HBO.out.symm⟩, below_drewV (hbw.alloc hbw.size _) _⟩
              · have b : decide (t.size < 3 ∨ x1 < LO ∨ HI < x1 ∨ x2 < 128 ∨ 191 < x2) = true := decide_eq_true (by omega)
                have c1 := G1.out (by omega)
                have j1 : (1 : Int) < (t.size : Int) := by omega
                have c2 := G2.out (by omega)
                have j2 : (2 : Int) < (t.size : Int) := by omega
                have HBO := Lib.hid b
                clear b hlead
                go_quiet (fail)
                go_wp2
                go_meet
                exact ⟨⟨_, rfl, HBO.out.symm⟩, below_drewV (hbw.alloc hbw.size _) _⟩
              · have b : decide (t.size < 3 ∨ x1 < LO ∨ HI < x1 ∨ x2 < 128 ∨ 191 < x2) = false := decide_eq_false (by omega)
                have c1 := G1.out (by omega)
                have j1 : (1 : Int) < (t.size : Int) := by omega
                have c2 := G2.out (by omega)
                have j2 : (2 : Int) < (t.size : Int) := by omega
                have HBO := Lib.hid b
                clear b hlead
                go_quiet (fail)
                go_wp2
                go_meet
                exact ⟨⟨_, rfl, HBO.out.symm⟩, below_drewV (hbw.alloc hbw.size _) _⟩
            case rest =>
              obtain ⟨⟨v, rfl, hv⟩, hbc⟩ := hcut
              by_cases hbad : t.size < 3 ∨ x1 < LO ∨ HI < x1 ∨ x2 < 128 ∨ 191 < x2
              · rw [if_pos hbad] at hlead
                rw [decide_eq_true hbad] at hv
                subst hv
                subst hlead
                clear hbad
                go_wp2
                go_ret
                exact ⟨rfl, hbc⟩
              · rw [if_neg hbad] at hlead
                rw [decide_eq_false hbad] at hv
                subst hv
                obtain ⟨o2, t2, hc2, hr2, hz2⟩ := R.out.cut 3 3 rfl (by omega) (by rw [Lib.ext_list]; exact hlead.symm.trans R.out.same.symm)
                have R2 := Lib.hid hr2
                clear hbad hlead hr2
                go_wp2
                go_roundg g
                case measure => omega
                case rel => exact ⟨hbc, t2, o2, rfl, R2.out, by omega⟩
        by_cases s4 : X % 8 = 4
        · as_aux_lemma =>
            rw [s4] at hlead h7
            have s4' : (X : Int) % 8 = 4 := by omega
            simp only [checkN, Nat.reduceEqDiff, if_true, if_false] at hlead
            go_upto_region 26 with fail
            go_cut [185] from 143 to 185 (fun c wx => (∃ v, c = .bool v ∧ v = decide (t.size < 4 ∨ x1 < LO ∨ HI < x1 ∨ x2 < 128 ∨ 191 < x2 ∨ x3 < 128 ∨ 191 < x3)) ∧ Below w.heap.size w wx)
            case first =>
              have ways : ((t.size : Int) < 4) ∨ (¬ (t.size : Int) < 4 ∧ (x1 : Int) < (LO : Int)) ∨ (¬ (t.size : Int) < 4 ∧ ¬ (x1 : Int) < (LO : Int) ∧ (HI : Int) < (x1 : Int)) ∨ (¬ (t.size : Int) < 4 ∧ ¬ (x1 : Int) < (LO : Int) ∧ ¬ (HI : Int) < (x1 : Int) ∧ (x2 : Int) < 128) ∨ (¬ (t.size : Int) < 4 ∧ ¬ (x1 : Int) < (LO : Int) ∧ ¬ (HI : Int) < (x1 : Int) ∧ ¬ (x2 : Int) < 128 ∧ (191 : Int) < (x2 : Int)) ∨ (¬ (t.size : Int) < 4 ∧ ¬ (x1 : Int) < (LO : Int) ∧ ¬ (HI : Int) < (x1 : Int) ∧ ¬ (x2 : Int) < 128 ∧ ¬ (191 : Int) < (x2 : Int) ∧ (x3 : Int) < 128) ∨ (¬ (t.size : Int) < 4 ∧ ¬ (x1 : Int) < (LO : Int) ∧ ¬ (HI : Int) < (x1 : Int) ∧ ¬ (x2 : Int) < 128 ∧ ¬ (191 : Int) < (x2 : Int) ∧ ¬ (x3 : Int) < 128 ∧ (191 : Int) < (x3 : Int)) ∨ (¬ (t.size : Int) < 4 ∧ ¬ (x1 : Int) < (LO : Int) ∧ ¬ (HI : Int) < (x1 : Int) ∧ ¬ (x2 : Int) < 128 ∧ ¬ (191 : Int) < (x2 : Int) ∧ ¬ (x3 : Int) < 128 ∧ ¬ (191 : Int) < (x3 : Int)) := by omega
              rcases ways with q0 | ⟨q0, q1⟩ | ⟨q0, q1, q2⟩ | ⟨q0, q1, q2, q3⟩ | ⟨q0, q1, q2, q3, q4⟩ | ⟨q0, q1, q2, q3, q4, q5⟩ | ⟨q0, q1, q2, q3, q4, q5, q6⟩ | ⟨q0, q1, q2, q3, q4, q5, q6⟩
              · have b : decide (t.size < 4 ∨ x1 < LO ∨ HI < x1 ∨ x2 < 128 ∨ 191 < x2 ∨ x3 < 128 ∨ 191 < x3) = true := decide_eq_true (by omega)
                have HBO := Lib.hid b
                clear b hlead
                go_quiet (fail)
                go_wp2
                go_meet
                exact ⟨⟨_, rfl, HBO.out.symm⟩, below_drewV (hbw.alloc hbw.size _) _⟩
              · have b : decide (t.size < 4 ∨ x1 < LO ∨ HI < x1 ∨ x2 < 128 ∨ 191 < x2 ∨ x3 < 128 ∨ 191 < x3) = true := decide_eq_true (by omega)
                have c1 := G1.out (by omega)
                have j1 : (1 : Int) < (t.size : Int) := by omega
                have c2 := G2.out (by omega)
                have j2 : (2 : Int) < (t.size : Int) := by omega
                have c3 := G3.out (by omega)
                have j3 : (3 : Int) < (t.size : Int) := by omega
                have HBO := Lib.hid b
                clear b hlead
                go_quiet (fail)
                go_wp2
                go_meet
                exact ⟨⟨_, rfl, HBO.out.symm⟩, below_drewV (hbw.alloc hbw.size _) _⟩
              · have b : decide (t.size < 4 ∨ x1 < LO ∨ HI < x1 ∨ x2 < 128 ∨ 191 < x2 ∨ x3 < 128 ∨ 191 < x3) = true := decide_eq_true (by omega)
                have c1 := G1.out (by omega)
                have j1 : (1 : Int) < (t.size : Int) := by omega
                have c2 := G2.out (by omega)
                have j2 : (2 : Int) < (t.size : Int) := by omega
                have c3 := G3.out (by omega)
                have j3 : (3 : Int) < (t.size : Int) := by omega
                have HBO := Lib.hid b
                clear b hlead
                go_quiet (fail)
                go_wp2
                go_meet
                exact ⟨⟨_, rfl, HBO.out.symm⟩, below_drewV (hbw.alloc hbw.size _) _⟩
              · have b : decide (t.size < 4 ∨ x1 < LO ∨ HI < x1 ∨ x2 < 128 ∨ 191 < x2 ∨ x3 < 128 ∨ 191 < x3) = true := decide_eq_true (by omega)
                have c1 := G1.out (by omega)
                have j1 : (1 : Int) < (t.size : Int) := by omega
                have c2 := G2.out (by omega)
                have j2 : (2 : Int) < (t.size : Int) := by omega
                have c3 := G3.out (by omega)
                have j3 : (3 : Int) < (t.size : Int) := by omega
                have HBO := Lib.hid b
                clear b hlead
                go_quiet (fail)
                go_wp2
                go_meet
                exact ⟨⟨_, rfl, HBO.out.symm⟩, below_drewV (hbw.alloc hbw.size _) _⟩
              · have b : decide (t.size < 4 ∨ x1 < LO ∨ HI < x1 ∨ x2 < 128 ∨ 191 < x2 ∨ x3 < 128 ∨ 191 < x3) = true := decide_eq_true (by omega)
                have c1 := G1.out (by omega)
                have j1 : (1 : Int) < (t.size : Int) := by omega
                have c2 := G2.out (by omega)
                have j2 : (2 : Int) < (t.size : Int) := by omega
                have c3 := G3.out (by omega)
                have j3 : (3 : Int) < (t.size : Int) := by omega
                have HBO := Lib.hid b
                clear b hlead
                go_quiet (fail)
                go_wp2
                go_meet
                exact ⟨⟨_, rfl, HBO.out.symm⟩, below_drewV (hbw.alloc hbw.size _) _⟩
              · have b : decide (t.size < 4 ∨ x1 < LO ∨ HI < x1 ∨ x2 < 128 ∨ 191 < x2 ∨ x3 < 128 ∨ 191 < x3) = true := decide_eq_true (by omega)
                have c1 := G1.out (by omega)
                have j1 : (1 : Int) < (t.size : Int) := by omega
                have c2 := G2.out (by omega)
                have j2 : (2 : Int) < (t.size : Int) := by omega
                have c3 := G3.out (by omega)
                have j3 : (3 : Int) < (t.size : Int) := by omega
                have HBO := Lib.hid b
                clear b hlead
                go_quiet (fail)
                go_wp2
                go_meet
                exact ⟨⟨_, rfl, HBO.out.symm⟩, below_drewV (hbw.alloc hbw.size _) _⟩
              · have b : decide (t.size < 4 ∨ x1 < LO ∨ HI < x1 ∨ x2 < 128 ∨ 191 < x2 ∨ x3 < 128 ∨ 191 < x3) = true := decide_eq_true (by omega)
                have c1 := G1.out (by omega)
                have j1 : (1 : Int) < (t.size : Int) := by omega
                have c2 := G2.out (by omega)
                have j2 : (2 : Int) < (t.size : Int) := by omega
                have c3 := G3.out (by omega)
                have j3 : (3 : Int) < (t.size : Int) := by omega
                have HBO := Lib.hid b
                clear b hlead
                go_quiet (fail)
                go_wp2
                go_meet
                exact ⟨⟨_, rfl, HBO.out.symm⟩, below_drewV (hbw.alloc hbw.size _) _⟩
              · have b : decide (t.size < 4 ∨ x1 < LO ∨ HI < x1 ∨ x2 < 128 ∨ 191 < x2 ∨ x3 < 128 ∨ 191 < x3) = false := decide_eq_false (by omega)
                have c1 := G1.out (by omega)
                have j1 : (1 : Int) < (t.size : Int) := by omega
                have c2 := G2.out (by omega)
                have j2 : (2 : Int) < (t.size : Int) := by omega
                have c3 := G3.out (by omega)
                have j3 : (3 : Int) < (t.size : Int) := by omega
                have HBO := Lib.hid b
                clear b hlead
                go_quiet (fail)
                go_wp2
                go_meet
                exact ⟨⟨_, rfl, HBO.out.symm⟩, below_drewV (hbw.alloc hbw.size _) _⟩
            case rest =>
              obtain ⟨⟨v, rfl, hv⟩, hbc⟩ := hcut
              by_cases hbad : t.size < 4 ∨ x1 < LO ∨ HI < x1 ∨ x2 < 128 ∨ 191 < x2 ∨ x3 < 128 ∨ 191 < x3
              · rw [if_pos hbad] at hlead
                rw [decide_eq_true hbad] at hv
                subst hv
                subst hlead
                clear hbad
                go_wp2
                go_ret
                exact ⟨rfl, hbc⟩
              · rw [if_neg hbad] at hlead
                rw [decide_eq_false hbad] at hv
                subst hv
                obtain ⟨o2, t2, hc2, hr2, hz2⟩ := R.out.cut 4 4 rfl (by omega) (by rw [Lib.ext_list]; exact hlead.symm.trans R.out.same.symm)
                have R2 := Lib.hid hr2
                clear hbad hlead hr2
                go_wp2
                go_roundg g
                case measure => omega
                case rel => exact ⟨hbc, t2, o2, rfl, R2.out, by omega⟩
        · have n2 : ¬ (X : Int) % 8 = 2 := by omega
          have n3 : ¬ (X : Int) % 8 = 3 := by omega
          have n4 : ¬ (X : Int) % 8 = 4 := by omega
          have m2 : (((X : Int) % 8) == 2) = false := beq_eq_false_iff_ne.2 n2
          have m3 : (((X : Int) % 8) == 3) = false := beq_eq_false_iff_ne.2 n3
          have m4 : (((X : Int) % 8) == 4) = false := beq_eq_false_iff_ne.2 n4
          simp only [checkN, s2, s3, s4, if_false] at hlead
          subst hlead
          go_wp2
          go_ret
          exact ⟨rfl, hbw.alloc hbw.size _⟩
    · have h00 : ¬ (0 : Int) < (t.size : Int) := by omega
      have hsame := hr.same
      rw [show t.data.toList = [] from List.eq_nil_of_length_eq_zero (by rw [← Lib.size_eq]; omega), validD_nil] at hsame
      subst hsame
      clear hr
      go_wp2
      go_ret
      exact ⟨rfl, hbw⟩
end Go.Proofs.YtanddfkhokcepaaDoor

/- The walk of UtfSigns. -/
namespace Go.Proofs.YtanddfkhokcepaaDoor
set_option linter.unusedVariables false
set_option maxRecDepth 100000
open Go.RowKit Go.Lib

theorem right_any (l : List UInt8) (b off cap : Nat) (w : World) (hl : l.length ≤ 1000000) (hcap : l.length ≤ cap) (hT : Tabs w) (hp : Bys w b off l) :
    Calls Tryd.prog 112 #[.slice (some ⟨b, off, none⟩) l.length cap] w fun e w' => e = .returned (.bool (validD l)) ∧ Below w.heap.size w w' := by
  have hv := valid_slice (S l) b off cap w (by rw [S_size]; omega) (by rw [S_size]; omega) hT (Bya.of_bys hp)
  rw [S_list, S_size] at hv
  have HV := Lib.hid hv
  clear hv hp
  go_enter Tryd.func112, Tryd.ntmps112
  go_wp2_with (first
    | (go_at_call 129; go_must (refine HV.out.mono ?_; rintro e w1 ⟨rfl, hb1⟩; have H1 := Lib.hid hb1; clear hb1)))
  go_ret
  exact ⟨rfl, H1.out⟩

/-- []byte(s). -/
theorem conv_bytes (w : World) (z : ByteArray) (l : List UInt8) (hz : S l = z) : ∃ cap W, (convert 9 25 (.string z)).run Tryd.prog w = .ok (.slice (some ⟨w.heap.size, 0, none⟩) l.length cap) W ∧ l.length ≤ cap ∧ Bys W w.heap.size 0 l ∧ Below w.heap.size w W := by
  subst hz
  have h := run_bytes_of_string (P := Tryd.prog) w 9 25 5 (S l) Tryd.underlying9 Tryd.underlying25 Tryd.underlying5
  have hg := grownCap_ge w (S l).size 0 5
  rw [S_size] at h hg
  refine ⟨_, _, h, hg, fun j hj => ?_, (Below.refl _ _).drew.alloc (Nat.le_refl _) _⟩
  rw [Nat.zero_add]
  have hr : (bytesRow (S l) (grownCap w l.length 0 5))[j]? = some (.int .u8 ((l[j]'hj).toNat : Int)) := by
    unfold bytesRow S
    simp [Array.getElem?_append, hj]
  rw [← hr]
  exact cell_of_row _ w.heap.size j _ _ _ (heap_alloc_new w.drew _)

theorem same_valid (l : List UInt8) : (!(validD l == decide (0 ≤ countZ l))) = false := by
  unfold countZ
  by_cases hv : validD l = true
  · rw [if_pos hv, hv]; simp
  · have hv' : validD l = false := by simpa using hv
    rw [if_neg hv, hv']; rfl

end Go.Proofs.YtanddfkhokcepaaDoor

/- bytes.Clone of any slice; take with its block; Scanner.At, Bytes, Name. -/
namespace Go.Proofs.YtanddfkhokcepaaDoor
open Go.RowKit Go.Lib
set_option linter.unusedVariables false
set_option maxRecDepth 100000

/-- bytes.Clone of any slice. -/
theorem clone_all {w : World} {A : Option Addr} {cap : Nat} {l : List UInt8} (hl : Lies w w.heap.size A (cells (nums l))) (hc : l.length ≤ 1000000) :
    Calls Tryd.prog 62 #[.slice A l.length cap] w (BytesL l w) := by
  by_cases h0 : 0 < l.length
  · exact clone_ok hl h0 hc
  · have hl0 : l = [] := List.eq_nil_of_length_eq_zero (by omega)
    subst hl0
    cases A with
    | none =>
      show Calls Tryd.prog 62 #[.slice none 0 cap] w (BytesL [] w)
      have hnil : ∀ w : World, (binOp BinOp.eql 25 (.slice none 0 cap) (.slice none 0 0)).run Tryd.prog w = .ok (.bool true) w := fun w => by
        simp only [binOp]
        simp [run_equal_slice_nil w 25 5 _ _ _ Tryd.underlying25]
      clear hl h0 hc
      go_enter Tryd.func62, Tryd.ntmps62
      go_wp2
      go_ret
      exact ⟨_, rfl, Row.nil _ _, Below.refl _ _⟩
    | some ad =>
      show Calls Tryd.prog 62 #[.slice (some ad) 0 cap] w (BytesL [] w)
      have hnil : ∀ w : World, (binOp BinOp.eql 25 (.slice (some ad) 0 cap) (.slice none 0 0)).run Tryd.prog w = .ok (.bool false) w := fun w => by
        simp only [binOp]
        simp [run_equal_slice_nil w 25 5 _ _ _ Tryd.underlying25]
      have R0 := Lib.hid (Row.made w [] w.heap.size w.heap.size rfl (Nat.le_refl _) (by simp))
      have HL := Lib.hid (hl.below (below_box w (.cells #[] 5)) (Nat.le_refl _))
      clear hl h0 hc
      go_enter Tryd.func62, Tryd.ntmps62
      go_wp2_with (at_builtin; (refine row_any rfl _ _ rfl w.heap.size _ [] rfl R0.out (some ad) 0 cap _ [] rfl rfl HL.out (fun e => by cases e) (by simp) (by simp) ?_; intro v2 w2 hr2 hb2; have HR2 := Lib.hid hr2; have HB2 := Lib.hid hb2; clear hr2 hb2))
      go_ret
      exact ⟨_, rfl, HR2.out, (below_box w _).trans HB2.out⟩
/-- scan.Over of any slice. -/
theorem over_all {w : World} {A : Option Addr} {cap : Nat} {l : List UInt8} (hl : Lies w w.heap.size A (cells (nums l))) (hc : l.length ≤ 1000000) :
    Calls Tryd.prog 22 #[.slice A l.length cap] w (Overs l w) := by
  have HC := Lib.hid (clone_all (cap := cap) hl hc)
  clear hl
  go_enter Tryd.func22, Tryd.ntmps22
  go_wp2_with (go_at_call 62; go_must ((with_reducible refine HC.out.mono ?_); intro e w1 h; obtain ⟨v, rfl, hr, hb⟩ := h; obtain ⟨A1, c1, rfl, h1, h2, hl1, _⟩ := lies_own hr; have HL := Lib.hid hl1; have H1 := Lib.hid h1; have H2 := Lib.hid h2; have HB := Lib.hid hb; clear hl1 hr h1 h2 hb))
  go_ret
  exact ⟨w1.heap.size, rfl, HB.out.size, ⟨A1, c1, Whole.made _ _ _, HL.out.below (below_box w1 _) (Nat.le_refl _), H1.out, H2.out, by simp⟩, HB.out.trans ((below_box w1 _).mono HB.out.size)⟩
theorem at_any {w : World} {p : Nat} {l : List UInt8} {k : Nat} (h : Sc w p l k) : Calls Tryd.prog 103 #[.pointer (some ⟨p, 0, none⟩)] w fun e w' => e = .returned (.int .i64 k) ∧ w = w' := by
  have c1 := h.at
  clear h
  go_enter Tryd.func103, Tryd.ntmps103
  go_wp2
  go_ret
  exact ⟨rfl, rfl⟩
/-- Bytes: those that come next, in a row of their own. -/
def Byted (p : Nat) (l : List UInt8) (k n : Nat) (w : World) (e : Ending) (w' : World) : Prop :=
  ∃ v, e = .returned v ∧ Row w' w.heap.size v ((l.drop k).take n) ∧ Sc w' p l (k + n) ∧ w.grownBy w' (some p)
theorem bytes_ok {w : World} {p : Nat} {l : List UInt8} {k : Nat} (h : Sc w p l k) (n : Nat) (hn : k + n ≤ l.length) (hc : l.length ≤ 1000000) :
    Calls Tryd.prog 67 #[.pointer (some ⟨p, 0, none⟩), .int .i64 n] w (Byted p l k n w) := by
  have HT := Lib.hid (take_ok h n hn)
  have hlen : ((l.drop k).take n).length = n := by rw [List.length_take, List.length_drop]; omega
  obtain ⟨t, ht⟩ : ∃ t, t = (l.drop k).take n := ⟨_, rfl⟩
  have HE := Lib.hid ht
  rw [← ht] at hlen
  subst hlen
  have HC := Lib.hid (fun (W : World) (A : Option Addr) (c : Nat) (hl : Lies W W.heap.size A (cells (nums t))) => clone_all (cap := c) hl (by omega))
  have HP := Lib.hid h.lt
  clear h hn hc ht
  go_enter Tryd.func67, Tryd.ntmps67
  go_wp2_with (first
    | (go_at_call 101; go_must ((with_reducible refine HT.out.mono ?_); rintro e w1 ⟨A, c, rfl, h1, h2, hl, hs, hg⟩; rw [← HE.out] at hl; have HL := Lib.hid (hl.more (Nat.le_of_lt hs.lt)); have HS := Lib.hid hs; have HG := Lib.hid hg; clear hl hs hg h1 h2))
    | (go_at_call 62; go_must ((with_reducible refine (HC.out _ _ _ HL.out).mono ?_); intro e w2 h; obtain ⟨v, rfl, hr, hb⟩ := h; have HR := Lib.hid hr; have HB := Lib.hid hb; clear hr hb)))
  go_ret
  have hz := HG.out.size
  exact ⟨v, rfl, by rw [← HE.out]; exact HR.out.mono hz, HS.out.below HB.out, gb_before HG.out (gb_of_below (some p) HB.out) (fun g e => .inl e)⟩

/-- take, of bytes that are not none: the cut lies at a block. -/
def TookB (p : Nat) (l : List UInt8) (k n : Nat) (w : World) (e : Ending) (w' : World) : Prop :=
  ∃ b o c, e = .returned (.slice (some ⟨b, o, none⟩) n c) ∧ n ≤ c ∧ Lies w' p (some ⟨b, o, none⟩) (cells (nums ((l.drop k).take n))) ∧ Sc w' p l (k + n) ∧ w.grownBy w' (some p)
set_option maxHeartbeats 800000 in
theorem take_some {w : World} {p : Nat} {l : List UInt8} {k : Nat} (h : Sc w p l k) (n : Nat) (hn : k + n ≤ l.length) (h0 : 0 < l.length) :
    Calls Tryd.prog 101 #[.pointer (some ⟨p, 0, none⟩), .int .i64 n] w (TookB p l k n w) := by
  have hle := h.le
  have HL := Lib.hid (fun m => left_any (h.drewN m))
  have HS := Lib.hid h
  have c1 := h.at
  have f1 := h.free
  clear h
  have d1 : (0 : Int) ≤ n := by omega
  have d2 : (n : Int) ≤ (l.length : Int) - k := by omega
  have d3 : (k : Int) + n ≤ 9223372036854775807 := by omega
  go_enter Tryd.func101, Tryd.ntmps101
  go_wp2_with (go_at_call 66; go_must ((with_reducible refine (unlessT _ _ _).mono ?_); rintro e w' ⟨rfl, rfl⟩))
  go_quiet (first
    | (go_at_call 28; exact Calls.quiet_of (HL.out _))
    | (go_at_call 66; exact (unlessT _ _ _).mono fun _ _ h => ⟨h.1, _, h.2.symm⟩))
  go_wp2
  obtain ⟨hs2, hg2⟩ := HS.out.moved nq ((k : Int) + n) (k + n) (by omega) hn
  generalize (w.drewN nq).setCell ⟨p, 1, none⟩ (.int .i64 ((k : Int) + n)) = W at *
  obtain ⟨A, cap, c0', hlies, hc, hm⟩ := hs2.data
  have c1' := hs2.at
  rw [show ((k + n : Nat) : Int) = (k : Int) + n by omega] at c1'
  obtain ⟨b, off, rfl, _⟩ : ∃ b off, A = some ⟨b, off, none⟩ ∧ True := by
    obtain ⟨b, off, e, _⟩ := hlies.at_ (i := 0) (by rw [cells_length, nums_length]; exact h0)
    exact ⟨b, off, e, trivial⟩
  obtain ⟨A', hcut, hcl⟩ := cut_run (some ⟨b, off, none⟩) l.length cap k n hn hc
  have hA' : ∃ o, A' = some ⟨b, o, none⟩ := by
    have hr := run_slice_lh (P := Tryd.prog) W 25 (some ⟨b, off, none⟩) l.length cap Tryd.underlying25 .i64 .i64 (k : Int) ((k : Int) + n) (by omega) (by omega) (by omega)
    have hz : (sizeOf (Tryd.prog.elem 25)).run Tryd.prog W = .ok 1 W := by kernel_rfl
    rw [hcut W, hz] at hr
    have e1 : (k : Int).toNat = k := by omega
    by_cases hk : cap = k
    · simp [Result.andThen, sliced, hk] at hr
      exact ⟨off, hr.1⟩
    · simp [Result.andThen, sliced, e1, hk, Go.WideShapes.add_plain] at hr
      exact ⟨_, hr.1⟩
  obtain ⟨o, rfl⟩ := hA'
  have HLI := Lib.hid (hcl W p (nums l) hlies)
  have HS2 := Lib.hid hs2
  have HG2 := Lib.hid hg2
  clear hlies hs2 hg2 c1 f1 hcl
  go_quiet (fail)
  go_wp2
  go_ret
  exact ⟨b, o, cap - k, rfl, by omega, by have := HLI.out; unfold nums at *; rw [List.map_take, List.map_drop]; exact this, HS2.out.drewN _, gb_drewN HG2.out _⟩

/-- string(b) of whatever lies. -/
theorem str_any {w : World} {B : Nat} {A : Option Addr} {o : List UInt8} (h : Lies w B A (cells (nums o))) (c : Nat) :
    ∀ dst, Tryd.prog.underlying dst = some .string → (convert 25 dst (.slice A o.length c)).run Tryd.prog w = .ok (.string (S o)) w := by
  by_cases h0 : 0 < (nums o).length
  · have := str_lies h h0 c Tryd.underlying25 Tryd.underlying5
    rw [strOfNums_nums, nums_length] at this
    exact this
  · have ho : o = [] := List.eq_nil_of_length_eq_zero (by rw [nums_length] at h0; omega)
    subst ho
    intro dst hd
    rw [run_convert_bytes_string w _ dst 5 _ _ c Tryd.underlying25 Tryd.underlying5 hd]
    have e : S [] = ByteArray.empty := rfl
    rw [e]
    cases A <;> simp [Conv.bytesToString, loadCells]
    all_goals rfl

/-- The tables of unicode/utf8 lie below a block. -/
def TbN (p : Nat) (w : World) : Prop := Tabs w ∧ 0 < p ∧ 1 < p ∧ p ≤ w.heap.size
theorem TbN.tabs {p : Nat} {w : World} (h : TbN p w) : Tabs w := h.1
theorem TbN.keep {p q : Nat} {w w' : World} (h : TbN p w) (hg : w.grownBy w' (some q)) (hq : p ≤ q) : TbN p w' := by
  obtain ⟨⟨h1, h2⟩, h3, h4, h5⟩ := h
  have key : ∀ b o, b < p → w'.cell? ⟨b, o, none⟩ = w.cell? ⟨b, o, none⟩ := fun b o hb => by
    unfold World.cell?
    rw [hg.block b (by omega) (by simp only [ne_eq, Option.some.injEq]; omega)]
  refine ⟨⟨fun c hc => (key _ _ h3).trans (h1 c hc), fun i hi => ⟨(key _ _ h4).trans (h2 i hi).1, (key _ _ h4).trans (h2 i hi).2⟩⟩, h3, h4, Nat.le_trans h5 hg.size⟩
theorem TbN.below {p : Nat} {w w' : World} (h : TbN p w) (hb : Below w.heap.size w w') : TbN p w' := h.keep (gb_of_below (some w.heap.size) hb) h.2.2.2
theorem TbN.more {p q : Nat} {w : World} (h : TbN p w) (hq : p ≤ q) (hz : q ≤ w.heap.size) : TbN q w := ⟨h.1, by have := h.2.1; omega, by have := h.2.2.1; omega, hz⟩

theorem uintR_lt {l : List UInt8} {k n : Nat} {v : Int} {k' : Nat} (h : uintR l k n = .ok v k') : k < k' := by
  unfold uintR at h
  repeat' split at h
  all_goals first | (injection h with h1 h2; omega) | cases h
theorem atMostR_ok {l : List UInt8} {k : Nat} {m c v : Int} {k' : Nat} (h : atMostR l k m c = .ok v k') : k' ≤ l.length ∧ 0 ≤ v ∧ v ≤ m ∧ k < k' := by
  unfold atMostR at h
  cases hr : indexR l k with
  | ok v2 k2 =>
    rw [hr, Res.bind_ok] at h
    obtain ⟨h1, h2, _⟩ := uintR_ok (show uintR l k 32 = .ok v2 k2 from hr)
    have h3 := uintR_lt (show uintR l k 32 = .ok v2 k2 from hr)
    split at h
    · injection h with e1 e2; subst e1; subst e2; exact ⟨h1, h2, by assumption, h3⟩
    · cases h
  | err c2 a => rw [hr, Res.bind_err] at h; cases h
theorem atMostR_err {l : List UInt8} {k : Nat} {m c : Int} {c2 a : Int} (h : atMostR l k m c = .err c2 a) (hc : c ≠ 0) : c2 ≠ 0 ∧ a = k := by
  unfold atMostR at h
  cases hr : indexR l k with
  | ok v2 k2 =>
    rw [hr, Res.bind_ok] at h
    split at h
    · cases h
    · injection h with e1 e2; subst e1; subst e2; exact ⟨hc, rfl⟩
  | err c3 a3 =>
    rw [hr, Res.bind_err] at h
    obtain ⟨h1, h2⟩ := uintR_err (show uintR l k 32 = .err c3 a3 from hr)
    injection h with e1 e2
    exact ⟨by omega, by omega⟩
/-- A name. -/
noncomputable def nameR (l : List UInt8) (k : Nat) : Res (List UInt8) := (atMostR l k 200 13).bind fun v k' =>
  if k' + v.toNat ≤ l.length then (if validD ((l.drop k').take v.toNat) then .ok ((l.drop k').take v.toNat) (k' + v.toNat) else .err 4 k') else .err 2 k'
theorem nameR_err {l : List UInt8} {k : Nat} {c a : Int} (h : nameR l k = .err c a) : c ≠ 0 ∧ 0 ≤ a ∧ a ≤ l.length + k := by
  unfold nameR at h
  cases hr : atMostR l k 200 13 with
  | ok v k' =>
    rw [hr, Res.bind_ok] at h
    have h1 := (atMostR_ok hr).1
    repeat' split at h
    all_goals first | (injection h with e1 e2; subst e1; subst e2; exact ⟨by omega, by omega, by omega⟩) | cases h
  | err c2 a2 =>
    rw [hr, Res.bind_err] at h
    obtain ⟨h1, h2⟩ := atMostR_err hr (by omega)
    injection h with e1 e2
    subst e1; subst e2; subst h2
    exact ⟨h1, by omega, by omega⟩
theorem nameR_ok {l t : List UInt8} {k k' : Nat} (h : nameR l k = .ok t k') : k' ≤ l.length ∧ k < k' ∧ t.length ≤ 200 := by
  unfold nameR at h
  cases hr : atMostR l k 200 13 with
  | ok v k1 =>
    rw [hr, Res.bind_ok] at h
    have h1 := atMostR_ok hr
    repeat' split at h
    all_goals first | (injection h with e1 e2; subst e1; subst e2; exact ⟨by assumption, by omega, by rw [List.length_take]; omega⟩) | cases h
  | err c2 a2 => rw [hr, Res.bind_err] at h; cases h
theorem bys_lies {W : World} {B b o : Nat} {t : List UInt8} (h : Lies W B (some ⟨b, o, none⟩) (cells (nums t))) : Bys W b o t := fun j hj => by
  obtain ⟨b2, o2, e, _, hc⟩ := h.byte (i := j) (c := (t[j].toNat : Int)) (by unfold nums; rw [List.getElem?_map, List.getElem?_eq_getElem hj]; rfl)
  simp only [Option.some.injEq, Addr.mk.injEq] at e
  obtain ⟨rfl, rfl, _⟩ := e
  exact hc
set_option maxHeartbeats 1000000 in
theorem name_scan {w : World} {p : Nat} {l : List UInt8} {k : Nat} (h : Sc w p l k) (hT : TbN p w) :
    Calls Tryd.prog 77 #[.pointer (some ⟨p, 0, none⟩)] w (Did encS p l w (nameR l k)) := by
  have hN := atMost_scan h 200 13
  have hp := h.lt
  unfold nameR
  cases hr : atMostR l k 200 13 with
  | err c a =>
    rw [hr] at hN
    rw [Res.bind_err]
    have HN := Lib.hid hN
    clear hN hr h hT
    go_enter Tryd.func77, Tryd.ntmps77
    go_wp2_with (go_at_call 111; go_must ((with_reducible refine HN.out.mono ?_); rintro e w1 ⟨rfl, hg⟩; have HG := Lib.hid hg; clear hg))
    exact ⟨rfl, rfl, HG.out⟩
  | ok v k' =>
    rw [hr] at hN
    rw [Res.bind_ok]
    have HN := Lib.hid hN
    obtain ⟨hk, v0, v1, hlt⟩ := atMostR_ok hr
    obtain ⟨n, rfl⟩ : ∃ n : Nat, v = n := ⟨v.toNat, by omega⟩
    have HT := Lib.hid hT
    rw [Int.toNat_natCast]
    clear hN hr h hT v0
    by_cases hn : k' + n ≤ l.length
    · rw [if_pos hn]
      have hlen : ((l.drop k').take n).length = n := by rw [List.length_take, List.length_drop]; omega
      have HTS := Lib.hid (fun (W : World) (hs : Sc W p l k') => take_some hs n hn (by omega))
      obtain ⟨t, ht⟩ : ∃ t, t = (l.drop k').take n := ⟨_, rfl⟩
      have HE := Lib.hid ht
      rw [← ht] at hlen ⊢
      subst hlen
      clear ht hn hlt
      have HRi := Lib.hid (fun (W : World) (b o c : Nat) (hc : t.length ≤ c) (hT : Tabs W) (hl : Lies W p (some ⟨b, o, none⟩) (cells (nums t))) => right_any t b o c W (by omega) hc hT (bys_lies hl))
      by_cases hv : validD t = true
      · rw [if_pos hv]
        rw [hv] at HRi
        clear hv
        go_enter Tryd.func77, Tryd.ntmps77
        go_wp2_with (first
          | (go_at_call 111; go_must ((with_reducible refine HN.out.mono ?_); rintro e w1 ⟨rfl, hs, hg⟩; have c1 := hs.at; have HTK := Lib.hid (HTS.out _ hs); have HG := Lib.hid hg; clear hs hg))
          | (go_at_call 101; go_must ((with_reducible refine HTK.out.mono ?_); rintro e w2 ⟨b, o, c, rfl, hc, hl, hs, hg⟩; rw [← HE.out] at hl; have HL := Lib.hid hl; have HS := Lib.hid hs; have HG2 := Lib.hid (gb_trans HG.out hg); have HC := Lib.hid hc; clear hl hs hg hc))
          | (go_at_call 112; go_must ((with_reducible refine (HRi.out _ _ _ _ HC.out (HT.out.keep HG2.out (Nat.le_refl _)).tabs HL.out).mono ?_); rintro e w3 ⟨rfl, hb⟩; have hst := str_any (HL.out.below hb (Nat.le_of_lt HS.out.lt)) c; have HB := Lib.hid hb; clear hb))
          | (go_at_call 66; go_must ((with_reducible refine (unlessT _ _ _).mono ?_); rintro e w' ⟨rfl, rfl⟩)))
        go_ret
        exact ⟨rfl, HS.out.below HB.out, gb_before HG2.out (gb_of_below (some p) HB.out) (fun g e => .inl e)⟩
      · rw [if_neg hv]
        have hv' : validD t = false := by simpa using hv
        rw [hv'] at HRi
        clear hv hv'
        go_enter Tryd.func77, Tryd.ntmps77
        go_wp2_with (first
          | (go_at_call 111; go_must ((with_reducible refine HN.out.mono ?_); rintro e w1 ⟨rfl, hs, hg⟩; have c1 := hs.at; have HTK := Lib.hid (HTS.out _ hs); have HG := Lib.hid hg; clear hs hg))
          | (go_at_call 101; go_must ((with_reducible refine HTK.out.mono ?_); rintro e w2 ⟨b, o, c, rfl, hc, hl, hs, hg⟩; rw [← HE.out] at hl; have HL := Lib.hid hl; have HS := Lib.hid hs; have HG2 := Lib.hid (gb_trans HG.out hg); have HC := Lib.hid hc; clear hl hs hg hc))
          | (go_at_call 112; go_must ((with_reducible refine (HRi.out _ _ _ _ HC.out (HT.out.keep HG2.out (Nat.le_refl _)).tabs HL.out).mono ?_); rintro e w3 ⟨rfl, hb⟩; have HB := Lib.hid hb; clear hb))
          | (go_at_call 66; go_must ((with_reducible refine (unlessF _ _ _).mono ?_); rintro e w' ⟨rfl, rfl⟩)))
        exact ⟨rfl, rfl, gb_before HG2.out (gb_of_below (some p) HB.out) (fun g e => .inl e)⟩
    · rw [if_neg hn]
      have HTS := Lib.hid (fun (W : World) (hs : Sc W p l k') => take_short hs n (by omega))
      clear hn
      go_enter Tryd.func77, Tryd.ntmps77
      go_wp2_with (first
        | (go_at_call 111; go_must ((with_reducible refine HN.out.mono ?_); rintro e w1 ⟨rfl, hs, hg⟩; have c1 := hs.at; have HTK := Lib.hid (HTS.out _ hs); have HG := Lib.hid hg; clear hs hg))
        | (go_at_call 101; go_must ((with_reducible refine HTK.out.mono ?_); rintro e w2 ⟨rfl, hg⟩; have HG2 := Lib.hid (gb_trans HG.out hg); clear hg)))
      exact ⟨rfl, rfl, HG2.out⟩
end Go.Proofs.YtanddfkhokcepaaDoor
