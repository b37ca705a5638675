/- unicode/utf8.word at a slice of bytes; cuts of a slice whose capacity is its length; what is left of a text. -/
import Derived.Test.YtcagnlafmakebaaDoorLib
import Derived.Shelf.Unicode.WordAny
import Derived.Lib.ValidAsc
import Derived.Laws.BitsAllLaws
import Derived.Deep.QuietTactic
import Derived.BigQuiet
namespace Go.Proofs.YtcagnlafmakebaaDoor
open Go.RowKit Go.Lib

/-- The bytes of s lie at b, from off on. -/
def Bya (w : World) (b off : Nat) (s : ByteArray) : Prop := ∀ j, j < s.size → w.cell? ⟨b, off + j, none⟩ = some (.int .u8 ((s.get! j).toNat : Int))
theorem Bya.of_bys {w : World} {b off : Nat} {l : List UInt8} (h : Bys w b off l) : Bya w b off (S l) := fun j hj => by
  have hj' : j < l.length := by rw [S_size] at hj; exact hj
  rw [h j hj', show (S l).get! j = (S l)[j]'hj from Utf8W.get!_of_lt (S l) j hj, S_get]
theorem Bya.below {w w' : World} {b off : Nat} {s : ByteArray} (h : Bya w b off s) (hb : Below w.heap.size w w') (hlt : b < w.heap.size) : Bya w' b off s := fun j hj =>
  (hb.cell (p := ⟨b, off + j, none⟩) hlt).trans (h j hj)
theorem cell_heap {w w' : World} (h : w'.heap = w.heap) (p : Addr) : w'.cell? p = w.cell? p := by unfold World.cell?; rw [h]
/-- One byte, as a number. -/
theorem Bya.byte {w : World} {b off : Nat} {s : ByteArray} (h : Bya w b off s) (j : Nat) (hj : j < s.size) : ∃ a : Nat, a < 256 ∧ (s.get! j).toNat = a ∧ w.cell? ⟨b, off + j, none⟩ = some (.int .u8 (a : Int)) :=
  ⟨_, (s.get! j).toNat_lt, rfl, h j hj⟩

theorem elemB : Tryd.prog.elem 25 = 5 := by kernel_rfl
/-- p[k:] where the capacity is the length. -/
theorem run_cut (s : ByteArray) (k : Nat) (c : Int) (hc : c = (k : Int)) (hk : k ≤ s.size) (b o : Nat) :
    ∃ o', (∀ w, (Instr.slice 25 (.slice (some ⟨b, o, none⟩) s.size s.size) (some (.int .i64 c)) none none).run Tryd.prog w = .ok (.slice (some ⟨b, o', none⟩) (s.extract k s.size).size (s.extract k s.size).size) w) ∧
      ∀ w, Bya w b o s → Bya w b o' (s.extract k s.size) := by
  subst hc
  have hz : (s.extract k s.size).size = s.size - k := Lib.ext_size s k
  have h : ∀ w, _ := fun w => run_slice_l (P := Tryd.prog) w 25 (some ⟨b, o, none⟩) s.size s.size Tryd.underlying25 .i64 (k : Int) (by omega) (by omega)
  by_cases hks : s.size = k
  · refine ⟨o, fun w => ?_, fun w _ j hj => by rw [hz] at hj; omega⟩
    rw [h w, elemB, Tryd.sizeOf5]
    simp [sliced, hks, hz]
  · refine ⟨o + k, fun w => ?_, fun w hp j hj => ?_⟩
    · rw [h w, elemB, Tryd.sizeOf5]
      simp [sliced, hks, hz, Go.WideShapes.add_plain]
    · rw [hz] at hj
      rw [Nat.add_assoc, hp (k + j) (by omega), Lib.tail_get!]
theorem run_full (n cap b o : Nat) (hn : n ≤ cap) (w : World) : (Instr.slice 25 (.slice (some ⟨b, o, none⟩) n cap) none (some (.int .i64 (n : Int))) (some (.int .i64 (n : Int)))).run Tryd.prog w = .ok (.slice (some ⟨b, o, none⟩) n n) w := by
  have h := run_slice_hm (P := Tryd.prog) w 25 (some ⟨b, o, none⟩) n cap Tryd.underlying25 .i64 .i64 (n : Int) (n : Int) (by omega) (by omega) (by omega)
  rw [h, elemB, Tryd.sizeOf5]
  simp [sliced, Go.WideShapes.add_plain]

/-- The number that the first eight bytes spell. -/
def spell (s : ByteArray) : Nat := leNat [s.get! 0, s.get! 1, s.get! 2, s.get! 3, s.get! 4, s.get! 5, s.get! 6, s.get! 7]
set_option maxHeartbeats 8000000 in
set_option maxRecDepth 100000 in
theorem word_any (s : ByteArray) (b off cap : Nat) (w : World) (hs : 8 ≤ s.size) (hp : Bya w b off s) :
    Calls Tryd.prog 21 #[.slice (some ⟨b, off, none⟩) s.size cap] w fun e w' => e = .returned (.int .u64 (spell s : Int)) ∧ ∃ q, w' = w.drewN q := by
  obtain ⟨a0, l0, e0, c0⟩ := hp.byte 0 (by omega)
  obtain ⟨a1, l1, e1, c1⟩ := hp.byte 1 (by omega)
  obtain ⟨a2, l2, e2, c2⟩ := hp.byte 2 (by omega)
  obtain ⟨a3, l3, e3, c3⟩ := hp.byte 3 (by omega)
  obtain ⟨a4, l4, e4, c4⟩ := hp.byte 4 (by omega)
  obtain ⟨a5, l5, e5, c5⟩ := hp.byte 5 (by omega)
  obtain ⟨a6, l6, e6, c6⟩ := hp.byte 6 (by omega)
  obtain ⟨a7, l7, e7, c7⟩ := hp.byte 7 (by omega)
  have hv : (spell s : Int) = (a0 : Int) + (a1 : Int) * 256 + (a2 : Int) * 65536 + (a3 : Int) * 16777216 + (a4 : Int) * 4294967296 + (a5 : Int) * 1099511627776 + (a6 : Int) * 281474976710656 + (a7 : Int) * 72057594037927936 := by
    simp only [spell, leNat, e0, e1, e2, e3, e4, e5, e6, e7]
    omega
  rw [Nat.add_zero] at c0
  have HV := Lib.hid hv
  clear hv hp e0 e1 e2 e3 e4 e5 e6 e7
  have i0 : (0 : Int) < (s.size : Int) := by omega
  have i1 : (1 : Int) < (s.size : Int) := by omega
  have i2 : (2 : Int) < (s.size : Int) := by omega
  have i3 : (3 : Int) < (s.size : Int) := by omega
  have i4 : (4 : Int) < (s.size : Int) := by omega
  have i5 : (5 : Int) < (s.size : Int) := by omega
  have i6 : (6 : Int) < (s.size : Int) := by omega
  have i7 : (7 : Int) < (s.size : Int) := by omega
  go_enter Tryd.func21, Tryd.ntmps21
  go_wp2
  go_quiet (fail)
  go_wp2
  go_ret
  exact ⟨by rw [HV.out]; simp (disch := omega) only [u64_wrap_id, u64_or8, u64_or16, u64_or24, u64_or32, u64_or40, u64_or48, u64_or56]; rfl, _, rfl⟩

/-- What is left to read: t, at o; and what it answers. -/
structure Rest (w : World) (b o : Nat) (t : ByteArray) (ans : Bool) : Prop where
  lies : Bya w b o t
  same : validD t.data.toList = ans
  most : t.size ≤ 1000000
/-- The call of word at t, in every world that has this heap. -/
abbrev Words (wq : World) (b o : Nat) (t : ByteArray) (A : Nat) : Prop := ∀ W : World, W.heap = wq.heap → Calls Tryd.prog 21 #[.slice (some ⟨b, o, none⟩) t.size t.size] W fun e w' => e = .returned (.int .u64 (A : Int)) ∧ ∃ q, w' = W.drewN q
/-- p[k:] at t is t2, at o2. -/
abbrev Cuts (b o : Nat) (t : ByteArray) (k : Int) (o2 : Nat) (t2 : ByteArray) : Prop := ∀ w, (Instr.slice 25 (.slice (some ⟨b, o, none⟩) t.size t.size) (some (.int .i64 k)) none none).run Tryd.prog w = .ok (.slice (some ⟨b, o2, none⟩) t2.size t2.size) w

section
variable {w wq : World} {b o : Nat} {t : ByteArray} {ans : Bool}
theorem Rest.cut (h : Rest w b o t ans) (k : Nat) (c : Int) (hc : c = (k : Int)) (hk : k ≤ t.size) (hv : validD (t.extract k t.size).data.toList = validD t.data.toList) :
    ∃ o' t', Cuts b o t c o' t' ∧ Rest w b o' t' ans ∧ t'.size + k = t.size := by
  obtain ⟨o', h1, h2⟩ := run_cut t k c hc hk b o
  have hz : (t.extract k t.size).size = t.size - k := Lib.ext_size t k
  exact ⟨o', _, h1, ⟨h2 w h.lies, hv.trans h.same, by have := h.most; omega⟩, by omega⟩
theorem Rest.skip (h : Rest w b o t ans) (k : Nat) (c : Int) (hc : c = (k : Int)) (hk : k ≤ t.size) (ha : Asc t k) : ∃ o' t', Cuts b o t c o' t' ∧ Rest w b o' t' ans ∧ t'.size + k = t.size :=
  h.cut k c hc hk (valid_skip t k ha)
theorem words_of (hp : Bya w b o t) (hlt : b < w.heap.size) (hb : Below w.heap.size w wq) (h8 : 8 ≤ t.size) : Words wq b o t (spell t) := fun W hW =>
  word_any t b o t.size W h8 fun j hj => (cell_heap hW _).trans (hp.below hb hlt j hj)
theorem mask_int {A : Nat} (h : A < 18446744073709551616) : bits .and .u64 (A : Int) 9259542123273814144 = ((A &&& 9259542123273814144 : Nat) : Int) := u64_and_nat A 9259542123273814144 h (by omega)
/-- One word: its test says that eight bytes are below 128. -/
theorem Rest.one (h : Rest w b o t ans) (hlt : b < w.heap.size) (hb : Below w.heap.size w wq) (h8 : 8 ≤ t.size) :
    ∃ A Z, Words wq b o t A ∧ bits .and .u64 (A : Int) 9259542123273814144 = ((Z : Nat) : Int) ∧ (Z = 0 → Asc t 8) :=
  ⟨spell t, _, words_of h.lies hlt hb h8, mask_int (word_lt t), (word_asc t h8).1⟩
/-- Two words. -/
theorem Rest.two (h : Rest w b o t ans) (hlt : b < w.heap.size) (hb : Below w.heap.size w wq) (h8 : 16 ≤ t.size) :
    ∃ o2 t2 A B O Z, Cuts b o t 8 o2 t2 ∧ Words wq b o t A ∧ Words wq b o2 t2 B ∧ bits .or .u64 (A : Int) (B : Int) = ((O : Nat) : Int) ∧ bits .and .u64 (O : Int) 9259542123273814144 = ((Z : Nat) : Int) ∧ (Z = 0 → Asc t 16) ∧ t2.size + 8 = t.size ∧ (A < 18446744073709551616 ∧ B < 18446744073709551616 ∧ O < 18446744073709551616) ∧ O &&& 9259542123273814144 = Z := by
  obtain ⟨o2, h1, h2⟩ := run_cut t 8 8 rfl (by omega) b o
  have hz : (t.extract 8 t.size).size = t.size - 8 := Lib.ext_size t 8
  have hO := Nat.or_lt_two_pow (n := 64) (word_lt t) (word_lt (t.extract 8 t.size))
  refine ⟨o2, _, spell t, spell (t.extract 8 t.size), _, _, h1, words_of h.lies hlt hb (by omega), words_of (h2 w h.lies) hlt hb (by omega), u64_or_nat _ _ (word_lt _) (word_lt _), mask_int hO, fun h0 => ?_, by omega, ⟨word_lt _, word_lt _, hO⟩, rfl⟩
  obtain ⟨e1, e2⟩ := (or_mask _ _ _).1 h0
  exact asc_add t 8 8 ((word_asc t (by omega)).1 e1) ((word_asc _ (by omega)).1 e2)
/-- Four words. -/
theorem Rest.four (h : Rest w b o t ans) (hlt : b < w.heap.size) (hb : Below w.heap.size w wq) (h8 : 32 ≤ t.size) :
    ∃ o2 t2 o3 t3 o4 t4 A B C D O1 O2 O3 Z, (Cuts b o t 8 o2 t2 ∧ Cuts b o t 16 o3 t3 ∧ Cuts b o t 24 o4 t4) ∧ (Words wq b o t A ∧ Words wq b o2 t2 B ∧ Words wq b o3 t3 C ∧ Words wq b o4 t4 D) ∧
      (bits .or .u64 (A : Int) (B : Int) = ((O1 : Nat) : Int) ∧ bits .or .u64 (C : Int) (D : Int) = ((O2 : Nat) : Int) ∧ bits .or .u64 (O1 : Int) (O2 : Int) = ((O3 : Nat) : Int) ∧ bits .and .u64 (O3 : Int) 9259542123273814144 = ((Z : Nat) : Int)) ∧
      (Z = 0 → Asc t 32) ∧ (t2.size + 8 = t.size ∧ t3.size + 16 = t.size ∧ t4.size + 24 = t.size) := by
  obtain ⟨o2, t2, A, B, O, Z, h1, h2, h3, h4, _, h6, h7, ⟨_, _, h10⟩, e1⟩ := h.two hlt hb (by omega)
  obtain ⟨o3, k1, k2⟩ := run_cut t 16 16 rfl (by omega) b o
  obtain ⟨o4, m1, m2⟩ := run_cut t 24 24 rfl (by omega) b o
  have z3 : (t.extract 16 t.size).size = t.size - 16 := Lib.ext_size t 16
  have z4 : (t.extract 24 t.size).size = t.size - 24 := Lib.ext_size t 24
  have hO2 := Nat.or_lt_two_pow (n := 64) (word_lt (t.extract 16 t.size)) (word_lt (t.extract 24 t.size))
  refine ⟨o2, t2, o3, _, o4, _, A, B, spell (t.extract 16 t.size), spell (t.extract 24 t.size), O, _, _, _, ⟨h1, k1, m1⟩, ⟨h2, h3, words_of (k2 w h.lies) hlt hb (by omega), words_of (m2 w h.lies) hlt hb (by omega)⟩,
    ⟨h4, u64_or_nat _ _ (word_lt _) (word_lt _), u64_or_nat _ _ h10 hO2, mask_int (Nat.or_lt_two_pow (n := 64) h10 hO2)⟩, fun h0 => ?_, h7, by omega, by omega⟩
  obtain ⟨f1, f2⟩ := (or_mask _ _ _).1 h0
  obtain ⟨f3, f4⟩ := (or_mask _ _ _).1 f2
  have a16 : Asc t 16 := h6 (e1.symm.trans f1)
  have a24 : Asc t 24 := asc_add t 16 8 a16 ((word_asc _ (by omega)).1 f3)
  exact asc_add t 24 8 a24 ((word_asc _ (by omega)).1 f4)
end
end Go.Proofs.YtcagnlafmakebaaDoor
