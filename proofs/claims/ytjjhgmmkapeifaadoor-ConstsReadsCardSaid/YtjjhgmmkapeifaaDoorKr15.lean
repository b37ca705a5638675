/- parse and Parse of an instruction's bytes. -/
import Derived.Test.YtjjhgmmkapeifaaDoorKr14
import Derived.RegionTactic
import Derived.Test.YtjjhgmmkapeifaaDoorKr08
import Derived.Test.YtjjhgmmkapeifaaDoorKr10
import Derived.Test.YtjjhgmmkapeifaaDoorKr02
import Derived.Test.YtjjhgmmkapeifaaDoorKr01
import Derived.Test.YtjjhgmmkapeifaaDoorKr12
namespace Go.Proofs.YtjjhgmmkapeifaaDoor
open Go.RowKit
set_option linter.unusedVariables false
set_option maxRecDepth 100000

/-- What is kept of an instruction that was read. -/
def KeepI (p : Nat) (l : List UInt8) (i : I) (k lo : Nat) (x : I × Option Addr × Nat) (W : World) : Prop :=
  x.1 = i ∧ Sc W p l k ∧ Lies W W.heap.size x.2.1 (cells32 i.l) ∧ ∀ a, x.2.1 = some a → lo ≤ a.block
theorem KeepI.on {p : Nat} {l : List UInt8} {i : I} {k lo : Nat} {x : I × Option Addr × Nat} {W W' : World} {b : Nat} (h : KeepI p l i k lo x W) (hg : W.grownBy W' (some b)) (h1 : p < b) (h2 : b < lo) : KeepI p l i k lo x W' := by
  obtain ⟨h3, h4, h5, h6⟩ := h
  exact ⟨h3, h4.grown hg (by simp only [ne_eq, Option.some.injEq]; omega) (fun g e => by injection e with e; omega), h5.keep hg (fun a ha => by have := h6 a ha; omega), h6⟩
/-- What parse hands back. -/
def Parsed (i : I) (n : Nat) (w : World) (e : Ending) (w' : World) : Prop :=
  ∃ A c, e = .returned (.tuple #[insV i A c, .int .i64 n, .agg #[.int .i64 0, .int .i64 0]]) ∧ Lies w' w'.heap.size A (cells32 i.l) ∧ Below w.heap.size w w' ∧ ∀ a, A = some a → w.heap.size ≤ a.block
theorem parsed_of {i : I} {A : Option Addr} {c n m : Nat} {w W : World} (hn : n = m) (h : Lies W W.heap.size A (cells32 i.l)) (hb : Below w.heap.size w W) (hf : ∀ a, A = some a → w.heap.size + 3 ≤ a.block) : Parsed i n w (.returned (.tuple #[insV i A c, .int .i64 m, .agg #[.int .i64 0, .int .i64 0]])) W.drew :=
  ⟨A, c, by rw [hn], h, hb.drew, fun a ha => by have := hf a ha; omega⟩
/-- The world in which parse's results are written. -/
structure ParseEnd (i : I) (A : Option Addr) (c p : Nat) (l : List UInt8) (w w1 w2 W : World) (n : Nat) : Prop where
  sc : Sc W p l n
  lab : Lies W W.heap.size A (cells32 i.l) ∧ ∀ a, A = some a → w.heap.size + 3 ≤ a.block
  bel : Below w.heap.size w W
  val : W.cell? ⟨w2.heap.size, 0, none⟩ = some (.int .u8 i.op.toNat) ∧ W.cell? ⟨w2.heap.size, 1, none⟩ = some (.int .u64 i.a) ∧ W.cell? ⟨w2.heap.size, 2, none⟩ = some (.int .u64 i.b) ∧ W.cell? ⟨w2.heap.size, 3, none⟩ = some (.slice A i.l.length c)
  ptr : W.cell? ⟨w1.heap.size, 0, none⟩ = some (.pointer (some ⟨p, 0, none⟩))
  stop : W.cell? ⟨w2.heap.size + 1, 0, none⟩ = some (.int .i64 0) ∧ W.cell? ⟨w2.heap.size + 1, 1, none⟩ = some (.int .i64 0)
  res : W.cell? ⟨w.heap.size + 1, 0, none⟩ = some (.int .u8 0) ∧ W.cell? ⟨w.heap.size + 1, 1, none⟩ = some (.int .u64 0) ∧ W.cell? ⟨w.heap.size + 1, 2, none⟩ = some (.int .u64 0) ∧ W.cell? ⟨w.heap.size + 1, 3, none⟩ = some (.slice none 0 0)
  free : W.frozen? ⟨w.heap.size + 1, 0, none⟩ = false ∧ W.frozen? ⟨w.heap.size + 1, 1, none⟩ = false ∧ W.frozen? ⟨w.heap.size + 1, 2, none⟩ = false ∧ W.frozen? ⟨w.heap.size + 1, 3, none⟩ = false
  res6 : W.cell? ⟨w.heap.size + 1 + 1, 0, none⟩ = some (.int .i64 0) ∧ W.cell? ⟨w.heap.size + 1 + 1, 1, none⟩ = some (.int .i64 0)
  free6 : W.frozen? ⟨w.heap.size + 1 + 1, 0, none⟩ = false ∧ W.frozen? ⟨w.heap.size + 1 + 1, 1, none⟩ = false
  w4 : Whole W (w.heap.size + 1) 25 #[.int .u8 0, .int .u64 0, .int .u64 0, .slice none 0 0]
  w6 : Whole W (w.heap.size + 1 + 1) 44 #[.int .i64 0, .int .i64 0]
  n1 : ¬ w2.heap.size = w.heap.size
  n2 : ¬ w2.heap.size = w.heap.size + 1
  n3 : ¬ w2.heap.size + 1 = w.heap.size
theorem ParseEnd.of {i : I} {A : Option Addr} {c p : Nat} {l : List UInt8} {w w0 w1 w2 : World} {n : Nat} (h0 : w0.heap.size = w.heap.size + 3) (hb0 : Below w.heap.size w w0) (h4 : Whole w0 (w.heap.size + 1) 25 #[.int .u8 0, .int .u64 0, .int .u64 0, .slice none 0 0]) (h6 : Whole w0 (w.heap.size + 2) 44 #[.int .i64 0, .int .i64 0])
    (hb : Below w0.heap.size w0 w1) (hz1 : w0.heap.size ≤ w1.heap.size) (hp : w0.heap.size ≤ p ∧ p < w1.heap.size) (hg : (w1.alloc (.cells #[.pointer (some ⟨p, 0, none⟩)] 38)).grownBy w2 (some p)) (hk : Sc w2 p l n ∧ Lies w2 w2.heap.size A (cells32 i.l) ∧ ∀ a, A = some a → w1.heap.size + 6 ≤ a.block) :
    ParseEnd i A c p l w w1 w2 ((w2.alloc (.cells (insC i A c) 25)).alloc (.cells #[.int .i64 0, .int .i64 0] 44)) n := by
  have hz2 := hg.size
  rw [size_box] at hz2
  obtain ⟨k1, k2, k3⟩ := hk
  have w4 := ((((h4.below hb).alloc (.cells #[.pointer (some ⟨p, 0, none⟩)] 38)).grown hg (by simp only [ne_eq, Option.some.injEq]; omega)).alloc (.cells (insC i A c) 25)).alloc (.cells #[.int .i64 0, .int .i64 0] 44)
  have w6 := ((((h6.below hb).alloc (.cells #[.pointer (some ⟨p, 0, none⟩)] 38)).grown hg (by simp only [ne_eq, Option.some.injEq]; omega)).alloc (.cells (insC i A c) 25)).alloc (.cells #[.int .i64 0, .int .i64 0] 44)
  have w7 := (((Whole.made w1 38 #[.pointer (some ⟨p, 0, none⟩)]).grown hg (by simp only [ne_eq, Option.some.injEq]; omega)).alloc (.cells (insC i A c) 25)).alloc (.cells #[.int .i64 0, .int .i64 0] 44)
  have w8 := (Whole.made w2 25 (insC i A c)).alloc (.cells #[.int .i64 0, .int .i64 0] 44)
  have w9 := Whole.made (w2.alloc (.cells (insC i A c) 25)) 44 #[.int .i64 0, .int .i64 0]
  rw [size_box] at w9
  refine ⟨(k1.alloc _).alloc _, ⟨lies_box (lies_box k2 _) _, fun a ha => by have := k3 a ha; omega⟩, ?_, ⟨w8.cell 0, w8.cell 1, w8.cell 2, w8.cell 3⟩, w7.cell 0, ⟨w9.cell 0, w9.cell 1⟩, ⟨w4.cell 0, w4.cell 1, w4.cell 2, w4.cell 3⟩, ⟨w4.frozen 0, w4.frozen 1, w4.frozen 2, w4.frozen 3⟩, ⟨w6.cell 0, w6.cell 1⟩, ⟨w6.frozen 0, w6.frozen 1⟩, w4, w6, by omega, by omega, by omega⟩
  have b1 : Below w.heap.size w (w1.alloc (.cells #[.pointer (some ⟨p, 0, none⟩)] 38)) := (hb0.trans (hb.mono (by omega))).alloc (by omega) _
  have b2 : Below w.heap.size w w2 := Below.grown b1 hg (by rw [size_box]; omega) (fun g e => by injection e with e; omega)
  exact (b2.alloc (by omega) _).alloc (by rw [size_box]; omega) _
theorem ParseEnd.fin {i : I} {A : Option Addr} {c p : Nat} {l : List UInt8} {w w1 w2 W : World} {n : Nat} (h : ParseEnd i A c p l w w1 w2 W n) (W6 : World)
    (hW : W6 = (((((W.setCell ⟨w.heap.size + 1, 0, none⟩ (.int .u8 i.op.toNat)).setCell ⟨w.heap.size + 1, 1, none⟩ (.int .u64 i.a)).setCell ⟨w.heap.size + 1, 2, none⟩ (.int .u64 i.b)).setCell ⟨w.heap.size + 1, 3, none⟩ (.slice A i.l.length c)).setCell ⟨w.heap.size + 1 + 1, 0, none⟩ (.int .i64 0)).setCell ⟨w.heap.size + 1 + 1, 1, none⟩ (.int .i64 0)) :
    Whole W6 (w.heap.size + 1) 25 (insC i A c) ∧ Whole W6 (w.heap.size + 1 + 1) 44 #[.int .i64 0, .int .i64 0] ∧ Lies W6 W6.heap.size A (cells32 i.l) ∧ Below w.heap.size w W6 := by
  subst hW
  obtain ⟨p1, g1⟩ := put4 (u0 := .int .u8 i.op.toNat) (u1 := .int .u64 i.a) (u2 := .int .u64 i.b) (u3 := .slice A i.l.length c) h.w4
  obtain ⟨p2, g2⟩ := put2 (u0 := .int .i64 0) (u1 := .int .i64 0) (h.w6.grown g1 (by simp only [ne_eq, Option.some.injEq]; omega))
  have hz := g1.size
  have hzw := h.w4.lt
  refine ⟨p1.grown g2 (by simp only [ne_eq, Option.some.injEq]; omega), p2, (h.lab.1.keep g1 (fun a ha => by have := h.lab.2 a ha; omega)).keep g2 (fun a ha => by have := h.lab.2 a ha; omega), ?_⟩
  have b1 : Below w.heap.size w _ := Below.grown h.bel g1 (by omega) (fun g e => by injection e with e; omega)
  exact Below.grown b1 g2 (by omega) (fun g e => by injection e with e; omega)
end Go.Proofs.YtjjhgmmkapeifaaDoor

/- The reference's num, signed, Put. (By gen/genRefPut.py.) -/
namespace Go.Proofs.YtjjhgmmkapeifaaDoor
open Go.RowKit
set_option linter.unusedVariables false
set_option maxRecDepth 100000

def StrPost (l : List UInt8) (w : World) (e : Ending) (w' : World) : Prop := e = .returned (.string (S l)) ∧ Below w.heap.size w w'
theorem num_any (x : Int) (w : World) (h0 : 0 ≤ x) (h1 : x ≤ 18446744073709551615) : Calls Tryd.prog 48 #[.int .u64 x] w (StrPost (lebL x) w) := by
  have U := Lib.hid (fun W => refUintL x W h0 h1)
  have hl := (lebL_len x h1).1
  generalize lebL x = l at *
  go_enter Tryd.func48, Tryd.ntmps48
  go_wp2_with (go_at_call 79; go_must ((with_reducible refine (U.out _).mono ?_); intro e w1 h; obtain ⟨A, k, rfl, hl1, hb⟩ := h; have hs := str_lies' hl1 hl k; have HB := Lib.hid hb; clear hb hl1))
  go_ret
  exact ⟨rfl, HB.out⟩
theorem conv1 {W : World} {op : UInt8} {H : Nat} (hH : W.heap.size = H) : (convert 29 9 (.slice (some ⟨H, 0, none⟩) 1 1)).run Tryd.prog (W.alloc (.cells #[.int .u8 op.toNat] 5)) = .ok (.string (S [op])) (W.alloc (.cells #[.int .u8 op.toNat] 5)) := by
  obtain ⟨A, c, e, h⟩ := (Row.made W [op] 0 H hH (Nat.zero_le _) (by simp)).str
  injection e with e1 _ e2
  subst e1; subst e2
  exact h 9 Tryd.underlying9
theorem conv2 {W : World} {op H : Nat} (hH : W.heap.size = H) (x : Int) (h0 : 0 ≤ x) (h1 : x ≤ 255) : (convert 29 9 (.slice (some ⟨H, 0, none⟩) 1 1)).run Tryd.prog (W.alloc (.cells #[.int .u8 x] 5)) = .ok (.string (S [UInt8.ofNat x.toNat])) (W.alloc (.cells #[.int .u8 x] 5)) := by
  have := conv1 (op := UInt8.ofNat x.toNat) hH
  rwa [u8_of h0 h1] at this

theorem signed32_any (x : Int) (w : World) (h0 : 0 ≤ x) (h1 : x ≤ 18446744073709551615) : Calls Tryd.prog 49 #[.int .u64 x, .int .u64 32] w (StrPost (sebL (s32 x)) w) := by
  have hs : -9223372036854775808 ≤ s32 x ∧ s32 x ≤ 9223372036854775807 := by unfold s32; omega
  have U := Lib.hid (fun W => refIntL (s32 x) W hs.1 hs.2)
  have hl := (sebL_len (s32 x) hs.1 hs.2).1
  have hz : wrap64 (IntKind.u64.wrap (x * 4294967296)) / 4294967296 = s32 x := by unfold s32 wrap64; simp only [IntKind.wrap, IntKind.bits, IntKind.signed]; simp; omega
  generalize s32 x = z at *
  generalize sebL z = l at *
  go_enter Tryd.func49, Tryd.ntmps49
  go_wp2_with (go_at_call 80; go_must ((with_reducible refine (U.out _).mono ?_); intro e w1 h; obtain ⟨A, k, rfl, hl1, hb⟩ := h; have hs2 := str_lies' hl1 hl k; have HB := Lib.hid hb; clear hb hl1))
  go_ret
  exact ⟨rfl, HB.out⟩

theorem signed64_any (x : Int) (w : World) (h0 : 0 ≤ x) (h1 : x ≤ 18446744073709551615) : Calls Tryd.prog 49 #[.int .u64 x, .int .u64 64] w (StrPost (sebL (s64 x)) w) := by
  have hs : -9223372036854775808 ≤ s64 x ∧ s64 x ≤ 9223372036854775807 := by unfold s64; omega
  have U := Lib.hid (fun W => refIntL (s64 x) W hs.1 hs.2)
  have hl := (sebL_len (s64 x) hs.1 hs.2).1
  have hz : wrap64 x = s64 x := by unfold s64 wrap64; omega
  generalize s64 x = z at *
  generalize sebL z = l at *
  go_enter Tryd.func49, Tryd.ntmps49
  go_wp2_with (go_at_call 80; go_must ((with_reducible refine (U.out _).mono ?_); intro e w1 h; obtain ⟨A, k, rfl, hl1, hb⟩ := h; have hs2 := str_lies' hl1 hl k; have HB := Lib.hid hb; clear hb hl1))
  go_ret
  exact ⟨rfl, HB.out⟩

section
variable {w W W' : World} {i : I} {A : Option Addr} {c : Nat}
theorem BoxI.on3 (h : BoxI w W i A c) {O O' : Obj} (hb : Below ((W.alloc O).alloc O').heap.size ((W.alloc O).alloc O') W') : BoxI w W' i A c := ((h.on (below_box W O)).on (below_box _ O')).on hb
theorem BoxI.two3 (h : BoxI w W i A c) (O O' : Obj) : BoxI w ((W.alloc O).alloc O') i A c := (h.on (below_box W O)).on (below_box _ O')
theorem BoxI.three (h : BoxI w W i A c) : BoxI w W i A c ∧ W.cell? ⟨w.heap.size, 1, none⟩ = some (.int .u64 i.a) ∧ W.cell? ⟨w.heap.size, 2, none⟩ = some (.int .u64 i.b) := ⟨h, h.c1, h.c2⟩
theorem held_num {K : Nat} {args : Array Value} {l : List UInt8} (hN : ∀ W, Calls Tryd.prog K args W (StrPost l W)) (h : BoxI w W i A c ∧ W.cell? ⟨w.heap.size, 1, none⟩ = some (.int .u64 i.a) ∧ W.cell? ⟨w.heap.size, 2, none⟩ = some (.int .u64 i.b)) :
    Calls Tryd.prog K args W fun e w' => e = .returned (.string (S l)) ∧ BoxI w w' i A c ∧ w'.cell? ⟨w.heap.size, 1, none⟩ = some (.int .u64 i.a) ∧ w'.cell? ⟨w.heap.size, 2, none⟩ = some (.int .u64 i.b) :=
  (hN W).mono fun _ _ ⟨h1, h2⟩ => ⟨h1, BoxI.three (h.1.on h2)⟩
end
theorem str_put {i : I} {l : List UInt8} {s : ByteArray} {w W : World} (hp : putL i = l) (hs : s = S l) (hb : Below w.heap.size w W) : StrPost (putL i) w (.returned (.string s)) W := ⟨by rw [hs, hp], hb⟩
set_option maxHeartbeats 3000000 in
theorem refPut_any (i : I) (A : Option Addr) (c : Nat) (w : World) (h : i.Ok) (hr : rightZ i = 0) (hl : Lies w w.heap.size A (cells32 i.l)) :
    Calls Tryd.prog 28 #[insV i A c] w (StrPost (putL i) w) := by
  have hn := i.n_le
  have HT := Lib.hid (immL_len h hr)
  obtain ⟨a0, a1, b0, b1, hl0⟩ := h
  have hwb : IntKind.i64.wrap (i.op.toNat : Int) = i.op.toNat := by rw [IntKind.wrap_i64]; have := i.op.toNat_lt; omega
  obtain ⟨hc0, _, h10, _, hz0⟩ := right_zero hr
  obtain ⟨hz1, hz2, hz3⟩ := nums_zero hz0 a0
  have HL0 := Lib.hid hl0
  have HB := Lib.hid (BoxI.start w i A c)
  have HL := Lib.hid hl
  obtain ⟨m, hm⟩ : ∃ m, m = immR i.n := ⟨_, rfl⟩
  obtain ⟨r, hr2⟩ : ∃ r, r = refR i.n := ⟨_, rfl⟩
  have him : (r.getD row0).imm = m := by rw [hr2, hm]; exact (imm_same hn hc0).2
  have HI : Hid (∀ W, Calls Tryd.prog 41 #[.int .i64 i.op.toNat] W (RefPost r W)) := fun W => by rw [hr2]; exact ref_any i.n W hn
  have HIM := Lib.hid (show putL i = [i.op] ++ immB m i by unfold putL immL; rw [hm]; rfl)
  rw [← hm] at hz1 hz2 hz3
  have HZ1 := Lib.hid hz1
  have HZ2 := Lib.hid hz2
  have HZ3 := Lib.hid hz3
  have NA := Lib.hid (fun W => num_any i.a W a0 a1)
  have NB := Lib.hid (fun W => num_any i.b W b0 b1)
  have NL := Lib.hid (fun W => num_any (i.l.length : Int) W (by omega) (by omega))
  have ka := lebL_len i.a (by omega)
  have kb := lebL_len i.b (by omega)
  have kl := lebL_len (i.l.length : Int) (by omega)
  have wl : IntKind.u64.wrap (i.l.length : Int) = i.l.length := by simp [IntKind.wrap, IntKind.bits, IntKind.signed]; omega
  obtain ⟨xa, hxa⟩ : ∃ x, x = lebL i.a := ⟨_, rfl⟩
  obtain ⟨xb, hxb⟩ : ∃ x, x = lebL i.b := ⟨_, rfl⟩
  obtain ⟨xl, hxl⟩ : ∃ x, x = lebL (i.l.length : Int) := ⟨_, rfl⟩
  rw [← hxa] at NA ka
  rw [← hxb] at NB kb
  rw [← hxl] at NL kl
  have sa := S_size xa
  have sb := S_size xb
  have sl := S_size xl
  obtain ⟨o, ho⟩ : ∃ o, o = [i.op] := ⟨_, rfl⟩
  have so : (S o).size = 1 := by rw [S_size, ho]; rfl
  have HC1 := Lib.hid (fun (W : World) (H : Nat) (hH : W.heap.size = H) => (by rw [ho]; exact conv1 hH : (convert 29 9 (.slice (some ⟨H, 0, none⟩) 1 1)).run Tryd.prog (W.alloc (.cells #[.int .u8 i.op.toNat] 5)) = .ok (.string (S o)) (W.alloc (.cells #[.int .u8 i.op.toNat] 5))))
  have HO := Lib.hid ho
  have HXA := Lib.hid hxa
  have HXB := Lib.hid hxb
  have HXL := Lib.hid hxl
  generalize (r.getD row0).op = r1 at *
  clear hl hr hc0 hz0 hr2 hm hz1 hz2 hz3 hl0 hxa hxb hxl ho
  have below2 : ∀ W : World, Below w.heap.size w W → ∀ O O', Below w.heap.size w ((W.alloc O).alloc O') := fun W hb O O' => (hb.alloc hb.size _).alloc (Nat.le_trans hb.size (below_box _ _).size) _
  have HB3f := Lib.hid below2
  clear below2
  by_cases m0 : m = 0
  · subst m0
    have HE := Lib.hid (show putL i = o ++ ([]) by rw [HIM.out, HO.out]; unfold immB; rw [if_pos rfl])
    go_enter Tryd.func28, Tryd.ntmps28
    go_wp2_with (first
      | (go_at_call 41; go_must ((with_reducible refine (HI.out _).mono ?_); rintro e w2 ⟨rfl, hb⟩; have HB2 := Lib.hid (HB.out.on hb); have hlt := HB2.out.lt; have c0 := HB2.out.c0; have c1 := HB2.out.c1; have c2 := HB2.out.c2; have c3 := HB2.out.c3; have hcv := fun O => HC1.out (w2.alloc O) (w2.heap.size + 1) (size_box _ _); clear hb)))
    go_ret
    exact str_put HE.out (by simp) (HB3f.out _ HB2.out.2 _ _)
  have d0 : ((m : Int) == 0) = false := by simp; omega
  by_cases m1 : m = 1
  · subst m1
    have HE := Lib.hid (show putL i = o ++ ([UInt8.ofNat i.a.toNat]) by rw [HIM.out, HO.out]; unfold immB; rw [if_neg (by omega), if_pos rfl])
    have ha := (HZ1.out rfl).1
    have hw : IntKind.u8.wrap i.a = i.a := by simp [IntKind.wrap, IntKind.bits, IntKind.signed]; omega
    obtain ⟨y, hy⟩ : ∃ y, y = [UInt8.ofNat i.a.toNat] := ⟨_, rfl⟩
    have sy : (S y).size = 1 := by rw [S_size, hy]; rfl
    have HC2 := Lib.hid (fun (W : World) (H : Nat) (hH : W.heap.size = H) => (by rw [hy]; exact conv2 (op := 0) hH i.a a0 ha : (convert 29 9 (.slice (some ⟨H, 0, none⟩) 1 1)).run Tryd.prog (W.alloc (.cells #[.int .u8 i.a] 5)) = .ok (.string (S y)) (W.alloc (.cells #[.int .u8 i.a] 5))))
    rw [← hy] at HE
    have q : (S o).size + (S y).size ≤ 9223372036854775807 := by omega
    clear hy
    go_enter Tryd.func28, Tryd.ntmps28
    go_wp2_with (go_at_call 41; go_must ((with_reducible refine (HI.out _).mono ?_); rintro e w2 ⟨rfl, hb⟩; have HB2 := Lib.hid (HB.out.on hb); have hlt := HB2.out.lt; have c0 := HB2.out.c0; have c1 := HB2.out.c1; have c2 := HB2.out.c2; have c3 := HB2.out.c3; have hcv := fun O => HC1.out (w2.alloc O) (w2.heap.size + 1) (size_box _ _); have hcv2 := fun O O' => HC2.out ((w2.alloc O).alloc O') (w2.heap.size + 1 + 1) (by rw [size_box, size_box]); clear hb))
    go_ret
    exact str_put HE.out (by rw [S_append]) ((HB3f.out _ HB2.out.2 _ _).alloc (by have := HB2.out.2.size; rw [size_box, size_box]; omega) _)
  have d1 : ((m : Int) == 1) = false := by simp; omega
  by_cases m3 : m = 3
  · subst m3
    have HE := Lib.hid (show putL i = o ++ (labL i.l ++ xa) by rw [HIM.out, HXA.out, HO.out]; unfold immB; rw [if_neg (by omega), if_neg (by omega), if_pos rfl])
    have q1 : (S o).size + (S xl).size ≤ 9223372036854775807 := by omega
    go_enter Tryd.func28, Tryd.ntmps28
    go_wp2_with (first
      | (go_at_call 41; go_must ((with_reducible refine (HI.out _).mono ?_); rintro e w2 ⟨rfl, hb⟩; have HB2 := Lib.hid (HB.out.on hb); have hlt := HB2.out.lt; have c0 := HB2.out.c0; have c1 := HB2.out.c1; have c2 := HB2.out.c2; have c3 := HB2.out.c3; have hcv := fun O => HC1.out (w2.alloc O) (w2.heap.size + 1) (size_box _ _); clear hb))
      | (go_at_call 48; go_must ((with_reducible refine (NL.out _).mono ?_); rintro e w3 ⟨rfl, hb⟩; have HB3 := Lib.hid (HB2.out.on3 hb); clear hb)))
    rw [S_append]
    obtain ⟨t0, ht0⟩ : ∃ t, t = o ++ xl := ⟨_, rfl⟩
    rw [← ht0]
    have HT0 := Lib.hid ht0
    clear ht0
    go_loopw [5, 6] (fun s j wr => ∃ k : Nat, k ≤ i.l.length ∧ j = .int .i64 k ∧ s = .string (S (t0 ++ labsL (i.l.take k))) ∧ BoxI w wr i A c) (fun _ j _ => i.l.length - (intOf j).toNat)
    case atStart => exact ⟨0, Nat.zero_le _, rfl, by simp [labsL], HB3.out⟩
    case round =>
      obtain ⟨k, hk, rfl, rfl, hbx⟩ := hrel
      have d3 := hbx.c3
      have d1 := hbx.c1
      have HBX := Lib.hid hbx
      have hlen : (t0 ++ labsL (i.l.take k)).length ≤ 200000 := by rw [List.length_append, HT0.out, List.length_append, HO.out]; have := labsL_take_len i.l HL0.out k h10; simp; omega
      by_cases hlt : k < i.l.length
      · obtain ⟨d, hd⟩ : ∃ d, i.l[k]? = some d := ⟨_, List.getElem?_eq_getElem hlt⟩
        obtain ⟨b, off, rfl, hbl, hcell⟩ := HL.out k _ (cells32_get hd)
        have hcell2 := (hbx.2.cell (p := ⟨b, off + k, none⟩) hbl).trans hcell
        have hdb := HL0.out d (List.mem_of_getElem? hd)
        have wd : IntKind.u64.wrap d = d := by simp [IntKind.wrap, IntKind.bits, IntKind.signed]; omega
        have ND := Lib.hid (fun W => num_any d W hdb.1 (by omega))
        have m2 := lebL_len d (by omega)
        have HS := Lib.hid (labsL_snoc hd)
        obtain ⟨y, hy⟩ : ∃ y, y = lebL d := ⟨_, rfl⟩
        rw [← hy] at ND m2 HS
        obtain ⟨t, ht⟩ : ∃ t, t = t0 ++ labsL (i.l.take k) := ⟨_, rfl⟩
        rw [← ht] at hlen ⊢
        have HTT := Lib.hid ht
        have st := S_size t
        have sy := S_size y
        have q : (S t).size + (S y).size ≤ 9223372036854775807 := by omega
        clear hcell hd hy ht hbx
        go_wp2_with (go_at_call 48; go_must ((with_reducible refine (ND.out _).mono ?_); rintro e w4 ⟨rfl, hb⟩; have HB4 := Lib.hid (HBX.out.on hb); clear hb))
        go_roundw
        case rel => exact ⟨k + 1, by omega, by go_num, by rw [S_append, HS.out, ← List.append_assoc, ← HTT.out], HB4.out⟩
        case measure => simp [intOf]; omega
      · obtain rfl : k = i.l.length := by omega
        obtain ⟨t, ht⟩ : ∃ t, t = t0 ++ labsL (i.l.take i.l.length) := ⟨_, rfl⟩
        rw [← ht] at hlen ⊢
        have HTT := Lib.hid (show t = o ++ labL i.l by rw [ht, HT0.out, List.take_of_length_le (Nat.le_refl _)]; unfold labL; rw [List.append_assoc, HXL.out])
        have st := S_size t
        have q : (S t).size + (S xa).size ≤ 9223372036854775807 := by omega
        clear ht hbx
        go_wp2_with (go_at_call 48; go_must ((with_reducible refine (NA.out _).mono ?_); rintro e w4 ⟨rfl, hb⟩; have HB4 := Lib.hid (HBX.out.on hb); clear hb))
        go_ret
        exact str_put HE.out (by rw [S_append, HTT.out, List.append_assoc]) HB4.out.2
  have d3 : ((m : Int) == 3) = false := by simp; omega
  by_cases m5 : m = 5
  · subst m5
    have HE := Lib.hid (show putL i = o ++ (xa ++ [0]) by rw [HIM.out, HXA.out, HO.out]; unfold immB; rw [if_neg (by omega), if_neg (by omega), if_neg (by omega), if_pos rfl])
    have q1 : (S o).size + (S xa).size ≤ 9223372036854775807 := by omega
    have q2 : (S o).size + (S xa).size + 1 ≤ 9223372036854775807 := by omega
    go_enter Tryd.func28, Tryd.ntmps28
    go_wp2_with (first
      | (go_at_call 41; go_must ((with_reducible refine (HI.out _).mono ?_); rintro e w2 ⟨rfl, hb⟩; have HB2 := Lib.hid (HB.out.on hb); have hlt := HB2.out.lt; have c0 := HB2.out.c0; have c1 := HB2.out.c1; have c2 := HB2.out.c2; have c3 := HB2.out.c3; have hcv := fun O => HC1.out (w2.alloc O) (w2.heap.size + 1) (size_box _ _); clear hb))
      | (go_at_call 48; go_must ((with_reducible refine (NA.out _).mono ?_); rintro e w3 ⟨rfl, hb⟩; have HB3 := Lib.hid hb; clear hb)))
    go_ret
    exact str_put HE.out (by rw [show ({ data := #[0] } : ByteArray) = S [0] from rfl, S_append, S_append, List.append_assoc]) ((HB3f.out _ HB2.out.2 _ _).trans (HB3.out.mono (HB3f.out _ HB2.out.2 _ _).size))
  have d5 : ((m : Int) == 5) = false := by simp; omega
  by_cases m8 : m = 8
  · subst m8
    have HE := Lib.hid (show putL i = o ++ (xa ++ xb) by rw [HIM.out, HXA.out, HXB.out, HO.out]; unfold immB; rw [if_neg (by omega), if_neg (by omega), if_neg (by omega), if_neg (by omega), if_pos rfl])
    have q1 : (S o).size + (S xa).size ≤ 9223372036854775807 := by omega
    have q2 : (S o).size + (S xa).size + (S xb).size ≤ 9223372036854775807 := by omega
    have q3 : ¬ 9223372036854775807 < (S o).size + (S xa).size := by omega
    have q4 : ¬ 9223372036854775807 < (S o).size + (S xa).size + (S xb).size := by omega
    go_enter Tryd.func28, Tryd.ntmps28
    go_wp2_with (first
      | (go_at_call 41; go_must ((with_reducible refine (HI.out _).mono ?_); rintro e w2 ⟨rfl, hb⟩; have HB2 := Lib.hid (HB.out.on hb); have hlt := HB2.out.lt; have c0 := HB2.out.c0; have c1 := HB2.out.c1; have c2 := HB2.out.c2; have c3 := HB2.out.c3; have hcv := fun O => HC1.out (w2.alloc O) (w2.heap.size + 1) (size_box _ _); clear hb)))
    clear q1 q2 so sa sb sl
    have HS0 := Lib.hid (HB2.out.two3)
    go_region_held3 (fun W => BoxI w W i A c ∧ W.cell? ⟨w.heap.size, 1, none⟩ = some (.int .u64 i.a) ∧ W.cell? ⟨w.heap.size, 2, none⟩ = some (.int .u64 i.b))
      (first | assumption | exact BoxI.three (HS0.out _ _) | exact BoxI.three ((HS0.out _ _).drewN 1))
      (first | (go_at_call 48; first | ((with_reducible refine (held_num NA.out ‹_›).mono ?_); rintro e w3 ⟨rfl, hk3⟩) | ((with_reducible refine (held_num NB.out ‹_›).mono ?_); rintro e w4 ⟨rfl, hk4⟩)))
    go_wp2
    go_ret
    exact str_put HE.out (by rw [S_append, S_append, List.append_assoc]) (BoxI.bel hk4.1)
  have d8 : ((m : Int) == 8) = false := by simp; omega
  by_cases m9 : m = 9
  · subst m9
    have HE := Lib.hid (show putL i = o ++ ([0]) by rw [HIM.out, HO.out]; unfold immB; rw [if_neg (by omega), if_neg (by omega), if_neg (by omega), if_neg (by omega), if_neg (by omega), if_pos rfl])
    have q1 : (S o).size + 1 ≤ 9223372036854775807 := by omega
    go_enter Tryd.func28, Tryd.ntmps28
    go_wp2_with (first
      | (go_at_call 41; go_must ((with_reducible refine (HI.out _).mono ?_); rintro e w2 ⟨rfl, hb⟩; have HB2 := Lib.hid (HB.out.on hb); have hlt := HB2.out.lt; have c0 := HB2.out.c0; have c1 := HB2.out.c1; have c2 := HB2.out.c2; have c3 := HB2.out.c3; have hcv := fun O => HC1.out (w2.alloc O) (w2.heap.size + 1) (size_box _ _); clear hb)))
    go_ret
    exact str_put HE.out (by rw [show ({ data := #[0] } : ByteArray) = S [0] from rfl, S_append]) (HB3f.out _ HB2.out.2 _ _)
  have d9 : ((m : Int) == 9) = false := by simp; omega
  by_cases m10 : m = 10
  · subst m10
    have HE := Lib.hid (show putL i = o ++ (sebL (s32 i.a)) by rw [HIM.out, HO.out]; unfold immB; rw [if_neg (by omega), if_neg (by omega), if_neg (by omega), if_neg (by omega), if_neg (by omega), if_neg (by omega), if_pos rfl])
    have hs : -9223372036854775808 ≤ s32 i.a ∧ s32 i.a ≤ 9223372036854775807 := by unfold s32; omega
    have kz := sebL_len (s32 i.a) hs.1 hs.2
    have NZ := Lib.hid (fun W => signed32_any i.a W a0 a1)
    generalize sebL (s32 i.a) = z at *
    have sz := S_size z
    have q1 : (S o).size + (S z).size ≤ 9223372036854775807 := by omega
    go_enter Tryd.func28, Tryd.ntmps28
    go_wp2_with (first
      | (go_at_call 41; go_must ((with_reducible refine (HI.out _).mono ?_); rintro e w2 ⟨rfl, hb⟩; have HB2 := Lib.hid (HB.out.on hb); have hlt := HB2.out.lt; have c0 := HB2.out.c0; have c1 := HB2.out.c1; have c2 := HB2.out.c2; have c3 := HB2.out.c3; have hcv := fun O => HC1.out (w2.alloc O) (w2.heap.size + 1) (size_box _ _); clear hb))
      | (go_at_call 49; go_must ((with_reducible refine (NZ.out _).mono ?_); rintro e w3 ⟨rfl, hb⟩; have HB3 := Lib.hid hb; clear hb)))
    go_ret
    exact str_put HE.out (by rw [S_append]) ((HB3f.out _ HB2.out.2 _ _).trans (HB3.out.mono (HB3f.out _ HB2.out.2 _ _).size))
  have d10 : ((m : Int) == 10) = false := by simp; omega
  by_cases m11 : m = 11
  · subst m11
    have HE := Lib.hid (show putL i = o ++ (sebL (s64 i.a)) by rw [HIM.out, HO.out]; unfold immB; rw [if_neg (by omega), if_neg (by omega), if_neg (by omega), if_neg (by omega), if_neg (by omega), if_neg (by omega), if_neg (by omega), if_pos rfl])
    have hs : -9223372036854775808 ≤ s64 i.a ∧ s64 i.a ≤ 9223372036854775807 := by unfold s64; omega
    have kz := sebL_len (s64 i.a) hs.1 hs.2
    have NZ := Lib.hid (fun W => signed64_any i.a W a0 a1)
    generalize sebL (s64 i.a) = z at *
    have sz := S_size z
    have q1 : (S o).size + (S z).size ≤ 9223372036854775807 := by omega
    go_enter Tryd.func28, Tryd.ntmps28
    go_wp2_with (first
      | (go_at_call 41; go_must ((with_reducible refine (HI.out _).mono ?_); rintro e w2 ⟨rfl, hb⟩; have HB2 := Lib.hid (HB.out.on hb); have hlt := HB2.out.lt; have c0 := HB2.out.c0; have c1 := HB2.out.c1; have c2 := HB2.out.c2; have c3 := HB2.out.c3; have hcv := fun O => HC1.out (w2.alloc O) (w2.heap.size + 1) (size_box _ _); clear hb))
      | (go_at_call 49; go_must ((with_reducible refine (NZ.out _).mono ?_); rintro e w3 ⟨rfl, hb⟩; have HB3 := Lib.hid hb; clear hb)))
    go_ret
    exact str_put HE.out (by rw [S_append]) ((HB3f.out _ HB2.out.2 _ _).trans (HB3.out.mono (HB3f.out _ HB2.out.2 _ _).size))
  have d11 : ((m : Int) == 11) = false := by simp; omega
  have HE := Lib.hid (show putL i = o ++ xa by rw [HIM.out, HXA.out, HO.out]; unfold immB; rw [if_neg m0, if_neg m1, if_neg m3, if_neg m5, if_neg m8, if_neg m9, if_neg m10, if_neg m11])
  have q1 : (S o).size + (S xa).size ≤ 9223372036854775807 := by omega
  clear HIM
  go_enter Tryd.func28, Tryd.ntmps28
  go_wp2_with (first
    | (go_at_call 41; go_must ((with_reducible refine (HI.out _).mono ?_); rintro e w2 ⟨rfl, hb⟩; have HB2 := Lib.hid (HB.out.on hb); have hlt := HB2.out.lt; have c0 := HB2.out.c0; have c1 := HB2.out.c1; have c2 := HB2.out.c2; have c3 := HB2.out.c3; have hcv := fun O => HC1.out (w2.alloc O) (w2.heap.size + 1) (size_box _ _); clear hb))
    | (go_at_call 48; go_must ((with_reducible refine (NA.out _).mono ?_); rintro e w3 ⟨rfl, hb⟩; have HB3 := Lib.hid hb; clear hb)))
  go_ret
  exact str_put HE.out (by rw [S_append]) ((HB3f.out _ HB2.out.2 _ _).trans (HB3.out.mono (HB3f.out _ HB2.out.2 _ _).size))
end Go.Proofs.YtjjhgmmkapeifaaDoor

/- consts.Put, Global; the reference's Put; awake. -/
namespace Go.Proofs.YtjjhgmmkapeifaaDoor
open Go.RowKit
set_option linter.unusedVariables false
set_option maxRecDepth 100000

/-- What consts.Put hands back. -/
def CPutPost (i : I) (w : World) (e : Ending) (w' : World) : Prop :=
  ∃ v, e = .returned (.tuple #[v, .int .i64 (crightZ i)]) ∧ Row w' w.heap.size v (if crightZ i = 0 then putL i ++ [11] else []) ∧ Below w.heap.size w w'
theorem cput_no {i : I} {z : Int} {w w' : World} (h : z ≠ 0) (hz : z = crightZ i) (hb : Below w.heap.size w w') : CPutPost i w (.returned (.tuple #[.slice none 0 0, .int .i64 z])) w' := by
  subst hz
  exact ⟨_, rfl, by rw [if_neg h]; exact Row.nil _ _, hb⟩
theorem cput_yes {i : I} {x : List UInt8} {v : Value} {w w' : World} (h : crightZ i = 0) (hx : x = putL i) (hr : Row w' w.heap.size v (x ++ [11])) (hb : Below w.heap.size w w') : CPutPost i w (.returned (.tuple #[v, .int .i64 0])) w' :=
  ⟨v, by rw [h], by rw [if_pos h, ← hx]; exact hr, hb⟩
set_option maxHeartbeats 1000000 in
theorem cput_any (i : I) (A : Option Addr) (c : Nat) (w : World) (h : i.Ok) (hT : Tabs w) (hl : Lies w w.heap.size A (cells32 i.l)) (hl63 : (i.l.length : Int) ≤ 9223372036854775807) :
    Calls Tryd.prog 8 #[insV i A c] w (CPutPost i w) := by
  have HB := Lib.hid (BoxI.start w i A c)
  have HR := Lib.hid (cright_any i A c (w.alloc (.cells (insC i A c) 25)) h (hT.below HB.out.2) hl63)
  by_cases h0 : crightZ i = 0
  · rw [h0] at HR
    have hr := (cr_zero h0).1
    have hlen := immL_len h hr
    obtain ⟨x, hx⟩ : ∃ x, x = putL i := ⟨_, rfl⟩
    have hxl : x.length ≤ 200001 := by rw [hx]; show (i.op :: immL i).length ≤ _; simp; omega
    have HP := Lib.hid (fun W (hb : Below w.heap.size w W) => show Calls Tryd.prog 26 #[insV i A c] W fun e w' => ∃ v, e = .returned (.tuple #[v, .int .i64 0]) ∧ Row w' W.heap.size v x ∧ Below W.heap.size W w' from
      (put_any i A c W h (hT.below hb) ((hl.below hb (Nat.le_refl _)).more hb.size) hl63).mono fun e w' hq => by
        obtain ⟨v, h1, h2, h3⟩ := hq
        rw [hr] at h1
        rw [if_pos hr, ← hx] at h2
        exact ⟨v, h1, h2, h3⟩)
    have HX := Lib.hid hx
    have H0 := Lib.hid h0
    clear h hT hl hl63 h0 hr hlen hx
    go_enter Tryd.func8, Tryd.ntmps8
    go_wp2_with (first
      | (go_at_call 10; go_must ((with_reducible refine HR.out.mono ?_); rintro e w1 ⟨rfl, hb⟩; have HB1 := Lib.hid (HB.out.on hb); have c0 := HB1.out.c0; have c1 := HB1.out.c1; have c2 := HB1.out.c2; have c3 := HB1.out.c3; clear hb))
      | (go_at_call 26; go_must ((with_reducible refine (HP.out _ HB1.out.bel).mono ?_); intro e w2 hq; obtain ⟨v, rfl, hr, hb⟩ := hq; have HR2 := Lib.hid hr; have HB2 := Lib.hid (HB1.out.bel.trans (hb.mono HB1.out.bel.size)); have hz2 := hb.size; clear hr hb))
      | (at_builtin; (refine row_new rfl _ _ rfl w1.heap.size _ x rfl (HR2.out.alloc _) w2.heap.size 1 [11] rfl rfl (heap_alloc_new w2 _) (by omega) (by simp; omega) (by simp; omega) ?_; intro v3 w3 hr3 hb3; have HR3 := Lib.hid hr3; have HB3 := Lib.hid hb3; clear hr3 hb3)))
    go_ret2
    exact cput_yes H0.out HX.out (HR3.out.mono HB1.out.bel.size) ((HB2.out.alloc HB2.out.size _).trans (HB3.out.mono HB1.out.bel.size))
  · have HX := Lib.hid h0
    obtain ⟨z, hz⟩ : ∃ z, z = crightZ i := ⟨_, rfl⟩
    rw [← hz] at HR HX
    have dz : (z != 0) = true := by rw [hz]; simpa using h0
    have HZ := Lib.hid hz
    clear h hT hl hl63 h0 hz
    go_enter Tryd.func8, Tryd.ntmps8
    go_wp2_with (go_at_call 10; go_must ((with_reducible refine HR.out.mono ?_); rintro e w1 ⟨rfl, hb1⟩; have HB1 := Lib.hid (HB.out.on hb1); clear hb1))
    go_ret2
    exact cput_no HX.out HZ.out HB1.out.bel

theorem rcput_any (i : I) (A : Option Addr) (c : Nat) (w : World) (h : i.Ok) (hr : rightZ i = 0) (hl : Lies w w.heap.size A (cells32 i.l)) :
    Calls Tryd.prog 12 #[insV i A c] w (StrPost (putL i ++ [11]) w) := by
  have HB := Lib.hid (BoxI.start w i A c)
  have hlen := immL_len h hr
  have HP := Lib.hid (refPut_any i A c (w.alloc (.cells (insC i A c) 25)) h hr ((hl.below HB.out.2 (Nat.le_refl _)).more HB.out.2.size))
  obtain ⟨x, hx⟩ : ∃ x, x = putL i := ⟨_, rfl⟩
  have hxl : (S x).size + (⟨#[11]⟩ : ByteArray).size ≤ 9223372036854775807 := by
    rw [S_size, hx]
    show (i.op :: immL i).length + 1 ≤ _
    simp
    omega
  have hxl2 : (S x).size + 1 ≤ 9223372036854775807 := hxl
  have HS := Lib.hid (S_append x [11])
  rw [← hx] at HP ⊢
  clear h hr hl hlen hx
  go_enter Tryd.func12, Tryd.ntmps12
  go_wp2_with (go_at_call 28; go_must ((with_reducible refine HP.out.mono ?_); rintro e w1 ⟨rfl, hb⟩; have HB1 := Lib.hid (HB.out.on hb); clear hb))
  go_ret
  exact ⟨by rw [← HS.out]; rfl, HB1.out.bel⟩

/-- Global's instruction. -/
abbrev gIns (n : Int) : I := ⟨35, n, 0, []⟩
theorem cglobal_any (n : Int) (w : World) (h0 : 0 ≤ n) (h1 : n ≤ 4294967295) :
    Calls Tryd.prog 9 #[.int .u32 n] w fun e w' => e = .returned (.agg #[.int .u8 35, .int .u64 n, .int .u64 0, .slice none 0 0]) ∧ Below w.heap.size w w' := by
  have hw : IntKind.u64.wrap n = n := by simp [IntKind.wrap, IntKind.bits, IntKind.signed]; omega
  go_enter Tryd.func9, Tryd.ntmps9
  go_wp2
  exact bodyPost_ret (v := .agg #[.int .u8 35, .int .u64 n, .int .u64 0, .slice none 0 0]) (by simp [results, Tryd.results9, go_sem]) rfl ⟨rfl, below_box _ _⟩

/-- The page's example. -/
def cEg : I := ⟨65, 5, 0, []⟩
theorem cEg_ok : cEg.Ok := ⟨by decide, by decide, by decide, by decide, fun c h => by cases h⟩
theorem cEg_imm : immR cEg.n = 10 := by decide +kernel
theorem cEg_right : rightZ cEg = 0 := by decide +kernel
theorem cEg_zero : crightZ cEg = 0 := cr_yes cEg_right (by decide)
theorem cEg_put : putL cEg = [65, 5] := by
  have hm : sebN 5 = 1 := (sebN_least 5 (by omega) (by omega)).unique ⟨Nat.le_refl _, by unfold fitS; decide, fun m a b => by omega⟩
  have hs : s32 cEg.a = 5 := by decide +kernel
  unfold putL immL immB
  rw [cEg_imm, hs]
  show [65] ++ sebL 5 = _
  unfold sebL
  rw [hm]
  rfl
theorem cawake_any (w : World) (hT : Tabs w) : Calls Tryd.prog 6 #[] w fun e w' => e = .returned (.bool true) ∧ Below w.heap.size w w' := by
  have hp := cput_any cEg none 0 w cEg_ok hT (fun j v hv => by simp [cells32, cEg] at hv) (by decide)
  obtain ⟨l, hl⟩ : ∃ l : List UInt8, l = [65, 5, 11] := ⟨_, rfl⟩
  have HP := Lib.hid (show Calls Tryd.prog 8 #[.agg #[.int .u8 65, .int .u64 5, .int .u64 0, .slice none 0 0]] w fun e w' => ∃ v, e = .returned (.tuple #[v, .int .i64 0]) ∧ Row w' w.heap.size v l ∧ Below w.heap.size w w' from hp.mono fun e w' ⟨v, h1, h2, h3⟩ => ⟨v, by rw [cEg_zero] at h1; exact h1, by rw [if_pos cEg_zero, cEg_put] at h2; rw [hl]; exact h2, h3⟩)
  have hcmp : ((S l).toList == [65, 5, 11]) = true := by rw [S_toList, hl]; rfl
  clear hl
  clear hp hT
  go_enter Tryd.func6, Tryd.ntmps6
  go_wp2_with (go_at_call 8; go_must ((with_reducible refine HP.out.mono ?_); intro e w1 h; obtain ⟨v, rfl, hr, hb⟩ := h; obtain ⟨A, c, rfl, hcv⟩ := hr.str; have hcv2 := hcv 9 Tryd.underlying9; have HB := Lib.hid hb; clear hb hr hcv))
  go_ret
  exact ⟨rfl, HB.out⟩
end Go.Proofs.YtjjhgmmkapeifaaDoor

/- slices.Equal of labels; instr.Same; the reference's Same. -/
namespace Go.Proofs.YtjjhgmmkapeifaaDoor
open Go.RowKit
set_option linter.unusedVariables false
set_option maxRecDepth 100000

def LiesL (w : World) (A : Option Addr) (l : List Int) : Prop := Lies w w.heap.size A (cells32 l)
theorem LiesL.below {w w' : World} {A : Option Addr} {l : List Int} (h : LiesL w A l) (hb : Below w.heap.size w w') : LiesL w' A l := (Lies.below h hb (Nat.le_refl _)).more hb.size
theorem LiesL.at {w : World} {A : Option Addr} {l : List Int} (h : LiesL w A l) {i : Nat} {d : Int} (hd : l[i]? = some d) : ∃ b off, A = some ⟨b, off, none⟩ ∧ b < w.heap.size ∧ w.cell? ⟨b, off + i, none⟩ = some (.int .u32 d) := by
  obtain ⟨b, off, e, hb, hc⟩ := h i _ (cells32_get hd)
  exact ⟨b, off, e, hb, hc⟩
/-- The first k of two lists are the same. -/
def Eqs (a b : List Int) (k : Nat) : Prop := ∀ j, j < k → a[j]? = b[j]?
theorem Eqs.all {a b : List Int} {n : Nat} (h : Eqs a b n) (ha : a.length = n) (hb : b.length = n) : a = b := by
  apply List.ext_getElem?
  intro j
  rcases Nat.lt_or_ge j n with g | g
  · exact h j g
  · rw [List.getElem?_eq_none (by omega), List.getElem?_eq_none (by omega)]
def BoolPost (p : Bool) (w : World) (e : Ending) (w' : World) : Prop := e = .returned (.bool p) ∧ Below w.heap.size w w'
/-- Are two instructions the same? -/
def sameZ (i k : I) : Bool := decide (i.op = k.op) && decide (i.a = k.a) && decide (i.b = k.b) && decide (i.l = k.l)
theorem below_twoI (w : World) (i k : I) (A B : Option Addr) (c d : Nat) : Below w.heap.size w ((w.alloc (.cells (insC i A c) 25)).alloc (.cells (insC k B d) 25)) := (below_box w _).alloc (by simp) _
theorem same_no {i k : I} {w W : World} (h : ¬ (i.op = k.op ∧ i.a = k.a ∧ i.b = k.b ∧ i.l = k.l)) (hb : Below w.heap.size w W) : BoolPost (sameZ i k) w (.returned (.bool false)) W := by
  refine ⟨ret_bool ?_, hb⟩
  unfold sameZ
  by_cases h1 : i.op = k.op
  · by_cases h2 : i.a = k.a
    · by_cases h3 : i.b = k.b
      · have h4 : ¬ i.l = k.l := fun e => h ⟨h1, h2, h3, e⟩
        simp [h4]
      · simp [h3]
    · simp [h2]
  · simp [h1]
theorem op_ne {a b : UInt8} (h : a ≠ b) : ((a.toNat : Int) == b.toNat) = false := by
  simp
  intro e
  exact h (UInt8.toNat_inj.1 (by omega))
theorem op_eq (a : UInt8) : ((a.toNat : Int) == a.toNat) = true := by simp
set_option maxHeartbeats 2000000 in
theorem refSame_any {w : World} {A B : Option Addr} {c d : Nat} {i k : I} (ha : LiesL w A i.l) (hb : LiesL w B k.l) (na : i.l.length ≤ 100000) (nb : k.l.length ≤ 100000) :
    Calls Tryd.prog 11 #[insV i A c, insV k B d] w (BoolPost (sameZ i k) w) := by
  have HB2 := Lib.hid (below_twoI w i k A B c d)
  have HA := Lib.hid (ha.below HB2.out)
  have HB := Lib.hid (hb.below HB2.out)
  clear ha hb
  by_cases h1 : i.op = k.op
  · have d1 : ((i.op.toNat : Int) != k.op.toNat) = false := by rw [h1]; simp
    by_cases h2 : i.a = k.a
    · have d2 : (i.a != k.a) = false := by simpa using h2
      by_cases h3 : i.b = k.b
      · have d3 : (i.b != k.b) = false := by simpa using h3
        have HE := Lib.hid (show sameZ i k = decide (i.l = k.l) by unfold sameZ; simp [h1, h2, h3])
        by_cases h4 : i.l.length = k.l.length
        · have d4 : ((i.l.length : Int) != k.l.length) = false := by rw [h4]; simp
          have HL := Lib.hid h4
          clear h1 h2 h3 h4
          go_enter Tryd.func11, Tryd.ntmps11
          go_wp2
          generalize hW : ((w.alloc (.cells (insC i A c) 25)).alloc (.cells (insC k B d) 25)) = W at *
          have x3 : W.cell? ⟨w.heap.size, 3, none⟩ = some (.slice A i.l.length c) := by rw [← hW]; exact ((Whole.made w 25 (insC i A c)).alloc _).cell 3
          have y3 : W.cell? ⟨w.heap.size + 1, 3, none⟩ = some (.slice B k.l.length d) := by
            rw [← hW]
            have := Whole.made (w.alloc (.cells (insC i A c) 25)) 25 (insC k B d)
            rw [size_box] at this
            exact this.cell 3
          clear hW
          go_loopw [5] (fun s wr => ∃ j q : Nat, j ≤ i.l.length ∧ s = .int .i64 j ∧ wr = W.drewN q ∧ Eqs i.l k.l j) (fun s _ => i.l.length - (intOf s).toNat)
          case atStart => exact ⟨0, 0, Nat.zero_le _, rfl, rfl, fun j hj => absurd hj (Nat.not_lt_zero _)⟩
          case round =>
            obtain ⟨j, q, hj, rfl, rfl, heq⟩ := hrel
            by_cases hlt : j < i.l.length
            · obtain ⟨x, hx⟩ : ∃ x, i.l[j]? = some x := ⟨_, List.getElem?_eq_getElem hlt⟩
              obtain ⟨y, hy⟩ : ∃ y, k.l[j]? = some y := ⟨_, List.getElem?_eq_getElem (by rw [← HL.out]; exact hlt)⟩
              obtain ⟨b1, o1, rfl, _, g1⟩ := HA.out.at hx
              obtain ⟨b2, o2, rfl, _, g2⟩ := HB.out.at hy
              have hlt2 : j < k.l.length := by rw [← HL.out]; exact hlt
              have HE2 := Lib.hid heq
              have HX := Lib.hid hx
              have HY := Lib.hid hy
              clear heq hx hy
              by_cases hxy : x = y
              · have HXY := Lib.hid hxy
                have hc : (x != y) = false := by simpa using hxy
                clear hxy
                go_wp2_with fail
                go_region
                go_wp2
                go_roundw
                case measure => simp [intOf]; omega
                case rel =>
                  refine ⟨j + 1, q + 1, by omega, by go_num, rfl, fun u hu => ?_⟩
                  by_cases e : u = j
                  · subst e
                    rw [HX.out, HY.out, HXY.out]
                  · exact HE2.out u (by omega)
              · have HXY := Lib.hid hxy
                have hc : (x != y) = true := by simpa using hxy
                clear hxy
                go_wp2_with fail
                go_region
                go_wp2
                go_ret
                refine ⟨ret_bool ?_, below_drewN HB2.out _⟩
                have : ¬ i.l = k.l := fun e => HXY.out (by have h1 := HX.out; have h2 := HY.out; rw [e, h2] at h1; injection h1 with h1; exact h1.symm)
                rw [HE.out, decide_eq_false this]
            · have hjj : j = i.l.length := by omega
              subst hjj
              have hab : i.l = k.l := heq.all rfl HL.out.symm
              clear heq
              go_wp2
              go_ret
              exact ⟨ret_bool (by rw [HE.out, decide_eq_true hab]), below_drewN HB2.out _⟩
        · have d4 : ((i.l.length : Int) != k.l.length) = true := by simp; omega
          have HNO := Lib.hid (fun W hb => same_no (i := i) (k := k) (w := w) (W := W) (fun h => h4 (by rw [h.2.2.2])) hb)
          clear h1 h2 h3 h4
          go_enter Tryd.func11, Tryd.ntmps11
          go_wp2
          go_ret
          exact HNO.out _ HB2.out
      · have d3 : (i.b != k.b) = true := by simpa using h3
        have HNO := Lib.hid (fun W hb => same_no (i := i) (k := k) (w := w) (W := W) (fun h => h3 h.2.2.1) hb)
        clear h1 h2 h3
        go_enter Tryd.func11, Tryd.ntmps11
        go_wp2
        go_ret
        exact HNO.out _ HB2.out
    · have d2 : (i.a != k.a) = true := by simpa using h2
      have HNO := Lib.hid (fun W hb => same_no (i := i) (k := k) (w := w) (W := W) (fun h => h2 h.2.1) hb)
      clear h1 h2
      go_enter Tryd.func11, Tryd.ntmps11
      go_wp2
      go_ret
      exact HNO.out _ HB2.out
  · have d1 : ((i.op.toNat : Int) != k.op.toNat) = true := by have := op_ne h1; simp at this ⊢; exact this
    have HNO := Lib.hid (fun W hb => same_no (i := i) (k := k) (w := w) (W := W) (fun h => h1 h.1) hb)
    clear h1
    go_enter Tryd.func11, Tryd.ntmps11
    go_wp2
    go_ret
    exact HNO.out _ HB2.out
end Go.Proofs.YtjjhgmmkapeifaaDoor

/- types.Cut, Zero; creelref04.Cut; types.EncodeGlobal, creelref04.EncodeGlobal. -/
namespace Go.Proofs.YtjjhgmmkapeifaaDoor
set_option linter.unusedVariables false
set_option maxRecDepth 100000
open Go.RowKit

/-- A value, by its type and number. -/
abbrev vv (t n : Int) : Value := .agg #[.int .u8 t, .int .u64 n]
def cutZ (t n : Int) : Int := if t = 127 then n % 4294967296 else n
def rightB (t n : Int) : Bool := decide (valueZ t = 0) && decide (cutZ t n = n)
theorem and_low (n : Int) (h0 : 0 ≤ n) (h1 : n ≤ 18446744073709551615) : bits .and .u64 n 4294967295 = n % 4294967296 := by
  have e1 : (BitVec.ofInt 64 n).toNat = n.toNat := by
    rw [BitVec.toNat_ofInt]
    show (n % 18446744073709551616).toNat = _
    rw [Int.emod_eq_of_lt h0 (by omega)]
  have e2 : (BitVec.ofInt 64 4294967295).toNat = 2 ^ 32 - 1 := by decide
  show IntKind.u64.wrap ((BitVec.ofInt 64 n &&& BitVec.ofInt 64 4294967295).toNat : Nat) = _
  rw [BitVec.toNat_and, e1, e2, Nat.and_two_pow_sub_one_eq_mod]
  simp only [IntKind.wrap, IntKind.bits, IntKind.signed]
  simp
  omega

theorem below_two (w : World) (o o' : Obj) : Below w.heap.size w ((w.alloc o).alloc o') := (below_box w o).alloc (by simp) _
theorem refCut_any (t n : Int) (w : World) (n0 : 0 ≤ n) (n1 : n ≤ 18446744073709551615) : Calls Tryd.prog 24 #[vv t n] w fun e w' => e = .returned (vv t (cutZ t n)) ∧ Below w.heap.size w w' := by
  by_cases h : t = 127
  · subst h
    have he : cutZ 127 n = n % 4294967296 := rfl
    rw [he]
    clear he
    go_enter Tryd.func24, Tryd.ntmps24
    go_wp2
    exact bodyPost_ret (v := vv 127 (n % 4294967296)) (by simp [results, Tryd.results24, go_sem]) rfl ⟨rfl, below_two _ _ _⟩
  · have hb : (t == 127) = false := by simpa using h
    have he : cutZ t n = n := by unfold cutZ; rw [if_neg h]
    rw [he]
    clear he h
    go_enter Tryd.func24, Tryd.ntmps24
    go_wp2
    exact bodyPost_ret (v := vv t n) (by simp [results, Tryd.results24, go_sem]) rfl ⟨rfl, below_two _ _ _⟩
/-- A global's type, by value. -/
abbrev gv (t : Int) (m : Bool) : Value := .agg #[.int .u8 t, .bool m]
theorem two_of {w W W' : World} {u v : Value} {t : TypeId} (h : Boxed w (.cells #[u, v] t) W ∧ W.cell? ⟨w.heap.size, 0, none⟩ = some u ∧ W.cell? ⟨w.heap.size, 1, none⟩ = some v) (hb : Below W.heap.size W W') :
    Boxed w (.cells #[u, v] t) W' ∧ W'.cell? ⟨w.heap.size, 0, none⟩ = some u ∧ W'.cell? ⟨w.heap.size, 1, none⟩ = some v := ⟨h.1.on hb, (h.1.on hb).row 0, (h.1.on hb).row 1⟩
theorem encG_new (w : World) (t : Int) (m : Bool) (h0 : 0 ≤ t) (h1 : t ≤ 255) (B H : Nat) (hH : w.heap.size = H) (hb : B ≤ H) :
    Row (w.alloc (.cells #[.int .u8 t, .int .u8 (if m then 1 else 0)] 5)) B (.slice (some ⟨H, 0, none⟩) 2 2) (encG t m) := by
  have h := Row.made w (encG t m) B H hH hb (by simp [encG])
  rw [nums_encG t m h0 h1] at h
  exact h
theorem encG_str (w : World) (t : Int) (m : Bool) (h0 : 0 ≤ t) (h1 : t ≤ 255) (H : Nat) (hH : w.heap.size = H) :
    ∀ dst, Tryd.prog.underlying dst = some .string → (convert 29 dst (.slice (some ⟨H, 0, none⟩) 2 2)).run Tryd.prog (w.alloc (.cells #[.int .u8 t, .int .u8 (if m then 1 else 0)] 5)) = .ok (.string (S (encG t m))) (w.alloc (.cells #[.int .u8 t, .int .u8 (if m then 1 else 0)] 5)) := by
  obtain ⟨A, c, e, hs⟩ := (encG_new w t m h0 h1 H H hH (Nat.le_refl _)).str
  injection e with e1 e2 e3
  subst e1; subst e3
  exact hs
end Go.Proofs.YtjjhgmmkapeifaaDoor

/- The walk of ConstsReads. -/
namespace Go.Proofs.YtjjhgmmkapeifaaDoor
open Go.RowKit
set_option linter.unusedVariables false
set_option maxRecDepth 100000

theorem cfR (cap : Array Value) (w : World) : (callFunc 15 cap).run Tryd.prog w = .ok (.enter 15 cap) w := by kernel_rfl
/-- The law's closure, of bytes that begin with a constant expression. -/
theorem rclos_ok {w : World} {b7 p : Nat} {l : List UInt8} {k k' : Nat} {i : I} (hr : readR l k = .ok i k') (hs : Sc w p l k) (hT : TbP p w) (h7 : Whole w b7 38 #[.pointer (some ⟨p, 0, none⟩)]) :
    Calls Tryd.prog 15 #[.pointer (some ⟨b7, 0, none⟩)] w fun e w' => ∃ x : I × Option Addr × Nat, e = .returned (insV x.1 x.2.1 x.2.2) ∧ KeepI p l i k' w.heap.size x w' ∧ w.grownBy w' (some p) := by
  have hlt := hs.lt
  have hG := cread_any (hs.alloc (.cells #[.int .u8 0, .int .u64 0, .int .u64 0, .slice none 0 0] 25)) (hT.below (below_box w _) (Nat.le_of_lt hlt))
  rw [hr] at hG
  have HG := Lib.hid (show Calls Tryd.prog 16 #[.pointer (some ⟨p, 0, none⟩)] (w.alloc (.cells #[.int .u8 0, .int .u64 0, .int .u64 0, .slice none 0 0] 25)) (Gets p l i k' (w.alloc (.cells #[.int .u8 0, .int .u64 0, .int .u64 0, .slice none 0 0] 25))) from hG)
  have HWM := Lib.hid (Whole.made w 25 #[.int .u8 0, .int .u64 0, .int .u64 0, .slice none 0 0])
  have c7 := (h7.alloc (.cells #[.int .u8 0, .int .u64 0, .int .u64 0, .slice none 0 0] 25)).cell 0
  simp only [List.getElem?_toArray, List.getElem?_cons_zero] at c7
  clear hr hs hT hG h7
  go_enter Tryd.func15, Tryd.ntmps15
  go_wp2_with (go_at_call 16; go_must ((with_reducible refine HG.out.mono ?_); intro e w2 h; obtain ⟨A, c, rfl, hla, hfar, hs, hg, _⟩ := h; have HR := Lib.hid (HWM.out.grown hg (by simp only [ne_eq, Option.some.injEq]; omega)); have r0 := HR.out.cell 0; have r1 := HR.out.cell 1; have r2 := HR.out.cell 2; have r3 := HR.out.cell 3; have z0 := HR.out.frozen 0; have z1 := HR.out.frozen 1; have z2 := HR.out.frozen 2; have z3 := HR.out.frozen 3; simp only [List.getElem?_toArray, List.getElem?_cons_zero, List.getElem?_cons_succ] at r0 r1 r2 r3; have HS := Lib.hid hs; have HG2 := Lib.hid hg; have HLA := Lib.hid hla; have HF := Lib.hid hfar; clear hs hg hla hfar))
  obtain ⟨q, g⟩ := put4 (u0 := .int .u8 i.op.toNat) (u1 := .int .u64 i.a) (u2 := .int .u64 i.b) (u3 := .slice A i.l.length c) HR.out
  have q0 := q.cell 0
  have q1 := q.cell 1
  have q2 := q.cell 2
  have q3 := q.cell 3
  simp only [List.getElem?_toArray, List.getElem?_cons_zero, List.getElem?_cons_succ] at q0 q1 q2 q3
  refine bodyPost_ret (v := insV i A c) (by simp [results, Tryd.results15, go_sem, q0, q1, q2, q3]) rfl ⟨(i, A, c), rfl, ⟨rfl, ?_, ?_, ?_⟩, ?_⟩
  · exact HS.out.grown g (by simp only [ne_eq, Option.some.injEq]; omega) (fun g e => by injection e with e; omega)
  · exact HLA.out.keep g (fun a ha => by have := HF.out a ha; rw [size_box] at this; omega)
  · intro a ha
    have := HF.out a ha
    rw [size_box] at this
    omega
  · exact gb_before (gb_trans (gb_alloc (gb_refl w _) _) HG2.out) g (fun g e => .inr (by injection e with e; omega))
/-- .. of other bytes. -/
theorem rclos_err {w : World} {b7 p : Nat} {l : List UInt8} {k : Nat} {c a : Int} (hr : readR l k = .err c a) (hs : Sc w p l k) (hT : TbP p w) (h7 : Whole w b7 38 #[.pointer (some ⟨p, 0, none⟩)]) :
    Calls Tryd.prog 15 #[.pointer (some ⟨b7, 0, none⟩)] w fun e w' => e = .panicked (stopP c a) ∧ w.grownBy w' (some p) := by
  have hlt := hs.lt
  have hG := cread_any (hs.alloc (.cells #[.int .u8 0, .int .u64 0, .int .u64 0, .slice none 0 0] 25)) (hT.below (below_box w _) (Nat.le_of_lt hlt))
  rw [hr] at hG
  have HG := Lib.hid (show Calls Tryd.prog 16 #[.pointer (some ⟨p, 0, none⟩)] (w.alloc (.cells #[.int .u8 0, .int .u64 0, .int .u64 0, .slice none 0 0] 25)) (fun e w' => e = .panicked (stopP c a) ∧ (w.alloc (.cells #[.int .u8 0, .int .u64 0, .int .u64 0, .slice none 0 0] 25)).grownBy w' (some p)) from hG)
  have c7 := (h7.alloc (.cells #[.int .u8 0, .int .u64 0, .int .u64 0, .slice none 0 0] 25)).cell 0
  simp only [List.getElem?_toArray, List.getElem?_cons_zero] at c7
  clear hr hs hT hG h7
  go_enter Tryd.func15, Tryd.ntmps15
  go_wp2_with (go_at_call 16; go_must ((with_reducible refine HG.out.mono ?_); rintro e w2 ⟨rfl, hg⟩; have HG2 := Lib.hid hg; clear hg))
  exact ⟨rfl, rfl, gb_trans (gb_alloc (gb_refl w _) _) HG2.out⟩

/-- Both readers are laid: the scanner at p, the reference's at q, the scanner's variable behind it. -/
structure LR (w : World) (p q : Nat) (ms : List UInt8) (M : Option Addr) (cm : Nat) (W : World) : Prop where
  bel : Below w.heap.size w W
  tb : TbP p W
  sc : Sc W p ms 0
  rd : Whole W q 42 #[.slice M ms.length cm, .int .i64 0, .int .i64 0, .int .i64 0]
  vr : Whole W (q + 1) 38 #[.pointer (some ⟨p, 0, none⟩)]
  lo : w.heap.size ≤ p
  pq : p < q
  qz : q + 2 ≤ W.heap.size
theorem LR.of {w w1 w2 : World} {p : Nat} {ms : List UInt8} {M : Option Addr} {cm : Nat} (hT : Tabs w1) (hb1 : Below w.heap.size w w1) (hb2 : Below w1.heap.size w1 w2) (hp : w1.heap.size ≤ p) (hs : Sc w2 p ms 0) :
    LR w p w2.heap.size ms M cm ((w2.alloc (.cells #[.slice M ms.length cm, .int .i64 0, .int .i64 0, .int .i64 0] 42)).alloc (.cells #[.pointer (some ⟨p, 0, none⟩)] 38)) := by
  have hv := Whole.made (w2.alloc (.cells #[.slice M ms.length cm, .int .i64 0, .int .i64 0, .int .i64 0] 42)) 38 #[.pointer (some ⟨p, 0, none⟩)]
  rw [size_box] at hv
  have hz := hb1.size
  have hz2 := hb2.size
  have hb3 : Below w2.heap.size w2 ((w2.alloc (.cells #[.slice M ms.length cm, .int .i64 0, .int .i64 0, .int .i64 0] 42)).alloc (.cells #[.pointer (some ⟨p, 0, none⟩)] 38)) := below_two w2 _ _
  exact ⟨hb1.trans ((hb2.mono hz).trans (hb3.mono (by omega))), ⟨w1, hT, hp, hb2.trans (hb3.mono hz2)⟩, (hs.alloc _).alloc _, (Whole.made w2 _ _).alloc _, hv, by omega, hs.lt, by simp⟩
theorem valueR_err {w : World} {p q : Nat} {ms : List UInt8} {M : Option Addr} {cm : Nat} {W : World} {c a : Int} (h : LR w p q ms M cm W) (hc : ¬ c = 0) (hr : readR ms 0 = .err c a) :
    Calls Tryd.prog 14 #[.func (.func 15) #[] #[.pointer (some ⟨q + 1, 0, none⟩)]] W fun e w' => e = .returned (.tuple #[.agg #[.int .u8 0, .int .u64 0, .int .u64 0, .slice none 0 0], .agg #[.int .i64 c, .int .i64 a]]) ∧ W.grownBy w' (some p) := by
  have h1 := h.pq
  have h2 := h.qz
  exact valueE_any hc (cfR _) (by omega) (fun W' hW hz => rclos_err hr (h.sc.below hW) (h.tb.below hW (by omega)) (h.vr.below hW))
theorem valueR_ok {w : World} {p q : Nat} {ms : List UInt8} {M : Option Addr} {cm : Nat} {W : World} {i : I} {k' : Nat} (h : LR w p q ms M cm W) (hr : readR ms 0 = .ok i k') :
    Calls Tryd.prog 14 #[.func (.func 15) #[] #[.pointer (some ⟨q + 1, 0, none⟩)]] W fun e w' => ∃ x : I × Option Addr × Nat, e = .returned (.tuple #[insV x.1 x.2.1 x.2.2, .agg #[.int .i64 0, .int .i64 0]]) ∧ KeepI p ms i k' (W.heap.size + 5) x w' ∧ W.grownBy w' (some p) := by
  have h1 := h.pq
  have h2 := h.qz
  refine valueI_ok (cfR _) (by omega) (fun x W1 W2 b g1 g2 hx hg => hx.on hg (by omega) (by omega)) (fun W' hW hz => ?_)
  refine (rclos_ok hr (h.sc.below hW) (h.tb.below hW (by omega)) (h.vr.below hW)).mono ?_
  rintro e w' ⟨x, rfl, hx, hg⟩
  obtain ⟨g1, g2, g3, g4⟩ := hx
  exact ⟨x, rfl, ⟨g1, g2, g3, fun a ha => by have := g4 a ha; omega⟩, hg⟩
/-- The reference's reader, once the program's has read. -/
theorem LR.ref {w : World} {p q : Nat} {ms : List UInt8} {M : Option Addr} {cm : Nat} {W W4 : World} (h : LR w p q ms M cm W) (hg : W.grownBy W4 (some p)) (hm : Lies w w.heap.size M (cells (nums ms))) (hc : ms.length ≤ cm) (hx : cm ≤ maxLen) (o o' : Obj) :
    Rs ((W4.alloc o).alloc o') q ms (.at 0) ∧ Below w.heap.size w ((W4.alloc o).alloc o') := by
  have h1 := h.pq
  have h2 := h.lo
  have hz := hg.size
  have h3 := h.qz
  have hb4 : Below w.heap.size w W4 := Below.grown h.bel hg h.bel.size (fun g e => by injection e with e; omega)
  have hz0 := hb4.size
  have hb5 : Below w.heap.size w ((W4.alloc o).alloc o') := hb4.trans ((below_two W4 o o').mono hz0)
  have hr := ((h.rd.grown hg (by simp only [ne_eq, Option.some.injEq]; omega)).alloc o).alloc o'
  exact ⟨⟨M, cm, 0, hr, (hm.below hb5 (Nat.le_refl _)).more (by omega), hc, hx, rfl, Nat.zero_le _⟩, hb5⟩

/-- At the law's end, of bytes that are no constant expression: the Stop at b6, the instruction at b5, the reference's reader at q. -/
structure EndE (w : World) (b5 b6 q : Nat) (c a : Int) (u0 u1 : Value) (W : World) : Prop where
  bel : Below w.heap.size w W
  x : Whole W b5 25 #[.int .u8 0, .int .u64 0, .int .u64 0, .slice none 0 0]
  s : Whole W b6 44 #[.int .i64 c, .int .i64 a]
  r : Whole W q 42 #[u0, u1, .int .i64 c, .int .i64 a]
theorem EndE.on {w : World} {b5 b6 q : Nat} {c a : Int} {u0 u1 : Value} {W W' : World} (h : EndE w b5 b6 q c a u0 u1 W) (hb : Below W.heap.size W W') : EndE w b5 b6 q c a u0 u1 W' :=
  ⟨h.bel.trans (hb.mono h.bel.size), h.x.below hb, h.s.below hb, h.r.below hb⟩
abbrev CellsE (b5 b6 q : Nat) (c a : Int) (W : World) : Prop :=
  (W.cell? ⟨b5, 0, none⟩ = some (.int .u8 0) ∧ W.cell? ⟨b5, 1, none⟩ = some (.int .u64 0) ∧ W.cell? ⟨b5, 2, none⟩ = some (.int .u64 0) ∧ W.cell? ⟨b5, 3, none⟩ = some (.slice none 0 0)) ∧
  (W.cell? ⟨b6, 0, none⟩ = some (.int .i64 c) ∧ W.cell? ⟨b6, 1, none⟩ = some (.int .i64 a)) ∧ W.cell? ⟨q, 2, none⟩ = some (.int .i64 c) ∧ W.cell? ⟨q, 3, none⟩ = some (.int .i64 a)
theorem EndE.cells {w : World} {b5 b6 q : Nat} {c a : Int} {u0 u1 : Value} {W : World} (h : EndE w b5 b6 q c a u0 u1 W) : EndE w b5 b6 q c a u0 u1 W ∧ CellsE b5 b6 q c a W :=
  ⟨h, ⟨h.x.cell 0, h.x.cell 1, h.x.cell 2, h.x.cell 3⟩, ⟨h.s.cell 0, h.s.cell 1⟩, h.r.cell 2, h.r.cell 3⟩
/-- .. of bytes that begin with one. -/
structure EndO (w : World) (b5 b6 b8 p q : Nat) (ms : List UInt8) (i : I) (A2 : Option Addr) (c2 : Nat) (A3 : Option Addr) (c3 k : Nat) (W : World) : Prop where
  bel : Below w.heap.size w W
  x : Whole W b5 25 (insC i A2 c2)
  s : Whole W b6 44 #[.int .i64 0, .int .i64 0]
  y : Whole W b8 25 (insC i A3 c3)
  v : Whole W (q + 1) 38 #[.pointer (some ⟨p, 0, none⟩)]
  sc : Sc W p ms k
  r : Rs W q ms (.at k)
  l2 : LiesL W A2 i.l
  l3 : LiesL W A3 i.l
theorem EndO.on {w : World} {b5 b6 b8 p q : Nat} {ms : List UInt8} {i : I} {A2 : Option Addr} {c2 : Nat} {A3 : Option Addr} {c3 k : Nat} {W W' : World} (h : EndO w b5 b6 b8 p q ms i A2 c2 A3 c3 k W) (hb : Below W.heap.size W W') : EndO w b5 b6 b8 p q ms i A2 c2 A3 c3 k W' :=
  ⟨h.bel.trans (hb.mono h.bel.size), h.x.below hb, h.s.below hb, h.y.below hb, h.v.below hb, h.sc.below hb, h.r.below hb, h.l2.below hb, h.l3.below hb⟩
abbrev CellsO (b5 b6 b8 p q : Nat) (i : I) (A2 : Option Addr) (c2 : Nat) (A3 : Option Addr) (c3 k : Nat) (W : World) : Prop :=
  (W.cell? ⟨b5, 0, none⟩ = some (.int .u8 i.op.toNat) ∧ W.cell? ⟨b5, 1, none⟩ = some (.int .u64 i.a) ∧ W.cell? ⟨b5, 2, none⟩ = some (.int .u64 i.b) ∧ W.cell? ⟨b5, 3, none⟩ = some (.slice A2 i.l.length c2)) ∧
  (W.cell? ⟨b8, 0, none⟩ = some (.int .u8 i.op.toNat) ∧ W.cell? ⟨b8, 1, none⟩ = some (.int .u64 i.a) ∧ W.cell? ⟨b8, 2, none⟩ = some (.int .u64 i.b) ∧ W.cell? ⟨b8, 3, none⟩ = some (.slice A3 i.l.length c3)) ∧
  W.cell? ⟨b6, 0, none⟩ = some (.int .i64 0) ∧ W.cell? ⟨q + 1, 0, none⟩ = some (.pointer (some ⟨p, 0, none⟩)) ∧ W.cell? ⟨q, 1, none⟩ = some (.int .i64 k)
theorem EndO.cells {w : World} {b5 b6 b8 p q : Nat} {ms : List UInt8} {i : I} {A2 : Option Addr} {c2 : Nat} {A3 : Option Addr} {c3 k : Nat} {W : World} (h : EndO w b5 b6 b8 p q ms i A2 c2 A3 c3 k W) : EndO w b5 b6 b8 p q ms i A2 c2 A3 c3 k W ∧ CellsO b5 b6 b8 p q i A2 c2 A3 c3 k W :=
  ⟨h, ⟨h.x.cell 0, h.x.cell 1, h.x.cell 2, h.x.cell 3⟩, ⟨h.y.cell 0, h.y.cell 1, h.y.cell 2, h.y.cell 3⟩, h.s.cell 0, h.v.cell 0, at_at h.r⟩
theorem opR_nz {l : List UInt8} {k : Nat} {c a : Int} (h : opR l k = .err c a) : c ≠ 0 := by
  unfold opR at h
  cases hr : byteR l k with
  | err e b => rw [hr, Res.bind_err] at h; injection h with h1 h2; have := byteR_nz hr; omega
  | ok d p =>
    rw [hr, Res.bind_ok] at h
    by_cases hd : checkR d.toNat = 0
    · rw [if_pos hd] at h; cases h
    · rw [if_neg hd] at h; injection h with h1 h2; omega
theorem blockR_nz {l : List UInt8} {k : Nat} {c a : Int} (h : blockR l k = .err c a) : c ≠ 0 := by
  unfold blockR at h
  cases hr : byteR l k with
  | err e b => rw [hr, Res.bind_err] at h; injection h with h1 h2; have := byteR_nz hr; omega
  | ok d p =>
    rw [hr, Res.bind_ok] at h
    by_cases hd : blockZ d.toNat = 0
    · rw [if_pos hd] at h; cases h
    · rw [if_neg hd] at h; injection h with h1 h2; omega
theorem idxK_nz {l : List UInt8} {c a : Int} : ∀ (n q : Nat) (acc : List Int), idxK l n q acc = .err c a → c ≠ 0
  | 0, q, acc, h => by cases h
  | n + 1, q, acc, h => by
    unfold idxK at h
    cases hr : indexR l q with
    | err e b => rw [hr, Res.bind_err] at h; injection h with h1 h2; have := indexR_nz hr; omega
    | ok x p => rw [hr, Res.bind_ok] at h; exact idxK_nz n p _ h
theorem labelsR_nz {l : List UInt8} {k : Nat} {c a : Int} (h : labelsR l k = .err c a) : c ≠ 0 := by
  unfold labelsR at h
  cases hr : countR l k with
  | err e b =>
    rw [hr, Res.bind_err] at h
    injection h with h1 h2
    unfold countR atMostR at hr
    cases hi : indexR l k with
    | err e2 b2 => rw [hi, Res.bind_err] at hr; injection hr with h3 h4; have := indexR_nz hi; omega
    | ok v p =>
      rw [hi, Res.bind_ok] at hr
      by_cases hv : v ≤ 10000
      · rw [if_pos hv] at hr; cases hr
      · rw [if_neg hv] at hr; injection hr with h3 h4; omega
  | ok v p => rw [hr, Res.bind_ok] at h; exact idxK_nz _ _ _ h
theorem bind_nz {α β : Type} {r : Res α} {f : α → Nat → Res β} {c a : Int} (h : r.bind f = .err c a) (h1 : ∀ c a, r = .err c a → c ≠ 0) (h2 : ∀ v k c a, f v k = .err c a → c ≠ 0) : c ≠ 0 := by
  cases r with
  | err e b => rw [Res.bind_err] at h; injection h with g1 g2; subst g1; exact h1 _ _ rfl
  | ok v k => rw [Res.bind_ok] at h; exact h2 v k c a h
theorem bodyR_nz {l : List UInt8} {m : Nat} {o : UInt8} {k : Nat} {c a : Int} (h : bodyR m o l k = .err c a) : c ≠ 0 := by
  have no : ∀ {i : I} {k : Nat} {c a : Int}, Res.ok i k = .err c a → c ≠ 0 := fun h => by cases h
  unfold bodyR at h
  repeat' split at h
  · cases h
  · exact bind_nz h (fun _ _ => blockR_nz) (fun _ _ _ _ h => no h)
  · exact bind_nz h (fun _ _ => labelsR_nz) (fun _ _ _ _ h => bind_nz h (fun _ _ => indexR_nz) (fun _ _ _ _ h => no h))
  · exact bind_nz h (fun _ _ => indexR_nz) (fun _ _ _ _ h => bind_nz h (fun _ _ => noughtR_nz) (fun _ _ _ _ h => no h))
  · exact bind_nz h (fun _ _ => indexR_nz) (fun _ _ _ _ h => bind_nz h (fun _ _ => indexR_nz) (fun _ _ _ _ h => no h))
  · exact bind_nz h (fun _ _ => noughtR_nz) (fun _ _ _ _ h => no h)
  · exact bind_nz h (fun _ _ => intR_nz) (fun _ _ _ _ h => no h)
  · exact bind_nz h (fun _ _ => intR_nz) (fun _ _ _ _ h => no h)
  · exact bind_nz h (fun _ _ => indexR_nz) (fun _ _ _ _ h => no h)
theorem readR_err {l : List UInt8} {k : Nat} {c a : Int} (h : readR l k = .err c a) : ¬ c = 0 := by
  unfold readR at h
  refine bind_nz h (fun c a h => ?_) (fun i k1 c a h => ?_)
  · unfold getR at h
    exact bind_nz h (fun _ _ => opR_nz) (fun _ _ _ _ => bodyR_nz)
  · by_cases hz : crightZ i = 0
    · rw [if_pos hz] at h
      refine bind_nz h (fun _ _ => byteR_nz) (fun d k2 c a h => ?_)
      by_cases hd : d = 11
      · rw [if_pos hd] at h; cases h
      · rw [if_neg hd] at h; injection h with h1 h2; omega
    · rw [if_neg hz] at h; injection h with h1 h2; omega
theorem readR_len {l : List UInt8} {k : Nat} {i : I} {k' : Nat} (h : readR l k = .ok i k') : i.l.length ≤ 10000 := by
  unfold readR at h
  cases hr : getR l k with
  | err c a => rw [hr, Res.bind_err] at h; cases h
  | ok j p =>
    rw [hr, Res.bind_ok] at h
    by_cases hz : crightZ j = 0
    · rw [if_pos hz] at h
      cases hb : byteR l p with
      | err c a => rw [hb, Res.bind_err] at h; cases h
      | ok d p2 =>
        rw [hb, Res.bind_ok] at h
        by_cases hd : d = 11
        · rw [if_pos hd] at h
          injection h with h1 h2
          subst h1
          exact (getR_ok hr).2.1
        · rw [if_neg hd] at h; cases h
    · rw [if_neg hz] at h; cases h
theorem zero_same (w : World) : Calls Tryd.prog 11 #[.agg #[.int .u8 0, .int .u64 0, .int .u64 0, .slice none 0 0], .agg #[.int .u8 0, .int .u64 0, .int .u64 0, .slice none 0 0]] w (BoolPost true w) := by
  have := refSame_any (w := w) (A := none) (B := none) (c := 0) (d := 0) (i := ⟨0, 0, 0, []⟩) (k := ⟨0, 0, 0, []⟩) (fun j v hv => by simp [cells32] at hv) (fun j v hv => by simp [cells32] at hv) (by simp) (by simp)
  rw [show sameZ ⟨0, 0, 0, []⟩ ⟨0, 0, 0, []⟩ = true by unfold sameZ; simp] at this
  exact this
theorem EndE.of {w : World} {p q : Nat} {ms : List UInt8} {M : Option Addr} {cm : Nat} {W W4 w6 : World} {c a : Int} (h : LR w p q ms M cm W) (hg : W.grownBy W4 (some p))
    (hb5 : Below w.heap.size w ((W4.alloc (.cells #[.int .u8 0, .int .u64 0, .int .u64 0, .slice none 0 0] 25)).alloc (.cells #[.int .i64 c, .int .i64 a] 44)))
    (hr : Rs w6 q ms (.bad c a)) (hg6 : ((W4.alloc (.cells #[.int .u8 0, .int .u64 0, .int .u64 0, .slice none 0 0] 25)).alloc (.cells #[.int .i64 c, .int .i64 a] 44)).grownBy w6 (some q)) (o : Obj) :
    ∃ u0 u1, EndE w W4.heap.size (W4.heap.size + 1) q c a u0 u1 (w6.alloc o) := by
  have h1 := h.pq
  have h2 := h.lo
  have h3 := h.qz
  have hz := hg.size
  have hz5 := hb5.size
  obtain ⟨A, cap, j, hw, _, _, _, _⟩ := hr.badly
  have hs := Whole.made (W4.alloc (.cells #[.int .u8 0, .int .u64 0, .int .u64 0, .slice none 0 0] 25)) 44 #[.int .i64 c, .int .i64 a]
  rw [size_box] at hs
  have hb6 : Below w.heap.size w w6 := Below.grown hb5 hg6 hz5 (fun g e => by injection e with e; omega)
  exact ⟨_, _, hb6.alloc hb6.size _, (((Whole.made W4 _ _).alloc _).grown hg6 (by simp only [ne_eq, Option.some.injEq]; omega)).alloc _, (hs.grown hg6 (by simp only [ne_eq, Option.some.injEq]; omega)).alloc _, hw.alloc _⟩
theorem EndO.of {w : World} {p q : Nat} {ms : List UInt8} {M : Option Addr} {cm : Nat} {W W4 w6 : World} {i : I} {A2 A3 : Option Addr} {c2 c3 k : Nat} (h : LR w p q ms M cm W) (hg : W.grownBy W4 (some p))
    (hb5 : Below w.heap.size w ((W4.alloc (.cells (insC i A2 c2) 25)).alloc (.cells #[.int .i64 0, .int .i64 0] 44)))
    (hs4 : Sc W4 p ms k) (hl2 : Lies W4 W4.heap.size A2 (cells32 i.l)) (hf2 : ∀ a, A2 = some a → W.heap.size + 5 ≤ a.block)
    (hr : Rs w6 q ms (.at k)) (hl3 : Lies w6 w6.heap.size A3 (cells32 i.l)) (hg6 : ((W4.alloc (.cells (insC i A2 c2) 25)).alloc (.cells #[.int .i64 0, .int .i64 0] 44)).grownBy w6 (some q)) :
    EndO w W4.heap.size (W4.heap.size + 1) w6.heap.size p q ms i A2 c2 A3 c3 k (w6.alloc (.cells (insC i A3 c3) 25)) := by
  have h1 := h.pq
  have h2 := h.lo
  have h3 := h.qz
  have hz := hg.size
  have hz5 := hb5.size
  have hs := Whole.made (W4.alloc (.cells (insC i A2 c2) 25)) 44 #[.int .i64 0, .int .i64 0]
  rw [size_box] at hs
  have hb6 : Below w.heap.size w w6 := Below.grown hb5 hg6 hz5 (fun g e => by injection e with e; omega)
  have hl2' := (lies_box (lies_box hl2 (.cells (insC i A2 c2) 25)) (.cells #[.int .i64 0, .int .i64 0] 44)).keep hg6 (fun a ha => by have := hf2 a ha; omega)
  exact ⟨hb6.alloc hb6.size _, (((Whole.made W4 _ _).alloc _).grown hg6 (by simp only [ne_eq, Option.some.injEq]; omega)).alloc _, (hs.grown hg6 (by simp only [ne_eq, Option.some.injEq]; omega)).alloc _, Whole.made _ _ _,
    ((((h.vr.grown hg (by simp only [ne_eq, Option.some.injEq]; omega)).alloc _).alloc _).grown hg6 (by simp only [ne_eq, Option.some.injEq]; omega)).alloc _,
    (((hs4.alloc _).alloc _).grown hg6 (by simp only [ne_eq, Option.some.injEq]; omega) (fun g e => by injection e with e; omega)).alloc _, hr.alloc _, lies_box hl2' _, lies_box hl3 _⟩

set_option maxHeartbeats 4000000 in
theorem lawCR {w : World} {M : Option Addr} {cm : Nat} {ms : List UInt8} (hT : Tabs w) (hm : Lies w w.heap.size M (cells (nums ms))) (hM : M = none → cm = 0) (hc : ms.length ≤ cm) (hx : cm ≤ maxLen) :
    Calls Tryd.prog 4 #[.slice M ms.length cm] w (BoolPost true w) := by
  have nm : (ms.length : Int) ≤ 9223372036854775807 := by unfold maxLen at hx; omega
  have HAW := Lib.hid (cawake_any w hT)
  by_cases g1 : 300 < ms.length
  · have t1 : decide (300 < (ms.length : Int)) = true := decide_eq_true (by omega)
    clear hm hT hx
    go_enter Tryd.func4, Tryd.ntmps4
    go_wp2_with (go_at_call 6; go_must ((with_reducible refine HAW.out.mono ?_); rintro e w1 ⟨rfl, hb⟩; have HB1 := Lib.hid hb; clear hb))
    go_ret
    exact ⟨rfl, HB1.out⟩
  have t1 : decide (300 < (ms.length : Int)) = false := decide_eq_false (by omega)
  have hmf : ∀ (fn : Fn) (first cap : Array Value) (w : World), (Instr.makeFunc fn first cap).run Tryd.prog w = .ok (.func fn first cap) w := fun _ _ _ _ => rfl
  have HO := Lib.hid (fun W (hb : Below w.heap.size w W) => over_any (cap := cm) ((hm.below hb (Nat.le_refl _)).more hb.size) hM (by omega))
  have HT := Lib.hid hT
  have HM := Lib.hid hm
  have HC := Lib.hid hc
  have HX := Lib.hid hx
  clear hT hm hM hc hx g1
  cases hr : readR ms 0 with
  | err c a =>
    have HRF := Lib.hid (fun W q (h : Rs W q ms (.at 0)) => show Calls Tryd.prog 17 #[.pointer (some ⟨q, 0, none⟩)] W fun e w' => e = .returned (.agg #[.int .u8 0, .int .u64 0, .int .u64 0, .slice none 0 0]) ∧ Rs w' q ms (.bad c a) ∧ W.grownBy w' (some q) from by have := refC_any h; rw [hr] at this; exact this)
    have hne : ¬ c = 0 := readR_err hr
    have dw : (c != 0) = true := by simpa using hne
    have HNE := Lib.hid hne
    have HRR := Lib.hid hr
    clear hr hne
    go_enter Tryd.func4, Tryd.ntmps4
    go_wp2_with (first
      | (go_at_call 6; go_must ((with_reducible refine HAW.out.mono ?_); rintro e w1 ⟨rfl, hb⟩; have HB1 := Lib.hid hb; clear hb))
      | (go_at_call 13; go_must ((with_reducible refine (HO.out _ HB1.out).mono ?_); intro e w2 hq; obtain ⟨p, rfl, hp, hs, hb⟩ := hq; have H3 := Lib.hid (LR.of (M := M) (cm := cm) (HT.out.below HB1.out) HB1.out hb hp hs); clear hp hs hb))
      | (go_at_call 14; go_must ((with_reducible refine (valueR_err H3.out HNE.out HRR.out).mono ?_); rintro e w4 ⟨rfl, hg⟩; have H4 := Lib.hid hg; have H5 := Lib.hid (H3.out.ref hg HM.out HC.out HX.out (.cells #[.int .u8 0, .int .u64 0, .int .u64 0, .slice none 0 0] 25) (.cells #[.int .i64 c, .int .i64 a] 44)); clear hg))
      | (go_at_call 17; go_must ((with_reducible refine (HRF.out _ _ H5.out.1).mono ?_); rintro e w6 ⟨rfl, hs, hg⟩; have hend := EndE.of H3.out H4.out H5.out.2 hs hg (.cells #[.int .u8 0, .int .u64 0, .int .u64 0, .slice none 0 0] 25); obtain ⟨u0, u1, hend⟩ := hend; have HE := Lib.hid hend; obtain ⟨-, ⟨x0, x1, x2, x3⟩, ⟨s0, s1⟩, r2, r3⟩ := hend.cells; clear hs hg hend)))
    refine wp_region_noPanic ?_
    refine wp_region_held_drew (S := fun W => EndE w w4.heap.size (w4.heap.size + 1) w2.heap.size c a u0 u1 W ∧ CellsE w4.heap.size (w4.heap.size + 1) w2.heap.size c a W) (by kernel_rfl) (EndE.cells (HE.out.on (Below.refl _ _).drew)) (fun hHeld => ?_)
    (refine heldTake (i := 0) (oi := { dst := some 30, op := Op.fieldAddr 44 (Operand.tmp 6) 0, type := 0, pos := "law.go:50", after := #[], guard := none }) (v := ?_) rfl (by kernel_rfl) (by kernel_rfl) (by kernel_rfl) (by assumption) ?_ ?_; rotate_left; focus (refine .inl ⟨by kernel_rfl, ?_⟩; intro w hSw; (try dsimp only at hSw); go_simp; (try with_reducible rfl)); (try simp only [Act.put, List.setIfInBounds_toArray, List.set_cons_zero, List.set_cons_succ]))
    (refine heldTake (i := 1) (oi := { dst := some 31, op := Op.load 30 (Operand.tmp 30), type := 30, pos := "law.go:50", after := #[{ on := 0, ground := Ground.data }], guard := none }) (v := ?_) rfl (by kernel_rfl) (by kernel_rfl) (by kernel_rfl) (by assumption) ?_ ?_; rotate_left; focus (refine .inl ⟨by kernel_rfl, ?_⟩; intro w hSw; (try dsimp only at hSw); go_simp; (try with_reducible rfl)); (try simp only [Act.put, List.setIfInBounds_toArray, List.set_cons_zero, List.set_cons_succ]))
    (refine heldTake (i := 2) (oi := { dst := some 32, op := Op.move (Operand.tmp 4), type := 40, pos := "law.go:50", after := #[], guard := none }) (v := ?_) rfl (by kernel_rfl) (by kernel_rfl) (by kernel_rfl) (by assumption) ?_ ?_; rotate_left; focus (refine .inl ⟨by kernel_rfl, ?_⟩; intro w hSw; (try dsimp only at hSw); go_simp; (try with_reducible rfl)); (try simp only [Act.put, List.setIfInBounds_toArray, List.set_cons_zero, List.set_cons_succ]))
    (refine heldTake (i := 3) (oi := { dst := some 33, op := Op.nilCheck (Operand.tmp 32), type := 0, pos := "law.go:50", after := #[{ on := 2, ground := Ground.data }], guard := none }) (v := ?_) rfl (by kernel_rfl) (by kernel_rfl) (by kernel_rfl) (by assumption) ?_ ?_; rotate_left; focus (refine .inl ⟨by kernel_rfl, ?_⟩; intro w hSw; (try dsimp only at hSw); go_simp; (try with_reducible rfl)); (try simp only [Act.put, List.setIfInBounds_toArray, List.set_cons_zero, List.set_cons_succ]))
    (refine heldTake (i := 4) (oi := { dst := some 34, op := Op.fieldAddr 42 (Operand.tmp 33) 2, type := 0, pos := "law.go:50", after := #[{ on := 3, ground := Ground.data }], guard := none }) (v := ?_) rfl (by kernel_rfl) (by kernel_rfl) (by kernel_rfl) (by assumption) ?_ ?_; rotate_left; focus (refine .inl ⟨by kernel_rfl, ?_⟩; intro w hSw; (try dsimp only at hSw); go_simp; (try with_reducible rfl)); (try simp only [Act.put, List.setIfInBounds_toArray, List.set_cons_zero, List.set_cons_succ]))
    (refine heldTake (i := 5) (oi := { dst := some 35, op := Op.load 3 (Operand.tmp 34), type := 3, pos := "law.go:50", after := #[{ on := 4, ground := Ground.data }], guard := none }) (v := ?_) rfl (by kernel_rfl) (by kernel_rfl) (by kernel_rfl) (by assumption) ?_ ?_; rotate_left; focus (refine .inl ⟨by kernel_rfl, ?_⟩; intro w hSw; (try dsimp only at hSw); go_simp; (try with_reducible rfl)); (try simp only [Act.put, List.setIfInBounds_toArray, List.set_cons_zero, List.set_cons_succ]))
    (refine heldTake (i := 6) (oi := { dst := some 36, op := Op.binOp BinOp.eql 3 (Operand.tmp 31) (Operand.tmp 35) 3, type := 4, pos := "law.go:50", after := #[{ on := 1, ground := Ground.data }, { on := 5, ground := Ground.data }], guard := none }) (v := ?_) rfl (by kernel_rfl) (by kernel_rfl) (by kernel_rfl) (by assumption) ?_ ?_; rotate_left; focus (refine .inl ⟨by kernel_rfl, ?_⟩; intro w hSw; (try dsimp only at hSw); go_simp; (try with_reducible rfl)); (try simp only [Act.put, List.setIfInBounds_toArray, List.set_cons_zero, List.set_cons_succ]))
    (refine heldTake (i := 7) (oi := { dst := some 37, op := Op.move (Operand.tmp 36), type := 4, pos := "law.go:50", after := #[{ on := 6, ground := Ground.data }], guard := none }) (v := ?_) rfl (by kernel_rfl) (by kernel_rfl) (by kernel_rfl) (by assumption) ?_ ?_; rotate_left; focus (refine .inl ⟨by kernel_rfl, ?_⟩; intro w hSw; (try dsimp only at hSw); go_simp; (try with_reducible rfl)); (try simp only [Act.put, List.setIfInBounds_toArray, List.set_cons_zero, List.set_cons_succ]))
    (refine heldTake (i := 8) (oi := { dst := some 38, op := Op.fieldAddr 44 (Operand.tmp 6) 1, type := 0, pos := "law.go:50", after := #[{ on := 7, ground := Ground.guard }], guard := some (7, true) }) (v := ?_) rfl (by kernel_rfl) (by kernel_rfl) (by kernel_rfl) (by assumption) ?_ ?_; rotate_left; focus (refine .inl ⟨by kernel_rfl, ?_⟩; intro w hSw; (try dsimp only at hSw); go_simp; (try with_reducible rfl)); (try simp only [Act.put, List.setIfInBounds_toArray, List.set_cons_zero, List.set_cons_succ]))
    (refine heldTake (i := 9) (oi := { dst := some 39, op := Op.load 3 (Operand.tmp 38), type := 3, pos := "law.go:50", after := #[{ on := 8, ground := Ground.data }, { on := 7, ground := Ground.guard }], guard := some (7, true) }) (v := ?_) rfl (by kernel_rfl) (by kernel_rfl) (by kernel_rfl) (by assumption) ?_ ?_; rotate_left; focus (refine .inl ⟨by kernel_rfl, ?_⟩; intro w hSw; (try dsimp only at hSw); go_simp; (try with_reducible rfl)); (try simp only [Act.put, List.setIfInBounds_toArray, List.set_cons_zero, List.set_cons_succ]))
    (refine heldTake (i := 10) (oi := { dst := some 40, op := Op.move (Operand.tmp 4), type := 40, pos := "law.go:50", after := #[{ on := 7, ground := Ground.guard }], guard := some (7, true) }) (v := ?_) rfl (by kernel_rfl) (by kernel_rfl) (by kernel_rfl) (by assumption) ?_ ?_; rotate_left; focus (refine .inl ⟨by kernel_rfl, ?_⟩; intro w hSw; (try dsimp only at hSw); go_simp; (try with_reducible rfl)); (try simp only [Act.put, List.setIfInBounds_toArray, List.set_cons_zero, List.set_cons_succ]))
    (refine heldTake (i := 11) (oi := { dst := some 41, op := Op.nilCheck (Operand.tmp 40), type := 0, pos := "law.go:50", after := #[{ on := 10, ground := Ground.data }, { on := 7, ground := Ground.guard }], guard := some (7, true) }) (v := ?_) rfl (by kernel_rfl) (by kernel_rfl) (by kernel_rfl) (by assumption) ?_ ?_; rotate_left; focus (refine .inl ⟨by kernel_rfl, ?_⟩; intro w hSw; (try dsimp only at hSw); go_simp; (try with_reducible rfl)); (try simp only [Act.put, List.setIfInBounds_toArray, List.set_cons_zero, List.set_cons_succ]))
    (refine heldTake (i := 12) (oi := { dst := some 42, op := Op.fieldAddr 42 (Operand.tmp 41) 3, type := 0, pos := "law.go:50", after := #[{ on := 11, ground := Ground.data }, { on := 7, ground := Ground.guard }], guard := some (7, true) }) (v := ?_) rfl (by kernel_rfl) (by kernel_rfl) (by kernel_rfl) (by assumption) ?_ ?_; rotate_left; focus (refine .inl ⟨by kernel_rfl, ?_⟩; intro w hSw; (try dsimp only at hSw); go_simp; (try with_reducible rfl)); (try simp only [Act.put, List.setIfInBounds_toArray, List.set_cons_zero, List.set_cons_succ]))
    (refine heldTake (i := 13) (oi := { dst := some 43, op := Op.load 3 (Operand.tmp 42), type := 3, pos := "law.go:50", after := #[{ on := 12, ground := Ground.data }, { on := 7, ground := Ground.guard }], guard := some (7, true) }) (v := ?_) rfl (by kernel_rfl) (by kernel_rfl) (by kernel_rfl) (by assumption) ?_ ?_; rotate_left; focus (refine .inl ⟨by kernel_rfl, ?_⟩; intro w hSw; (try dsimp only at hSw); go_simp; (try with_reducible rfl)); (try simp only [Act.put, List.setIfInBounds_toArray, List.set_cons_zero, List.set_cons_succ]))
    (refine heldTake (i := 14) (oi := { dst := some 44, op := Op.binOp BinOp.eql 3 (Operand.tmp 39) (Operand.tmp 43) 3, type := 4, pos := "law.go:50", after := #[{ on := 9, ground := Ground.data }, { on := 13, ground := Ground.data }, { on := 7, ground := Ground.guard }], guard := some (7, true) }) (v := ?_) rfl (by kernel_rfl) (by kernel_rfl) (by kernel_rfl) (by assumption) ?_ ?_; rotate_left; focus (refine .inl ⟨by kernel_rfl, ?_⟩; intro w hSw; (try dsimp only at hSw); go_simp; (try with_reducible rfl)); (try simp only [Act.put, List.setIfInBounds_toArray, List.set_cons_zero, List.set_cons_succ]))
    (refine heldTake (i := 15) (oi := { dst := some 45, op := Op.pick (Operand.tmp 37) (Operand.tmp 44) (Operand.const (Value.bool false)), type := 4, pos := "law.go:50", after := #[{ on := 7, ground := Ground.data }, { on := 14, ground := Ground.data }], guard := none }) (v := ?_) rfl (by kernel_rfl) (by kernel_rfl) (by kernel_rfl) (by assumption) ?_ ?_; rotate_left; focus (refine .inl ⟨by kernel_rfl, ?_⟩; intro w hSw; (try dsimp only at hSw); go_simp; (try with_reducible rfl)); (try simp only [Act.put, List.setIfInBounds_toArray, List.set_cons_zero, List.set_cons_succ]))
    (refine heldTake (i := 16) (oi := { dst := some 46, op := Op.move (Operand.tmp 45), type := 4, pos := "law.go:50", after := #[{ on := 15, ground := Ground.data }, { on := 7, ground := Ground.chain }], guard := none }) (v := ?_) rfl (by kernel_rfl) (by kernel_rfl) (by kernel_rfl) (by assumption) ?_ ?_; rotate_left; focus (refine .inl ⟨by kernel_rfl, ?_⟩; intro w hSw; (try dsimp only at hSw); go_simp; (try with_reducible rfl)); (try simp only [Act.put, List.setIfInBounds_toArray, List.set_cons_zero, List.set_cons_succ]))
    (refine heldTake (i := 17) (oi := { dst := some 47, op := Op.load 25 (Operand.tmp 5), type := 25, pos := "law.go:50", after := #[{ on := 16, ground := Ground.guard }], guard := some (16, true) }) (v := ?_) rfl (by kernel_rfl) (by kernel_rfl) (by kernel_rfl) (by assumption) ?_ ?_; rotate_left; focus (refine .inl ⟨by kernel_rfl, ?_⟩; intro w hSw; (try dsimp only at hSw); go_simp; (try with_reducible rfl)); (try simp only [Act.put, List.setIfInBounds_toArray, List.set_cons_zero, List.set_cons_succ]))
    (refine heldTake (i := 18) (oi := { dst := some 48, op := Op.build 25 #[], type := 25, pos := "law.go:50", after := #[{ on := 16, ground := Ground.guard }], guard := some (16, true) }) (v := ?_) rfl (by kernel_rfl) (by kernel_rfl) (by kernel_rfl) (by assumption) ?_ ?_; rotate_left; focus (refine .inl ⟨by kernel_rfl, ?_⟩; intro w hSw; (try dsimp only at hSw); go_simp; (try with_reducible rfl)); (try simp only [Act.put, List.setIfInBounds_toArray, List.set_cons_zero, List.set_cons_succ]))
    refine wpAnyH_ready (rs := [19]) (by kernel_rfl) (by simp) ?_
    refine AllReadyH.cons (o := { dst := some 49, op := Op.call { callee := Callee.value (Operand.func 11), args := #[Operand.tmp 47, Operand.tmp 48], argTypes := #[25, 25] }, type := 4, pos := "law.go:50", after := #[{ on := 17, ground := Ground.data }, { on := 18, ground := Ground.data }, { on := 16, ground := Ground.chain }, { on := 16, ground := Ground.guard }], guard := some (16, true) }) rfl (fun K hK => ?_) AllReadyH.nil
    go_simp
    (go_at_call 11; (with_reducible refine (zero_same _).mono ?_); rintro e w8 ⟨rfl, hb⟩; have hk8 := EndE.cells (EndE.on (And.left hHeld) hb); clear hb)
    refine hK.out _ _ hk8 (fun hHeld19 => ?_)
    clear hK K hHeld
    (try simp only [Act.put, List.setIfInBounds_toArray, List.set_cons_zero, List.set_cons_succ])
    (refine heldTake (i := 20) (oi := { dst := some 50, op := Op.pick (Operand.tmp 46) (Operand.tmp 49) (Operand.const (Value.bool false)), type := 4, pos := "law.go:50", after := #[{ on := 16, ground := Ground.data }, { on := 19, ground := Ground.data }], guard := none }) (v := ?_) rfl (by kernel_rfl) (by kernel_rfl) (by kernel_rfl) (by assumption) ?_ ?_; rotate_left; focus (refine .inl ⟨by kernel_rfl, ?_⟩; intro w hSw; (try dsimp only at hSw); go_simp; (try with_reducible rfl)); (try simp only [Act.put, List.setIfInBounds_toArray, List.set_cons_zero, List.set_cons_succ]))
    (refine heldTake (i := 21) (oi := { dst := some 2, op := Op.assign (Operand.tmp 50), type := 4, pos := "law.go:50", after := #[{ on := 20, ground := Ground.data }, { on := 19, ground := Ground.chain }, { on := 0, ground := Ground.phase }, { on := 1, ground := Ground.phase }, { on := 2, ground := Ground.phase }, { on := 3, ground := Ground.phase }, { on := 4, ground := Ground.phase }, { on := 5, ground := Ground.phase }, { on := 6, ground := Ground.phase }, { on := 7, ground := Ground.phase }, { on := 8, ground := Ground.phase }, { on := 9, ground := Ground.phase }, { on := 10, ground := Ground.phase }, { on := 11, ground := Ground.phase }, { on := 12, ground := Ground.phase }, { on := 13, ground := Ground.phase }, { on := 14, ground := Ground.phase }, { on := 15, ground := Ground.phase }, { on := 16, ground := Ground.phase }, { on := 17, ground := Ground.phase }, { on := 18, ground := Ground.phase }, { on := 19, ground := Ground.phase }, { on := 20, ground := Ground.phase }], guard := none }) (v := ?_) rfl (by kernel_rfl) (by kernel_rfl) (by kernel_rfl) (by assumption) ?_ ?_; rotate_left; focus (refine .inl ⟨by kernel_rfl, ?_⟩; intro w hSw; (try dsimp only at hSw); go_simp; (try with_reducible rfl)); (try simp only [Act.put, List.setIfInBounds_toArray, List.set_cons_zero, List.set_cons_succ]))
    refine wpAnyH_done (by kernel_rfl) ?_ _
    refine NoPanic.normal ?_
    have hLast := hHeld19
    clear hHeld19
    go_wp2
    go_ret
    exact ⟨rfl, (And.left hLast).bel⟩
  | ok i k =>
    have HRF := Lib.hid (fun W q (h : Rs W q ms (.at 0)) => show Calls Tryd.prog 17 #[.pointer (some ⟨q, 0, none⟩)] W fun e w' => ∃ A c, e = .returned (insV i A c) ∧ Lies w' w'.heap.size A (cells32 i.l) ∧ (∀ a, A = some a → W.heap.size ≤ a.block) ∧ Rs w' q ms (.at k) ∧ W.grownBy w' (some q) from by have := refC_any h; rw [hr] at this; exact this)
    have hl10 := readR_len hr
    have HSM := Lib.hid (fun W (A2 A3 : Option Addr) (c2 c3 : Nat) (h1 : LiesL W A2 i.l) (h2 : LiesL W A3 i.l) => (by have := refSame_any (c := c2) (d := c3) (i := i) (k := i) h1 h2 (by omega) (by omega); rw [show sameZ i i = true by unfold sameZ; simp] at this; exact this))
    have HRR := Lib.hid hr
    clear hr hl10
    go_enter Tryd.func4, Tryd.ntmps4
    go_wp2_with (first
      | (go_at_call 6; go_must ((with_reducible refine HAW.out.mono ?_); rintro e w1 ⟨rfl, hb⟩; have HB1 := Lib.hid hb; clear hb))
      | (go_at_call 13; go_must ((with_reducible refine (HO.out _ HB1.out).mono ?_); intro e w2 hq; obtain ⟨p, rfl, hp, hs, hb⟩ := hq; have H3 := Lib.hid (LR.of (M := M) (cm := cm) (HT.out.below HB1.out) HB1.out hb hp hs); clear hp hs hb))
      | (go_at_call 14; go_must ((with_reducible refine (valueR_ok H3.out HRR.out).mono ?_); rintro e w4 ⟨⟨i2, A2, c2⟩, rfl, hk, hg⟩; obtain rfl : i2 = i := hk.1; have H4 := Lib.hid hg; have HK := Lib.hid hk.2; have H5 := Lib.hid (H3.out.ref hg HM.out HC.out HX.out (.cells (insC i2 A2 c2) 25) (.cells #[.int .i64 0, .int .i64 0] 44)); clear hg hk))
      | (go_at_call 17; go_must ((with_reducible refine (HRF.out _ _ H5.out.1).mono ?_); rintro e w6 ⟨A3, c3, rfl, hla, hfar, hs, hg⟩; have hend := EndO.of (c3 := c3) H3.out H4.out H5.out.2 HK.out.1 HK.out.2.1 HK.out.2.2 hs hla hg; have HE := Lib.hid hend; have x2 := why_at hend.r; clear hs hg hend hla hfar)))
    refine wp_region_noPanic ?_
    refine wp_region_held_drew (S := fun W => EndO w w4.heap.size (w4.heap.size + 1) w6.heap.size p w2.heap.size ms i2 A2 c2 A3 c3 k W ∧ CellsO w4.heap.size (w4.heap.size + 1) w6.heap.size p w2.heap.size i2 A2 c2 A3 c3 k W) (by kernel_rfl) (EndO.cells (HE.out.on (Below.refl _ _).drew)) (fun hHeld => ?_)
    (refine heldTake (i := 0) (oi := { dst := some 51, op := Op.fieldAddr 44 (Operand.tmp 6) 0, type := 0, pos := "law.go:52", after := #[], guard := none }) (v := ?_) rfl (by kernel_rfl) (by kernel_rfl) (by kernel_rfl) (by assumption) ?_ ?_; rotate_left; focus (refine .inl ⟨by kernel_rfl, ?_⟩; intro w hSw; (try dsimp only at hSw); go_simp; (try with_reducible rfl)); (try simp only [Act.put, List.setIfInBounds_toArray, List.set_cons_zero, List.set_cons_succ]))
    (refine heldTake (i := 1) (oi := { dst := some 52, op := Op.load 30 (Operand.tmp 51), type := 30, pos := "law.go:52", after := #[{ on := 0, ground := Ground.data }], guard := none }) (v := ?_) rfl (by kernel_rfl) (by kernel_rfl) (by kernel_rfl) (by assumption) ?_ ?_; rotate_left; focus (refine .inl ⟨by kernel_rfl, ?_⟩; intro w hSw; (try dsimp only at hSw); go_simp; (try with_reducible rfl)); (try simp only [Act.put, List.setIfInBounds_toArray, List.set_cons_zero, List.set_cons_succ]))
    (refine heldTake (i := 2) (oi := { dst := some 53, op := Op.binOp BinOp.eql 30 (Operand.tmp 52) (Operand.const (Value.int IntKind.i64 0)) 30, type := 4, pos := "law.go:52", after := #[{ on := 1, ground := Ground.data }], guard := none }) (v := ?_) rfl (by kernel_rfl) (by kernel_rfl) (by kernel_rfl) (by assumption) ?_ ?_; rotate_left; focus (refine .inl ⟨by kernel_rfl, ?_⟩; intro w hSw; (try dsimp only at hSw); go_simp; (try with_reducible rfl)); (try simp only [Act.put, List.setIfInBounds_toArray, List.set_cons_zero, List.set_cons_succ]))
    (refine heldTake (i := 3) (oi := { dst := some 54, op := Op.move (Operand.tmp 53), type := 4, pos := "law.go:52", after := #[{ on := 2, ground := Ground.data }], guard := none }) (v := ?_) rfl (by kernel_rfl) (by kernel_rfl) (by kernel_rfl) (by assumption) ?_ ?_; rotate_left; focus (refine .inl ⟨by kernel_rfl, ?_⟩; intro w hSw; (try dsimp only at hSw); go_simp; (try with_reducible rfl)); (try simp only [Act.put, List.setIfInBounds_toArray, List.set_cons_zero, List.set_cons_succ]))
    (refine heldTake (i := 4) (oi := { dst := some 55, op := Op.load 25 (Operand.tmp 5), type := 25, pos := "law.go:52", after := #[{ on := 3, ground := Ground.guard }], guard := some (3, true) }) (v := ?_) rfl (by kernel_rfl) (by kernel_rfl) (by kernel_rfl) (by assumption) ?_ ?_; rotate_left; focus (refine .inl ⟨by kernel_rfl, ?_⟩; intro w hSw; (try dsimp only at hSw); go_simp; (try with_reducible rfl)); (try simp only [Act.put, List.setIfInBounds_toArray, List.set_cons_zero, List.set_cons_succ]))
    (refine heldTake (i := 5) (oi := { dst := some 56, op := Op.load 25 (Operand.tmp 7), type := 25, pos := "law.go:52", after := #[{ on := 3, ground := Ground.guard }], guard := some (3, true) }) (v := ?_) rfl (by kernel_rfl) (by kernel_rfl) (by kernel_rfl) (by assumption) ?_ ?_; rotate_left; focus (refine .inl ⟨by kernel_rfl, ?_⟩; intro w hSw; (try dsimp only at hSw); go_simp; (try with_reducible rfl)); (try simp only [Act.put, List.setIfInBounds_toArray, List.set_cons_zero, List.set_cons_succ]))
    refine wpAnyH_ready (rs := [6]) (by kernel_rfl) (by simp) ?_
    refine AllReadyH.cons (o := { dst := some 57, op := Op.call { callee := Callee.value (Operand.func 11), args := #[Operand.tmp 55, Operand.tmp 56], argTypes := #[25, 25] }, type := 4, pos := "law.go:52", after := #[{ on := 4, ground := Ground.data }, { on := 5, ground := Ground.data }, { on := 3, ground := Ground.chain }, { on := 3, ground := Ground.guard }], guard := some (3, true) }) rfl (fun K hK => ?_) AllReadyH.nil
    go_simp
    (go_at_call 11; (with_reducible refine (HSM.out _ _ _ _ _ (And.left hHeld).l2 (And.left hHeld).l3).mono ?_); rintro e w8 ⟨rfl, hb⟩; have hk8 := EndO.cells (EndO.on (And.left hHeld) hb); clear hb)
    refine hK.out _ _ hk8 (fun hHeld6 => ?_)
    clear hK K hHeld
    (try simp only [Act.put, List.setIfInBounds_toArray, List.set_cons_zero, List.set_cons_succ])
    (refine heldTake (i := 7) (oi := { dst := some 58, op := Op.pick (Operand.tmp 54) (Operand.tmp 57) (Operand.const (Value.bool false)), type := 4, pos := "law.go:52", after := #[{ on := 3, ground := Ground.data }, { on := 6, ground := Ground.data }], guard := none }) (v := ?_) rfl (by kernel_rfl) (by kernel_rfl) (by kernel_rfl) (by assumption) ?_ ?_; rotate_left; focus (refine .inl ⟨by kernel_rfl, ?_⟩; intro w hSw; (try dsimp only at hSw); go_simp; (try with_reducible rfl)); (try simp only [Act.put, List.setIfInBounds_toArray, List.set_cons_zero, List.set_cons_succ]))
    (refine heldTake (i := 8) (oi := { dst := some 59, op := Op.move (Operand.tmp 58), type := 4, pos := "law.go:52", after := #[{ on := 7, ground := Ground.data }, { on := 6, ground := Ground.chain }], guard := none }) (v := ?_) rfl (by kernel_rfl) (by kernel_rfl) (by kernel_rfl) (by assumption) ?_ ?_; rotate_left; focus (refine .inl ⟨by kernel_rfl, ?_⟩; intro w hSw; (try dsimp only at hSw); go_simp; (try with_reducible rfl)); (try simp only [Act.put, List.setIfInBounds_toArray, List.set_cons_zero, List.set_cons_succ]))
    (refine heldTake (i := 9) (oi := { dst := some 60, op := Op.load 38 (Operand.tmp 3), type := 38, pos := "law.go:52", after := #[{ on := 8, ground := Ground.guard }], guard := some (8, true) }) (v := ?_) rfl (by kernel_rfl) (by kernel_rfl) (by kernel_rfl) (by assumption) ?_ ?_; rotate_left; focus (refine .inl ⟨by kernel_rfl, ?_⟩; intro w hSw; (try dsimp only at hSw); go_simp; (try with_reducible rfl)); (try simp only [Act.put, List.setIfInBounds_toArray, List.set_cons_zero, List.set_cons_succ]))
    (refine heldTake (i := 11) (oi := { dst := some 62, op := Op.move (Operand.tmp 4), type := 40, pos := "law.go:52", after := #[{ on := 8, ground := Ground.guard }], guard := some (8, true) }) (v := ?_) rfl (by kernel_rfl) (by kernel_rfl) (by kernel_rfl) (by assumption) ?_ ?_; rotate_left; focus (refine .inl ⟨by kernel_rfl, ?_⟩; intro w hSw; (try dsimp only at hSw); go_simp; (try with_reducible rfl)); (try simp only [Act.put, List.setIfInBounds_toArray, List.set_cons_zero, List.set_cons_succ]))
    (refine heldTake (i := 12) (oi := { dst := some 63, op := Op.nilCheck (Operand.tmp 62), type := 0, pos := "law.go:52", after := #[{ on := 11, ground := Ground.data }, { on := 8, ground := Ground.guard }], guard := some (8, true) }) (v := ?_) rfl (by kernel_rfl) (by kernel_rfl) (by kernel_rfl) (by assumption) ?_ ?_; rotate_left; focus (refine .inl ⟨by kernel_rfl, ?_⟩; intro w hSw; (try dsimp only at hSw); go_simp; (try with_reducible rfl)); (try simp only [Act.put, List.setIfInBounds_toArray, List.set_cons_zero, List.set_cons_succ]))
    (refine heldTake (i := 13) (oi := { dst := some 64, op := Op.fieldAddr 42 (Operand.tmp 63) 1, type := 0, pos := "law.go:52", after := #[{ on := 12, ground := Ground.data }, { on := 8, ground := Ground.guard }], guard := some (8, true) }) (v := ?_) rfl (by kernel_rfl) (by kernel_rfl) (by kernel_rfl) (by assumption) ?_ ?_; rotate_left; focus (refine .inl ⟨by kernel_rfl, ?_⟩; intro w hSw; (try dsimp only at hSw); go_simp; (try with_reducible rfl)); (try simp only [Act.put, List.setIfInBounds_toArray, List.set_cons_zero, List.set_cons_succ]))
    (refine heldTake (i := 14) (oi := { dst := some 65, op := Op.load 3 (Operand.tmp 64), type := 3, pos := "law.go:52", after := #[{ on := 13, ground := Ground.data }, { on := 8, ground := Ground.guard }], guard := some (8, true) }) (v := ?_) rfl (by kernel_rfl) (by kernel_rfl) (by kernel_rfl) (by assumption) ?_ ?_; rotate_left; focus (refine .inl ⟨by kernel_rfl, ?_⟩; intro w hSw; (try dsimp only at hSw); go_simp; (try with_reducible rfl)); (try simp only [Act.put, List.setIfInBounds_toArray, List.set_cons_zero, List.set_cons_succ]))
    refine wpAnyH_ready (rs := [10]) (by kernel_rfl) (by simp) ?_
    refine AllReadyH.cons (o := { dst := some 61, op := Op.call { callee := Callee.value (Operand.func 18), args := #[Operand.tmp 60], argTypes := #[38] }, type := 3, pos := "law.go:52", after := #[{ on := 9, ground := Ground.data }, { on := 8, ground := Ground.chain }, { on := 8, ground := Ground.guard }], guard := some (8, true) }) rfl (fun K hK => ?_) AllReadyH.nil
    go_simp
    (go_at_call 18; (with_reducible refine (at_any (And.left hHeld6).sc).mono ?_); rintro e w' ⟨rfl, rfl⟩)
    refine hK.out _ _ hHeld6 (fun hHeld10 => ?_)
    clear hK K hHeld6
    (try simp only [Act.put, List.setIfInBounds_toArray, List.set_cons_zero, List.set_cons_succ])
    (refine heldTake (i := 15) (oi := { dst := some 66, op := Op.binOp BinOp.eql 3 (Operand.tmp 61) (Operand.tmp 65) 3, type := 4, pos := "law.go:52", after := #[{ on := 10, ground := Ground.data }, { on := 14, ground := Ground.data }, { on := 8, ground := Ground.guard }], guard := some (8, true) }) (v := ?_) rfl (by kernel_rfl) (by kernel_rfl) (by kernel_rfl) (by assumption) ?_ ?_; rotate_left; focus (refine .inl ⟨by kernel_rfl, ?_⟩; intro w hSw; (try dsimp only at hSw); go_simp; (try with_reducible rfl)); (try simp only [Act.put, List.setIfInBounds_toArray, List.set_cons_zero, List.set_cons_succ]))
    (refine heldTake (i := 16) (oi := { dst := some 67, op := Op.pick (Operand.tmp 59) (Operand.tmp 66) (Operand.const (Value.bool false)), type := 4, pos := "law.go:52", after := #[{ on := 8, ground := Ground.data }, { on := 15, ground := Ground.data }], guard := none }) (v := ?_) rfl (by kernel_rfl) (by kernel_rfl) (by kernel_rfl) (by assumption) ?_ ?_; rotate_left; focus (refine .inl ⟨by kernel_rfl, ?_⟩; intro w hSw; (try dsimp only at hSw); go_simp; (try with_reducible rfl)); (try simp only [Act.put, List.setIfInBounds_toArray, List.set_cons_zero, List.set_cons_succ]))
    (refine heldTake (i := 17) (oi := { dst := some 2, op := Op.assign (Operand.tmp 67), type := 4, pos := "law.go:52", after := #[{ on := 16, ground := Ground.data }, { on := 10, ground := Ground.chain }, { on := 0, ground := Ground.phase }, { on := 1, ground := Ground.phase }, { on := 2, ground := Ground.phase }, { on := 3, ground := Ground.phase }, { on := 4, ground := Ground.phase }, { on := 5, ground := Ground.phase }, { on := 6, ground := Ground.phase }, { on := 7, ground := Ground.phase }, { on := 8, ground := Ground.phase }, { on := 9, ground := Ground.phase }, { on := 10, ground := Ground.phase }, { on := 11, ground := Ground.phase }, { on := 12, ground := Ground.phase }, { on := 13, ground := Ground.phase }, { on := 14, ground := Ground.phase }, { on := 15, ground := Ground.phase }, { on := 16, ground := Ground.phase }], guard := none }) (v := ?_) rfl (by kernel_rfl) (by kernel_rfl) (by kernel_rfl) (by assumption) ?_ ?_; rotate_left; focus (refine .inl ⟨by kernel_rfl, ?_⟩; intro w hSw; (try dsimp only at hSw); go_simp; (try with_reducible rfl)); (try simp only [Act.put, List.setIfInBounds_toArray, List.set_cons_zero, List.set_cons_succ]))
    refine wpAnyH_done (by kernel_rfl) ?_ _
    refine NoPanic.normal ?_
    have hLast := hHeld10
    clear hHeld10
    go_wp2
    go_ret
    exact ⟨rfl, (And.left hLast).bel⟩
end Go.Proofs.YtjjhgmmkapeifaaDoor
