/- The reference's num, signed, Put. (By gen/genRefPut.py.) -/
import Derived.Test.YtjjhgmmkapeifaaDoorKv09
import Derived.Test.YtjjhgmmkapeifaaDoorKv12
namespace Go.Proofs.YtjjhgmmkapeifaaDoor
open Go.RowKit
set_option linter.unusedVariables false
set_option maxRecDepth 100000

def StrPost (l : List UInt8) (w : World) (e : Ending) (w' : World) : Prop := e = .returned (.string (S l)) ∧ Below w.heap.size w w'
theorem num_any (x : Int) (w : World) (h0 : 0 ≤ x) (h1 : x ≤ 18446744073709551615) : Calls Tryd.prog 48 #[.int .u64 x] w (StrPost (lebL x) w) := by
  have U := Lib.hid (fun W => refUintL x W h0 h1)
  have hl := (lebL_len x h1).1
  generalize lebL x = l at *
  go_enter Tryd.func48, Tryd.ntmps48
  go_wp2_with (go_at_call 79; go_must ((with_reducible refine (U.out _).mono ?_); intro e w1 h; obtain ⟨A, k, rfl, hl1, hb⟩ := h; have hs := str_lies' hl1 hl k; have HB := Lib.hid hb; clear hb hl1))
  go_ret
  exact ⟨rfl, HB.out⟩
theorem conv1 {W : World} {op : UInt8} {H : Nat} (hH : W.heap.size = H) : (convert 29 9 (.slice (some ⟨H, 0, none⟩) 1 1)).run Tryd.prog (W.alloc (.cells #[.int .u8 op.toNat] 5)) = .ok (.string (S [op])) (W.alloc (.cells #[.int .u8 op.toNat] 5)) := by
  obtain ⟨A, c, e, h⟩ := (Row.made W [op] 0 H hH (Nat.zero_le _) (by simp)).str
  injection e with e1 _ e2
  subst e1; subst e2
  exact h 9 Tryd.underlying9
theorem conv2 {W : World} {op H : Nat} (hH : W.heap.size = H) (x : Int) (h0 : 0 ≤ x) (h1 : x ≤ 255) : (convert 29 9 (.slice (some ⟨H, 0, none⟩) 1 1)).run Tryd.prog (W.alloc (.cells #[.int .u8 x] 5)) = .ok (.string (S [UInt8.ofNat x.toNat])) (W.alloc (.cells #[.int .u8 x] 5)) := by
  have := conv1 (op := UInt8.ofNat x.toNat) hH
  rwa [u8_of h0 h1] at this

theorem signed32_any (x : Int) (w : World) (h0 : 0 ≤ x) (h1 : x ≤ 18446744073709551615) : Calls Tryd.prog 49 #[.int .u64 x, .int .u64 32] w (StrPost (sebL (s32 x)) w) := by
  have hs : -9223372036854775808 ≤ s32 x ∧ s32 x ≤ 9223372036854775807 := by unfold s32; omega
  have U := Lib.hid (fun W => refIntL (s32 x) W hs.1 hs.2)
  have hl := (sebL_len (s32 x) hs.1 hs.2).1
  have hz : wrap64 (IntKind.u64.wrap (x * 4294967296)) / 4294967296 = s32 x := by unfold s32 wrap64; simp only [IntKind.wrap, IntKind.bits, IntKind.signed]; simp; omega
  generalize s32 x = z at *
  generalize sebL z = l at *
  go_enter Tryd.func49, Tryd.ntmps49
  go_wp2_with (go_at_call 80; go_must ((with_reducible refine (U.out _).mono ?_); intro e w1 h; obtain ⟨A, k, rfl, hl1, hb⟩ := h; have hs2 := str_lies' hl1 hl k; have HB := Lib.hid hb; clear hb hl1))
  go_ret
  exact ⟨rfl, HB.out⟩

theorem signed64_any (x : Int) (w : World) (h0 : 0 ≤ x) (h1 : x ≤ 18446744073709551615) : Calls Tryd.prog 49 #[.int .u64 x, .int .u64 64] w (StrPost (sebL (s64 x)) w) := by
  have hs : -9223372036854775808 ≤ s64 x ∧ s64 x ≤ 9223372036854775807 := by unfold s64; omega
  have U := Lib.hid (fun W => refIntL (s64 x) W hs.1 hs.2)
  have hl := (sebL_len (s64 x) hs.1 hs.2).1
  have hz : wrap64 x = s64 x := by unfold s64 wrap64; omega
  generalize s64 x = z at *
  generalize sebL z = l at *
  go_enter Tryd.func49, Tryd.ntmps49
  go_wp2_with (go_at_call 80; go_must ((with_reducible refine (U.out _).mono ?_); intro e w1 h; obtain ⟨A, k, rfl, hl1, hb⟩ := h; have hs2 := str_lies' hl1 hl k; have HB := Lib.hid hb; clear hb hl1))
  go_ret
  exact ⟨rfl, HB.out⟩

section
variable {w W W' : World} {i : I} {A : Option Addr} {c : Nat}
theorem BoxI.on3 (h : BoxI w W i A c) {O O' : Obj} (hb : Below ((W.alloc O).alloc O').heap.size ((W.alloc O).alloc O') W') : BoxI w W' i A c := ((h.on (below_box W O)).on (below_box _ O')).on hb
theorem BoxI.two3 (h : BoxI w W i A c) (O O' : Obj) : BoxI w ((W.alloc O).alloc O') i A c := (h.on (below_box W O)).on (below_box _ O')
theorem BoxI.three (h : BoxI w W i A c) : BoxI w W i A c ∧ W.cell? ⟨w.heap.size, 1, none⟩ = some (.int .u64 i.a) ∧ W.cell? ⟨w.heap.size, 2, none⟩ = some (.int .u64 i.b) := ⟨h, h.c1, h.c2⟩
theorem held_num {K : Nat} {args : Array Value} {l : List UInt8} (hN : ∀ W, Calls Tryd.prog K args W (StrPost l W)) (h : BoxI w W i A c ∧ W.cell? ⟨w.heap.size, 1, none⟩ = some (.int .u64 i.a) ∧ W.cell? ⟨w.heap.size, 2, none⟩ = some (.int .u64 i.b)) :
    Calls Tryd.prog K args W fun e w' => e = .returned (.string (S l)) ∧ BoxI w w' i A c ∧ w'.cell? ⟨w.heap.size, 1, none⟩ = some (.int .u64 i.a) ∧ w'.cell? ⟨w.heap.size, 2, none⟩ = some (.int .u64 i.b) :=
  (hN W).mono fun _ _ ⟨h1, h2⟩ => ⟨h1, BoxI.three (h.1.on h2)⟩
end
theorem str_put {i : I} {l : List UInt8} {s : ByteArray} {w W : World} (hp : putL i = l) (hs : s = S l) (hb : Below w.heap.size w W) : StrPost (putL i) w (.returned (.string s)) W := ⟨by rw [hs, hp], hb⟩
set_option maxHeartbeats 3000000 in
theorem refPut_any (i : I) (A : Option Addr) (c : Nat) (w : World) (h : i.Ok) (hr : rightZ i = 0) (hl : Lies w w.heap.size A (cells32 i.l)) :
    Calls Tryd.prog 28 #[insV i A c] w (StrPost (putL i) w) := by
  have hn := i.n_le
  have HT := Lib.hid (immL_len h hr)
  obtain ⟨a0, a1, b0, b1, hl0⟩ := h
  have hwb : IntKind.i64.wrap (i.op.toNat : Int) = i.op.toNat := by rw [IntKind.wrap_i64]; have := i.op.toNat_lt; omega
  obtain ⟨hc0, _, h10, _, hz0⟩ := right_zero hr
  obtain ⟨hz1, hz2, hz3⟩ := nums_zero hz0 a0
  have HL0 := Lib.hid hl0
  have HB := Lib.hid (BoxI.start w i A c)
  have HL := Lib.hid hl
  obtain ⟨m, hm⟩ : ∃ m, m = immR i.n := ⟨_, rfl⟩
  obtain ⟨r, hr2⟩ : ∃ r, r = refR i.n := ⟨_, rfl⟩
  have him : (r.getD row0).imm = m := by rw [hr2, hm]; exact (imm_same hn hc0).2
  have HI : Hid (∀ W, Calls Tryd.prog 41 #[.int .i64 i.op.toNat] W (RefPost r W)) := fun W => by rw [hr2]; exact ref_any i.n W hn
  have HIM := Lib.hid (show putL i = [i.op] ++ immB m i by unfold putL immL; rw [hm]; rfl)
  rw [← hm] at hz1 hz2 hz3
  have HZ1 := Lib.hid hz1
  have HZ2 := Lib.hid hz2
  have HZ3 := Lib.hid hz3
  have NA := Lib.hid (fun W => num_any i.a W a0 a1)
  have NB := Lib.hid (fun W => num_any i.b W b0 b1)
  have NL := Lib.hid (fun W => num_any (i.l.length : Int) W (by omega) (by omega))
  have ka := lebL_len i.a (by omega)
  have kb := lebL_len i.b (by omega)
  have kl := lebL_len (i.l.length : Int) (by omega)
  have wl : IntKind.u64.wrap (i.l.length : Int) = i.l.length := by simp [IntKind.wrap, IntKind.bits, IntKind.signed]; omega
  obtain ⟨xa, hxa⟩ : ∃ x, x = lebL i.a := ⟨_, rfl⟩
  obtain ⟨xb, hxb⟩ : ∃ x, x = lebL i.b := ⟨_, rfl⟩
  obtain ⟨xl, hxl⟩ : ∃ x, x = lebL (i.l.length : Int) := ⟨_, rfl⟩
  rw [← hxa] at NA ka
  rw [← hxb] at NB kb
  rw [← hxl] at NL kl
  have sa := S_size xa
  have sb := S_size xb
  have sl := S_size xl
  obtain ⟨o, ho⟩ : ∃ o, o = [i.op] := ⟨_, rfl⟩
  have so : (S o).size = 1 := by rw [S_size, ho]; rfl
  have HC1 := Lib.hid (fun (W : World) (H : Nat) (hH : W.heap.size = H) => (by rw [ho]; exact conv1 hH : (convert 29 9 (.slice (some ⟨H, 0, none⟩) 1 1)).run Tryd.prog (W.alloc (.cells #[.int .u8 i.op.toNat] 5)) = .ok (.string (S o)) (W.alloc (.cells #[.int .u8 i.op.toNat] 5))))
  have HO := Lib.hid ho
  have HXA := Lib.hid hxa
  have HXB := Lib.hid hxb
  have HXL := Lib.hid hxl
  generalize (r.getD row0).op = r1 at *
  clear hl hr hc0 hz0 hr2 hm hz1 hz2 hz3 hl0 hxa hxb hxl ho
  have below2 : ∀ W : World, Below w.heap.size w W → ∀ O O', Below w.heap.size w ((W.alloc O).alloc O') := fun W hb O O' => (hb.alloc hb.size _).alloc (Nat.le_trans hb.size (below_box _ _).size) _
  have HB3f := Lib.hid below2
  clear below2
  by_cases m0 : m = 0
  · subst m0
    have HE := Lib.hid (show putL i = o ++ ([]) by rw [HIM.out, HO.out]; unfold immB; rw [if_pos rfl])
    go_enter Tryd.func28, Tryd.ntmps28
    go_wp2_with (first
      | (go_at_call 41; go_must ((with_reducible refine (HI.out _).mono ?_); rintro e w2 ⟨rfl, hb⟩; have HB2 := Lib.hid (HB.out.on hb); have hlt := HB2.out.lt; have c0 := HB2.out.c0; have c1 := HB2.out.c1; have c2 := HB2.out.c2; have c3 := HB2.out.c3; have hcv := fun O => HC1.out (w2.alloc O) (w2.heap.size + 1) (size_box _ _); clear hb)))
    go_ret
    exact str_put HE.out (by simp) (HB3f.out _ HB2.out.2 _ _)
  have d0 : ((m : Int) == 0) = false := by simp; omega
  by_cases m1 : m = 1
  · subst m1
    have HE := Lib.hid (show putL i = o ++ ([UInt8.ofNat i.a.toNat]) by rw [HIM.out, HO.out]; unfold immB; rw [if_neg (by omega), if_pos rfl])
    have ha := (HZ1.out rfl).1
    have hw : IntKind.u8.wrap i.a = i.a := by simp [IntKind.wrap, IntKind.bits, IntKind.signed]; omega
    obtain ⟨y, hy⟩ : ∃ y, y = [UInt8.ofNat i.a.toNat] := ⟨_, rfl⟩
    have sy : (S y).size = 1 := by rw [S_size, hy]; rfl
    have HC2 := Lib.hid (fun (W : World) (H : Nat) (hH : W.heap.size = H) => (by rw [hy]; exact conv2 (op := 0) hH i.a a0 ha : (convert 29 9 (.slice (some ⟨H, 0, none⟩) 1 1)).run Tryd.prog (W.alloc (.cells #[.int .u8 i.a] 5)) = .ok (.string (S y)) (W.alloc (.cells #[.int .u8 i.a] 5))))
    rw [← hy] at HE
    have q : (S o).size + (S y).size ≤ 9223372036854775807 := by omega
    clear hy
    go_enter Tryd.func28, Tryd.ntmps28
    go_wp2_with (go_at_call 41; go_must ((with_reducible refine (HI.out _).mono ?_); rintro e w2 ⟨rfl, hb⟩; have HB2 := Lib.hid (HB.out.on hb); have hlt := HB2.out.lt; have c0 := HB2.out.c0; have c1 := HB2.out.c1; have c2 := HB2.out.c2; have c3 := HB2.out.c3; have hcv := fun O => HC1.out (w2.alloc O) (w2.heap.size + 1) (size_box _ _); have hcv2 := fun O O' => HC2.out ((w2.alloc O).alloc O') (w2.heap.size + 1 + 1) (by rw [size_box, size_box]); clear hb))
    go_ret
    exact str_put HE.out (by rw [S_append]) ((HB3f.out _ HB2.out.2 _ _).alloc (by have := HB2.out.2.size; rw [size_box, size_box]; omega) _)
  have d1 : ((m : Int) == 1) = false := by simp; omega
  by_cases m3 : m = 3
  · subst m3
    have HE := Lib.hid (show putL i = o ++ (labL i.l ++ xa) by rw [HIM.out, HXA.out, HO.out]; unfold immB; rw [if_neg (by omega), if_neg (by omega), if_pos rfl])
    have q1 : (S o).size + (S xl).size ≤ 9223372036854775807 := by omega
    go_enter Tryd.func28, Tryd.ntmps28
    go_wp2_with (first
      | (go_at_call 41; go_must ((with_reducible refine (HI.out _).mono ?_); rintro e w2 ⟨rfl, hb⟩; have HB2 := Lib.hid (HB.out.on hb); have hlt := HB2.out.lt; have c0 := HB2.out.c0; have c1 := HB2.out.c1; have c2 := HB2.out.c2; have c3 := HB2.out.c3; have hcv := fun O => HC1.out (w2.alloc O) (w2.heap.size + 1) (size_box _ _); clear hb))
      | (go_at_call 48; go_must ((with_reducible refine (NL.out _).mono ?_); rintro e w3 ⟨rfl, hb⟩; have HB3 := Lib.hid (HB2.out.on3 hb); clear hb)))
    rw [S_append]
    obtain ⟨t0, ht0⟩ : ∃ t, t = o ++ xl := ⟨_, rfl⟩
    rw [← ht0]
    have HT0 := Lib.hid ht0
    clear ht0
    go_loopw [5, 6] (fun s j wr => ∃ k : Nat, k ≤ i.l.length ∧ j = .int .i64 k ∧ s = .string (S (t0 ++ labsL (i.l.take k))) ∧ BoxI w wr i A c) (fun _ j _ => i.l.length - (intOf j).toNat)
    case atStart => exact ⟨0, Nat.zero_le _, rfl, by simp [labsL], HB3.out⟩
    case round =>
      obtain ⟨k, hk, rfl, rfl, hbx⟩ := hrel
      have d3 := hbx.c3
      have d1 := hbx.c1
      have HBX := Lib.hid hbx
      have hlen : (t0 ++ labsL (i.l.take k)).length ≤ 200000 := by rw [List.length_append, HT0.out, List.length_append, HO.out]; have := labsL_take_len i.l HL0.out k h10; simp; omega
      by_cases hlt : k < i.l.length
      · obtain ⟨d, hd⟩ : ∃ d, i.l[k]? = some d := ⟨_, List.getElem?_eq_getElem hlt⟩
        obtain ⟨b, off, rfl, hbl, hcell⟩ := HL.out k _ (cells32_get hd)
        have hcell2 := (hbx.2.cell (p := ⟨b, off + k, none⟩) hbl).trans hcell
        have hdb := HL0.out d (List.mem_of_getElem? hd)
        have wd : IntKind.u64.wrap d = d := by simp [IntKind.wrap, IntKind.bits, IntKind.signed]; omega
        have ND := Lib.hid (fun W => num_any d W hdb.1 (by omega))
        have m2 := lebL_len d (by omega)
        have HS := Lib.hid (labsL_snoc hd)
        obtain ⟨y, hy⟩ : ∃ y, y = lebL d := ⟨_, rfl⟩
        rw [← hy] at ND m2 HS
        obtain ⟨t, ht⟩ : ∃ t, t = t0 ++ labsL (i.l.take k) := ⟨_, rfl⟩
        rw [← ht] at hlen ⊢
        have HTT := Lib.hid ht
        have st := S_size t
        have sy := S_size y
        have q : (S t).size + (S y).size ≤ 9223372036854775807 := by omega
        clear hcell hd hy ht hbx
        go_wp2_with (go_at_call 48; go_must ((with_reducible refine (ND.out _).mono ?_); rintro e w4 ⟨rfl, hb⟩; have HB4 := Lib.hid (HBX.out.on hb); clear hb))
        go_roundw
        case rel => exact ⟨k + 1, by omega, by go_num, by rw [S_append, HS.out, ← List.append_assoc, ← HTT.out], HB4.out⟩
        case measure => simp [intOf]; omega
      · obtain rfl : k = i.l.length := by omega
        obtain ⟨t, ht⟩ : ∃ t, t = t0 ++ labsL (i.l.take i.l.length) := ⟨_, rfl⟩
        rw [← ht] at hlen ⊢
        have HTT := Lib.hid (show t = o ++ labL i.l by rw [ht, HT0.out, List.take_of_length_le (Nat.le_refl _)]; unfold labL; rw [List.append_assoc, HXL.out])
        have st := S_size t
        have q : (S t).size + (S xa).size ≤ 9223372036854775807 := by omega
        clear ht hbx
        go_wp2_with (go_at_call 48; go_must ((with_reducible refine (NA.out _).mono ?_); rintro e w4 ⟨rfl, hb⟩; have HB4 := Lib.hid (HBX.out.on hb); clear hb))
        go_ret
        exact str_put HE.out (by rw [S_append, HTT.out, List.append_assoc]) HB4.out.2
  have d3 : ((m : Int) == 3) = false := by simp; omega
  by_cases m5 : m = 5
  · subst m5
    have HE := Lib.hid (show putL i = o ++ (xa ++ [0]) by rw [HIM.out, HXA.out, HO.out]; unfold immB; rw [if_neg (by omega), if_neg (by omega), if_neg (by omega), if_pos rfl])
    have q1 : (S o).size + (S xa).size ≤ 9223372036854775807 := by omega
    have q2 : (S o).size + (S xa).size + 1 ≤ 9223372036854775807 := by omega
    go_enter Tryd.func28, Tryd.ntmps28
    go_wp2_with (first
      | (go_at_call 41; go_must ((with_reducible refine (HI.out _).mono ?_); rintro e w2 ⟨rfl, hb⟩; have HB2 := Lib.hid (HB.out.on hb); have hlt := HB2.out.lt; have c0 := HB2.out.c0; have c1 := HB2.out.c1; have c2 := HB2.out.c2; have c3 := HB2.out.c3; have hcv := fun O => HC1.out (w2.alloc O) (w2.heap.size + 1) (size_box _ _); clear hb))
      | (go_at_call 48; go_must ((with_reducible refine (NA.out _).mono ?_); rintro e w3 ⟨rfl, hb⟩; have HB3 := Lib.hid hb; clear hb)))
    go_ret
    exact str_put HE.out (by rw [show ({ data := #[0] } : ByteArray) = S [0] from rfl, S_append, S_append, List.append_assoc]) ((HB3f.out _ HB2.out.2 _ _).trans (HB3.out.mono (HB3f.out _ HB2.out.2 _ _).size))
  have d5 : ((m : Int) == 5) = false := by simp; omega
  by_cases m8 : m = 8
  · subst m8
    have HE := Lib.hid (show putL i = o ++ (xa ++ xb) by rw [HIM.out, HXA.out, HXB.out, HO.out]; unfold immB; rw [if_neg (by omega), if_neg (by omega), if_neg (by omega), if_neg (by omega), if_pos rfl])
    have q1 : (S o).size + (S xa).size ≤ 9223372036854775807 := by omega
    have q2 : (S o).size + (S xa).size + (S xb).size ≤ 9223372036854775807 := by omega
    have q3 : ¬ 9223372036854775807 < (S o).size + (S xa).size := by omega
    have q4 : ¬ 9223372036854775807 < (S o).size + (S xa).size + (S xb).size := by omega
    go_enter Tryd.func28, Tryd.ntmps28
    go_wp2_with (first
      | (go_at_call 41; go_must ((with_reducible refine (HI.out _).mono ?_); rintro e w2 ⟨rfl, hb⟩; have HB2 := Lib.hid (HB.out.on hb); have hlt := HB2.out.lt; have c0 := HB2.out.c0; have c1 := HB2.out.c1; have c2 := HB2.out.c2; have c3 := HB2.out.c3; have hcv := fun O => HC1.out (w2.alloc O) (w2.heap.size + 1) (size_box _ _); clear hb)))
    clear q1 q2 so sa sb sl
    have HS0 := Lib.hid (HB2.out.two3)
    go_region_held3 (fun W => BoxI w W i A c ∧ W.cell? ⟨w.heap.size, 1, none⟩ = some (.int .u64 i.a) ∧ W.cell? ⟨w.heap.size, 2, none⟩ = some (.int .u64 i.b))
      (first | assumption | exact BoxI.three (HS0.out _ _) | exact BoxI.three ((HS0.out _ _).drewN 1))
      (first | (go_at_call 48; first | ((with_reducible refine (held_num NA.out ‹_›).mono ?_); rintro e w3 ⟨rfl, hk3⟩) | ((with_reducible refine (held_num NB.out ‹_›).mono ?_); rintro e w4 ⟨rfl, hk4⟩)))
    go_wp2
    go_ret
    exact str_put HE.out (by rw [S_append, S_append, List.append_assoc]) (BoxI.bel hk4.1)
  have d8 : ((m : Int) == 8) = false := by simp; omega
  by_cases m9 : m = 9
  · subst m9
    have HE := Lib.hid (show putL i = o ++ ([0]) by rw [HIM.out, HO.out]; unfold immB; rw [if_neg (by omega), if_neg (by omega), if_neg (by omega), if_neg (by omega), if_neg (by omega), if_pos rfl])
    have q1 : (S o).size + 1 ≤ 9223372036854775807 := by omega
    go_enter Tryd.func28, Tryd.ntmps28
    go_wp2_with (first
      | (go_at_call 41; go_must ((with_reducible refine (HI.out _).mono ?_); rintro e w2 ⟨rfl, hb⟩; have HB2 := Lib.hid (HB.out.on hb); have hlt := HB2.out.lt; have c0 := HB2.out.c0; have c1 := HB2.out.c1; have c2 := HB2.out.c2; have c3 := HB2.out.c3; have hcv := fun O => HC1.out (w2.alloc O) (w2.heap.size + 1) (size_box _ _); clear hb)))
    go_ret
    exact str_put HE.out (by rw [show ({ data := #[0] } : ByteArray) = S [0] from rfl, S_append]) (HB3f.out _ HB2.out.2 _ _)
  have d9 : ((m : Int) == 9) = false := by simp; omega
  by_cases m10 : m = 10
  · subst m10
    have HE := Lib.hid (show putL i = o ++ (sebL (s32 i.a)) by rw [HIM.out, HO.out]; unfold immB; rw [if_neg (by omega), if_neg (by omega), if_neg (by omega), if_neg (by omega), if_neg (by omega), if_neg (by omega), if_pos rfl])
    have hs : -9223372036854775808 ≤ s32 i.a ∧ s32 i.a ≤ 9223372036854775807 := by unfold s32; omega
    have kz := sebL_len (s32 i.a) hs.1 hs.2
    have NZ := Lib.hid (fun W => signed32_any i.a W a0 a1)
    generalize sebL (s32 i.a) = z at *
    have sz := S_size z
    have q1 : (S o).size + (S z).size ≤ 9223372036854775807 := by omega
    go_enter Tryd.func28, Tryd.ntmps28
    go_wp2_with (first
      | (go_at_call 41; go_must ((with_reducible refine (HI.out _).mono ?_); rintro e w2 ⟨rfl, hb⟩; have HB2 := Lib.hid (HB.out.on hb); have hlt := HB2.out.lt; have c0 := HB2.out.c0; have c1 := HB2.out.c1; have c2 := HB2.out.c2; have c3 := HB2.out.c3; have hcv := fun O => HC1.out (w2.alloc O) (w2.heap.size + 1) (size_box _ _); clear hb))
      | (go_at_call 49; go_must ((with_reducible refine (NZ.out _).mono ?_); rintro e w3 ⟨rfl, hb⟩; have HB3 := Lib.hid hb; clear hb)))
    go_ret
    exact str_put HE.out (by rw [S_append]) ((HB3f.out _ HB2.out.2 _ _).trans (HB3.out.mono (HB3f.out _ HB2.out.2 _ _).size))
  have d10 : ((m : Int) == 10) = false := by simp; omega
  by_cases m11 : m = 11
  · subst m11
    have HE := Lib.hid (show putL i = o ++ (sebL (s64 i.a)) by rw [HIM.out, HO.out]; unfold immB; rw [if_neg (by omega), if_neg (by omega), if_neg (by omega), if_neg (by omega), if_neg (by omega), if_neg (by omega), if_neg (by omega), if_pos rfl])
    have hs : -9223372036854775808 ≤ s64 i.a ∧ s64 i.a ≤ 9223372036854775807 := by unfold s64; omega
    have kz := sebL_len (s64 i.a) hs.1 hs.2
    have NZ := Lib.hid (fun W => signed64_any i.a W a0 a1)
    generalize sebL (s64 i.a) = z at *
    have sz := S_size z
    have q1 : (S o).size + (S z).size ≤ 9223372036854775807 := by omega
    go_enter Tryd.func28, Tryd.ntmps28
    go_wp2_with (first
      | (go_at_call 41; go_must ((with_reducible refine (HI.out _).mono ?_); rintro e w2 ⟨rfl, hb⟩; have HB2 := Lib.hid (HB.out.on hb); have hlt := HB2.out.lt; have c0 := HB2.out.c0; have c1 := HB2.out.c1; have c2 := HB2.out.c2; have c3 := HB2.out.c3; have hcv := fun O => HC1.out (w2.alloc O) (w2.heap.size + 1) (size_box _ _); clear hb))
      | (go_at_call 49; go_must ((with_reducible refine (NZ.out _).mono ?_); rintro e w3 ⟨rfl, hb⟩; have HB3 := Lib.hid hb; clear hb)))
    go_ret
    exact str_put HE.out (by rw [S_append]) ((HB3f.out _ HB2.out.2 _ _).trans (HB3.out.mono (HB3f.out _ HB2.out.2 _ _).size))
  have d11 : ((m : Int) == 11) = false := by simp; omega
  have HE := Lib.hid (show putL i = o ++ xa by rw [HIM.out, HXA.out, HO.out]; unfold immB; rw [if_neg m0, if_neg m1, if_neg m3, if_neg m5, if_neg m8, if_neg m9, if_neg m10, if_neg m11])
  have q1 : (S o).size + (S xa).size ≤ 9223372036854775807 := by omega
  clear HIM
  go_enter Tryd.func28, Tryd.ntmps28
  go_wp2_with (first
    | (go_at_call 41; go_must ((with_reducible refine (HI.out _).mono ?_); rintro e w2 ⟨rfl, hb⟩; have HB2 := Lib.hid (HB.out.on hb); have hlt := HB2.out.lt; have c0 := HB2.out.c0; have c1 := HB2.out.c1; have c2 := HB2.out.c2; have c3 := HB2.out.c3; have hcv := fun O => HC1.out (w2.alloc O) (w2.heap.size + 1) (size_box _ _); clear hb))
    | (go_at_call 48; go_must ((with_reducible refine (NA.out _).mono ?_); rintro e w3 ⟨rfl, hb⟩; have HB3 := Lib.hid hb; clear hb)))
  go_ret
  exact str_put HE.out (by rw [S_append]) ((HB3f.out _ HB2.out.2 _ _).trans (HB3.out.mono (HB3f.out _ HB2.out.2 _ _).size))
end Go.Proofs.YtjjhgmmkapeifaaDoor

/- consts.Put, Global; the reference's Put; awake. -/
namespace Go.Proofs.YtjjhgmmkapeifaaDoor
open Go.RowKit
set_option linter.unusedVariables false
set_option maxRecDepth 100000

/-- What consts.Put hands back. -/
def CPutPost (i : I) (w : World) (e : Ending) (w' : World) : Prop :=
  ∃ v, e = .returned (.tuple #[v, .int .i64 (crightZ i)]) ∧ Row w' w.heap.size v (if crightZ i = 0 then putL i ++ [11] else []) ∧ Below w.heap.size w w'
theorem cput_no {i : I} {z : Int} {w w' : World} (h : z ≠ 0) (hz : z = crightZ i) (hb : Below w.heap.size w w') : CPutPost i w (.returned (.tuple #[.slice none 0 0, .int .i64 z])) w' := by
  subst hz
  exact ⟨_, rfl, by rw [if_neg h]; exact Row.nil _ _, hb⟩
theorem cput_yes {i : I} {x : List UInt8} {v : Value} {w w' : World} (h : crightZ i = 0) (hx : x = putL i) (hr : Row w' w.heap.size v (x ++ [11])) (hb : Below w.heap.size w w') : CPutPost i w (.returned (.tuple #[v, .int .i64 0])) w' :=
  ⟨v, by rw [h], by rw [if_pos h, ← hx]; exact hr, hb⟩
set_option maxHeartbeats 1000000 in
theorem cput_any (i : I) (A : Option Addr) (c : Nat) (w : World) (h : i.Ok) (hT : Tabs w) (hl : Lies w w.heap.size A (cells32 i.l)) (hl63 : (i.l.length : Int) ≤ 9223372036854775807) :
    Calls Tryd.prog 8 #[insV i A c] w (CPutPost i w) := by
  have HB := Lib.hid (BoxI.start w i A c)
  have HR := Lib.hid (cright_any i A c (w.alloc (.cells (insC i A c) 25)) h (hT.below HB.out.2) hl63)
  by_cases h0 : crightZ i = 0
  · rw [h0] at HR
    have hr := (cr_zero h0).1
    have hlen := immL_len h hr
    obtain ⟨x, hx⟩ : ∃ x, x = putL i := ⟨_, rfl⟩
    have hxl : x.length ≤ 200001 := by rw [hx]; show (i.op :: immL i).length ≤ _; simp; omega
    have HP := Lib.hid (fun W (hb : Below w.heap.size w W) => show Calls Tryd.prog 26 #[insV i A c] W fun e w' => ∃ v, e = .returned (.tuple #[v, .int .i64 0]) ∧ Row w' W.heap.size v x ∧ Below W.heap.size W w' from
      (put_any i A c W h (hT.below hb) ((hl.below hb (Nat.le_refl _)).more hb.size) hl63).mono fun e w' hq => by
        obtain ⟨v, h1, h2, h3⟩ := hq
        rw [hr] at h1
        rw [if_pos hr, ← hx] at h2
        exact ⟨v, h1, h2, h3⟩)
    have HX := Lib.hid hx
    have H0 := Lib.hid h0
    clear h hT hl hl63 h0 hr hlen hx
    go_enter Tryd.func8, Tryd.ntmps8
    go_wp2_with (first
      | (go_at_call 10; go_must ((with_reducible refine HR.out.mono ?_); rintro e w1 ⟨rfl, hb⟩; have HB1 := Lib.hid (HB.out.on hb); have c0 := HB1.out.c0; have c1 := HB1.out.c1; have c2 := HB1.out.c2; have c3 := HB1.out.c3; clear hb))
      | (go_at_call 26; go_must ((with_reducible refine (HP.out _ HB1.out.bel).mono ?_); intro e w2 hq; obtain ⟨v, rfl, hr, hb⟩ := hq; have HR2 := Lib.hid hr; have HB2 := Lib.hid (HB1.out.bel.trans (hb.mono HB1.out.bel.size)); have hz2 := hb.size; clear hr hb))
      | (at_builtin; (refine row_new rfl _ _ rfl w1.heap.size _ x rfl (HR2.out.alloc _) w2.heap.size 1 [11] rfl rfl (heap_alloc_new w2 _) (by omega) (by simp; omega) (by simp; omega) ?_; intro v3 w3 hr3 hb3; have HR3 := Lib.hid hr3; have HB3 := Lib.hid hb3; clear hr3 hb3)))
    go_ret2
    exact cput_yes H0.out HX.out (HR3.out.mono HB1.out.bel.size) ((HB2.out.alloc HB2.out.size _).trans (HB3.out.mono HB1.out.bel.size))
  · have HX := Lib.hid h0
    obtain ⟨z, hz⟩ : ∃ z, z = crightZ i := ⟨_, rfl⟩
    rw [← hz] at HR HX
    have dz : (z != 0) = true := by rw [hz]; simpa using h0
    have HZ := Lib.hid hz
    clear h hT hl hl63 h0 hz
    go_enter Tryd.func8, Tryd.ntmps8
    go_wp2_with (go_at_call 10; go_must ((with_reducible refine HR.out.mono ?_); rintro e w1 ⟨rfl, hb1⟩; have HB1 := Lib.hid (HB.out.on hb1); clear hb1))
    go_ret2
    exact cput_no HX.out HZ.out HB1.out.bel

theorem rcput_any (i : I) (A : Option Addr) (c : Nat) (w : World) (h : i.Ok) (hr : rightZ i = 0) (hl : Lies w w.heap.size A (cells32 i.l)) :
    Calls Tryd.prog 12 #[insV i A c] w (StrPost (putL i ++ [11]) w) := by
  have HB := Lib.hid (BoxI.start w i A c)
  have hlen := immL_len h hr
  have HP := Lib.hid (refPut_any i A c (w.alloc (.cells (insC i A c) 25)) h hr ((hl.below HB.out.2 (Nat.le_refl _)).more HB.out.2.size))
  obtain ⟨x, hx⟩ : ∃ x, x = putL i := ⟨_, rfl⟩
  have hxl : (S x).size + (⟨#[11]⟩ : ByteArray).size ≤ 9223372036854775807 := by
    rw [S_size, hx]
    show (i.op :: immL i).length + 1 ≤ _
    simp
    omega
  have hxl2 : (S x).size + 1 ≤ 9223372036854775807 := hxl
  have HS := Lib.hid (S_append x [11])
  rw [← hx] at HP ⊢
  clear h hr hl hlen hx
  go_enter Tryd.func12, Tryd.ntmps12
  go_wp2_with (go_at_call 28; go_must ((with_reducible refine HP.out.mono ?_); rintro e w1 ⟨rfl, hb⟩; have HB1 := Lib.hid (HB.out.on hb); clear hb))
  go_ret
  exact ⟨by rw [← HS.out]; rfl, HB1.out.bel⟩

/-- Global's instruction. -/
abbrev gIns (n : Int) : I := ⟨35, n, 0, []⟩
theorem cglobal_any (n : Int) (w : World) (h0 : 0 ≤ n) (h1 : n ≤ 4294967295) :
    Calls Tryd.prog 9 #[.int .u32 n] w fun e w' => e = .returned (.agg #[.int .u8 35, .int .u64 n, .int .u64 0, .slice none 0 0]) ∧ Below w.heap.size w w' := by
  have hw : IntKind.u64.wrap n = n := by simp [IntKind.wrap, IntKind.bits, IntKind.signed]; omega
  go_enter Tryd.func9, Tryd.ntmps9
  go_wp2
  exact bodyPost_ret (v := .agg #[.int .u8 35, .int .u64 n, .int .u64 0, .slice none 0 0]) (by simp [results, Tryd.results9, go_sem]) rfl ⟨rfl, below_box _ _⟩

/-- The page's example. -/
def cEg : I := ⟨65, 5, 0, []⟩
theorem cEg_ok : cEg.Ok := ⟨by decide, by decide, by decide, by decide, fun c h => by cases h⟩
theorem cEg_imm : immR cEg.n = 10 := by decide +kernel
theorem cEg_right : rightZ cEg = 0 := by decide +kernel
theorem cEg_zero : crightZ cEg = 0 := cr_yes cEg_right (by decide)
theorem cEg_put : putL cEg = [65, 5] := by
  have hm : sebN 5 = 1 := (sebN_least 5 (by omega) (by omega)).unique ⟨Nat.le_refl _, by unfold fitS; decide, fun m a b => by omega⟩
  have hs : s32 cEg.a = 5 := by decide +kernel
  unfold putL immL immB
  rw [cEg_imm, hs]
  show [65] ++ sebL 5 = _
  unfold sebL
  rw [hm]
  rfl
theorem cawake_any (w : World) (hT : Tabs w) : Calls Tryd.prog 6 #[] w fun e w' => e = .returned (.bool true) ∧ Below w.heap.size w w' := by
  have hp := cput_any cEg none 0 w cEg_ok hT (fun j v hv => by simp [cells32, cEg] at hv) (by decide)
  obtain ⟨l, hl⟩ : ∃ l : List UInt8, l = [65, 5, 11] := ⟨_, rfl⟩
  have HP := Lib.hid (show Calls Tryd.prog 8 #[.agg #[.int .u8 65, .int .u64 5, .int .u64 0, .slice none 0 0]] w fun e w' => ∃ v, e = .returned (.tuple #[v, .int .i64 0]) ∧ Row w' w.heap.size v l ∧ Below w.heap.size w w' from hp.mono fun e w' ⟨v, h1, h2, h3⟩ => ⟨v, by rw [cEg_zero] at h1; exact h1, by rw [if_pos cEg_zero, cEg_put] at h2; rw [hl]; exact h2, h3⟩)
  have hcmp : ((S l).toList == [65, 5, 11]) = true := by rw [S_toList, hl]; rfl
  clear hl
  clear hp hT
  go_enter Tryd.func6, Tryd.ntmps6
  go_wp2_with (go_at_call 8; go_must ((with_reducible refine HP.out.mono ?_); intro e w1 h; obtain ⟨v, rfl, hr, hb⟩ := h; obtain ⟨A, c, rfl, hcv⟩ := hr.str; have hcv2 := hcv 9 Tryd.underlying9; have HB := Lib.hid hb; clear hb hr hcv))
  go_ret
  exact ⟨rfl, HB.out⟩
end Go.Proofs.YtjjhgmmkapeifaaDoor

/- The walk of ConstsValues. (By gen/genLawCV.py.) -/
namespace Go.Proofs.YtjjhgmmkapeifaaDoor
open Go.RowKit
set_option linter.unusedVariables false
set_option maxRecDepth 100000

/-- The instruction's box, the value's box behind it. -/
structure CVs (w : World) (i : I) (A : Option Addr) (c : Nat) (t n : Int) (W : World) : Prop where
  box : BoxI w W i A c
  vb : Whole W (w.heap.size + 1) 54 #[.int .u8 t, .int .u64 n]
section
variable {w W W' : World} {i : I} {A : Option Addr} {c : Nat} {t n : Int}
theorem CVs.on (h : CVs w i A c t n W) (hb : Below W.heap.size W W') : CVs w i A c t n W' := ⟨h.box.on hb, h.vb.below hb⟩
theorem CVs.bel (h : CVs w i A c t n W) : Below w.heap.size w W := h.box.2
theorem CVs.start (w : World) (i : I) (A : Option Addr) (c : Nat) (t n : Int) : CVs w i A c t n ((w.alloc (.cells (insC i A c) 25)).alloc (.cells #[.int .u8 t, .int .u64 n] 54)) := by
  have := Whole.made (w.alloc (.cells (insC i A c) 25)) 54 #[.int .u8 t, .int .u64 n]
  rw [size_box] at this
  exact ⟨(BoxI.start w i A c).on (below_box _ _), this⟩
theorem CVs.app {w2 : World} {o : Obj} (h : CVs w i A c t n W) (hb : Below (w.heap.size + 2) (W.alloc o) w2) : CVs w i A c t n w2 :=
  ⟨⟨(hb.block w.heap.size (by omega)).trans (h.box.1.alloc o), (h.box.2.alloc h.box.2.size _).trans (hb.mono (by omega))⟩, (hb.block (w.heap.size + 1) (by omega)).trans (h.vb.alloc o)⟩
end
/-- .. and the value that comes back. -/
structure CVz (w : World) (i : I) (A : Option Addr) (c : Nat) (t n x : Int) (b8 : Nat) (W : World) : Prop where
  a : CVs w i A c t n W
  z : Whole W b8 54 #[.int .u8 t, .int .u64 x]
abbrev Four (w : World) (t n x : Int) (b8 : Nat) (W : World) : Prop :=
  (W.cell? ⟨w.heap.size + 1, 0, none⟩ = some (.int .u8 t) ∧ W.cell? ⟨w.heap.size + 1, 1, none⟩ = some (.int .u64 n)) ∧ W.cell? ⟨b8, 0, none⟩ = some (.int .u8 t) ∧ W.cell? ⟨b8, 1, none⟩ = some (.int .u64 x)
theorem CVz.on {w W W' : World} {i : I} {A : Option Addr} {c : Nat} {t n x : Int} {b8 : Nat} (h : CVz w i A c t n x b8 W) (hb : Below W.heap.size W W') : CVz w i A c t n x b8 W' := ⟨h.a.on hb, h.z.below hb⟩
theorem CVz.four {w W : World} {i : I} {A : Option Addr} {c : Nat} {t n x : Int} {b8 : Nat} (h : CVz w i A c t n x b8 W) : CVz w i A c t n x b8 W ∧ Four w t n x b8 W := ⟨h, ⟨h.a.vb.cell 0, h.a.vb.cell 1⟩, h.z.cell 0, h.z.cell 1⟩
theorem typZ_bd {i : I} {gs : List (Int × Bool)} (wg : ∀ q ∈ gs, 0 ≤ q.1 ∧ q.1 ≤ 255) : 0 ≤ (typZ i gs).1 ∧ (typZ i gs).1 ≤ 255 := by
  unfold typZ
  by_cases h0 : crightZ i = 0
  · rw [if_pos h0]
    by_cases h65 : i.n = 65
    · rw [if_pos h65]; exact ⟨by decide, by decide⟩
    · rw [if_neg h65]
      by_cases h66 : i.n = 66
      · rw [if_pos h66]; exact ⟨by decide, by decide⟩
      · rw [if_neg h66]
        cases hx : gs[i.a.toNat]? with
        | none => exact ⟨by decide, by decide⟩
        | some x =>
          obtain ⟨t, m⟩ := x
          have := wg _ (List.mem_of_getElem? hx)
          cases m
          · exact this
          · exact ⟨by show (0 : Int) ≤ 0; omega, by show (0 : Int) ≤ 255; omega⟩
  · rw [if_neg h0]; exact ⟨by show (0 : Int) ≤ 0; omega, by show (0 : Int) ≤ 255; omega⟩
theorem own65 {x : Int} (h0 : 0 ≤ x) (h1 : x ≤ 4294967295) : crightZ ⟨65, x, 0, []⟩ = 0 := by
  refine cr_yes ?_ (show IsC 65 by decide)
  have hc : checkR 65 = 0 := by decide +kernel
  have hi : immR 65 = 10 := by decide +kernel
  have hn : (⟨65, x, 0, []⟩ : I).n = 65 := rfl
  unfold rightZ
  rw [hn, hc, hi]
  simp
  unfold numsZ
  simp
  omega
theorem own66 {x : Int} : crightZ ⟨66, x, 0, []⟩ = 0 := by
  refine cr_yes ?_ (show IsC 66 by decide)
  have hc : checkR 66 = 0 := by decide +kernel
  have hi : immR 66 = 11 := by decide +kernel
  have hn : (⟨66, x, 0, []⟩ : I).n = 66 := rfl
  unfold rightZ
  rw [hn, hc, hi]
  simp
  unfold numsZ
  simp
theorem value65 {x : Int} (h0 : 0 ≤ x) (h1 : x ≤ 4294967295) (W : World) (hT : Tabs W) :
    Calls Tryd.prog 20 #[.agg #[.int .u8 65, .int .u64 x, .int .u64 0, .slice none 0 0], .slice none 0 0] W fun e w' => e = .returned (.tuple #[.agg #[.int .u8 127, .int .u64 x], .int .i64 0]) ∧ Below W.heap.size W w' := by
  have := cvalue_any (w := W) (i := ⟨65, x, 0, []⟩) (A := none) (Av := none) (c := 0) (cv := 0) (l := []) ⟨h0, by show x ≤ _; omega, by show (0 : Int) ≤ 0; omega, by show (0 : Int) ≤ _; omega, fun c h => by cases h⟩ hT (LiesP.nil W) (by simp) (by simp)
  rw [show valZ ⟨65, x, 0, []⟩ [] = ((127, x), 0) by unfold valZ; rw [if_pos (own65 h0 h1), if_pos (show (⟨65, x, 0, []⟩ : I).n = 65 from rfl)]] at this
  exact this
theorem value66 {x : Int} (h0 : 0 ≤ x) (h1 : x ≤ 18446744073709551615) (W : World) (hT : Tabs W) :
    Calls Tryd.prog 20 #[.agg #[.int .u8 66, .int .u64 x, .int .u64 0, .slice none 0 0], .slice none 0 0] W fun e w' => e = .returned (.tuple #[.agg #[.int .u8 126, .int .u64 x], .int .i64 0]) ∧ Below W.heap.size W w' := by
  have := cvalue_any (w := W) (i := ⟨66, x, 0, []⟩) (A := none) (Av := none) (c := 0) (cv := 0) (l := []) ⟨h0, h1, by show (0 : Int) ≤ 0; omega, by show (0 : Int) ≤ _; omega, fun c h => by cases h⟩ hT (LiesP.nil W) (by simp) (by simp)
  rw [show valZ ⟨66, x, 0, []⟩ [] = ((126, x), 0) by unfold valZ; rw [if_pos own66, if_neg (show ¬ (⟨66, x, 0, []⟩ : I).n = 65 from (show ¬ (66 : Nat) = 65 by decide)), if_pos (show (⟨66, x, 0, []⟩ : I).n = 66 from rfl)]] at this
  exact this
theorem zeroV_same (w : World) : Calls Tryd.prog 11 #[.agg #[.int .u8 0, .int .u64 0, .int .u64 0, .slice none 0 0], .agg #[.int .u8 0, .int .u64 0, .int .u64 0, .slice none 0 0]] w (BoolPost true w) := by
  have := refSame_any (w := w) (A := none) (B := none) (c := 0) (d := 0) (i := ⟨0, 0, 0, []⟩) (k := ⟨0, 0, 0, []⟩) (fun j v hv => by simp [cells32] at hv) (fun j v hv => by simp [cells32] at hv) (by simp) (by simp)
  rw [show sameZ ⟨0, 0, 0, []⟩ ⟨0, 0, 0, []⟩ = true by unfold sameZ; simp] at this
  exact this

set_option maxHeartbeats 4000000 in
theorem lawCV {w : World} {i : I} {A M : Option Addr} {c cm : Nat} {t n : Int} {gs : List (Int × Bool)} (hT : Tabs w) (oi : i.Ok) (hi : LiesL w A i.l) (ni : (i.l.length : Int) ≤ 9223372036854775807) (wg : ∀ q ∈ gs, 0 ≤ q.1 ∧ q.1 ≤ 255) (hg : LiesG w M gs) (nm : (gs.length : Int) ≤ 9223372036854775807)
    (wt : 0 ≤ t ∧ t ≤ 255) (wn : 0 ≤ n ∧ n ≤ 18446744073709551615) :
    Calls Tryd.prog 5 #[insV i A c, .slice M gs.length cm, .agg #[.int .u8 t, .int .u64 n]] w (BoolPost true w) := by
  have h0 := CVs.start w i A c t n
  have HAW := Lib.hid (cawake_any _ (hT.below h0.bel))
  have H0 := Lib.hid h0
  clear h0 hi
  by_cases g1 : 200 < i.l.length
  · have t1 : decide (200 < (i.l.length : Int)) = true := decide_eq_true (by omega)
    clear hT hg oi wg
    go_enter Tryd.func5, Tryd.ntmps5
    go_wp2_with (go_at_call 6; go_must ((with_reducible refine HAW.out.mono ?_); rintro e w1 ⟨rfl, hb⟩; have H1 := Lib.hid (H0.out.on hb); have c3 := H1.out.box.c3; clear hb))
    go_ret
    exact ⟨rfl, H1.out.bel⟩
  have t1 : decide (200 < (i.l.length : Int)) = false := decide_eq_false (by omega)
  by_cases g2 : 100 < gs.length
  · have t2 : decide (100 < (gs.length : Int)) = true := decide_eq_true (by omega)
    clear hT hg oi wg
    go_enter Tryd.func5, Tryd.ntmps5
    go_wp2_with (go_at_call 6; go_must ((with_reducible refine HAW.out.mono ?_); rintro e w1 ⟨rfl, hb⟩; have H1 := Lib.hid (H0.out.on hb); have c3 := H1.out.box.c3; clear hb))
    go_ret
    exact ⟨rfl, H1.out.bel⟩
  have t2 : decide (100 < (gs.length : Int)) = false := decide_eq_false (by omega)
  obtain ⟨l1, hl1⟩ : ∃ l1, l1 = numG gs 0 := ⟨_, rfl⟩
  have hlen : l1.length = gs.length := by rw [hl1]; exact numG_length gs 0
  have HTYP := Lib.hid (fun W (hb : Below w.heap.size w W) => ctype_any (c := c) (cm := cm) (A := A) oi (hT.below hb) (hg.below hb) ni nm)
  have HRTY := Lib.hid (fun W (hb : Below w.heap.size w W) => rtype_any (c := c) (cm := cm) oi (A := A) (hg.below hb) ni (by omega) wg)
  have HVAL := Lib.hid (fun W (Av : Option Addr) (cv : Nat) (hb : Below w.heap.size w W) (hl : LiesP W Av l1) => cvalue_any (c := c) (cv := cv) (A := A) oi (hT.below hb) hl ni (by omega))
  have HRVA := Lib.hid (fun W (Av : Option Addr) (cv : Nat) (hb : Below w.heap.size w W) (hl : LiesP W Av l1) => rvalue_any (c := c) (cv := cv) (A := A) oi hl ni (by omega))
  have hbd := typZ_bd (i := i) wg
  obtain ⟨T, hTT⟩ : ∃ T, T = typZ i gs := ⟨_, rfl⟩
  rw [← hTT] at HTYP HRTY hbd
  obtain ⟨V, hVV⟩ : ∃ V, V = valZ i l1 := ⟨_, rfl⟩
  rw [← hVV] at HVAL HRVA
  obtain ⟨T1, T2⟩ := T
  obtain ⟨⟨V1, V2⟩, V3⟩ := V
  have HTYP := Lib.hid (fun W (hb : Below w.heap.size w W) => show Calls Tryd.prog 19 #[insV i A c, .slice M gs.length cm] W (fun e w' => e = .returned (.tuple #[.int .u8 T1, .int .i64 T2]) ∧ Below W.heap.size W w') from HTYP.out W hb)
  have HRTY := Lib.hid (fun W (hb : Below w.heap.size w W) => show Calls Tryd.prog 21 #[insV i A c, .slice M gs.length cm] W (fun e w' => e = .returned (.tuple #[.int .i64 T1, .int .i64 T2]) ∧ Below W.heap.size W w') from HRTY.out W hb)
  have HVAL := Lib.hid (fun W (Av : Option Addr) (cv : Nat) (hb : Below w.heap.size w W) (hl : LiesP W Av l1) => show Calls Tryd.prog 20 #[insV i A c, .slice Av l1.length cv] W (fun e w' => e = .returned (.tuple #[.agg #[.int .u8 V1, .int .u64 V2], .int .i64 V3]) ∧ Below W.heap.size W w') from HVAL.out W Av cv hb hl)
  have HRVA := Lib.hid (fun W (Av : Option Addr) (cv : Nat) (hb : Below w.heap.size w W) (hl : LiesP W Av l1) => show Calls Tryd.prog 22 #[insV i A c, .slice Av l1.length cv] W (fun e w' => e = .returned (.tuple #[.agg #[.int .u8 V1, .int .u64 V2], .int .i64 V3]) ∧ Below W.heap.size W w') from HRVA.out W Av cv hb hl)
  have hwT : IntKind.i64.wrap T1 = T1 := by rw [IntKind.wrap_i64]; have h1 : 0 ≤ T1 := hbd.1; have h2 : T1 ≤ 255 := hbd.2; omega
  have HTK := Lib.hid (fun (k : Nat) (tt : Int) (m : Bool) (h : gs[k]? = some (tt, m)) => show l1.take (k + 1) = l1.take k ++ [(tt, (k : Int))] from by
    have := numG_get gs 0 k tt m h
    rw [Nat.zero_add, ← hl1] at this
    exact take_snocG this)
  have HG := Lib.hid hg
  have HT := Lib.hid hT
  have HLEN := Lib.hid hlen
  have HS := Lib.hid (fun (k : Nat) (hk : k < gs.length) => show ∃ t m, gs[k]? = some (t, m) from ⟨gs[k].1, gs[k].2, List.getElem?_eq_getElem hk⟩)
  have ng : gs.length ≤ 100 := by omega
  clear hg hT hl1 hlen hTT hVV hbd oi g1 g2 wg
  by_cases h127 : t = 127
  · subst h127
    obtain ⟨xx, hxx⟩ : ∃ xx, xx = n % 4294967296 := ⟨_, rfl⟩
    have HOF := Lib.hid (fun W => of_int n xx W hxx)
    have HV2 := Lib.hid (fun W (h : Tabs W) => value65 (x := xx) (by omega) (by omega) W h)
    have HCUT := Lib.hid (fun W => show Calls Tryd.prog 24 #[.agg #[.int .u8 127, .int .u64 n]] W fun e w' => e = .returned (.agg #[.int .u8 127, .int .u64 xx]) ∧ Below W.heap.size W w' from by have := refCut_any 127 n W wn.1 wn.2; rw [show cutZ 127 n = xx by rw [hxx]; rfl] at this; exact this)
    clear hxx wt wn
    go_enter Tryd.func5, Tryd.ntmps5
    go_wp2_with (go_at_call 6; go_must ((with_reducible refine HAW.out.mono ?_); rintro e w1 ⟨rfl, hb⟩; have H1 := Lib.hid (H0.out.on hb); have c3 := H1.out.box.c3; clear hb))
    go_loopw [7, 8] (fun v x wr => ∃ k : Nat, k ≤ gs.length ∧ x = .int .i64 k ∧ RowV wr (w.heap.size + 2) v (l1.take k) ∧ CVs w i A c 127 n wr) (fun _ x _ => gs.length - (intOf x).toNat)
    case atStart => exact ⟨0, Nat.zero_le _, rfl, RowV.nil _ _, H1.out⟩
    case round =>
      obtain ⟨k, hk, rfl, hrow, hbox⟩ := hrel
      have HB := Lib.hid hbox
      have HROW := Lib.hid hrow
      by_cases hlt : k < gs.length
      · obtain ⟨tt, m, hx⟩ := HS.out k hlt
        obtain ⟨bb, off, rfl, hbb, g0, g1⟩ := (HG.out.below hbox.bel) k tt m hx
        have HTX := Lib.hid (HTK.out k tt m hx)
        have hlen : (l1.take k).length ≤ 1000 := by rw [List.length_take]; omega
        have hwk : IntKind.u64.wrap (k : Int) = k := by simp [IntKind.wrap, IntKind.bits, IntKind.signed]; omega
        have hsz2 : w.heap.size + 2 ≤ wr.heap.size := hbox.vb.lt
        clear hrow hbox hx
        go_wp2_with (at_builtin; (refine rowsV_new rfl _ _ rfl (w.heap.size + 2) _ (l1.take k) rfl (HROW.out.alloc _) wr.heap.size (tt, (k : Int)) rfl (Whole.made wr _ _) hlen (Nat.le_trans hsz2 (below_box wr _).size) ?_; intro v2 w2 hr2 hb2; rw [← HTX.out] at hr2; have HR2 := Lib.hid hr2; have HB2 := Lib.hid hb2; clear hr2 hb2))
        go_roundw
        case rel => exact ⟨k + 1, by omega, by go_num, HR2.out, HB.out.app HB2.out⟩
        case measure => simp [intOf]; omega
      · obtain rfl : k = gs.length := by omega
        have htk : l1.take gs.length = l1 := List.take_of_length_le (by rw [HLEN.out]; exact Nat.le_refl _)
        rw [htk] at hrow
        obtain ⟨Av, cv, hav, hlv⟩ := hrow.lies
        subst hav
        have HLV := Lib.hid hlv
        have c0 := hbox.box.c0
        have c1 := hbox.box.c1
        have c2 := hbox.box.c2
        have c3 := hbox.box.c3
        have v0 : _ = some (Value.int .u8 127) := hbox.vb.cell 0
        have v1 : _ = some (Value.int .u64 n) := hbox.vb.cell 1
        clear hrow hlv HROW htk hbox
        go_wp2_with (first
          | (go_at_call 19; go_must ((with_reducible refine (HTYP.out _ HB.out.bel).mono ?_); rintro e w3 ⟨rfl, hb⟩; clear c0 c1 c2 c3 v0 v1; have H3 := Lib.hid (HB.out.on hb); have HL3 := Lib.hid (HLV.out.below hb); have c0 := H3.out.box.c0; have c1 := H3.out.box.c1; have c2 := H3.out.box.c2; have c3 := H3.out.box.c3; have v0 : _ = some (Value.int .u8 127) := H3.out.vb.cell 0; have v1 : _ = some (Value.int .u64 n) := H3.out.vb.cell 1; clear hb))
          | (have tok := HO7; go_at_call 20; go_must ((with_reducible refine (HV2.out _ (HT.out.below H7.out.bel)).mono ?_); rintro e w8 ⟨rfl, hb⟩; have H8 := Lib.hid (show CVz w i A c 127 n xx w8.heap.size (w8.alloc (.cells #[.int .u8 127, .int .u64 xx] 54)) from ⟨(H7.out.on hb).on (below_box w8 _), Whole.made w8 _ _⟩); clear hb c0 c1 c2 c3 v0 v1 o0 o1 o2 o3))
          | (go_at_call 20; go_must ((with_reducible refine (HVAL.out _ _ _ H3.out.bel HL3.out).mono ?_); rintro e w4 ⟨rfl, hb⟩; clear c0 c1 c2 c3 v0 v1; have H4 := Lib.hid ((H3.out.on hb).on (below_box w4 (.cells #[.int .u8 V1, .int .u64 V2] 54))); have HL4 := Lib.hid ((HL3.out.below hb).below (below_box w4 (.cells #[.int .u8 V1, .int .u64 V2] 54))); have HX4 := Lib.hid (Whole.made w4 54 #[.int .u8 V1, .int .u64 V2]); have c0 := H4.out.box.c0; have c1 := H4.out.box.c1; have c2 := H4.out.box.c2; have c3 := H4.out.box.c3; have v0 : _ = some (Value.int .u8 127) := H4.out.vb.cell 0; have v1 : _ = some (Value.int .u64 n) := H4.out.vb.cell 1; clear hb))
          | (go_at_call 21; go_must ((with_reducible refine (HRTY.out _ H4.out.bel).mono ?_); rintro e w5 ⟨rfl, hb⟩; clear c0 c1 c2 c3 v0 v1; have H5 := Lib.hid (H4.out.on hb); have HL5 := Lib.hid (HL4.out.below hb); have HX5 := Lib.hid (HX4.out.below hb); have c0 := H5.out.box.c0; have c1 := H5.out.box.c1; have c2 := H5.out.box.c2; have c3 := H5.out.box.c3; have v0 : _ = some (Value.int .u8 127) := H5.out.vb.cell 0; have v1 : _ = some (Value.int .u64 n) := H5.out.vb.cell 1; clear hb))
          | (go_at_call 22; go_must ((with_reducible refine (HRVA.out _ _ _ H5.out.bel HL5.out).mono ?_); rintro e w6 ⟨rfl, hb⟩; clear c0 c1 c2 c3 v0 v1; have H6 := Lib.hid ((H5.out.on hb).on (below_box w6 (.cells #[.int .u8 V1, .int .u64 V2] 54))); have HX6 := Lib.hid ((HX5.out.below hb).alloc (.cells #[.int .u8 V1, .int .u64 V2] 54)); have HY6 := Lib.hid (Whole.made w6 54 #[.int .u8 V1, .int .u64 V2]); have x0 : _ = some (Value.int .u8 V1) := HX6.out.cell 0; have x1 : _ = some (Value.int .u64 V2) := HX6.out.cell 1; have c0 := H6.out.box.c0; have c1 := H6.out.box.c1; have c2 := H6.out.box.c2; have c3 := H6.out.box.c3; have v0 : _ = some (Value.int .u8 127) := H6.out.vb.cell 0; have v1 : _ = some (Value.int .u64 n) := H6.out.vb.cell 1; clear hb))
          | (go_at_call 23; go_must ((with_reducible refine (HOF.out _).mono ?_); rintro e w7 ⟨rfl, hb⟩; clear c0 c1 c2 c3 v0 v1; clear x0 x1; have H7 := Lib.hid ((H6.out.on hb).on (below_box w7 (.cells #[.int .u8 65, .int .u64 xx, .int .u64 0, .slice none 0 0] 25))); have HO7 := Lib.hid (Whole.made w7 25 #[.int .u8 65, .int .u64 xx, .int .u64 0, .slice none 0 0]); have o0 := HO7.out.cell 0; have o1 := HO7.out.cell 1; have o2 := HO7.out.cell 2; have o3 := HO7.out.cell 3; simp only [List.getElem?_toArray, List.getElem?_cons_zero, List.getElem?_cons_succ] at o0 o1 o2 o3; have c0 := H7.out.box.c0; have c1 := H7.out.box.c1; have c2 := H7.out.box.c2; have c3 := H7.out.box.c3; have v0 : _ = some (Value.int .u8 127) := H7.out.vb.cell 0; have v1 : _ = some (Value.int .u64 n) := H7.out.vb.cell 1; clear hb)))
        refine wp_region_noPanic ?_
        refine wp_region_held_drew (S := fun W => CVz w i A c 127 n xx w8.heap.size W ∧ Four w 127 n xx w8.heap.size W) (by kernel_rfl) (CVz.four (H8.out.on (Below.refl _ _).drew)) (fun hHeld => ?_)
        (refine heldTake (i := 0) (oi := { dst := some 117, op := Op.move (Operand.tmp 18), type := 30, pos := "law.go:79", after := #[], guard := none }) (v := ?_) rfl (by kernel_rfl) (by kernel_rfl) (by kernel_rfl) (by assumption) ?_ ?_; rotate_left; focus (refine .inl ⟨by kernel_rfl, ?_⟩; intro w hSw; (try dsimp only at hSw); go_simp; (try with_reducible rfl)); (try simp only [Act.put, List.setIfInBounds_toArray, List.set_cons_zero, List.set_cons_succ]))
        (refine heldTake (i := 1) (oi := { dst := some 118, op := Op.binOp BinOp.eql 30 (Operand.tmp 117) (Operand.const (Value.int IntKind.i64 0)) 30, type := 4, pos := "law.go:79", after := #[{ on := 0, ground := Ground.data }], guard := none }) (v := ?_) rfl (by kernel_rfl) (by kernel_rfl) (by kernel_rfl) (by assumption) ?_ ?_; rotate_left; focus (refine .inl ⟨by kernel_rfl, ?_⟩; intro w hSw; (try dsimp only at hSw); go_simp; (try with_reducible rfl)); (try simp only [Act.put, List.setIfInBounds_toArray, List.set_cons_zero, List.set_cons_succ]))
        (refine heldTake (i := 2) (oi := { dst := some 119, op := Op.move (Operand.tmp 118), type := 4, pos := "law.go:79", after := #[{ on := 1, ground := Ground.data }], guard := none }) (v := ?_) rfl (by kernel_rfl) (by kernel_rfl) (by kernel_rfl) (by assumption) ?_ ?_; rotate_left; focus (refine .inl ⟨by kernel_rfl, ?_⟩; intro w hSw; (try dsimp only at hSw); go_simp; (try with_reducible rfl)); (try simp only [Act.put, List.setIfInBounds_toArray, List.set_cons_zero, List.set_cons_succ]))
        (refine heldTake (i := 3) (oi := { dst := some 120, op := Op.move (Operand.tmp 20), type := 30, pos := "law.go:79", after := #[{ on := 2, ground := Ground.guard }], guard := some (2, true) }) (v := ?_) rfl (by kernel_rfl) (by kernel_rfl) (by kernel_rfl) (by assumption) ?_ ?_; rotate_left; focus (refine .inl ⟨by kernel_rfl, ?_⟩; intro w hSw; (try dsimp only at hSw); go_simp; (try with_reducible rfl)); (try simp only [Act.put, List.setIfInBounds_toArray, List.set_cons_zero, List.set_cons_succ]))
        (refine heldTake (i := 4) (oi := { dst := some 121, op := Op.binOp BinOp.eql 30 (Operand.tmp 120) (Operand.const (Value.int IntKind.i64 0)) 30, type := 4, pos := "law.go:79", after := #[{ on := 3, ground := Ground.data }, { on := 2, ground := Ground.guard }], guard := some (2, true) }) (v := ?_) rfl (by kernel_rfl) (by kernel_rfl) (by kernel_rfl) (by assumption) ?_ ?_; rotate_left; focus (refine .inl ⟨by kernel_rfl, ?_⟩; intro w hSw; (try dsimp only at hSw); go_simp; (try with_reducible rfl)); (try simp only [Act.put, List.setIfInBounds_toArray, List.set_cons_zero, List.set_cons_succ]))
        (refine heldTake (i := 5) (oi := { dst := some 122, op := Op.pick (Operand.tmp 119) (Operand.tmp 121) (Operand.const (Value.bool false)), type := 4, pos := "law.go:79", after := #[{ on := 2, ground := Ground.data }, { on := 4, ground := Ground.data }], guard := none }) (v := ?_) rfl (by kernel_rfl) (by kernel_rfl) (by kernel_rfl) (by assumption) ?_ ?_; rotate_left; focus (refine .inl ⟨by kernel_rfl, ?_⟩; intro w hSw; (try dsimp only at hSw); go_simp; (try with_reducible rfl)); (try simp only [Act.put, List.setIfInBounds_toArray, List.set_cons_zero, List.set_cons_succ]))
        (refine heldTake (i := 6) (oi := { dst := some 123, op := Op.move (Operand.tmp 122), type := 4, pos := "law.go:79", after := #[{ on := 5, ground := Ground.data }, { on := 2, ground := Ground.chain }], guard := none }) (v := ?_) rfl (by kernel_rfl) (by kernel_rfl) (by kernel_rfl) (by assumption) ?_ ?_; rotate_left; focus (refine .inl ⟨by kernel_rfl, ?_⟩; intro w hSw; (try dsimp only at hSw); go_simp; (try with_reducible rfl)); (try simp only [Act.put, List.setIfInBounds_toArray, List.set_cons_zero, List.set_cons_succ]))
        (refine heldTake (i := 7) (oi := { dst := some 124, op := Op.load 54 (Operand.tmp 19), type := 54, pos := "law.go:79", after := #[{ on := 6, ground := Ground.guard }], guard := some (6, true) }) (v := ?_) rfl (by kernel_rfl) (by kernel_rfl) (by kernel_rfl) (by assumption) ?_ ?_; rotate_left; focus (refine .inl ⟨by kernel_rfl, ?_⟩; intro w hSw; (try dsimp only at hSw); go_simp; (try with_reducible rfl)); (try simp only [Act.put, List.setIfInBounds_toArray, List.set_cons_zero, List.set_cons_succ]))
        (refine heldTake (i := 8) (oi := { dst := some 125, op := Op.load 54 (Operand.tmp 5), type := 54, pos := "law.go:79", after := #[{ on := 6, ground := Ground.guard }], guard := some (6, true) }) (v := ?_) rfl (by kernel_rfl) (by kernel_rfl) (by kernel_rfl) (by assumption) ?_ ?_; rotate_left; focus (refine .inl ⟨by kernel_rfl, ?_⟩; intro w hSw; (try dsimp only at hSw); go_simp; (try with_reducible rfl)); (try simp only [Act.put, List.setIfInBounds_toArray, List.set_cons_zero, List.set_cons_succ]))
        refine wpAnyH_ready (rs := [9]) (by kernel_rfl) (by simp) ?_
        refine AllReadyH.cons (o := { dst := some 126, op := Op.call { callee := Callee.value (Operand.func 24), args := #[Operand.tmp 125], argTypes := #[54] }, type := 54, pos := "law.go:79", after := #[{ on := 8, ground := Ground.data }, { on := 6, ground := Ground.chain }, { on := 6, ground := Ground.guard }], guard := some (6, true) }) rfl (fun K hK => ?_) AllReadyH.nil
        go_simp
        (go_at_call 24; (with_reducible refine (HCUT.out _).mono ?_); rintro e w9 ⟨rfl, hb⟩; have hk9 := CVz.four (CVz.on (And.left hHeld) hb); clear hb)
        refine hK.out _ _ hk9 (fun hHeld9 => ?_)
        clear hK K hHeld
        (try simp only [Act.put, List.setIfInBounds_toArray, List.set_cons_zero, List.set_cons_succ])
        (refine heldTake (i := 10) (oi := { dst := some 127, op := Op.binOp BinOp.eql 54 (Operand.tmp 124) (Operand.tmp 126) 54, type := 4, pos := "law.go:79", after := #[{ on := 7, ground := Ground.data }, { on := 9, ground := Ground.data }, { on := 6, ground := Ground.guard }], guard := some (6, true) }) (v := ?_) rfl (by kernel_rfl) (by kernel_rfl) (by kernel_rfl) (by assumption) ?_ ?_; rotate_left; focus (refine .inl ⟨by kernel_rfl, ?_⟩; intro w hSw; (try dsimp only at hSw); go_simp; (try with_reducible rfl)); (try simp only [Act.put, List.setIfInBounds_toArray, List.set_cons_zero, List.set_cons_succ]))
        (refine heldTake (i := 11) (oi := { dst := some 128, op := Op.pick (Operand.tmp 123) (Operand.tmp 127) (Operand.const (Value.bool false)), type := 4, pos := "law.go:79", after := #[{ on := 6, ground := Ground.data }, { on := 10, ground := Ground.data }], guard := none }) (v := ?_) rfl (by kernel_rfl) (by kernel_rfl) (by kernel_rfl) (by assumption) ?_ ?_; rotate_left; focus (refine .inl ⟨by kernel_rfl, ?_⟩; intro w hSw; (try dsimp only at hSw); go_simp; (try with_reducible rfl)); (try simp only [Act.put, List.setIfInBounds_toArray, List.set_cons_zero, List.set_cons_succ]))
        (refine heldTake (i := 12) (oi := { dst := some 6, op := Op.assign (Operand.tmp 128), type := 4, pos := "law.go:79", after := #[{ on := 11, ground := Ground.data }, { on := 9, ground := Ground.chain }, { on := 0, ground := Ground.phase }, { on := 1, ground := Ground.phase }, { on := 2, ground := Ground.phase }, { on := 3, ground := Ground.phase }, { on := 4, ground := Ground.phase }, { on := 5, ground := Ground.phase }, { on := 6, ground := Ground.phase }, { on := 7, ground := Ground.phase }, { on := 8, ground := Ground.phase }, { on := 9, ground := Ground.phase }, { on := 10, ground := Ground.phase }, { on := 11, ground := Ground.phase }], guard := none }) (v := ?_) rfl (by kernel_rfl) (by kernel_rfl) (by kernel_rfl) (by assumption) ?_ ?_; rotate_left; focus (refine .inl ⟨by kernel_rfl, ?_⟩; intro w hSw; (try dsimp only at hSw); go_simp; (try with_reducible rfl)); (try simp only [Act.put, List.setIfInBounds_toArray, List.set_cons_zero, List.set_cons_succ]))
        refine wpAnyH_done (by kernel_rfl) ?_ _
        refine NoPanic.normal ?_
        have hLast := hHeld9
        clear hHeld9
        go_wp2
        go_ret
        exact ⟨rfl, (And.left hLast).a.bel⟩
  have d127 : (t == 127) = false := by simpa using h127
  have e127 : (t != 127) = true := by simpa using h127
  by_cases h126 : t = 126
  · subst h126
    obtain ⟨xx, hxx⟩ : ∃ xx, xx = n := ⟨_, rfl⟩
    have HOF := Lib.hid (fun W => show Calls Tryd.prog 23 #[.agg #[.int .u8 126, .int .u64 n]] W fun e w' => e = .returned (.tuple #[.agg #[.int .u8 66, .int .u64 xx, .int .u64 0, .slice none 0 0], .int .i64 0]) ∧ Below W.heap.size W w' from by rw [hxx]; exact of_long n W)
    have HV2 := Lib.hid (fun W (h : Tabs W) => value66 (x := xx) (by omega) (by omega) W h)
    have HCUT := Lib.hid (fun W => show Calls Tryd.prog 24 #[.agg #[.int .u8 126, .int .u64 n]] W fun e w' => e = .returned (.agg #[.int .u8 126, .int .u64 xx]) ∧ Below W.heap.size W w' from by have := refCut_any 126 n W wn.1 wn.2; rw [show cutZ 126 n = xx by rw [hxx]; rfl] at this; exact this)
    clear hxx wt wn h127 d127 e127
    go_enter Tryd.func5, Tryd.ntmps5
    go_wp2_with (go_at_call 6; go_must ((with_reducible refine HAW.out.mono ?_); rintro e w1 ⟨rfl, hb⟩; have H1 := Lib.hid (H0.out.on hb); have c3 := H1.out.box.c3; clear hb))
    go_loopw [7, 8] (fun v x wr => ∃ k : Nat, k ≤ gs.length ∧ x = .int .i64 k ∧ RowV wr (w.heap.size + 2) v (l1.take k) ∧ CVs w i A c 126 n wr) (fun _ x _ => gs.length - (intOf x).toNat)
    case atStart => exact ⟨0, Nat.zero_le _, rfl, RowV.nil _ _, H1.out⟩
    case round =>
      obtain ⟨k, hk, rfl, hrow, hbox⟩ := hrel
      have HB := Lib.hid hbox
      have HROW := Lib.hid hrow
      by_cases hlt : k < gs.length
      · obtain ⟨tt, m, hx⟩ := HS.out k hlt
        obtain ⟨bb, off, rfl, hbb, g0, g1⟩ := (HG.out.below hbox.bel) k tt m hx
        have HTX := Lib.hid (HTK.out k tt m hx)
        have hlen : (l1.take k).length ≤ 1000 := by rw [List.length_take]; omega
        have hwk : IntKind.u64.wrap (k : Int) = k := by simp [IntKind.wrap, IntKind.bits, IntKind.signed]; omega
        have hsz2 : w.heap.size + 2 ≤ wr.heap.size := hbox.vb.lt
        clear hrow hbox hx
        go_wp2_with (at_builtin; (refine rowsV_new rfl _ _ rfl (w.heap.size + 2) _ (l1.take k) rfl (HROW.out.alloc _) wr.heap.size (tt, (k : Int)) rfl (Whole.made wr _ _) hlen (Nat.le_trans hsz2 (below_box wr _).size) ?_; intro v2 w2 hr2 hb2; rw [← HTX.out] at hr2; have HR2 := Lib.hid hr2; have HB2 := Lib.hid hb2; clear hr2 hb2))
        go_roundw
        case rel => exact ⟨k + 1, by omega, by go_num, HR2.out, HB.out.app HB2.out⟩
        case measure => simp [intOf]; omega
      · obtain rfl : k = gs.length := by omega
        have htk : l1.take gs.length = l1 := List.take_of_length_le (by rw [HLEN.out]; exact Nat.le_refl _)
        rw [htk] at hrow
        obtain ⟨Av, cv, hav, hlv⟩ := hrow.lies
        subst hav
        have HLV := Lib.hid hlv
        have c0 := hbox.box.c0
        have c1 := hbox.box.c1
        have c2 := hbox.box.c2
        have c3 := hbox.box.c3
        have v0 : _ = some (Value.int .u8 126) := hbox.vb.cell 0
        have v1 : _ = some (Value.int .u64 n) := hbox.vb.cell 1
        clear hrow hlv HROW htk hbox
        go_wp2_with (first
          | (go_at_call 19; go_must ((with_reducible refine (HTYP.out _ HB.out.bel).mono ?_); rintro e w3 ⟨rfl, hb⟩; clear c0 c1 c2 c3 v0 v1; have H3 := Lib.hid (HB.out.on hb); have HL3 := Lib.hid (HLV.out.below hb); have c0 := H3.out.box.c0; have c1 := H3.out.box.c1; have c2 := H3.out.box.c2; have c3 := H3.out.box.c3; have v0 : _ = some (Value.int .u8 126) := H3.out.vb.cell 0; have v1 : _ = some (Value.int .u64 n) := H3.out.vb.cell 1; clear hb))
          | (have tok := HO7; go_at_call 20; go_must ((with_reducible refine (HV2.out _ (HT.out.below H7.out.bel)).mono ?_); rintro e w8 ⟨rfl, hb⟩; have H8 := Lib.hid (show CVz w i A c 126 n xx w8.heap.size (w8.alloc (.cells #[.int .u8 126, .int .u64 xx] 54)) from ⟨(H7.out.on hb).on (below_box w8 _), Whole.made w8 _ _⟩); clear hb c0 c1 c2 c3 v0 v1 o0 o1 o2 o3))
          | (go_at_call 20; go_must ((with_reducible refine (HVAL.out _ _ _ H3.out.bel HL3.out).mono ?_); rintro e w4 ⟨rfl, hb⟩; clear c0 c1 c2 c3 v0 v1; have H4 := Lib.hid ((H3.out.on hb).on (below_box w4 (.cells #[.int .u8 V1, .int .u64 V2] 54))); have HL4 := Lib.hid ((HL3.out.below hb).below (below_box w4 (.cells #[.int .u8 V1, .int .u64 V2] 54))); have HX4 := Lib.hid (Whole.made w4 54 #[.int .u8 V1, .int .u64 V2]); have c0 := H4.out.box.c0; have c1 := H4.out.box.c1; have c2 := H4.out.box.c2; have c3 := H4.out.box.c3; have v0 : _ = some (Value.int .u8 126) := H4.out.vb.cell 0; have v1 : _ = some (Value.int .u64 n) := H4.out.vb.cell 1; clear hb))
          | (go_at_call 21; go_must ((with_reducible refine (HRTY.out _ H4.out.bel).mono ?_); rintro e w5 ⟨rfl, hb⟩; clear c0 c1 c2 c3 v0 v1; have H5 := Lib.hid (H4.out.on hb); have HL5 := Lib.hid (HL4.out.below hb); have HX5 := Lib.hid (HX4.out.below hb); have c0 := H5.out.box.c0; have c1 := H5.out.box.c1; have c2 := H5.out.box.c2; have c3 := H5.out.box.c3; have v0 : _ = some (Value.int .u8 126) := H5.out.vb.cell 0; have v1 : _ = some (Value.int .u64 n) := H5.out.vb.cell 1; clear hb))
          | (go_at_call 22; go_must ((with_reducible refine (HRVA.out _ _ _ H5.out.bel HL5.out).mono ?_); rintro e w6 ⟨rfl, hb⟩; clear c0 c1 c2 c3 v0 v1; have H6 := Lib.hid ((H5.out.on hb).on (below_box w6 (.cells #[.int .u8 V1, .int .u64 V2] 54))); have HX6 := Lib.hid ((HX5.out.below hb).alloc (.cells #[.int .u8 V1, .int .u64 V2] 54)); have HY6 := Lib.hid (Whole.made w6 54 #[.int .u8 V1, .int .u64 V2]); have x0 : _ = some (Value.int .u8 V1) := HX6.out.cell 0; have x1 : _ = some (Value.int .u64 V2) := HX6.out.cell 1; have c0 := H6.out.box.c0; have c1 := H6.out.box.c1; have c2 := H6.out.box.c2; have c3 := H6.out.box.c3; have v0 : _ = some (Value.int .u8 126) := H6.out.vb.cell 0; have v1 : _ = some (Value.int .u64 n) := H6.out.vb.cell 1; clear hb))
          | (go_at_call 23; go_must ((with_reducible refine (HOF.out _).mono ?_); rintro e w7 ⟨rfl, hb⟩; clear c0 c1 c2 c3 v0 v1; clear x0 x1; have H7 := Lib.hid ((H6.out.on hb).on (below_box w7 (.cells #[.int .u8 66, .int .u64 xx, .int .u64 0, .slice none 0 0] 25))); have HO7 := Lib.hid (Whole.made w7 25 #[.int .u8 66, .int .u64 xx, .int .u64 0, .slice none 0 0]); have o0 := HO7.out.cell 0; have o1 := HO7.out.cell 1; have o2 := HO7.out.cell 2; have o3 := HO7.out.cell 3; simp only [List.getElem?_toArray, List.getElem?_cons_zero, List.getElem?_cons_succ] at o0 o1 o2 o3; have c0 := H7.out.box.c0; have c1 := H7.out.box.c1; have c2 := H7.out.box.c2; have c3 := H7.out.box.c3; have v0 : _ = some (Value.int .u8 126) := H7.out.vb.cell 0; have v1 : _ = some (Value.int .u64 n) := H7.out.vb.cell 1; clear hb)))
        refine wp_region_noPanic ?_
        refine wp_region_held_drew (S := fun W => CVz w i A c 126 n xx w8.heap.size W ∧ Four w 126 n xx w8.heap.size W) (by kernel_rfl) (CVz.four (H8.out.on (Below.refl _ _).drew)) (fun hHeld => ?_)
        (refine heldTake (i := 0) (oi := { dst := some 117, op := Op.move (Operand.tmp 18), type := 30, pos := "law.go:79", after := #[], guard := none }) (v := ?_) rfl (by kernel_rfl) (by kernel_rfl) (by kernel_rfl) (by assumption) ?_ ?_; rotate_left; focus (refine .inl ⟨by kernel_rfl, ?_⟩; intro w hSw; (try dsimp only at hSw); go_simp; (try with_reducible rfl)); (try simp only [Act.put, List.setIfInBounds_toArray, List.set_cons_zero, List.set_cons_succ]))
        (refine heldTake (i := 1) (oi := { dst := some 118, op := Op.binOp BinOp.eql 30 (Operand.tmp 117) (Operand.const (Value.int IntKind.i64 0)) 30, type := 4, pos := "law.go:79", after := #[{ on := 0, ground := Ground.data }], guard := none }) (v := ?_) rfl (by kernel_rfl) (by kernel_rfl) (by kernel_rfl) (by assumption) ?_ ?_; rotate_left; focus (refine .inl ⟨by kernel_rfl, ?_⟩; intro w hSw; (try dsimp only at hSw); go_simp; (try with_reducible rfl)); (try simp only [Act.put, List.setIfInBounds_toArray, List.set_cons_zero, List.set_cons_succ]))
        (refine heldTake (i := 2) (oi := { dst := some 119, op := Op.move (Operand.tmp 118), type := 4, pos := "law.go:79", after := #[{ on := 1, ground := Ground.data }], guard := none }) (v := ?_) rfl (by kernel_rfl) (by kernel_rfl) (by kernel_rfl) (by assumption) ?_ ?_; rotate_left; focus (refine .inl ⟨by kernel_rfl, ?_⟩; intro w hSw; (try dsimp only at hSw); go_simp; (try with_reducible rfl)); (try simp only [Act.put, List.setIfInBounds_toArray, List.set_cons_zero, List.set_cons_succ]))
        (refine heldTake (i := 3) (oi := { dst := some 120, op := Op.move (Operand.tmp 20), type := 30, pos := "law.go:79", after := #[{ on := 2, ground := Ground.guard }], guard := some (2, true) }) (v := ?_) rfl (by kernel_rfl) (by kernel_rfl) (by kernel_rfl) (by assumption) ?_ ?_; rotate_left; focus (refine .inl ⟨by kernel_rfl, ?_⟩; intro w hSw; (try dsimp only at hSw); go_simp; (try with_reducible rfl)); (try simp only [Act.put, List.setIfInBounds_toArray, List.set_cons_zero, List.set_cons_succ]))
        (refine heldTake (i := 4) (oi := { dst := some 121, op := Op.binOp BinOp.eql 30 (Operand.tmp 120) (Operand.const (Value.int IntKind.i64 0)) 30, type := 4, pos := "law.go:79", after := #[{ on := 3, ground := Ground.data }, { on := 2, ground := Ground.guard }], guard := some (2, true) }) (v := ?_) rfl (by kernel_rfl) (by kernel_rfl) (by kernel_rfl) (by assumption) ?_ ?_; rotate_left; focus (refine .inl ⟨by kernel_rfl, ?_⟩; intro w hSw; (try dsimp only at hSw); go_simp; (try with_reducible rfl)); (try simp only [Act.put, List.setIfInBounds_toArray, List.set_cons_zero, List.set_cons_succ]))
        (refine heldTake (i := 5) (oi := { dst := some 122, op := Op.pick (Operand.tmp 119) (Operand.tmp 121) (Operand.const (Value.bool false)), type := 4, pos := "law.go:79", after := #[{ on := 2, ground := Ground.data }, { on := 4, ground := Ground.data }], guard := none }) (v := ?_) rfl (by kernel_rfl) (by kernel_rfl) (by kernel_rfl) (by assumption) ?_ ?_; rotate_left; focus (refine .inl ⟨by kernel_rfl, ?_⟩; intro w hSw; (try dsimp only at hSw); go_simp; (try with_reducible rfl)); (try simp only [Act.put, List.setIfInBounds_toArray, List.set_cons_zero, List.set_cons_succ]))
        (refine heldTake (i := 6) (oi := { dst := some 123, op := Op.move (Operand.tmp 122), type := 4, pos := "law.go:79", after := #[{ on := 5, ground := Ground.data }, { on := 2, ground := Ground.chain }], guard := none }) (v := ?_) rfl (by kernel_rfl) (by kernel_rfl) (by kernel_rfl) (by assumption) ?_ ?_; rotate_left; focus (refine .inl ⟨by kernel_rfl, ?_⟩; intro w hSw; (try dsimp only at hSw); go_simp; (try with_reducible rfl)); (try simp only [Act.put, List.setIfInBounds_toArray, List.set_cons_zero, List.set_cons_succ]))
        (refine heldTake (i := 7) (oi := { dst := some 124, op := Op.load 54 (Operand.tmp 19), type := 54, pos := "law.go:79", after := #[{ on := 6, ground := Ground.guard }], guard := some (6, true) }) (v := ?_) rfl (by kernel_rfl) (by kernel_rfl) (by kernel_rfl) (by assumption) ?_ ?_; rotate_left; focus (refine .inl ⟨by kernel_rfl, ?_⟩; intro w hSw; (try dsimp only at hSw); go_simp; (try with_reducible rfl)); (try simp only [Act.put, List.setIfInBounds_toArray, List.set_cons_zero, List.set_cons_succ]))
        (refine heldTake (i := 8) (oi := { dst := some 125, op := Op.load 54 (Operand.tmp 5), type := 54, pos := "law.go:79", after := #[{ on := 6, ground := Ground.guard }], guard := some (6, true) }) (v := ?_) rfl (by kernel_rfl) (by kernel_rfl) (by kernel_rfl) (by assumption) ?_ ?_; rotate_left; focus (refine .inl ⟨by kernel_rfl, ?_⟩; intro w hSw; (try dsimp only at hSw); go_simp; (try with_reducible rfl)); (try simp only [Act.put, List.setIfInBounds_toArray, List.set_cons_zero, List.set_cons_succ]))
        refine wpAnyH_ready (rs := [9]) (by kernel_rfl) (by simp) ?_
        refine AllReadyH.cons (o := { dst := some 126, op := Op.call { callee := Callee.value (Operand.func 24), args := #[Operand.tmp 125], argTypes := #[54] }, type := 54, pos := "law.go:79", after := #[{ on := 8, ground := Ground.data }, { on := 6, ground := Ground.chain }, { on := 6, ground := Ground.guard }], guard := some (6, true) }) rfl (fun K hK => ?_) AllReadyH.nil
        go_simp
        (go_at_call 24; (with_reducible refine (HCUT.out _).mono ?_); rintro e w9 ⟨rfl, hb⟩; have hk9 := CVz.four (CVz.on (And.left hHeld) hb); clear hb)
        refine hK.out _ _ hk9 (fun hHeld9 => ?_)
        clear hK K hHeld
        (try simp only [Act.put, List.setIfInBounds_toArray, List.set_cons_zero, List.set_cons_succ])
        (refine heldTake (i := 10) (oi := { dst := some 127, op := Op.binOp BinOp.eql 54 (Operand.tmp 124) (Operand.tmp 126) 54, type := 4, pos := "law.go:79", after := #[{ on := 7, ground := Ground.data }, { on := 9, ground := Ground.data }, { on := 6, ground := Ground.guard }], guard := some (6, true) }) (v := ?_) rfl (by kernel_rfl) (by kernel_rfl) (by kernel_rfl) (by assumption) ?_ ?_; rotate_left; focus (refine .inl ⟨by kernel_rfl, ?_⟩; intro w hSw; (try dsimp only at hSw); go_simp; (try with_reducible rfl)); (try simp only [Act.put, List.setIfInBounds_toArray, List.set_cons_zero, List.set_cons_succ]))
        (refine heldTake (i := 11) (oi := { dst := some 128, op := Op.pick (Operand.tmp 123) (Operand.tmp 127) (Operand.const (Value.bool false)), type := 4, pos := "law.go:79", after := #[{ on := 6, ground := Ground.data }, { on := 10, ground := Ground.data }], guard := none }) (v := ?_) rfl (by kernel_rfl) (by kernel_rfl) (by kernel_rfl) (by assumption) ?_ ?_; rotate_left; focus (refine .inl ⟨by kernel_rfl, ?_⟩; intro w hSw; (try dsimp only at hSw); go_simp; (try with_reducible rfl)); (try simp only [Act.put, List.setIfInBounds_toArray, List.set_cons_zero, List.set_cons_succ]))
        (refine heldTake (i := 12) (oi := { dst := some 6, op := Op.assign (Operand.tmp 128), type := 4, pos := "law.go:79", after := #[{ on := 11, ground := Ground.data }, { on := 9, ground := Ground.chain }, { on := 0, ground := Ground.phase }, { on := 1, ground := Ground.phase }, { on := 2, ground := Ground.phase }, { on := 3, ground := Ground.phase }, { on := 4, ground := Ground.phase }, { on := 5, ground := Ground.phase }, { on := 6, ground := Ground.phase }, { on := 7, ground := Ground.phase }, { on := 8, ground := Ground.phase }, { on := 9, ground := Ground.phase }, { on := 10, ground := Ground.phase }, { on := 11, ground := Ground.phase }], guard := none }) (v := ?_) rfl (by kernel_rfl) (by kernel_rfl) (by kernel_rfl) (by assumption) ?_ ?_; rotate_left; focus (refine .inl ⟨by kernel_rfl, ?_⟩; intro w hSw; (try dsimp only at hSw); go_simp; (try with_reducible rfl)); (try simp only [Act.put, List.setIfInBounds_toArray, List.set_cons_zero, List.set_cons_succ]))
        refine wpAnyH_done (by kernel_rfl) ?_ _
        refine NoPanic.normal ?_
        have hLast := hHeld9
        clear hHeld9
        go_wp2
        go_ret
        exact ⟨rfl, (And.left hLast).a.bel⟩
  have d126 : (t == 126) = false := by simpa using h126
  have e126 : (t != 126) = true := by simpa using h126
  have HOF := Lib.hid (fun W => of_no t n W d127 d126)
  clear h127 h126 d127 d126 wt wn
  go_enter Tryd.func5, Tryd.ntmps5
  go_wp2_with (go_at_call 6; go_must ((with_reducible refine HAW.out.mono ?_); rintro e w1 ⟨rfl, hb⟩; have H1 := Lib.hid (H0.out.on hb); have c3 := H1.out.box.c3; clear hb))
  go_loopw [7, 8] (fun v x wr => ∃ k : Nat, k ≤ gs.length ∧ x = .int .i64 k ∧ RowV wr (w.heap.size + 2) v (l1.take k) ∧ CVs w i A c t n wr) (fun _ x _ => gs.length - (intOf x).toNat)
  case atStart => exact ⟨0, Nat.zero_le _, rfl, RowV.nil _ _, H1.out⟩
  case round =>
    obtain ⟨k, hk, rfl, hrow, hbox⟩ := hrel
    have HB := Lib.hid hbox
    have HROW := Lib.hid hrow
    by_cases hlt : k < gs.length
    · obtain ⟨tt, m, hx⟩ := HS.out k hlt
      obtain ⟨bb, off, rfl, hbb, g0, g1⟩ := (HG.out.below hbox.bel) k tt m hx
      have HTX := Lib.hid (HTK.out k tt m hx)
      have hlen : (l1.take k).length ≤ 1000 := by rw [List.length_take]; omega
      have hwk : IntKind.u64.wrap (k : Int) = k := by simp [IntKind.wrap, IntKind.bits, IntKind.signed]; omega
      have hsz2 : w.heap.size + 2 ≤ wr.heap.size := hbox.vb.lt
      clear hrow hbox hx
      go_wp2_with (at_builtin; (refine rowsV_new rfl _ _ rfl (w.heap.size + 2) _ (l1.take k) rfl (HROW.out.alloc _) wr.heap.size (tt, (k : Int)) rfl (Whole.made wr _ _) hlen (Nat.le_trans hsz2 (below_box wr _).size) ?_; intro v2 w2 hr2 hb2; rw [← HTX.out] at hr2; have HR2 := Lib.hid hr2; have HB2 := Lib.hid hb2; clear hr2 hb2))
      go_roundw
      case rel => exact ⟨k + 1, by omega, by go_num, HR2.out, HB.out.app HB2.out⟩
      case measure => simp [intOf]; omega
    · obtain rfl : k = gs.length := by omega
      have htk : l1.take gs.length = l1 := List.take_of_length_le (by rw [HLEN.out]; exact Nat.le_refl _)
      rw [htk] at hrow
      obtain ⟨Av, cv, hav, hlv⟩ := hrow.lies
      subst hav
      have HLV := Lib.hid hlv
      have c0 := hbox.box.c0
      have c1 := hbox.box.c1
      have c2 := hbox.box.c2
      have c3 := hbox.box.c3
      have v0 : _ = some (Value.int .u8 t) := hbox.vb.cell 0
      have v1 : _ = some (Value.int .u64 n) := hbox.vb.cell 1
      clear hrow hlv HROW htk hbox
      go_wp2_with (first
        | (go_at_call 19; go_must ((with_reducible refine (HTYP.out _ HB.out.bel).mono ?_); rintro e w3 ⟨rfl, hb⟩; clear c0 c1 c2 c3 v0 v1; have H3 := Lib.hid (HB.out.on hb); have HL3 := Lib.hid (HLV.out.below hb); have c0 := H3.out.box.c0; have c1 := H3.out.box.c1; have c2 := H3.out.box.c2; have c3 := H3.out.box.c3; have v0 : _ = some (Value.int .u8 t) := H3.out.vb.cell 0; have v1 : _ = some (Value.int .u64 n) := H3.out.vb.cell 1; clear hb))
        | (go_at_call 20; go_must ((with_reducible refine (HVAL.out _ _ _ H3.out.bel HL3.out).mono ?_); rintro e w4 ⟨rfl, hb⟩; clear c0 c1 c2 c3 v0 v1; have H4 := Lib.hid ((H3.out.on hb).on (below_box w4 (.cells #[.int .u8 V1, .int .u64 V2] 54))); have HL4 := Lib.hid ((HL3.out.below hb).below (below_box w4 (.cells #[.int .u8 V1, .int .u64 V2] 54))); have HX4 := Lib.hid (Whole.made w4 54 #[.int .u8 V1, .int .u64 V2]); have c0 := H4.out.box.c0; have c1 := H4.out.box.c1; have c2 := H4.out.box.c2; have c3 := H4.out.box.c3; have v0 : _ = some (Value.int .u8 t) := H4.out.vb.cell 0; have v1 : _ = some (Value.int .u64 n) := H4.out.vb.cell 1; clear hb))
        | (go_at_call 21; go_must ((with_reducible refine (HRTY.out _ H4.out.bel).mono ?_); rintro e w5 ⟨rfl, hb⟩; clear c0 c1 c2 c3 v0 v1; have H5 := Lib.hid (H4.out.on hb); have HL5 := Lib.hid (HL4.out.below hb); have HX5 := Lib.hid (HX4.out.below hb); have c0 := H5.out.box.c0; have c1 := H5.out.box.c1; have c2 := H5.out.box.c2; have c3 := H5.out.box.c3; have v0 : _ = some (Value.int .u8 t) := H5.out.vb.cell 0; have v1 : _ = some (Value.int .u64 n) := H5.out.vb.cell 1; clear hb))
        | (go_at_call 22; go_must ((with_reducible refine (HRVA.out _ _ _ H5.out.bel HL5.out).mono ?_); rintro e w6 ⟨rfl, hb⟩; clear c0 c1 c2 c3 v0 v1; have H6 := Lib.hid ((H5.out.on hb).on (below_box w6 (.cells #[.int .u8 V1, .int .u64 V2] 54))); have HX6 := Lib.hid ((HX5.out.below hb).alloc (.cells #[.int .u8 V1, .int .u64 V2] 54)); have HY6 := Lib.hid (Whole.made w6 54 #[.int .u8 V1, .int .u64 V2]); have x0 : _ = some (Value.int .u8 V1) := HX6.out.cell 0; have x1 : _ = some (Value.int .u64 V2) := HX6.out.cell 1; have c0 := H6.out.box.c0; have c1 := H6.out.box.c1; have c2 := H6.out.box.c2; have c3 := H6.out.box.c3; have v0 : _ = some (Value.int .u8 t) := H6.out.vb.cell 0; have v1 : _ = some (Value.int .u64 n) := H6.out.vb.cell 1; clear hb))
        | (go_at_call 23; go_must ((with_reducible refine (HOF.out _).mono ?_); rintro e w7 ⟨rfl, hb⟩; clear c0 c1 c2 c3 v0 v1; clear x0 x1; have H7 := Lib.hid ((H6.out.on hb).on (below_box w7 (.cells #[.int .u8 0, .int .u64 0, .int .u64 0, .slice none 0 0] 25))); have HO7 := Lib.hid (Whole.made w7 25 #[.int .u8 0, .int .u64 0, .int .u64 0, .slice none 0 0]); have o0 := HO7.out.cell 0; have o1 := HO7.out.cell 1; have o2 := HO7.out.cell 2; have o3 := HO7.out.cell 3; simp only [List.getElem?_toArray, List.getElem?_cons_zero, List.getElem?_cons_succ] at o0 o1 o2 o3; have c0 := H7.out.box.c0; have c1 := H7.out.box.c1; have c2 := H7.out.box.c2; have c3 := H7.out.box.c3; have v0 : _ = some (Value.int .u8 t) := H7.out.vb.cell 0; have v1 : _ = some (Value.int .u64 n) := H7.out.vb.cell 1; clear hb))
        | (go_at_call 11; go_must ((with_reducible refine (zeroV_same _).mono ?_); rintro e w8 ⟨rfl, hb⟩; have H8 := Lib.hid (H7.out.on hb); clear hb)))
      go_ret
      exact ⟨rfl, H8.out.bel⟩
end Go.Proofs.YtjjhgmmkapeifaaDoor
