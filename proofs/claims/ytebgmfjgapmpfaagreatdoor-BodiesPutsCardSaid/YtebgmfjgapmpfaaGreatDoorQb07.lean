/- The reference's num, signed, Put. (By gen/genRefPut.py.) -/
import Derived.Test.YtebgmfjgapmpfaaGreatDoorQa06
namespace Go.Proofs.YtebgmfjgapmpfaaGreatDoor
open Go.RowKit
set_option linter.unusedVariables false
set_option maxRecDepth 100000

def StrPost (l : List UInt8) (w : World) (e : Ending) (w' : World) : Prop := e = .returned (.string (S l)) ∧ Below w.heap.size w w'
theorem num_any (x : Int) (w : World) (h0 : 0 ≤ x) (h1 : x ≤ 18446744073709551615) : Calls Tryz.prog 122 #[.int .u64 x] w (StrPost (lebL x) w) := by
  have U := Lib.hid (fun W => refUintL x W h0 h1)
  have hl := (lebL_len x h1).1
  generalize lebL x = l at *
  go_enter Tryz.func122, Tryz.ntmps122
  go_wp2_with (go_at_call 98; go_must ((with_reducible refine (U.out _).mono ?_); intro e w1 h; obtain ⟨A, k, rfl, hl1, hb⟩ := h; have hs := str_lies' hl1 hl k; have HB := Lib.hid hb; clear hb hl1))
  go_ret
  exact ⟨rfl, HB.out⟩
theorem conv1 {W : World} {op : UInt8} {H : Nat} (hH : W.heap.size = H) : (convert 22 9 (.slice (some ⟨H, 0, none⟩) 1 1)).run Tryz.prog (W.alloc (.cells #[.int .u8 op.toNat] 5)) = .ok (.string (S [op])) (W.alloc (.cells #[.int .u8 op.toNat] 5)) := by
  obtain ⟨A, c, e, h⟩ := (Row.made W [op] 0 H hH (Nat.zero_le _) (by simp)).str
  injection e with e1 _ e2
  subst e1; subst e2
  exact h 9 Tryz.underlying9
theorem conv2 {W : World} {op H : Nat} (hH : W.heap.size = H) (x : Int) (h0 : 0 ≤ x) (h1 : x ≤ 255) : (convert 22 9 (.slice (some ⟨H, 0, none⟩) 1 1)).run Tryz.prog (W.alloc (.cells #[.int .u8 x] 5)) = .ok (.string (S [UInt8.ofNat x.toNat])) (W.alloc (.cells #[.int .u8 x] 5)) := by
  have := conv1 (op := UInt8.ofNat x.toNat) hH
  rwa [u8_of h0 h1] at this

theorem signed32_any (x : Int) (w : World) (h0 : 0 ≤ x) (h1 : x ≤ 18446744073709551615) : Calls Tryz.prog 123 #[.int .u64 x, .int .u64 32] w (StrPost (sebL (s32 x)) w) := by
  have hs : -9223372036854775808 ≤ s32 x ∧ s32 x ≤ 9223372036854775807 := by unfold s32; omega
  have U := Lib.hid (fun W => refIntL (s32 x) W hs.1 hs.2)
  have hl := (sebL_len (s32 x) hs.1 hs.2).1
  have hz : wrap64 (IntKind.u64.wrap (x * 4294967296)) / 4294967296 = s32 x := by unfold s32 wrap64; simp only [IntKind.wrap, IntKind.bits, IntKind.signed]; simp; omega
  generalize s32 x = z at *
  generalize sebL z = l at *
  go_enter Tryz.func123, Tryz.ntmps123
  go_wp2_with (go_at_call 155; go_must ((with_reducible refine (U.out _).mono ?_); intro e w1 h; obtain ⟨A, k, rfl, hl1, hb⟩ := h; have hs2 := str_lies' hl1 hl k; have HB := Lib.hid hb; clear hb hl1))
  go_ret
  exact ⟨rfl, HB.out⟩

theorem signed64_any (x : Int) (w : World) (h0 : 0 ≤ x) (h1 : x ≤ 18446744073709551615) : Calls Tryz.prog 123 #[.int .u64 x, .int .u64 64] w (StrPost (sebL (s64 x)) w) := by
  have hs : -9223372036854775808 ≤ s64 x ∧ s64 x ≤ 9223372036854775807 := by unfold s64; omega
  have U := Lib.hid (fun W => refIntL (s64 x) W hs.1 hs.2)
  have hl := (sebL_len (s64 x) hs.1 hs.2).1
  have hz : wrap64 x = s64 x := by unfold s64 wrap64; omega
  generalize s64 x = z at *
  generalize sebL z = l at *
  go_enter Tryz.func123, Tryz.ntmps123
  go_wp2_with (go_at_call 155; go_must ((with_reducible refine (U.out _).mono ?_); intro e w1 h; obtain ⟨A, k, rfl, hl1, hb⟩ := h; have hs2 := str_lies' hl1 hl k; have HB := Lib.hid hb; clear hb hl1))
  go_ret
  exact ⟨rfl, HB.out⟩

section
variable {w W W' : World} {i : I} {A : Option Addr} {c : Nat}
theorem BoxI.on3 (h : BoxI w W i A c) {O O' : Obj} (hb : Below ((W.alloc O).alloc O').heap.size ((W.alloc O).alloc O') W') : BoxI w W' i A c := ((h.on (below_box W O)).on (below_box _ O')).on hb
theorem BoxI.two3 (h : BoxI w W i A c) (O O' : Obj) : BoxI w ((W.alloc O).alloc O') i A c := (h.on (below_box W O)).on (below_box _ O')
theorem BoxI.three (h : BoxI w W i A c) : BoxI w W i A c ∧ W.cell? ⟨w.heap.size, 1, none⟩ = some (.int .u64 i.a) ∧ W.cell? ⟨w.heap.size, 2, none⟩ = some (.int .u64 i.b) := ⟨h, h.c1, h.c2⟩
theorem held_num {K : Nat} {args : Array Value} {l : List UInt8} (hN : ∀ W, Calls Tryz.prog K args W (StrPost l W)) (h : BoxI w W i A c ∧ W.cell? ⟨w.heap.size, 1, none⟩ = some (.int .u64 i.a) ∧ W.cell? ⟨w.heap.size, 2, none⟩ = some (.int .u64 i.b)) :
    Calls Tryz.prog K args W fun e w' => e = .returned (.string (S l)) ∧ BoxI w w' i A c ∧ w'.cell? ⟨w.heap.size, 1, none⟩ = some (.int .u64 i.a) ∧ w'.cell? ⟨w.heap.size, 2, none⟩ = some (.int .u64 i.b) :=
  (hN W).mono fun _ _ ⟨h1, h2⟩ => ⟨h1, BoxI.three (h.1.on h2)⟩
end
theorem str_put {i : I} {l : List UInt8} {s : ByteArray} {w W : World} (hp : putL i = l) (hs : s = S l) (hb : Below w.heap.size w W) : StrPost (putL i) w (.returned (.string s)) W := ⟨by rw [hs, hp], hb⟩
set_option maxHeartbeats 3000000 in
theorem refPut_any (i : I) (A : Option Addr) (c : Nat) (w : World) (h : i.Ok) (hr : rightZ i = 0) (hl : Lies w w.heap.size A (cells32 i.l)) :
    Calls Tryz.prog 82 #[insV i A c] w (StrPost (putL i) w) := by
  have hn := i.n_le
  have HT := Lib.hid (immL_len h hr)
  obtain ⟨a0, a1, b0, b1, hl0⟩ := h
  have hwb : IntKind.i64.wrap (i.op.toNat : Int) = i.op.toNat := by rw [IntKind.wrap_i64]; have := i.op.toNat_lt; omega
  obtain ⟨hc0, _, h10, _, hz0⟩ := right_zero hr
  obtain ⟨hz1, hz2, hz3⟩ := nums_zero hz0 a0
  have HL0 := Lib.hid hl0
  have HB := Lib.hid (BoxI.start w i A c)
  have HL := Lib.hid hl
  obtain ⟨m, hm⟩ : ∃ m, m = immR i.n := ⟨_, rfl⟩
  obtain ⟨r, hr2⟩ : ∃ r, r = refR i.n := ⟨_, rfl⟩
  have him : (r.getD row0).imm = m := by rw [hr2, hm]; exact (imm_same hn hc0).2
  have HI : Hid (∀ W, Calls Tryz.prog 108 #[.int .i64 i.op.toNat] W (RefPost r W)) := fun W => by rw [hr2]; exact ref_any i.n W hn
  have HIM := Lib.hid (show putL i = [i.op] ++ immB m i by unfold putL immL; rw [hm]; rfl)
  rw [← hm] at hz1 hz2 hz3
  have HZ1 := Lib.hid hz1
  have HZ2 := Lib.hid hz2
  have HZ3 := Lib.hid hz3
  have NA := Lib.hid (fun W => num_any i.a W a0 a1)
  have NB := Lib.hid (fun W => num_any i.b W b0 b1)
  have NL := Lib.hid (fun W => num_any (i.l.length : Int) W (by omega) (by omega))
  have ka := lebL_len i.a (by omega)
  have kb := lebL_len i.b (by omega)
  have kl := lebL_len (i.l.length : Int) (by omega)
  have wl : IntKind.u64.wrap (i.l.length : Int) = i.l.length := by simp [IntKind.wrap, IntKind.bits, IntKind.signed]; omega
  obtain ⟨xa, hxa⟩ : ∃ x, x = lebL i.a := ⟨_, rfl⟩
  obtain ⟨xb, hxb⟩ : ∃ x, x = lebL i.b := ⟨_, rfl⟩
  obtain ⟨xl, hxl⟩ : ∃ x, x = lebL (i.l.length : Int) := ⟨_, rfl⟩
  rw [← hxa] at NA ka
  rw [← hxb] at NB kb
  rw [← hxl] at NL kl
  have sa := S_size xa
  have sb := S_size xb
  have sl := S_size xl
  obtain ⟨o, ho⟩ : ∃ o, o = [i.op] := ⟨_, rfl⟩
  have so : (S o).size = 1 := by rw [S_size, ho]; rfl
  have HC1 := Lib.hid (fun (W : World) (H : Nat) (hH : W.heap.size = H) => (by rw [ho]; exact conv1 hH : (convert 22 9 (.slice (some ⟨H, 0, none⟩) 1 1)).run Tryz.prog (W.alloc (.cells #[.int .u8 i.op.toNat] 5)) = .ok (.string (S o)) (W.alloc (.cells #[.int .u8 i.op.toNat] 5))))
  have HO := Lib.hid ho
  have HXA := Lib.hid hxa
  have HXB := Lib.hid hxb
  have HXL := Lib.hid hxl
  generalize (r.getD row0).op = r1 at *
  clear hl hr hc0 hz0 hr2 hm hz1 hz2 hz3 hl0 hxa hxb hxl ho
  have below2 : ∀ W : World, Below w.heap.size w W → ∀ O O', Below w.heap.size w ((W.alloc O).alloc O') := fun W hb O O' => (hb.alloc hb.size _).alloc (Nat.le_trans hb.size (below_box _ _).size) _
  have HB3f := Lib.hid below2
  clear below2
  by_cases m0 : m = 0
  · subst m0
    have HE := Lib.hid (show putL i = o ++ ([]) by rw [HIM.out, HO.out]; unfold immB; rw [if_pos rfl])
    go_enter Tryz.func82, Tryz.ntmps82
    go_wp2_with (first
      | (go_at_call 108; go_must ((with_reducible refine (HI.out _).mono ?_); rintro e w2 ⟨rfl, hb⟩; have HB2 := Lib.hid (HB.out.on hb); have hlt := HB2.out.lt; have c0 := HB2.out.c0; have c1 := HB2.out.c1; have c2 := HB2.out.c2; have c3 := HB2.out.c3; have hcv := fun O => HC1.out (w2.alloc O) (w2.heap.size + 1) (size_box _ _); clear hb)))
    go_ret
    exact str_put HE.out (by simp) (HB3f.out _ HB2.out.2 _ _)
  have d0 : ((m : Int) == 0) = false := by simp; omega
  by_cases m1 : m = 1
  · subst m1
    have HE := Lib.hid (show putL i = o ++ ([UInt8.ofNat i.a.toNat]) by rw [HIM.out, HO.out]; unfold immB; rw [if_neg (by omega), if_pos rfl])
    have ha := (HZ1.out rfl).1
    have hw : IntKind.u8.wrap i.a = i.a := by simp [IntKind.wrap, IntKind.bits, IntKind.signed]; omega
    obtain ⟨y, hy⟩ : ∃ y, y = [UInt8.ofNat i.a.toNat] := ⟨_, rfl⟩
    have sy : (S y).size = 1 := by rw [S_size, hy]; rfl
    have HC2 := Lib.hid (fun (W : World) (H : Nat) (hH : W.heap.size = H) => (by rw [hy]; exact conv2 (op := 0) hH i.a a0 ha : (convert 22 9 (.slice (some ⟨H, 0, none⟩) 1 1)).run Tryz.prog (W.alloc (.cells #[.int .u8 i.a] 5)) = .ok (.string (S y)) (W.alloc (.cells #[.int .u8 i.a] 5))))
    rw [← hy] at HE
    have q : (S o).size + (S y).size ≤ 9223372036854775807 := by omega
    clear hy
    go_enter Tryz.func82, Tryz.ntmps82
    go_wp2_with (go_at_call 108; go_must ((with_reducible refine (HI.out _).mono ?_); rintro e w2 ⟨rfl, hb⟩; have HB2 := Lib.hid (HB.out.on hb); have hlt := HB2.out.lt; have c0 := HB2.out.c0; have c1 := HB2.out.c1; have c2 := HB2.out.c2; have c3 := HB2.out.c3; have hcv := fun O => HC1.out (w2.alloc O) (w2.heap.size + 1) (size_box _ _); have hcv2 := fun O O' => HC2.out ((w2.alloc O).alloc O') (w2.heap.size + 1 + 1) (by rw [size_box, size_box]); clear hb))
    go_ret
    exact str_put HE.out (by rw [S_append]) ((HB3f.out _ HB2.out.2 _ _).alloc (by have := HB2.out.2.size; rw [size_box, size_box]; omega) _)
  have d1 : ((m : Int) == 1) = false := by simp; omega
  by_cases m3 : m = 3
  · subst m3
    have HE := Lib.hid (show putL i = o ++ (labL i.l ++ xa) by rw [HIM.out, HXA.out, HO.out]; unfold immB; rw [if_neg (by omega), if_neg (by omega), if_pos rfl])
    have q1 : (S o).size + (S xl).size ≤ 9223372036854775807 := by omega
    go_enter Tryz.func82, Tryz.ntmps82
    go_wp2_with (first
      | (go_at_call 108; go_must ((with_reducible refine (HI.out _).mono ?_); rintro e w2 ⟨rfl, hb⟩; have HB2 := Lib.hid (HB.out.on hb); have hlt := HB2.out.lt; have c0 := HB2.out.c0; have c1 := HB2.out.c1; have c2 := HB2.out.c2; have c3 := HB2.out.c3; have hcv := fun O => HC1.out (w2.alloc O) (w2.heap.size + 1) (size_box _ _); clear hb))
      | (go_at_call 122; go_must ((with_reducible refine (NL.out _).mono ?_); rintro e w3 ⟨rfl, hb⟩; have HB3 := Lib.hid (HB2.out.on3 hb); clear hb)))
    rw [S_append]
    obtain ⟨t0, ht0⟩ : ∃ t, t = o ++ xl := ⟨_, rfl⟩
    rw [← ht0]
    have HT0 := Lib.hid ht0
    clear ht0
    go_loopw [5, 6] (fun s j wr => ∃ k : Nat, k ≤ i.l.length ∧ j = .int .i64 k ∧ s = .string (S (t0 ++ labsL (i.l.take k))) ∧ BoxI w wr i A c) (fun _ j _ => i.l.length - (intOf j).toNat)
    case atStart => exact ⟨0, Nat.zero_le _, rfl, by simp [labsL], HB3.out⟩
    case round =>
      obtain ⟨k, hk, rfl, rfl, hbx⟩ := hrel
      have d3 := hbx.c3
      have d1 := hbx.c1
      have HBX := Lib.hid hbx
      have hlen : (t0 ++ labsL (i.l.take k)).length ≤ 200000 := by rw [List.length_append, HT0.out, List.length_append, HO.out]; have := labsL_take_len i.l HL0.out k h10; simp; omega
      by_cases hlt : k < i.l.length
      · obtain ⟨d, hd⟩ : ∃ d, i.l[k]? = some d := ⟨_, List.getElem?_eq_getElem hlt⟩
        obtain ⟨b, off, rfl, hbl, hcell⟩ := HL.out k _ (cells32_get hd)
        have hcell2 := (hbx.2.cell (p := ⟨b, off + k, none⟩) hbl).trans hcell
        have hdb := HL0.out d (List.mem_of_getElem? hd)
        have wd : IntKind.u64.wrap d = d := by simp [IntKind.wrap, IntKind.bits, IntKind.signed]; omega
        have ND := Lib.hid (fun W => num_any d W hdb.1 (by omega))
        have m2 := lebL_len d (by omega)
        have HS := Lib.hid (labsL_snoc hd)
        obtain ⟨y, hy⟩ : ∃ y, y = lebL d := ⟨_, rfl⟩
        rw [← hy] at ND m2 HS
        obtain ⟨t, ht⟩ : ∃ t, t = t0 ++ labsL (i.l.take k) := ⟨_, rfl⟩
        rw [← ht] at hlen ⊢
        have HTT := Lib.hid ht
        have st := S_size t
        have sy := S_size y
        have q : (S t).size + (S y).size ≤ 9223372036854775807 := by omega
        clear hcell hd hy ht hbx
        go_wp2_with (go_at_call 122; go_must ((with_reducible refine (ND.out _).mono ?_); rintro e w4 ⟨rfl, hb⟩; have HB4 := Lib.hid (HBX.out.on hb); clear hb))
        go_roundw
        case rel => exact ⟨k + 1, by omega, by go_num, by rw [S_append, HS.out, ← List.append_assoc, ← HTT.out], HB4.out⟩
        case measure => simp [intOf]; omega
      · obtain rfl : k = i.l.length := by omega
        obtain ⟨t, ht⟩ : ∃ t, t = t0 ++ labsL (i.l.take i.l.length) := ⟨_, rfl⟩
        rw [← ht] at hlen ⊢
        have HTT := Lib.hid (show t = o ++ labL i.l by rw [ht, HT0.out, List.take_of_length_le (Nat.le_refl _)]; unfold labL; rw [List.append_assoc, HXL.out])
        have st := S_size t
        have q : (S t).size + (S xa).size ≤ 9223372036854775807 := by omega
        clear ht hbx
        go_wp2_with (go_at_call 122; go_must ((with_reducible refine (NA.out _).mono ?_); rintro e w4 ⟨rfl, hb⟩; have HB4 := Lib.hid (HBX.out.on hb); clear hb))
        go_ret
        exact str_put HE.out (by rw [S_append, HTT.out, List.append_assoc]) HB4.out.2
  have d3 : ((m : Int) == 3) = false := by simp; omega
  by_cases m5 : m = 5
  · subst m5
    have HE := Lib.hid (show putL i = o ++ (xa ++ [0]) by rw [HIM.out, HXA.out, HO.out]; unfold immB; rw [if_neg (by omega), if_neg (by omega), if_neg (by omega), if_pos rfl])
    have q1 : (S o).size + (S xa).size ≤ 9223372036854775807 := by omega
    have q2 : (S o).size + (S xa).size + 1 ≤ 9223372036854775807 := by omega
    go_enter Tryz.func82, Tryz.ntmps82
    go_wp2_with (first
      | (go_at_call 108; go_must ((with_reducible refine (HI.out _).mono ?_); rintro e w2 ⟨rfl, hb⟩; have HB2 := Lib.hid (HB.out.on hb); have hlt := HB2.out.lt; have c0 := HB2.out.c0; have c1 := HB2.out.c1; have c2 := HB2.out.c2; have c3 := HB2.out.c3; have hcv := fun O => HC1.out (w2.alloc O) (w2.heap.size + 1) (size_box _ _); clear hb))
      | (go_at_call 122; go_must ((with_reducible refine (NA.out _).mono ?_); rintro e w3 ⟨rfl, hb⟩; have HB3 := Lib.hid hb; clear hb)))
    go_ret
    exact str_put HE.out (by rw [show ({ data := #[0] } : ByteArray) = S [0] from rfl, S_append, S_append, List.append_assoc]) ((HB3f.out _ HB2.out.2 _ _).trans (HB3.out.mono (HB3f.out _ HB2.out.2 _ _).size))
  have d5 : ((m : Int) == 5) = false := by simp; omega
  by_cases m8 : m = 8
  · subst m8
    have HE := Lib.hid (show putL i = o ++ (xa ++ xb) by rw [HIM.out, HXA.out, HXB.out, HO.out]; unfold immB; rw [if_neg (by omega), if_neg (by omega), if_neg (by omega), if_neg (by omega), if_pos rfl])
    have q1 : (S o).size + (S xa).size ≤ 9223372036854775807 := by omega
    have q2 : (S o).size + (S xa).size + (S xb).size ≤ 9223372036854775807 := by omega
    have q3 : ¬ 9223372036854775807 < (S o).size + (S xa).size := by omega
    have q4 : ¬ 9223372036854775807 < (S o).size + (S xa).size + (S xb).size := by omega
    go_enter Tryz.func82, Tryz.ntmps82
    go_wp2_with (first
      | (go_at_call 108; go_must ((with_reducible refine (HI.out _).mono ?_); rintro e w2 ⟨rfl, hb⟩; have HB2 := Lib.hid (HB.out.on hb); have hlt := HB2.out.lt; have c0 := HB2.out.c0; have c1 := HB2.out.c1; have c2 := HB2.out.c2; have c3 := HB2.out.c3; have hcv := fun O => HC1.out (w2.alloc O) (w2.heap.size + 1) (size_box _ _); clear hb)))
    clear q1 q2 so sa sb sl
    have HS0 := Lib.hid (HB2.out.two3)
    go_region_held3 (fun W => BoxI w W i A c ∧ W.cell? ⟨w.heap.size, 1, none⟩ = some (.int .u64 i.a) ∧ W.cell? ⟨w.heap.size, 2, none⟩ = some (.int .u64 i.b))
      (first | assumption | exact BoxI.three (HS0.out _ _) | exact BoxI.three ((HS0.out _ _).drewN 1))
      (first | (go_at_call 122; first | ((with_reducible refine (held_num NA.out ‹_›).mono ?_); rintro e w3 ⟨rfl, hk3⟩) | ((with_reducible refine (held_num NB.out ‹_›).mono ?_); rintro e w4 ⟨rfl, hk4⟩)))
    go_wp2
    go_ret
    exact str_put HE.out (by rw [S_append, S_append, List.append_assoc]) (BoxI.bel hk4.1)
  have d8 : ((m : Int) == 8) = false := by simp; omega
  by_cases m9 : m = 9
  · subst m9
    have HE := Lib.hid (show putL i = o ++ ([0]) by rw [HIM.out, HO.out]; unfold immB; rw [if_neg (by omega), if_neg (by omega), if_neg (by omega), if_neg (by omega), if_neg (by omega), if_pos rfl])
    have q1 : (S o).size + 1 ≤ 9223372036854775807 := by omega
    go_enter Tryz.func82, Tryz.ntmps82
    go_wp2_with (first
      | (go_at_call 108; go_must ((with_reducible refine (HI.out _).mono ?_); rintro e w2 ⟨rfl, hb⟩; have HB2 := Lib.hid (HB.out.on hb); have hlt := HB2.out.lt; have c0 := HB2.out.c0; have c1 := HB2.out.c1; have c2 := HB2.out.c2; have c3 := HB2.out.c3; have hcv := fun O => HC1.out (w2.alloc O) (w2.heap.size + 1) (size_box _ _); clear hb)))
    go_ret
    exact str_put HE.out (by rw [show ({ data := #[0] } : ByteArray) = S [0] from rfl, S_append]) (HB3f.out _ HB2.out.2 _ _)
  have d9 : ((m : Int) == 9) = false := by simp; omega
  by_cases m10 : m = 10
  · subst m10
    have HE := Lib.hid (show putL i = o ++ (sebL (s32 i.a)) by rw [HIM.out, HO.out]; unfold immB; rw [if_neg (by omega), if_neg (by omega), if_neg (by omega), if_neg (by omega), if_neg (by omega), if_neg (by omega), if_pos rfl])
    have hs : -9223372036854775808 ≤ s32 i.a ∧ s32 i.a ≤ 9223372036854775807 := by unfold s32; omega
    have kz := sebL_len (s32 i.a) hs.1 hs.2
    have NZ := Lib.hid (fun W => signed32_any i.a W a0 a1)
    generalize sebL (s32 i.a) = z at *
    have sz := S_size z
    have q1 : (S o).size + (S z).size ≤ 9223372036854775807 := by omega
    go_enter Tryz.func82, Tryz.ntmps82
    go_wp2_with (first
      | (go_at_call 108; go_must ((with_reducible refine (HI.out _).mono ?_); rintro e w2 ⟨rfl, hb⟩; have HB2 := Lib.hid (HB.out.on hb); have hlt := HB2.out.lt; have c0 := HB2.out.c0; have c1 := HB2.out.c1; have c2 := HB2.out.c2; have c3 := HB2.out.c3; have hcv := fun O => HC1.out (w2.alloc O) (w2.heap.size + 1) (size_box _ _); clear hb))
      | (go_at_call 123; go_must ((with_reducible refine (NZ.out _).mono ?_); rintro e w3 ⟨rfl, hb⟩; have HB3 := Lib.hid hb; clear hb)))
    go_ret
    exact str_put HE.out (by rw [S_append]) ((HB3f.out _ HB2.out.2 _ _).trans (HB3.out.mono (HB3f.out _ HB2.out.2 _ _).size))
  have d10 : ((m : Int) == 10) = false := by simp; omega
  by_cases m11 : m = 11
  · subst m11
    have HE := Lib.hid (show putL i = o ++ (sebL (s64 i.a)) by rw [HIM.out, HO.out]; unfold immB; rw [if_neg (by omega), if_neg (by omega), if_neg (by omega), if_neg (by omega), if_neg (by omega), if_neg (by omega), if_neg (by omega), if_pos rfl])
    have hs : -9223372036854775808 ≤ s64 i.a ∧ s64 i.a ≤ 9223372036854775807 := by unfold s64; omega
    have kz := sebL_len (s64 i.a) hs.1 hs.2
    have NZ := Lib.hid (fun W => signed64_any i.a W a0 a1)
    generalize sebL (s64 i.a) = z at *
    have sz := S_size z
    have q1 : (S o).size + (S z).size ≤ 9223372036854775807 := by omega
    go_enter Tryz.func82, Tryz.ntmps82
    go_wp2_with (first
      | (go_at_call 108; go_must ((with_reducible refine (HI.out _).mono ?_); rintro e w2 ⟨rfl, hb⟩; have HB2 := Lib.hid (HB.out.on hb); have hlt := HB2.out.lt; have c0 := HB2.out.c0; have c1 := HB2.out.c1; have c2 := HB2.out.c2; have c3 := HB2.out.c3; have hcv := fun O => HC1.out (w2.alloc O) (w2.heap.size + 1) (size_box _ _); clear hb))
      | (go_at_call 123; go_must ((with_reducible refine (NZ.out _).mono ?_); rintro e w3 ⟨rfl, hb⟩; have HB3 := Lib.hid hb; clear hb)))
    go_ret
    exact str_put HE.out (by rw [S_append]) ((HB3f.out _ HB2.out.2 _ _).trans (HB3.out.mono (HB3f.out _ HB2.out.2 _ _).size))
  have d11 : ((m : Int) == 11) = false := by simp; omega
  have HE := Lib.hid (show putL i = o ++ xa by rw [HIM.out, HXA.out, HO.out]; unfold immB; rw [if_neg m0, if_neg m1, if_neg m3, if_neg m5, if_neg m8, if_neg m9, if_neg m10, if_neg m11])
  have q1 : (S o).size + (S xa).size ≤ 9223372036854775807 := by omega
  clear HIM
  go_enter Tryz.func82, Tryz.ntmps82
  go_wp2_with (first
    | (go_at_call 108; go_must ((with_reducible refine (HI.out _).mono ?_); rintro e w2 ⟨rfl, hb⟩; have HB2 := Lib.hid (HB.out.on hb); have hlt := HB2.out.lt; have c0 := HB2.out.c0; have c1 := HB2.out.c1; have c2 := HB2.out.c2; have c3 := HB2.out.c3; have hcv := fun O => HC1.out (w2.alloc O) (w2.heap.size + 1) (size_box _ _); clear hb))
    | (go_at_call 122; go_must ((with_reducible refine (NA.out _).mono ?_); rintro e w3 ⟨rfl, hb⟩; have HB3 := Lib.hid hb; clear hb)))
  go_ret
  exact str_put HE.out (by rw [S_append]) ((HB3f.out _ HB2.out.2 _ _).trans (HB3.out.mono (HB3f.out _ HB2.out.2 _ _).size))
end Go.Proofs.YtebgmfjgapmpfaaGreatDoor
