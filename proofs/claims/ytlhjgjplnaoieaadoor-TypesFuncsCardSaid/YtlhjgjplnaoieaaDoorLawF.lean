/- The walk of TypesFuncs. -/
import Derived.Test.YtlhjgjplnaoieaaDoorREnc
import Derived.Test.YtlhjgjplnaoieaaDoorHeld
namespace Go.Proofs.YtlhjgjplnaoieaaDoor
open Go.RowKit

theorem Boxed.tab {w W : World} {o : Obj} (h : Boxed w o W) (hT : Tab w) : Tab W := (hT.alloc o).far h (Nat.lt_succ_of_lt hT.lt)
/-- The same where the callee reads types.names. -/
theorem held_tab {K : Nat} {args : Array Value} {w : World} {u v : Value} {t : TypeId} {R : Ending → Prop} (hN : ∀ w, Tab w → Calls Tryd.prog K args w fun e w' => R e ∧ Below w.heap.size w w') (hT : Tab w) {W : World}
    (h : Boxed w (.cells #[u, v] t) W ∧ W.cell? ⟨w.heap.size, 0, none⟩ = some u ∧ W.cell? ⟨w.heap.size, 1, none⟩ = some v) :
    Calls Tryd.prog K args W fun e w' => R e ∧ Boxed w (.cells #[u, v] t) w' ∧ w'.cell? ⟨w.heap.size, 0, none⟩ = some u ∧ w'.cell? ⟨w.heap.size, 1, none⟩ = some v :=
  (hN W (h.1.tab hT)).mono fun e w' ⟨h1, h2⟩ => ⟨h1, h.1.on h2, (h.1.on h2).row 0, (h.1.on h2).row 1⟩
/-- Bytes handed back that stay what they are. -/
def Stays (A : Option Addr) (c : Nat) (l : List UInt8) (W : World) : Prop := ∃ B, B ≤ W.heap.size ∧ Lies W B A (cells (nums l))
theorem Stays.on {A : Option Addr} {c : Nat} {l : List UInt8} {w1 w2 : World} (h : Stays A c l w1) (hb : Below w1.heap.size w1 w2) : Stays A c l w2 := by
  obtain ⟨B, h1, h2⟩ := h
  exact ⟨B, Nat.le_trans h1 hb.size, h2.below hb h1⟩
theorem Stays.str {A : Option Addr} {c : Nat} {l : List UInt8} {w : World} (h : Stays A c l w) (hl : 0 < l.length) :
    ∀ dst, Tryd.prog.underlying dst = some .string → (convert 33 dst (.slice A l.length c)).run Tryd.prog w = .ok (.string (S l)) w := by
  obtain ⟨B, _, h2⟩ := h
  exact str_lies' h2 hl c
/-- A function that hands bytes back, where a box is held. -/
theorem held_bytes {K : Nat} {args : Array Value} {w : World} {u v : Value} {t : TypeId} {l : List UInt8} (hN : ∀ w, Calls Tryd.prog K args w (BytesL l w)) (hl : 0 < l.length) {W : World}
    (h : Boxed w (.cells #[u, v] t) W ∧ W.cell? ⟨w.heap.size, 0, none⟩ = some u ∧ W.cell? ⟨w.heap.size, 1, none⟩ = some v) :
    Calls Tryd.prog K args W fun e w' => ∃ A c, e = .returned (.slice A l.length c) ∧ (Boxed w (.cells #[u, v] t) w' ∧ w'.cell? ⟨w.heap.size, 0, none⟩ = some u ∧ w'.cell? ⟨w.heap.size, 1, none⟩ = some v) ∧ Stays A c l w' ∧
      (∀ dst, Tryd.prog.underlying dst = some .string → (convert 33 dst (.slice A l.length c)).run Tryd.prog w' = .ok (.string (S l)) w') :=
  (hN W).mono fun e w' ⟨x, h1, h2, h3⟩ => by
    obtain ⟨A, c, rfl, h4⟩ := h2.lies
    exact ⟨A, c, h1, ⟨h.1.on h3, (h.1.on h3).row 0, (h.1.on h3).row 1⟩, ⟨_, Nat.le_refl _, h4⟩, Stays.str ⟨_, Nat.le_refl _, h4⟩ hl⟩
/-- The same as held_two and held_tab, where bytes stay too. -/
theorem held_two2 {K : Nat} {args : Array Value} {w : World} {u v : Value} {t : TypeId} {R : Ending → Prop} {A : Option Addr} {c : Nat} {l : List UInt8} (hl : 0 < l.length) (hN : ∀ w, Calls Tryd.prog K args w fun e w' => R e ∧ Below w.heap.size w w') {W : World}
    (h : (Boxed w (.cells #[u, v] t) W ∧ W.cell? ⟨w.heap.size, 0, none⟩ = some u ∧ W.cell? ⟨w.heap.size, 1, none⟩ = some v) ∧ Stays A c l W ∧ (∀ dst, Tryd.prog.underlying dst = some .string → (convert 33 dst (.slice A l.length c)).run Tryd.prog W = .ok (.string (S l)) W)) :
    Calls Tryd.prog K args W fun e w' => R e ∧ (Boxed w (.cells #[u, v] t) w' ∧ w'.cell? ⟨w.heap.size, 0, none⟩ = some u ∧ w'.cell? ⟨w.heap.size, 1, none⟩ = some v) ∧ Stays A c l w' ∧ (∀ dst, Tryd.prog.underlying dst = some .string → (convert 33 dst (.slice A l.length c)).run Tryd.prog w' = .ok (.string (S l)) w') :=
  (hN W).mono fun e w' ⟨h1, h2⟩ => ⟨h1, ⟨h.1.1.on h2, (h.1.1.on h2).row 0, (h.1.1.on h2).row 1⟩, h.2.1.on h2, (h.2.1.on h2).str hl⟩
theorem held_tab2 {K : Nat} {args : Array Value} {w : World} {u v : Value} {t : TypeId} {R : Ending → Prop} {A : Option Addr} {c : Nat} {l : List UInt8} (hl : 0 < l.length) (hN : ∀ w, Tab w → Calls Tryd.prog K args w fun e w' => R e ∧ Below w.heap.size w w') (hT : Tab w) {W : World}
    (h : (Boxed w (.cells #[u, v] t) W ∧ W.cell? ⟨w.heap.size, 0, none⟩ = some u ∧ W.cell? ⟨w.heap.size, 1, none⟩ = some v) ∧ Stays A c l W ∧ (∀ dst, Tryd.prog.underlying dst = some .string → (convert 33 dst (.slice A l.length c)).run Tryd.prog W = .ok (.string (S l)) W)) :
    Calls Tryd.prog K args W fun e w' => R e ∧ (Boxed w (.cells #[u, v] t) w' ∧ w'.cell? ⟨w.heap.size, 0, none⟩ = some u ∧ w'.cell? ⟨w.heap.size, 1, none⟩ = some v) ∧ Stays A c l w' ∧ (∀ dst, Tryd.prog.underlying dst = some .string → (convert 33 dst (.slice A l.length c)).run Tryd.prog w' = .ok (.string (S l)) w') :=
  (hN W (h.1.1.tab hT)).mono fun e w' ⟨h1, h2⟩ => ⟨h1, ⟨h.1.1.on h2, (h.1.1.on h2).row 0, (h.1.1.on h2).row 1⟩, h.2.1.on h2, (h.2.1.on h2).str hl⟩

/-- The byte of a name among those above k, or 0. -/
def aboveZ (s : List UInt8) (k : Nat) : Int := if (k : Int) < byteZ s then byteZ s else 0
theorem aboveZ_start (s : List UInt8) : aboveZ s 255 = 0 := by
  unfold aboveZ
  have := byteZ_bd s
  rw [if_neg (by omega)]
theorem aboveZ_end (s : List UInt8) : aboveZ s 0 = byteZ s := by
  unfold aboveZ
  have := byteZ_bd s
  split <;> omega
theorem aboveZ_hit {s : List UInt8} {k : Nat} (h : byteZ s = ((k + 1 : Nat) : Int)) : aboveZ s k = ((k + 1 : Nat) : Int) := by
  unfold aboveZ
  rw [if_pos (by omega), h]
theorem aboveZ_miss {s : List UInt8} {k : Nat} (h : byteZ s ≠ ((k + 1 : Nat) : Int)) : aboveZ s k = aboveZ s (k + 1) := by
  unfold aboveZ
  by_cases a : ((k + 1 : Nat) : Int) < byteZ s
  · rw [if_pos (by omega), if_pos a]
  · rw [if_neg (by omega), if_neg a]

set_option maxRecDepth 100000 in
set_option maxHeartbeats 4000000 in
theorem funcs_any (p r : List UInt8) (b : Int) (s : List UInt8) (w : World) (hT : Tab w) (b0 : 0 ≤ b) (b1 : b ≤ 255) (z1 : p.length ≤ 1100) (z2 : r.length ≤ 300) (z3 : s.length ≤ 300) :
    Calls Tryd.prog 3 #[.agg #[.string (S p), .string (S r)], .int .u8 b, .string (S s)] w fun e w' => e = .returned (.bool true) ∧ Below w.heap.size w w' := by
  have sp := S_size p
  have sr := S_size r
  have ss := S_size s
  have d1 : decide ((1100 : Int) < ((S p).size : Int)) = false := by simp; omega
  have d2 : decide ((300 : Int) < ((S r).size : Int)) = false := by simp; omega
  have d3 : decide ((300 : Int) < ((S s).size : Int)) = false := by simp; omega
  clear sp sr ss
  have bz := byteZ_bd s
  obtain ⟨bz0, bz1⟩ := bz
  have F1 := Lib.hid (fun w => by have h := func_any p r w (by omega) (by omega); unfold ftV at h; exact h)
  have F2 := Lib.hid (fun w => by have h := refFunc_any p r w (by omega) (by omega); unfold ftV at h; exact h)
  have V1 := Lib.hid (fun w => values_any p w (by omega))
  have V2 := Lib.hid (fun w => refValues_any p w (by omega))
  have Q1 := Lib.hid (fun w => value_any b w)
  have Q2 := Lib.hid (fun w => refValue_any b w)
  have E1 := Lib.hid (fun w => by have h := enc_any p r w (by omega) (by omega); unfold ftV at h; exact h)
  have E2 := Lib.hid (fun w => by have h := refEnc_any p r w (by omega) (by omega); unfold ftV at h; exact h)
  have T1 := Lib.hid (fun w (hT : Tab w) => by have h := text_any p r w hT (by omega) (by omega); unfold ftV at h; exact h)
  have T2 := Lib.hid (fun w => by have h := refText_any p r w (by omega) (by omega); unfold ftV at h; exact h)
  have N1 := Lib.hid (fun w (hT : Tab w) => name_any b w hT)
  have N2 := Lib.hid (fun w => refName_any b w b0 b1)
  have B1 := Lib.hid (fun w (hT : Tab w) => byte_any s w hT)
  have hxl : 0 < (encL p r).length := by unfold encL; simp
  generalize encL p r = x at *
  generalize textL p r = y at *
  generalize funcZ p r = zf at *
  have HA := Lib.hid (awake_any (w.alloc (.cells #[.string (S p), .string (S r)] 23)) (hT.alloc _))
  go_enter Tryd.func3, Tryd.ntmps3
  go_wp2_with (go_at_call 6; go_must (refine HA.out.mono ?_; rintro e w1 ⟨rfl, hb⟩; have HK := Lib.hid (Boxed.on (w := w) (show Boxed w _ (w.alloc _) from Below.refl _ _) hb); have c0 := Boxed.row HK.out 0; have c1 := Boxed.row HK.out 1; clear hb))
  clear c0 c1
  go_loopw [7, 8] (fun o i wr => ∃ k : Nat, k ≤ 255 ∧ i = .int .i64 k ∧ o = .int .i64 (aboveZ s k) ∧ Boxed w (.cells #[.string (S p), .string (S r)] 23) wr) (fun _ i _ => (intOf i).toNat)
  case atStart => exact ⟨255, by omega, rfl, by rw [aboveZ_start], HK.out⟩
  case round =>
    obtain ⟨k, hk, rfl, rfl, hbx⟩ := hrel
    have HB := Lib.hid hbx
    clear hbx
    rcases k with _ | m
    · rw [aboveZ_end]
      go_wp2
      have hwb : IntKind.i64.wrap b = b := by rw [IntKind.wrap_i64]; omega
      have hwz : IntKind.i64.wrap (byteZ s) = byteZ s := by rw [IntKind.wrap_i64]; omega
      refine wp_region_noPanic ?_
      refine wp_region_held_drew (S := fun W => (Boxed w (.cells #[.string (S p), .string (S r)] 23) W ∧ W.cell? ⟨w.heap.size, 0, none⟩ = some (.string (S p)) ∧ W.cell? ⟨w.heap.size, 1, none⟩ = some (.string (S r)))) (by kernel_rfl) ⟨Below.drew HB.out, Boxed.row (Below.drew HB.out) 0, Boxed.row (Below.drew HB.out) 1⟩ (fun hHeld => ?_)
      DRAWN 3 11
      call 1 | (go_at_call 8; ((with_reducible refine (held_two F1.out HELD).mono ?_); rintro e w' ⟨rfl, hk⟩)) | hk | 
      call 3 | (go_at_call 9; ((with_reducible refine (held_two F2.out HELD).mono ?_); rintro e w' ⟨rfl, hk⟩)) | hk | 
      call 8 | (go_at_call 10; ((with_reducible refine (V1.out _).mono ?_); rintro e w' ⟨rfl, rfl⟩)) | HELD | 
      call 11 | (go_at_call 11; ((with_reducible refine (V2.out _).mono ?_); rintro e w' ⟨rfl, rfl⟩)) | HELD | 
      call 16 | (go_at_call 12; ((with_reducible refine (Q1.out _).mono ?_); rintro e w' ⟨rfl, rfl⟩)) | HELD | 
      call 19 | (go_at_call 13; ((with_reducible refine (Q2.out _).mono ?_); rintro e w' ⟨rfl, rfl⟩)) | HELD | 
      call 24 | (go_at_call 14; ((with_reducible refine (held_bytes E1.out hxl HELD).mono ?_); rintro e w2 ⟨A1, c1, rfl, hk, hst, hcv⟩)) | hk | have NEWHELD := And.intro HELD (And.intro hst hcv); clear HELD hk hst hcv; refine held_imp (S' := fun W => (Boxed w (.cells #[.string (S p), .string (S r)] 23) W ∧ W.cell? ⟨w.heap.size, 0, none⟩ = some (.string (S p)) ∧ W.cell? ⟨w.heap.size, 1, none⟩ = some (.string (S r))) ∧ Stays A1 c1 x W ∧ (∀ dst, Tryd.prog.underlying dst = some .string → (convert 33 dst (.slice A1 x.length c1)).run Tryd.prog W = .ok (.string (S x)) W)) (fun _ h => h.1) _ _ _ _ ?_
      call 27 | (go_at_call 15; ((with_reducible refine (held_two2 hxl E2.out HELD).mono ?_); rintro e w' ⟨rfl, hk⟩)) | hk | 
      call 32 | (go_at_call 16; ((with_reducible refine (held_tab2 hxl T1.out hT HELD).mono ?_); rintro e w' ⟨rfl, hk⟩)) | hk | 
      call 34 | (go_at_call 17; ((with_reducible refine (held_two2 hxl T2.out HELD).mono ?_); rintro e w' ⟨rfl, hk⟩)) | hk | 
      call 39 | (go_at_call 18; ((with_reducible refine (held_tab2 hxl N1.out hT HELD).mono ?_); rintro e w' ⟨rfl, hk⟩)) | hk | 
      call 42 | (go_at_call 7; ((with_reducible refine (held_two2 hxl N2.out HELD).mono ?_); rintro e w' ⟨rfl, hk⟩)) | hk | 
      call 47 | (go_at_call 19; ((with_reducible refine (held_tab2 hxl B1.out hT HELD).mono ?_); rintro e w' ⟨rfl, hk⟩)) | hk | 
      ENDDRAWN
      go_wp2
      go_ret
      exact ⟨rfl, Boxed.end hLast.1.1⟩
    · have hc : (((m + 1 : Nat) : Nat) : Int) = (m : Int) + 1 := by omega
      have arm : ∀ W, Calls Tryd.prog 7 #[.int .i64 ((m : Int) + 1)] W fun e w' => e = .returned (.string (S (nameZ ((m : Int) + 1)))) ∧ Below W.heap.size W w' := fun W => refName_any _ W (by omega) (by omega)
      have HN := Lib.hid arm
      have nb := name_byte s ((m : Int) + 1) (by omega)
      have hit := aboveZ_hit (s := s) (k := m)
      have miss := aboveZ_miss (s := s) (k := m)
      rw [hc] at hit miss
      clear arm hc
      obtain ⟨x, hx⟩ : ∃ x, x = nameZ ((m : Int) + 1) := ⟨_, rfl⟩
      rw [← hx] at HN nb
      clear hx
      by_cases hby : byteZ s = (m : Int) + 1
      · obtain ⟨hn, hq⟩ := nb.2 hby
        have e1 : ((S x).toList == (S s).toList) = true := by rw [S_beq]; simpa using hn
        have e2 : (!(S s).toList == [63]) = true := by rw [S_toList]; simpa using hq
        have HZ := Lib.hid (hit hby)
        clear hn hq hby nb hit miss
        go_wp2_with (go_at_call 7; go_must ((with_reducible refine (HN.out _).mono ?_); rintro e w2 ⟨rfl, hb⟩; have H2 := Lib.hid hb; clear hb))
        go_roundw
        case rel => exact ⟨m, by omega, by go_num, by rw [HZ.out], HB.out.on H2.out⟩
        case measure => simp [intOf]
      · have HZ := Lib.hid (miss hby)
        by_cases hn : x = s
        · have hq : s = [63] := Classical.byContradiction fun h => hby (nb.1 ⟨hn, h⟩)
          have e1 : ((S x).toList == (S s).toList) = true := by rw [S_beq]; simpa using hn
          have e2 : (!(S s).toList == [63]) = false := by rw [S_toList]; simpa using hq
          clear hn hq hby nb hit miss
          go_wp2_with (go_at_call 7; go_must ((with_reducible refine (HN.out _).mono ?_); rintro e w2 ⟨rfl, hb⟩; have H2 := Lib.hid hb; clear hb))
          go_roundw
          case rel => exact ⟨m, by omega, by go_num, by rw [HZ.out], HB.out.on H2.out⟩
          case measure => simp [intOf]
        · have e1 : ((S x).toList == (S s).toList) = false := by rw [S_beq]; simpa using hn
          clear hn hby nb hit miss
          go_wp2_with (go_at_call 7; go_must ((with_reducible refine (HN.out _).mono ?_); rintro e w2 ⟨rfl, hb⟩; have H2 := Lib.hid hb; clear hb))
          go_roundw
          case rel => exact ⟨m, by omega, by go_num, by rw [HZ.out], HB.out.on H2.out⟩
          case measure => simp [intOf]

/-- What is too long is passed by. -/
theorem funcs_long (p r : List UInt8) (b : Int) (s : List UInt8) (w : World) (hT : Tab w) (h : 1100 < p.length ∨ 300 < r.length ∨ 300 < s.length) :
    Calls Tryd.prog 3 #[.agg #[.string (S p), .string (S r)], .int .u8 b, .string (S s)] w fun e w' => e = .returned (.bool true) ∧ Below w.heap.size w w' := by
  have sp := S_size p
  have sr := S_size r
  have ss := S_size s
  have HA := Lib.hid (awake_any (w.alloc (.cells #[.string (S p), .string (S r)] 23)) (hT.alloc _))
  by_cases h1 : 1100 < p.length
  · have d1 : 1100 < (S p).size := by omega
    clear sp sr ss
    go_enter Tryd.func3, Tryd.ntmps3
    go_wp2_with (go_at_call 6; go_must (refine HA.out.mono ?_; rintro e w1 ⟨rfl, hb⟩; have HK := Lib.hid (Boxed.on (w := w) (show Boxed w _ (w.alloc _) from Below.refl _ _) hb); have c0 := Boxed.row HK.out 0; have c1 := Boxed.row HK.out 1; clear hb))
    go_ret
    exact ⟨rfl, Boxed.end HK.out⟩
  have d1 : decide ((1100 : Int) < ((S p).size : Int)) = false := by simp; omega
  by_cases h2 : 300 < r.length
  · have d2 : 300 < (S r).size := by omega
    clear sp sr ss
    go_enter Tryd.func3, Tryd.ntmps3
    go_wp2_with (go_at_call 6; go_must (refine HA.out.mono ?_; rintro e w1 ⟨rfl, hb⟩; have HK := Lib.hid (Boxed.on (w := w) (show Boxed w _ (w.alloc _) from Below.refl _ _) hb); have c0 := Boxed.row HK.out 0; have c1 := Boxed.row HK.out 1; clear hb))
    go_ret
    exact ⟨rfl, Boxed.end HK.out⟩
  have d2 : decide ((300 : Int) < ((S r).size : Int)) = false := by simp; omega
  have d3 : 300 < (S s).size := by omega
  clear sp sr ss
  go_enter Tryd.func3, Tryd.ntmps3
  go_wp2_with (go_at_call 6; go_must (refine HA.out.mono ?_; rintro e w1 ⟨rfl, hb⟩; have HK := Lib.hid (Boxed.on (w := w) (show Boxed w _ (w.alloc _) from Below.refl _ _) hb); have c0 := Boxed.row HK.out 0; have c1 := Boxed.row HK.out 1; clear hb))
  go_ret
  exact ⟨rfl, Boxed.end HK.out⟩
theorem funcs_all (p r s : ByteArray) (b : Int) (w : World) (hT : Tab w) (b0 : 0 ≤ b) (b1 : b ≤ 255) :
    Calls Tryd.prog 3 #[.agg #[.string p, .string r], .int .u8 b, .string s] w fun e w' => e = .returned (.bool true) ∧ Below w.heap.size w w' := by
  obtain ⟨p, rfl⟩ : ∃ l, p = S l := ⟨_, (S_of p).symm⟩
  obtain ⟨r, rfl⟩ : ∃ l, r = S l := ⟨_, (S_of r).symm⟩
  obtain ⟨s, rfl⟩ : ∃ l, s = S l := ⟨_, (S_of s).symm⟩
  by_cases h : 1100 < p.length ∨ 300 < r.length ∨ 300 < s.length
  · exact funcs_long p r b s w hT h
  · exact funcs_any p r b s w hT b0 b1 (by omega) (by omega) (by omega)
end Go.Proofs.YtlhjgjplnaoieaaDoor
