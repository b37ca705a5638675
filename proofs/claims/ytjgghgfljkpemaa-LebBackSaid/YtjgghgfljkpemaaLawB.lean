/- The law LebBack. -/
import Derived.Test.YtjgghgfljkpemaaPack
namespace Go.Proofs.Ytjgghgfljkpemaa
open Go.RowKit
set_option linter.unusedVariables false

theorem has_init {w : World} {B : Nat} {A : Option Addr} {cap : Nat} {l m : List Int} (h : Has w B A cap (l ++ m)) : Has w B A cap l :=
  ⟨fun i v hv => h.lies i v (by
    unfold cells at hv ⊢
    rw [List.map_append, List.getElem?_append_left (List.getElem?_eq_some_iff.1 hv).1]; exact hv), h.low_, by have := h.room; simp at this; omega, h.most⟩
theorem back_grow {W w8 w9 : World} {g : Nat} {p : Addr} {u : Value} {o : Obj} (hb : Below W.heap.size W w8) (hs : w8.grownBy (w8.setCell p u) (some g)) (hg : W.heap.size ≤ g) (hgr : ((w8.setCell p u).alloc o).grownBy w9 (some g)) : Below W.heap.size W w9 := by
  have h1 : Below W.heap.size W (w8.setCell p u) := Below.grown hb hs hb.size (fun k e => by injection e with e; omega)
  exact Below.grown (h1.alloc h1.size _) hgr (by have := h1.size; simp at this ⊢; omega) (fun k e => by injection e with e; omega)
theorem back_all {w w3 w5 w7 w9 : World} (h1 : Below w.heap.size w w3) (h2 : Below w3.heap.size w3 w5) (h3 : Below w5.heap.size w5 w7) (h4 : Below w7.heap.size w7 w9) : Below w.heap.size w w9 := by
  have a := h1.size
  have b := h2.size
  have c := h3.size
  exact ((h1.trans (h2.mono a)).trans (h3.mono (by omega))).trans (h4.mono (by omega))
theorem set_last {l : List Int} {q : Nat} (c u z : Int) (hl : l.length = q) : (cells (l ++ [c])).set q (.int .u8 u) ++ [Value.int .u8 z] = cells (l ++ [u, z]) := by
  subst hl
  simp [cells, List.set_append_right]
theorem cell_last {l : List Int} {q : Nat} (c : Int) (hl : l.length = q) : (cells (l ++ [c]))[q]? = some (.int .u8 c) := by
  subst hl
  simp [cells]

set_option maxRecDepth 100000 in
theorem back_long (v k : Int) (n : Nat) (A : Option Addr) (cap : Nat) (w : World) (hn : 100 < n) (hm : n ≤ maxLen) :
    Calls Try.prog 5 #[.int .u64 v, .int .u8 k, .slice A n cap] w fun e w' => e = .returned (.bool true) ∧ Below w.heap.size w w' := by
  unfold maxLen at hm
  have hn' : (100 : Int) < n := by omega
  go_enter Try.func5, Try.ntmps5
  go_wp2_with (go_at_call 6; go_must (refine (awake_any _).mono ?_; rintro e w1 ⟨rfl, hb1⟩; have HB1 := Lib.hid hb1; clear hb1))
  go_ret
  exact ⟨rfl, HB1.out⟩

set_option maxRecDepth 100000 in
set_option maxHeartbeats 4000000 in
theorem back_short (v k : Int) (r : List Int) (hb : ∀ c ∈ r, 0 ≤ c ∧ c ≤ 255) (A : Option Addr) (cap : Nat) (w : World) (hh : Has w w.heap.size A cap r) (hr : r.length ≤ 100) (hA : A = none → cap = 0)
    (v0 : 0 ≤ v) (v1 : v ≤ 18446744073709551615) (k0 : 0 ≤ k) (k1 : k ≤ 255) :
    Calls Try.prog 5 #[.int .u64 v, .int .u8 k, .slice A r.length cap] w fun e w' => e = .returned (.bool true) ∧ Below w.heap.size w w' := by
  obtain ⟨i0, hi0, hz0, hz1, hz2⟩ := info_parts infoB
  obtain ⟨n, hn⟩ : ∃ n : Nat, 1 + k % 64 = (n : Int) := ⟨(1 + k % 64).toNat, by omega⟩
  have n1 : 1 ≤ n := by omega
  have n2 : n ≤ 64 := by omega
  obtain ⟨x, hx⟩ : ∃ x, IntKind.u64.wrap (v * 2 ^ (64 - n)) / 2 ^ (64 - n) = x := ⟨_, rfl⟩
  obtain ⟨y, hy⟩ : ∃ y, wrap64 (wrap64 v * 2 ^ (64 - n)) / 2 ^ (64 - n) = y := ⟨_, rfl⟩
  obtain ⟨x0, x1⟩ := cut_u v n n2
  obtain ⟨y0, y1⟩ := cut_s (wrap64 v) n n1 n2
  rw [hx] at x0 x1
  rw [hy] at y0 y1
  obtain ⟨q, ia, c, q1, hia, c0, c1, CU, RU, RL, RS⟩ := pack_u x0 x1 n1 n2
  obtain ⟨s, ib, d, s1, hib, d0, d1, CI, RI⟩ := pack_s y0 y1 n1 n2
  have hM : (n + 6) / 7 ≤ 10 := by omega
  have hT : (64 - (n : Int)).toNat = 64 - n := by omega
  have hor : bits .or .u8 c 128 = c + 128 := by rw [or128 c c0 (by omega), Int.emod_eq_of_lt c0 c1]
  have hrl : A = none → r.length = 0 ∧ cap = 0 := fun e => ⟨by
    rcases Nat.eq_zero_or_pos r.length with h | h
    · exact h
    · exact some_of hh.lies h e, hA e⟩
  have HH := Lib.hid hh
  have HW := Lib.hid hb
  have HRL := Lib.hid hrl
  have HCU := Lib.hid CU
  have HCI := Lib.hid CI
  have HRU := Lib.hid RU
  have HRL2 := Lib.hid RL
  have HRS := Lib.hid RS
  have HRI := Lib.hid RI
  have HIA := Lib.hid hia
  have HIB := Lib.hid hib
  have hr' : ¬ (100 : Int) < r.length := by omega
  have HM2 : ((n : Int) + 6) / 7 = (((n + 6) / 7 : Nat) : Int) := by omega
  clear hh hb hA hrl CU CI RU RL RS RI hia hib x0 x1 y0 y1
  obtain ⟨M, hMM⟩ : ∃ M, (n + 6) / 7 = M := ⟨_, rfl⟩
  rw [hMM] at q1 s1 hM HRL2 HM2
  have HMM := Lib.hid hMM
  clear hMM
  have HLa : Hid ((cells (ia ++ [c])).length = q + 1) := by have := HIA.out; show _ = _; rw [cells_length]; simp; omega
  have HLb : Hid ((cells (ib ++ [d])).length = s + 1) := by have := HIB.out; show _ = _; rw [cells_length]; simp; omega
  have HLa2 : Hid (∀ m : List Int, (ia ++ c :: m).length = q + 1 + m.length) := by have := HIA.out; intro m; simp; omega
  have HLb2 : Hid (∀ m : List Int, (ib ++ d :: m).length = s + 1 + m.length) := by have := HIB.out; intro m; simp; omega
  have HXa : Hid (∀ m : List Int, [] ++ cells (ia ++ [c]) ++ cells m = cells (ia ++ c :: m)) := by intro m; simp [cells]
  have HXb : Hid (∀ m : List Int, [] ++ cells (ib ++ [d]) ++ cells m = cells (ib ++ d :: m)) := by intro m; simp [cells]
  have q2 : ¬ (M : Int) < (q : Int) + 1 := by omega
  have q3 : decide ((M : Int) < (q : Int) + 1) = false := by simpa using q2
  have s2 : ¬ (M : Int) < (s : Int) + 1 := by omega
  have s3 : decide ((M : Int) < (s : Int) + 1) = false := by simpa using s2
  have q4 : ((q : Int) + 1 == 0) = false := by simp; omega
  by_cases hlt : q + 1 < M
  · have t1 : (q : Int) + 1 < M := by omega
    go_enter Try.func5, Try.ntmps5
    go_wp2_with (first
      | (go_at_call 6; go_must (refine (awake_any _).mono ?_; rintro e w1 ⟨rfl, hb1⟩; have HB1 := Lib.hid hb1; have HM1 := Lib.hid (HH.out.below hb1); clear hb1))
      | (go_at_call 8; go_must (refine (HCU.out _).mono ?_; intro e w2 hw; obtain ⟨A1, e1, rfl, hc1, hm1, hl1, hb2⟩ := hw; have HB2 := Lib.hid (HB1.out.trans (hb2.mono HB1.out.size)); have HM2a := Lib.hid (HM1.out.below hb2); have HA2 : Hid (Has w2 w2.heap.size A1 e1 (ia ++ [c])) := ⟨hl1, Nat.le_refl _, by have := HIA.out; simp; omega, hm1⟩; have hm1b : e1 ≤ 9223372036854775807 := (by have h := hm1; unfold maxLen at h; omega); clear hm1 hl1 hb2))
      | (go_at_call 10; go_must (refine (HCI.out _).mono ?_; intro e w3 hw; obtain ⟨A2, e2, rfl, hc2, hm2, hl2, hb3⟩ := hw; have HB3 := Lib.hid (HB2.out.trans (hb3.mono HB2.out.size)); have HMOw3 := Lib.hid (HM2a.out.below hb3); have HA3 := Lib.hid (HA2.out.below hb3); have HB3b : Hid (Has w3 w3.heap.size A2 e2 (ib ++ [d])) := ⟨hl2, Nat.le_refl _, by have := HIB.out; simp; omega, hm2⟩; clear hc2 hm2 hl2 hb3))
      | (at_builtin; refine wpList_append_lies rfl (.tmp 58) (.tmp 59) _ rfl w3.heap.size 5 i0 _ Try.underlying24 hi0 hz0 hz1 hz2 rfl (.slice (some ⟨w3.heap.size, 0, none⟩) 0 0) 0 [] rfl (World.ownsRow_made w3 #[] 0 (Nat.le_refl _) (by simp [maxLen]) rfl) A1 (q + 1) e1 _ _ rfl HLa.out (HA3.out.lies.below ((Below.refl _ _).alloc (Nat.le_refl _) _) HA3.out.low_) (some_of HA3.out.lies (by simp)) (cells_one _) (by omega) (by simp) ?_; intro v4 w4 hown hgrow; have HB4 := Lib.hid (row_first hgrow); have HO4 := Lib.hid hown; clear hown hgrow; skip)
      | (at_builtin; refine wpList_append_lies rfl (.tmp 60) (.tmp 61) _ rfl w3.heap.size 5 i0 _ Try.underlying24 hi0 hz0 hz1 hz2 rfl v4 (0 + (q + 1)) _ rfl HO4.out A r.length cap _ (cells r) rfl (cells_length _) (HMOw3.out.lies.below HB4.out HMOw3.out.low_) HRL.out (cells_one _) (by omega) HB4.out.size ?_; intro v5 w5 hown hgrow; have HB5 := Lib.hid (row_next HB4.out HO4.out hgrow); rw [HXa.out r, Nat.zero_add] at hown; obtain ⟨A5, e5, rfl, hh5⟩ := has_own hown (HLa2.out r); have HH5 := Lib.hid hh5; have HMOw5 := Lib.hid (HMOw3.out.below HB5.out); have HA5 := Lib.hid (HA3.out.below HB5.out); have HB5b := Lib.hid (HB3b.out.below HB5.out); clear hown hgrow hh5)
      | (at_builtin; refine wpList_append_lies rfl (.tmp 69) (.tmp 70) _ rfl w5.heap.size 5 i0 _ Try.underlying24 hi0 hz0 hz1 hz2 rfl (.slice (some ⟨w5.heap.size, 0, none⟩) 0 0) 0 [] rfl (World.ownsRow_made w5 #[] 0 (Nat.le_refl _) (by simp [maxLen]) rfl) A2 (s + 1) e2 _ _ rfl HLb.out (HB5b.out.lies.below ((Below.refl _ _).alloc (Nat.le_refl _) _) HB5b.out.low_) (some_of HB5b.out.lies (by simp)) (cells_one _) (by omega) (by simp) ?_; intro v6 w6 hown hgrow; have HB6 := Lib.hid (row_first hgrow); have HO6 := Lib.hid hown; clear hown hgrow; skip)
      | (at_builtin; refine wpList_append_lies rfl (.tmp 71) (.tmp 72) _ rfl w5.heap.size 5 i0 _ Try.underlying24 hi0 hz0 hz1 hz2 rfl v6 (0 + (s + 1)) _ rfl HO6.out A r.length cap _ (cells r) rfl (cells_length _) (HMOw5.out.lies.below HB6.out HMOw5.out.low_) HRL.out (cells_one _) (by omega) HB6.out.size ?_; intro v7 w7 hown hgrow; have HB7 := Lib.hid (row_next HB6.out HO6.out hgrow); rw [HXb.out r, Nat.zero_add] at hown; obtain ⟨A7, e7, rfl, hh7⟩ := has_own hown (HLb2.out r); have HH7 := Lib.hid hh7; have HA7 := Lib.hid (HA5.out.below HB7.out); clear hown hgrow hh7)
      | (go_at_call 16; go_must (refine (HRI.out r HW.out _ _ _ _ _ (HLb2.out r) HH7.out).mono ?_; rintro e w' ⟨rfl, rfl⟩))
      | (go_at_call 13; go_must (refine (most_in _ _ (by omega) (by omega)).mono ?_; rintro e w' ⟨rfl, rfl⟩))
      | (at_builtin; refine wpList_append_lies rfl (.tmp 126) (.tmp 127) _ rfl w7.heap.size 5 i0 _ Try.underlying24 hi0 hz0 hz1 hz2 rfl (.slice (some ⟨w7.heap.size, 0, none⟩) 0 0) 0 [] rfl (World.ownsRow_made w7 #[] 0 (Nat.le_refl _) (by simp [maxLen]) rfl) A1 (q + 1) e1 _ _ rfl HLa.out (HA7.out.lies.below ((Below.refl _ _).alloc (Nat.le_refl _) _) HA7.out.low_) (some_of HA7.out.lies (by simp)) (cells_one _) (by omega) (by simp) ?_; intro v8 w8 hown hgrow; have HB8 := Lib.hid (row_first hgrow); have HO8 := Lib.hid hown; clear hown hgrow; have hown8 := HO8.out; rw [List.nil_append, Nat.zero_add] at hown8; have HO9 := Lib.hid hown8; clear hown8; obtain ⟨g, e8, rfl, hg8, hlt8⟩ := HO9.out.form (by omega); have hce8 : w8.cell? ⟨g, q, none⟩ = some (.int .u8 c) := ((HO9.out.cellAt q (by omega)).trans (cell_last c HIA.out)); have hfr8 := HO9.out.frozenAt q; have HA8 := Lib.hid (HA7.out.below HB8.out))
      | (at_builtin; refine wpList_append_own _ rfl (.tmp 142) (.tmp 143) _ rfl w7.heap.size 5 i0 _ 1 1 Try.underlying24 hi0 hz0 hz1 hz2 rfl (by omega) _ _ _ rfl ((HO9.out.stored q (.int .u8 (c + 128))).1.alloc _) ⟨w8.heap.size, 0, none⟩ 1 1 [.int .u8 0] rfl rfl (World.news_of_block (cs := #[.int .u8 0]) (t := 5) (fr := (0, 0)) (by simpa using heap_alloc_new (w8.setCell ⟨g, q, none⟩ (.int .u8 (c + 128))) (.cells #[.int .u8 0] 5))) (by simp [Value.oneCell']) (by unfold maxLen; omega) (by omega) (by have := HB8.out.size; simp; omega) ?_; intro v9 w9 hown hgrow _; have HB9 := Lib.hid (back_grow HB8.out (HO9.out.stored q (.int .u8 (c + 128))).2 hg8 hgrow); rw [set_last c (c + 128) 0 HIA.out] at hown; obtain ⟨A9, e9, rfl, hh9⟩ := has_own hown (by have := HIA.out; simp; omega); have HH9 := Lib.hid hh9; have HA9 := Lib.hid (HA7.out.below HB9.out); clear hown hgrow hh9)
      | (first | (have t1 := HTOK; go_at_call 15; refine (HRS.out _ _ _ _ (has_init HA9.out)).mono ?_; rintro e w' ⟨rfl, rfl⟩) | (have t1 := HH9; go_at_call 15; refine (HRL2.out hlt _ _ _ _ HH9.out).mono ?_; rintro e w' ⟨rfl, rfl⟩; have HTOK : Hid True := trivial) | (go_at_call 15; refine (HRU.out r HW.out _ _ _ _ _ (HLa2.out r) HH5.out).mono ?_; rintro e w' ⟨rfl, rfl⟩)))
    go_ret
    exact ⟨rfl, back_all HB3.out HB5.out HB7.out HB9.out⟩
  · have t1 : ¬ (q : Int) + 1 < M := by omega
    go_enter Try.func5, Try.ntmps5
    go_wp2_with (first
      | (go_at_call 6; go_must (refine (awake_any _).mono ?_; rintro e w1 ⟨rfl, hb1⟩; have HB1 := Lib.hid hb1; have HM1 := Lib.hid (HH.out.below hb1); clear hb1))
      | (go_at_call 8; go_must (refine (HCU.out _).mono ?_; intro e w2 hw; obtain ⟨A1, e1, rfl, hc1, hm1, hl1, hb2⟩ := hw; have HB2 := Lib.hid (HB1.out.trans (hb2.mono HB1.out.size)); have HM2a := Lib.hid (HM1.out.below hb2); have HA2 : Hid (Has w2 w2.heap.size A1 e1 (ia ++ [c])) := ⟨hl1, Nat.le_refl _, by have := HIA.out; simp; omega, hm1⟩; have hm1b : e1 ≤ 9223372036854775807 := (by have h := hm1; unfold maxLen at h; omega); clear hm1 hl1 hb2))
      | (go_at_call 10; go_must (refine (HCI.out _).mono ?_; intro e w3 hw; obtain ⟨A2, e2, rfl, hc2, hm2, hl2, hb3⟩ := hw; have HB3 := Lib.hid (HB2.out.trans (hb3.mono HB2.out.size)); have HMOw3 := Lib.hid (HM2a.out.below hb3); have HA3 := Lib.hid (HA2.out.below hb3); have HB3b : Hid (Has w3 w3.heap.size A2 e2 (ib ++ [d])) := ⟨hl2, Nat.le_refl _, by have := HIB.out; simp; omega, hm2⟩; clear hc2 hm2 hl2 hb3))
      | (at_builtin; refine wpList_append_lies rfl (.tmp 58) (.tmp 59) _ rfl w3.heap.size 5 i0 _ Try.underlying24 hi0 hz0 hz1 hz2 rfl (.slice (some ⟨w3.heap.size, 0, none⟩) 0 0) 0 [] rfl (World.ownsRow_made w3 #[] 0 (Nat.le_refl _) (by simp [maxLen]) rfl) A1 (q + 1) e1 _ _ rfl HLa.out (HA3.out.lies.below ((Below.refl _ _).alloc (Nat.le_refl _) _) HA3.out.low_) (some_of HA3.out.lies (by simp)) (cells_one _) (by omega) (by simp) ?_; intro v4 w4 hown hgrow; have HB4 := Lib.hid (row_first hgrow); have HO4 := Lib.hid hown; clear hown hgrow; skip)
      | (at_builtin; refine wpList_append_lies rfl (.tmp 60) (.tmp 61) _ rfl w3.heap.size 5 i0 _ Try.underlying24 hi0 hz0 hz1 hz2 rfl v4 (0 + (q + 1)) _ rfl HO4.out A r.length cap _ (cells r) rfl (cells_length _) (HMOw3.out.lies.below HB4.out HMOw3.out.low_) HRL.out (cells_one _) (by omega) HB4.out.size ?_; intro v5 w5 hown hgrow; have HB5 := Lib.hid (row_next HB4.out HO4.out hgrow); rw [HXa.out r, Nat.zero_add] at hown; obtain ⟨A5, e5, rfl, hh5⟩ := has_own hown (HLa2.out r); have HH5 := Lib.hid hh5; have HMOw5 := Lib.hid (HMOw3.out.below HB5.out); have HA5 := Lib.hid (HA3.out.below HB5.out); have HB5b := Lib.hid (HB3b.out.below HB5.out); clear hown hgrow hh5)
      | (at_builtin; refine wpList_append_lies rfl (.tmp 69) (.tmp 70) _ rfl w5.heap.size 5 i0 _ Try.underlying24 hi0 hz0 hz1 hz2 rfl (.slice (some ⟨w5.heap.size, 0, none⟩) 0 0) 0 [] rfl (World.ownsRow_made w5 #[] 0 (Nat.le_refl _) (by simp [maxLen]) rfl) A2 (s + 1) e2 _ _ rfl HLb.out (HB5b.out.lies.below ((Below.refl _ _).alloc (Nat.le_refl _) _) HB5b.out.low_) (some_of HB5b.out.lies (by simp)) (cells_one _) (by omega) (by simp) ?_; intro v6 w6 hown hgrow; have HB6 := Lib.hid (row_first hgrow); have HO6 := Lib.hid hown; clear hown hgrow; skip)
      | (at_builtin; refine wpList_append_lies rfl (.tmp 71) (.tmp 72) _ rfl w5.heap.size 5 i0 _ Try.underlying24 hi0 hz0 hz1 hz2 rfl v6 (0 + (s + 1)) _ rfl HO6.out A r.length cap _ (cells r) rfl (cells_length _) (HMOw5.out.lies.below HB6.out HMOw5.out.low_) HRL.out (cells_one _) (by omega) HB6.out.size ?_; intro v7 w7 hown hgrow; have HB7 := Lib.hid (row_next HB6.out HO6.out hgrow); rw [HXb.out r, Nat.zero_add] at hown; obtain ⟨A7, e7, rfl, hh7⟩ := has_own hown (HLb2.out r); have HH7 := Lib.hid hh7; have HA7 := Lib.hid (HA5.out.below HB7.out); clear hown hgrow hh7)
      | (go_at_call 16; go_must (refine (HRI.out r HW.out _ _ _ _ _ (HLb2.out r) HH7.out).mono ?_; rintro e w' ⟨rfl, rfl⟩))
      | (go_at_call 13; go_must (refine (most_in _ _ (by omega) (by omega)).mono ?_; rintro e w' ⟨rfl, rfl⟩))
      | (at_builtin; refine wpList_append_lies rfl (.tmp 126) (.tmp 127) _ rfl w7.heap.size 5 i0 _ Try.underlying24 hi0 hz0 hz1 hz2 rfl (.slice (some ⟨w7.heap.size, 0, none⟩) 0 0) 0 [] rfl (World.ownsRow_made w7 #[] 0 (Nat.le_refl _) (by simp [maxLen]) rfl) A1 (q + 1) e1 _ _ rfl HLa.out (HA7.out.lies.below ((Below.refl _ _).alloc (Nat.le_refl _) _) HA7.out.low_) (some_of HA7.out.lies (by simp)) (cells_one _) (by omega) (by simp) ?_; intro v8 w8 hown hgrow; have HB8 := Lib.hid (row_first hgrow); have HO8 := Lib.hid hown; clear hown hgrow; have hown8 := HO8.out; rw [List.nil_append, Nat.zero_add] at hown8; obtain ⟨A8, e8, rfl, hh8⟩ := has_own hown8 (HLa2.out []); have HH8 := Lib.hid hh8; have HA8 := Lib.hid (HA7.out.below HB8.out); clear hown8 hh8)
      | (first | (have t1 := HTOK; go_at_call 15; refine (HRS.out _ _ _ _ (has_init HA8.out)).mono ?_; rintro e w' ⟨rfl, rfl⟩) | (have t1 := HH8; go_at_call 15; refine (HRU.out [] (by simp) _ _ _ _ _ (HLa2.out []) HH8.out).mono ?_; rintro e w' ⟨rfl, rfl⟩; have HTOK : Hid True := trivial) | (go_at_call 15; refine (HRU.out r HW.out _ _ _ _ _ (HLa2.out r) HH5.out).mono ?_; rintro e w' ⟨rfl, rfl⟩)))
    go_ret
    exact ⟨rfl, back_all HB3.out HB5.out HB7.out HB8.out⟩
end Go.Proofs.Ytjgghgfljkpemaa
