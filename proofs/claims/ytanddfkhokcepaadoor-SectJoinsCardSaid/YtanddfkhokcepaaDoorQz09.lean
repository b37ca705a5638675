/- sect.Find. -/
import Derived.Test.YtanddfkhokcepaaDoorQz08
import Derived.Test.YtanddfkhokcepaaDoorQz01
import Derived.Deep.CutBlock
import Derived.Deep.DeepCutAuto
namespace Go.Proofs.YtanddfkhokcepaaDoor
open Go.RowKit
set_option linter.unusedVariables false
set_option maxRecDepth 100000

/-- A section of this number, and of this name, if it is custom. -/
def hit (id : Int) (nm : List UInt8) (x : Sct) : Prop := (x.id.toNat : Int) = id ∧ (id ≠ 0 ∨ x.name = nm)
instance (id : Int) (nm : List UInt8) (x : Sct) : Decidable (hit id nm x) := by unfold hit; infer_instance
def fdP (id : Int) (nm : List UInt8) (l : List Sct) : Int × Int := l.foldl (fun a x => (a.1 + 1, if a.2 < 0 ∧ hit id nm x then a.1 else a.2)) (0, -1)
/-- The place of the first; -1: there is none. -/
def fdZ (id : Int) (nm : List UInt8) (l : List Sct) : Int := (fdP id nm l).2
theorem fd_snoc' (id : Int) (nm : List UInt8) (l : List Sct) (x : Sct) : fdP id nm (l ++ [x]) = ((fdP id nm l).1 + 1, if (fdP id nm l).2 < 0 ∧ hit id nm x then (fdP id nm l).1 else (fdP id nm l).2) := by
  unfold fdP; rw [List.foldl_append]; rfl
theorem list_snoc {α : Type} : ∀ l : List α, l = [] ∨ ∃ r x, l = r ++ [x]
  | l => by
    by_cases h : l = []
    · exact .inl h
    · exact .inr ⟨l.dropLast, l.getLast h, (List.dropLast_concat_getLast h).symm⟩
theorem fd_len (id : Int) (nm : List UInt8) : ∀ (n : Nat) (l : List Sct), l.length = n → (fdP id nm l).1 = n
  | 0, l, h => by
    have : l = [] := List.eq_nil_of_length_eq_zero h
    subst this; rfl
  | n + 1, l, h => by
    rcases list_snoc l with rfl | ⟨r, x, rfl⟩
    · simp at h
    · rw [fd_snoc', fd_len id nm n r (by simp at h; omega)]; simp
theorem fd_snoc {id : Int} {nm : List UInt8} {l : List Sct} {k : Nat} {x : Sct} (h : l[k]? = some x) : fdZ id nm (l.take (k + 1)) = if fdZ id nm (l.take k) < 0 ∧ hit id nm x then (k : Int) else fdZ id nm (l.take k) := by
  have hk := (List.getElem?_eq_some_iff.1 h).1
  unfold fdZ
  rw [List.take_add_one, h]
  show (fdP id nm (l.take k ++ [x])).2 = _
  rw [fd_snoc', fd_len id nm k (l.take k) (by rw [List.length_take]; omega)]
theorem fd_stay {id : Int} {nm : List UInt8} {l : List Sct} {k : Nat} (h : 0 ≤ fdZ id nm (l.take k)) : ∀ m, k ≤ m → fdZ id nm (l.take m) = fdZ id nm (l.take k)
  | 0, hm => by rw [show k = 0 by omega]
  | m + 1, hm => by
    by_cases he : k = m + 1
    · rw [he]
    · have ih := fd_stay h m (by omega)
      cases hx : l[m]? with
      | none =>
        have : l.length ≤ m := List.getElem?_eq_none_iff.1 hx
        rw [List.take_of_length_le (by omega : l.length ≤ m + 1), ← ih, List.take_of_length_le this]
      | some x => rw [fd_snoc hx, if_neg (by omega), ih]
theorem fd_found {id : Int} {nm : List UInt8} {l : List Sct} {k : Nat} {x : Sct} (h : l[k]? = some x) (h0 : fdZ id nm (l.take k) = -1) (hh : hit id nm x) : fdZ id nm l = k := by
  have hk := (List.getElem?_eq_some_iff.1 h).1
  have h1 : fdZ id nm (l.take (k + 1)) = k := by rw [fd_snoc h, if_pos ⟨by omega, hh⟩]
  have h2 := fd_stay (by omega : 0 ≤ fdZ id nm (l.take (k + 1))) l.length (by omega)
  rw [List.take_length, h1] at h2
  exact h2
theorem fd_go {id : Int} {nm : List UInt8} {l : List Sct} {k : Nat} {x : Sct} (h : l[k]? = some x) (h0 : fdZ id nm (l.take k) = -1) (hh : ¬ hit id nm x) : fdZ id nm (l.take (k + 1)) = -1 := by
  rw [fd_snoc h, if_neg (fun hq => hh hq.2), h0]
/-- What Find hands back. -/
def FindP (id : Int) (nm : List UInt8) (l : List Sct) (w : World) (e : Ending) (w' : World) : Prop :=
  ((∃ (j : Nat) (x : Sct) (A : Option Addr) (c : Nat), fdZ id nm l = j ∧ l[j]? = some x ∧ e = .returned (.tuple #[.agg #[.int .u8 x.id.toNat, .string (S x.name), .slice A x.body.length c, .int .i64 x.off], .bool true]) ∧ Pc A c x.body w') ∨
    (fdZ id nm l = -1 ∧ e = .returned (.tuple #[.agg #[.int .u8 0, .string { data := #[] }, .slice none 0 0, .int .i64 0], .bool false]))) ∧ Below w.heap.size w w'
theorem S_beq2 (a b : List UInt8) : ((S a).toList == (S b).toList) = (a == b) := by rw [S_toList, S_toList]
set_option maxHeartbeats 2000000 in
theorem find_sect {w : World} {A : Option Addr} {c : Nat} {l : List Sct} (id : Int) (nm : List UInt8) (hl : Secs w A l) (hs : Short l) :
    Calls Tryd.prog 15 #[.slice A l.length c, .int .u8 id, .string (S nm)] w (FindP id nm l w) := by
  have HL := Lib.hid hl
  have HS := Lib.hid hs
  obtain ⟨n, hn⟩ : ∃ n, n = l.length := ⟨_, rfl⟩
  have HN := Lib.hid hn
  have hn30 : n ≤ 30 := by rw [hn]; exact hs.1
  rw [← hn]
  have HR0 := Lib.hid (Whole.made w 27 #[.int .u8 0, .string { data := #[] }, .slice none 0 0, .int .i64 0])
  clear hl hs hn
  go_enter Tryd.func15, Tryd.ntmps15
  go_wp2
  go_loopw [12] (fun i wr => ∃ k : Nat, k ≤ n ∧ i = .int .i64 k ∧ fdZ id nm (l.take k) = -1 ∧ Below w.heap.size w wr ∧ Whole wr w.heap.size 27 #[.int .u8 0, .string { data := #[] }, .slice none 0 0, .int .i64 0]) (fun i _ => n - (intOf i).toNat)
  case atStart => exact ⟨0, Nat.zero_le _, rfl, by rw [List.take_zero]; rfl, below_box _ _, HR0.out⟩
  case round =>
    obtain ⟨k, hk, rfl, hf, hb, hR⟩ := hrel
    have hz1 := hb.size
    by_cases hlt : k < n
    · obtain ⟨x, hx⟩ : ∃ x, l[k]? = some x := ⟨_, List.getElem?_eq_getElem (by rw [← HN.out]; exact hlt)⟩
      obtain ⟨b, off, B, cc, rfl, hbl, ⟨k0, k1, k2, k3⟩, hpc⟩ := HL.out k x hx
      have m0 := (hb.cell (p := ⟨b, off + k * 4, none⟩) hbl).trans k0
      have m1 := (hb.cell (p := ⟨b, off + k * 4 + 1, none⟩) hbl).trans k1
      have m2 := (hb.cell (p := ⟨b, off + k * 4 + 2, none⟩) hbl).trans k2
      have m3 := (hb.cell (p := ⟨b, off + k * 4 + 3, none⟩) hbl).trans k3
      clear k0 k1 k2 k3
      have hRl := hR.lt
      have HB := Lib.hid (hb.alloc hz1 (.cells #[.int .u8 x.id.toNat, .string (S x.name), .slice B x.body.length cc, .int .i64 x.off] 27))
      have HR := Lib.hid (hR.alloc (.cells #[.int .u8 x.id.toNat, .string (S x.name), .slice B x.body.length cc, .int .i64 x.off] 27))
      have HX := Lib.hid (Whole.made wr 27 #[.int .u8 x.id.toNat, .string (S x.name), .slice B x.body.length cc, .int .i64 x.off])
      have hB' : x.body.length ≤ 100 := (HS.out.2 x (List.mem_of_getElem? hx)).2
      by_cases hh : hit id nm x
      · have HFD := Lib.hid (fd_found hx hf hh)
        have HXX := Lib.hid hx
        have HC := Lib.hid (clone_all (cap := cc) (hpc.below HB.out).lies (by omega))
        have e5 : ((x.id.toNat : Int) == id) = true := by simpa using hh.1
        by_cases h0 : id = 0
        · have d2 : (id != 0) = false := by simpa using h0
          have hnm : x.name = nm := hh.2.resolve_left (fun h => h h0)
          have d3 : ((S x.name).toList == (S nm).toList) = true := by rw [S_beq2]; simpa using hnm
          clear hh hx hf hb hR hpc HR0 h0 hnm
          go_wp2_with (go_at_call 62; go_must ((with_reducible refine HC.out.mono ?_); intro e w3 hq; obtain ⟨v, rfl, hr, hbc⟩ := hq; obtain ⟨A3, c3, rfl⟩ := hr.slice; have hx3 := HX.out.below hbc; have hr3 := HR.out.below hbc; have y2 := hx3.cell 2; have y3 := hx3.frozen 2; have hg3 : w3.grownBy (w3.setCell ⟨wr.heap.size, 2, none⟩ (.slice A3 x.body.length c3)) (some wr.heap.size) := gb_put (p := ⟨wr.heap.size, 2, none⟩) (gb_refl _ _) (.inl rfl) _; have hx4 := hx3.put 2 (.slice A3 x.body.length c3); have hr4 := hr3.grown hg3 (by simp only [ne_eq, Option.some.injEq]; omega); have z0 := hx4.cell 0; have z1 := hx4.cell 1; have z2 := hx4.cell 2; have z3 := hx4.cell 3; simp at z0 z1 z2 z3; have r0 := hr4.cell 0; have r1 := hr4.cell 1; have r2 := hr4.cell 2; have r3 := hr4.cell 3; simp only [List.getElem?_toArray, List.getElem?_cons_zero, List.getElem?_cons_succ] at y2 r0 r1 r2 r3; have f0 := hr4.frozen 0; have f1 := hr4.frozen 1; have f2 := hr4.frozen 2; have f3 := hr4.frozen 3; have HR4 := Lib.hid hr4; have HG4 := Lib.hid hg3; have HB3 := Lib.hid (HB.out.trans (hbc.mono HB.out.size)); have HRW := Lib.hid hr; clear hr hbc hx3 hr3 hg3 hx4 hr4))
          obtain ⟨p4, j4⟩ := put4 (u0 := .int .u8 x.id.toNat) (u1 := .string (S x.name)) (u2 := .slice A3 x.body.length c3) (u3 := .int .i64 x.off) HR4.out
          have q0 := p4.cell 0
          have q1 := p4.cell 1
          have q2 := p4.cell 2
          have q3 := p4.cell 3
          simp only [List.getElem?_toArray, List.getElem?_cons_zero, List.getElem?_cons_succ] at q0 q1 q2 q3
          have hrow := (HRW.out.past HG4.out (by simp)).past j4 (by simp; omega)
          obtain ⟨A6, c6, e6, hp6⟩ := hrow.pc
          injection e6 with e7 e8 e9
          subst e7; subst e9
          refine bodyPost_ret (v := .tuple #[.agg #[.int .u8 x.id.toNat, .string (S x.name), .slice A3 x.body.length c3, .int .i64 x.off], .bool true]) (by simp [results, Tryd.results15, go_sem, q0, q1, q2, q3]) rfl ⟨.inl ⟨k, x, A3, c3, HFD.out, HXX.out, rfl, hp6⟩, below_new (below_new HB3.out HG4.out hz1) j4 (Nat.le_refl _)⟩
        · have d2 : (id != 0) = true := by simpa using h0
          clear hh hx hf hb hR hpc HR0 h0
          go_wp2_with (go_at_call 62; go_must ((with_reducible refine HC.out.mono ?_); intro e w3 hq; obtain ⟨v, rfl, hr, hbc⟩ := hq; obtain ⟨A3, c3, rfl⟩ := hr.slice; have hx3 := HX.out.below hbc; have hr3 := HR.out.below hbc; have y2 := hx3.cell 2; have y3 := hx3.frozen 2; have hg3 : w3.grownBy (w3.setCell ⟨wr.heap.size, 2, none⟩ (.slice A3 x.body.length c3)) (some wr.heap.size) := gb_put (p := ⟨wr.heap.size, 2, none⟩) (gb_refl _ _) (.inl rfl) _; have hx4 := hx3.put 2 (.slice A3 x.body.length c3); have hr4 := hr3.grown hg3 (by simp only [ne_eq, Option.some.injEq]; omega); have z0 := hx4.cell 0; have z1 := hx4.cell 1; have z2 := hx4.cell 2; have z3 := hx4.cell 3; simp at z0 z1 z2 z3; have r0 := hr4.cell 0; have r1 := hr4.cell 1; have r2 := hr4.cell 2; have r3 := hr4.cell 3; simp only [List.getElem?_toArray, List.getElem?_cons_zero, List.getElem?_cons_succ] at y2 r0 r1 r2 r3; have f0 := hr4.frozen 0; have f1 := hr4.frozen 1; have f2 := hr4.frozen 2; have f3 := hr4.frozen 3; have HR4 := Lib.hid hr4; have HG4 := Lib.hid hg3; have HB3 := Lib.hid (HB.out.trans (hbc.mono HB.out.size)); have HRW := Lib.hid hr; clear hr hbc hx3 hr3 hg3 hx4 hr4))
          obtain ⟨p4, j4⟩ := put4 (u0 := .int .u8 x.id.toNat) (u1 := .string (S x.name)) (u2 := .slice A3 x.body.length c3) (u3 := .int .i64 x.off) HR4.out
          have q0 := p4.cell 0
          have q1 := p4.cell 1
          have q2 := p4.cell 2
          have q3 := p4.cell 3
          simp only [List.getElem?_toArray, List.getElem?_cons_zero, List.getElem?_cons_succ] at q0 q1 q2 q3
          have hrow := (HRW.out.past HG4.out (by simp)).past j4 (by simp; omega)
          obtain ⟨A6, c6, e6, hp6⟩ := hrow.pc
          injection e6 with e7 e8 e9
          subst e7; subst e9
          refine bodyPost_ret (v := .tuple #[.agg #[.int .u8 x.id.toNat, .string (S x.name), .slice A3 x.body.length c3, .int .i64 x.off], .bool true]) (by simp [results, Tryd.results15, go_sem, q0, q1, q2, q3]) rfl ⟨.inl ⟨k, x, A3, c3, HFD.out, HXX.out, rfl, hp6⟩, below_new (below_new HB3.out HG4.out hz1) j4 (Nat.le_refl _)⟩
      · have HFD := Lib.hid (fd_go hx hf hh)
        by_cases he : (x.id.toNat : Int) = id
        · have h0 : id = 0 ∧ x.name ≠ nm := ⟨by by_cases h : id = 0; exact h; exact absurd ⟨he, .inl h⟩ hh, fun h => hh ⟨he, .inr h⟩⟩
          have d1 : ((x.id.toNat : Int) == id) = true := by simpa using he
          have d2 : (id != 0) = false := by simpa using h0.1
          have d3 : ((S x.name).toList == (S nm).toList) = false := by rw [S_beq2]; simpa using h0.2
          clear he h0 hh hf hb hR hx hpc HR0
          go_wp2
          go_roundw
          case rel => exact ⟨k + 1, by omega, by go_num, HFD.out, HB.out, HR.out⟩
          case measure => simp [intOf]; omega
        · have d1 : ((x.id.toNat : Int) == id) = false := by simpa using he
          clear he hh hf hb hR hx hpc HR0
          go_wp2
          go_roundw
          case rel => exact ⟨k + 1, by omega, by go_num, HFD.out, HB.out, HR.out⟩
          case measure => simp [intOf]; omega
    · obtain rfl : k = n := by omega
      have HT := Lib.hid (show fdZ id nm l = -1 by have : l.take k = l := by rw [HN.out]; exact List.take_length
                                                   rw [← this]; exact hf)
      have HB := Lib.hid hb
      have f0 := hR.frozen 0
      have f1 := hR.frozen 1
      have f2 := hR.frozen 2
      have f3 := hR.frozen 3
      have c0 := hR.cell 0
      have c1 := hR.cell 1
      have c2 := hR.cell 2
      have c3 := hR.cell 3
      simp only [List.getElem?_toArray, List.getElem?_cons_zero, List.getElem?_cons_succ] at c0 c1 c2 c3
      have HR := Lib.hid hR
      clear hb hR HR0 hf
      go_wp2
      obtain ⟨p4, j4⟩ := put4 (u0 := .int .u8 0) (u1 := .string { data := #[] }) (u2 := .slice none 0 0) (u3 := .int .i64 0) HR.out
      have q0 := p4.cell 0
      have q1 := p4.cell 1
      have q2 := p4.cell 2
      have q3 := p4.cell 3
      simp only [List.getElem?_toArray, List.getElem?_cons_zero, List.getElem?_cons_succ] at q0 q1 q2 q3
      refine bodyPost_ret (v := .tuple #[.agg #[.int .u8 0, .string { data := #[] }, .slice none 0 0, .int .i64 0], .bool false]) (by simp [results, Tryd.results15, go_sem, q0, q1, q2, q3]) rfl ⟨.inr ⟨HT.out, rfl⟩, below_new HB.out j4 (Nat.le_refl _)⟩
end Go.Proofs.YtanddfkhokcepaaDoor

/- What is written of sections is read back. No walk here. -/
namespace Go.Proofs.YtanddfkhokcepaaDoor
open Go.RowKit Go.Lib
set_option linter.unusedVariables false
set_option maxRecDepth 100000

theorem atMostR_at {l r : List UInt8} {k : Nat} {x m c : Int} (h : l.drop k = lebL x ++ r) (h0 : 0 ≤ x) (h1 : x ≤ 4294967295) : atMostR l k m c = if x ≤ m then .ok x (k + (lebL x).length) else .err c k := by
  unfold atMostR
  rw [indexR_at h h0 h1, Res.bind_ok]
/-- A name and what is behind it, read from the beginning. -/
theorem nameR_put {nm body : List UInt8} (hn : nm.length ≤ 100000) : nameR (lebL nm.length ++ nm ++ body) 0 =
    if (nm.length : Int) ≤ 200 then (if validD nm then .ok nm ((lebL (nm.length : Int)).length + nm.length) else .err 4 ((lebL (nm.length : Int)).length : Nat)) else .err 13 0 := by
  have hd : (lebL (nm.length : Int) ++ nm ++ body).drop 0 = lebL (nm.length : Int) ++ (nm ++ body) := by simp
  unfold nameR
  rw [atMostR_at hd (by omega) (by omega)]
  by_cases h : (nm.length : Int) ≤ 200
  · rw [if_pos h, if_pos h, Res.bind_ok, Int.toNat_natCast, Nat.zero_add]
    have e : ((lebL (nm.length : Int) ++ nm ++ body).drop (lebL (nm.length : Int)).length).take nm.length = nm := by
      rw [List.append_assoc, List.drop_left, List.take_left]
    rw [if_pos (by simp only [List.length_append]; omega), e]
  · rw [if_neg h, if_neg h, Res.bind_err]
    rfl
theorem name_drop {nm body : List UInt8} : (lebL (nm.length : Int) ++ nm ++ body).drop ((lebL (nm.length : Int)).length + nm.length) = body := by
  have := List.drop_left (l₁ := lebL (nm.length : Int) ++ nm) (l₂ := body)
  rwa [List.length_append] at this
theorem contR_put {l inner r : List UInt8} {k : Nat} (h : l.drop k = lebL inner.length ++ (inner ++ r)) (hk : k ≤ l.length) (hi : inner.length ≤ 1000000) :
    contR l k = .ok inner.length (k + (lebL (inner.length : Int)).length) ∧ (l.drop (k + (lebL (inner.length : Int)).length)).take inner.length = inner := by
  have hd := drop_past h
  have hlen : inner.length + r.length = l.length - (k + (lebL (inner.length : Int)).length) := by
    have := congrArg List.length hd
    rw [List.length_drop, List.length_append] at this
    omega
  have hle : k + (lebL (inner.length : Int)).length ≤ l.length := by
    have := congrArg List.length h
    rw [List.length_drop, List.length_append] at this
    omega
  refine ⟨?_, by rw [hd, List.take_left]⟩
  unfold contR
  rw [indexR_at h (by omega) (by omega), Res.bind_ok, Int.toNat_natCast, if_pos (by omega)]
/-- May this section come, behind the number last? -/
def okS (last : Nat) (x : Sct) : Prop := if x.id.toNat ≠ 0 then last < x.id.toNat ∧ x.id.toNat ≤ 11 else x.name.length ≤ 200 ∧ validD x.name = true
def same2 (y x : Sct) : Prop := y.id = x.id ∧ (x.id.toNat = 0 → y.name = x.name) ∧ y.body = x.body
theorem next_put {l r : List UInt8} {k : Nat} {x : Sct} (h : l.drop k = sputL x ++ r) (hk : k ≤ l.length) (hn : x.name.length ≤ 100000) (hb : x.body.length ≤ 100000) :
    (x.id.toNat ≤ 11 ∧ (x.id.toNat = 0 → x.name.length ≤ 200 ∧ validD x.name = true) ∧ ∃ y, nextR l k = .ok y (k + (sputL x).length) ∧ same2 y x) ∨
    (¬ (x.id.toNat ≤ 11 ∧ (x.id.toNat = 0 → x.name.length ≤ 200 ∧ validD x.name = true)) ∧ ∃ c a, nextR l k = .err c a) := by
  have hin := innerL_len hn hb (by omega)
  have h' : l.drop k = x.id :: (lebL (innerL x).length ++ (innerL x ++ r)) := by rw [h]; unfold sputL; simp
  have hd1 : l.drop (k + 1) = lebL (innerL x).length ++ (innerL x ++ r) := drop_past (a := [x.id]) (by simpa using h')
  have hk1 : k + 1 ≤ l.length := by
    have := congrArg List.length h'
    rw [List.length_drop, List.length_cons] at this
    omega
  obtain ⟨hc1, hc2⟩ := contR_put hd1 hk1 (by omega)
  have hlen : (sputL x).length = 1 + (lebL ((innerL x).length : Int)).length + (innerL x).length := by unfold sputL; simp only [List.length_append, List.length_singleton]
  unfold nextR numR
  rw [byteR_at h', Res.bind_ok]
  by_cases h11 : (x.id.toNat : Int) ≤ 11
  · rw [if_pos h11, Res.bind_ok, hc1, Res.bind_ok, hc2]
    by_cases h0 : x.id.toNat = 0
    · have hi : innerL x = lebL x.name.length ++ x.name ++ x.body := by unfold innerL; rw [if_pos h0]
      rw [if_pos h0]
      have hnm := nameR_put (nm := x.name) (body := x.body) hn
      rw [← hi] at hnm
      rw [hnm]
      by_cases h2 : (x.name.length : Int) ≤ 200
      · rw [if_pos h2]
        by_cases hv : validD x.name = true
        · rw [if_pos hv]
          refine .inl ⟨by omega, fun _ => ⟨by omega, hv⟩, (⟨x.id, x.name, (innerL x).drop ((lebL (x.name.length : Int)).length + x.name.length), ((k + 1 + (lebL ((innerL x).length : Int)).length : Nat) : Int) + (((lebL (x.name.length : Int)).length + x.name.length : Nat) : Int)⟩ : Sct), ?_, ?_⟩
          · rw [hlen]
            show Res.ok _ _ = Res.ok _ _
            congr 1
            omega
          · refine ⟨rfl, fun _ => rfl, ?_⟩
            show (innerL x).drop _ = x.body
            rw [hi]
            exact name_drop
        · rw [if_neg hv]
          exact .inr ⟨fun hq => hv (hq.2 h0).2, _, _, rfl⟩
      · rw [if_neg h2]
        exact .inr ⟨fun hq => h2 (by have := (hq.2 h0).1; omega), _, _, rfl⟩
    · rw [if_neg h0]
      have hi : innerL x = x.body := by unfold innerL; rw [if_neg h0]
      refine .inl ⟨by omega, fun hq => absurd hq h0, ⟨x.id, [], x.body, ((k + 1 + (lebL ((innerL x).length : Int)).length : Nat) : Int)⟩, ?_, ⟨rfl, fun hq => absurd hq h0, rfl⟩⟩
      rw [hlen, ← hi]
      show Res.ok _ _ = Res.ok _ _
      congr 1
      omega
  · rw [if_neg h11, Res.bind_err]
    exact .inr ⟨fun hq => h11 (by have := hq.1; omega), _, _, rfl⟩
/-- Do the numbers rise, and may the names be? -/
def riseF : Nat → List Sct → Bool
  | _, [] => true
  | last, x :: r => if x.id.toNat ≠ 0 then decide (last < x.id.toNat) && decide (x.id.toNat ≤ 11) && riseF x.id.toNat r else decide (x.name.length ≤ 200) && validD x.name && riseF last r
/-- The sections that were read are those that were written. -/
def Alike (xs r : List Sct) : Prop := xs.length = r.length ∧ ∀ (j : Nat) (x : Sct), r[j]? = some x → ∃ y, xs[j]? = some y ∧ same2 y x
theorem Alike.cons {y x : Sct} {xs r : List Sct} (h : same2 y x) (hr : Alike xs r) : Alike (y :: xs) (x :: r) := by
  refine ⟨by simp [hr.1], fun j z hz => ?_⟩
  cases j with
  | zero => injection hz with hz; subst hz; exact ⟨y, rfl, h⟩
  | succ j => exact hr.2 j z hz
theorem restR_puts {l : List UInt8} : ∀ (r : List Sct) (f k last : Nat) (acc : List Sct), l.drop k = putsL r → k ≤ l.length → r.length < f → acc.length + r.length ≤ 10000 → (∀ x ∈ r, x.name.length ≤ 300 ∧ x.body.length ≤ 100) →
    (riseF last r = true ∧ ∃ xs, restR l f k last acc = .ok (acc ++ xs) l.length ∧ Alike xs r) ∨ (riseF last r = false ∧ ∃ c a, restR l f k last acc = .err c a)
  | [], 0, k, last, acc, _, _, hf, _, _ => by simp at hf
  | [], f + 1, k, last, acc, h, hk, hf, ha, hs => by
    have hz : k = l.length := by
      have := congrArg List.length h
      rw [List.length_drop] at this
      have e : (putsL []).length = 0 := rfl
      omega
    subst hz
    exact .inl ⟨rfl, [], by rw [restR_end, List.append_nil], rfl, fun j x hx => by cases hx⟩
  | x :: r, 0, k, last, acc, _, _, hf, _, _ => by simp at hf
  | x :: r, f + 1, k, last, acc, h, hk, hf, ha, hs => by
    have h' : l.drop k = sputL x ++ putsL r := by rw [h]; unfold putsL; rw [List.flatMap_cons]
    obtain ⟨hn, hb⟩ := hs x (by simp)
    have hlen := sputL_len (n := 300) hn (by omega) (by omega)
    have hne : k ≠ l.length := fun e => by
      have := congrArg List.length h'
      rw [List.length_drop, List.length_append, e] at this
      omega
    have hk' : k + (sputL x).length ≤ l.length := by
      have := congrArg List.length h'
      rw [List.length_drop, List.length_append] at this
      omega
    have hs' : ∀ y ∈ r, y.name.length ≤ 300 ∧ y.body.length ≤ 100 := fun y hy => hs y (List.mem_cons_of_mem _ hy)
    simp only [List.length_cons] at hf ha
    rcases next_put h' hk (by omega) (by omega) with ⟨h1, h2, y, hy, hsm⟩ | ⟨h1, c, a, hy⟩
    · by_cases hlow : y.id.toNat ≠ 0 ∧ ¬ last < y.id.toNat
      · refine .inr ⟨?_, _, _, restR_low hne hy hlow.1 hlow.2⟩
        unfold riseF
        rw [if_pos (by rw [← hsm.1]; exact hlow.1), ← hsm.1]
        simp [hlow.2]
      · rw [restR_next hne hy hlow (by omega)]
        have ih := restR_puts r f (k + (sputL x).length) (if y.id.toNat ≠ 0 then y.id.toNat else last) (acc ++ [y]) (drop_past h') hk' (by omega) (by rw [List.length_append, List.length_singleton]; omega) hs'
        have hr : riseF last (x :: r) = riseF (if y.id.toNat ≠ 0 then y.id.toNat else last) r := by
          conv => lhs; unfold riseF
          rw [hsm.1] at hlow ⊢
          by_cases h0 : x.id.toNat ≠ 0
          · rw [if_pos h0, if_pos h0]
            have : last < x.id.toNat := by omega
            simp [this, h1]
          · rw [if_neg h0, if_neg h0]
            obtain ⟨q1, q2⟩ := h2 (by omega)
            simp [q1, q2]
        rcases ih with ⟨h3, xs, h4, h5⟩ | ⟨h3, c, a, h4⟩
        · exact .inl ⟨by rw [hr, h3], y :: xs, by rw [h4]; simp, h5.cons hsm⟩
        · exact .inr ⟨by rw [hr, h3], c, a, h4⟩
    · refine .inr ⟨?_, c, a, restR_bad hne hy⟩
      unfold riseF
      by_cases h0 : x.id.toNat ≠ 0
      · rw [if_pos h0]
        have : ¬ x.id.toNat ≤ 11 := fun hq => h1 ⟨hq, fun e => absurd e h0⟩
        simp [this]
      · rw [if_neg h0]
        by_cases h2 : x.name.length ≤ 200
        · have hv : validD x.name = false := by
            cases hv : validD x.name with
            | false => rfl
            | true => exact absurd ⟨by omega, fun _ => ⟨h2, hv⟩⟩ h1
          simp [hv]
        · simp [h2]
theorem Short.len {l : List Sct} (h : Short l) : (joinL l).length ≤ 1000000 := by have := joinL_len h; omega
/-- Split of what Join wrote. -/
theorem splitR_join {l : List Sct} (h : Short l) : (riseF 0 l = true ∧ ∃ xs k, splitR (joinL l) = .ok xs k ∧ Alike xs l) ∨ (riseF 0 l = false ∧ ∃ c a, splitR (joinL l) = .err c a) := by
  have h8 : headL.length = 8 := rfl
  have hd : (joinL l).drop 8 = putsL l := by unfold joinL; exact List.drop_left' h8
  have hle : 8 ≤ (joinL l).length := by unfold joinL; rw [List.length_append]; omega
  have hlen : l.length < (joinL l).length + 1 := by
    have : ∀ r : List Sct, r.length ≤ (putsL r).length := fun r => by
      induction r with
      | nil => simp
      | cons x r ih =>
        unfold putsL at ih ⊢
        rw [List.flatMap_cons, List.length_append, List.length_cons]
        have : 1 ≤ (sputL x).length := by unfold sputL; rw [List.length_append, List.length_append, List.length_singleton]; omega
        omega
    have := this l
    unfold joinL
    rw [List.length_append]
    omega
  rcases restR_puts l _ 8 0 [] hd hle hlen (by have := h.1; rw [List.length_nil]; omega) h.2 with ⟨h1, xs, h2, h3⟩ | ⟨h1, c, a, h2⟩
  · exact .inl ⟨h1, xs, _, h2, h3⟩
  · exact .inr ⟨h1, c, a, h2⟩
theorem join_head (l : List Sct) : (joinL l).take 8 = headL ∧ 8 ≤ (joinL l).length := by
  have h8 : headL.length = 8 := rfl
  unfold joinL
  exact ⟨List.take_left' h8, by rw [List.length_append]; omega⟩

/-- The number last seen, and whether all have risen. -/
def lrP (l : List Sct) : Nat × Bool := l.foldl (fun a x => if x.id.toNat ≠ 0 then (x.id.toNat, a.2 && decide (a.1 < x.id.toNat) && decide (x.id.toNat ≤ 11)) else (a.1, a.2 && decide (x.name.length ≤ 200) && decide (0 ≤ countZ x.name))) (0, true)
theorem count_valid (t : List UInt8) : decide (0 ≤ countZ t) = validD t := by
  have := same_valid t
  cases h1 : validD t <;> cases h2 : decide (0 ≤ countZ t) <;> simp_all
theorem lr_fold : ∀ (l : List Sct) (a : Nat) (b : Bool), (l.foldl (fun (a : Nat × Bool) x => if x.id.toNat ≠ 0 then (x.id.toNat, a.2 && decide (a.1 < x.id.toNat) && decide (x.id.toNat ≤ 11)) else (a.1, a.2 && decide (x.name.length ≤ 200) && decide (0 ≤ countZ x.name))) (a, b)).2 = (b && riseF a l)
  | [], a, b => by simp [riseF]
  | x :: r, a, b => by
    rw [List.foldl_cons]
    unfold riseF
    by_cases h0 : x.id.toNat ≠ 0
    · rw [if_pos h0, if_pos h0, lr_fold r]
      simp [Bool.and_assoc]
    · rw [if_neg h0, if_neg h0, lr_fold r, count_valid]
      simp [Bool.and_assoc]
theorem lr_rise (l : List Sct) : (lrP l).2 = riseF 0 l := by
  have := lr_fold l 0 true
  rw [Bool.true_and] at this
  exact this
theorem lr_snoc {l : List Sct} {k : Nat} {x : Sct} (h : l[k]? = some x) : lrP (l.take (k + 1)) = if x.id.toNat ≠ 0 then (x.id.toNat, (lrP (l.take k)).2 && decide ((lrP (l.take k)).1 < x.id.toNat) && decide (x.id.toNat ≤ 11)) else ((lrP (l.take k)).1, (lrP (l.take k)).2 && decide (x.name.length ≤ 200) && decide (0 ≤ countZ x.name)) := by
  rw [List.take_add_one, h]
  unfold lrP
  show List.foldl _ _ (l.take k ++ [x]) = _
  rw [List.foldl_append]
  rfl
theorem lr_lt (l : List Sct) : ∀ k, (lrP (l.take k)).1 < 256
  | 0 => by rw [List.take_zero]; decide
  | k + 1 => by
    cases hx : l[k]? with
    | none =>
      have h1 : l.length ≤ k := List.getElem?_eq_none_iff.1 hx
      have := lr_lt l k
      rw [List.take_of_length_le h1] at this
      rw [List.take_of_length_le (by omega)]
      exact this
    | some x =>
      rw [lr_snoc hx]
      have := x.id.toNat_lt
      split
      · exact this
      · exact lr_lt l k
end Go.Proofs.YtanddfkhokcepaaDoor

/- The walk of SectJoins. -/
namespace Go.Proofs.YtanddfkhokcepaaDoor
open Go.RowKit
set_option linter.unusedVariables false
set_option maxRecDepth 100000

theorem hold8 {W W' : World} {a1 a2 a3 a4 a5 a6 a7 a8 : Addr} {v1 v2 v3 v4 v5 v6 v7 v8 : Value} {W0 : World}
    (h : W.cell? a1 = some v1 ∧ W.cell? a2 = some v2 ∧ W.cell? a3 = some v3 ∧ W.cell? a4 = some v4 ∧ W.cell? a5 = some v5 ∧ W.cell? a6 = some v6 ∧ W.cell? a7 = some v7 ∧ W.cell? a8 = some v8 ∧ Below W0.heap.size W0 W) (hb : Below W.heap.size W W') :
    W'.cell? a1 = some v1 ∧ W'.cell? a2 = some v2 ∧ W'.cell? a3 = some v3 ∧ W'.cell? a4 = some v4 ∧ W'.cell? a5 = some v5 ∧ W'.cell? a6 = some v6 ∧ W'.cell? a7 = some v7 ∧ W'.cell? a8 = some v8 ∧ Below W0.heap.size W0 W' := by
  obtain ⟨h1, h2, h3, h4, h5, h6, h7, h8, h9⟩ := h
  have k : ∀ {a : Addr} {v : Value}, W.cell? a = some v → W'.cell? a = some v := fun {a v} h => (hb.cell (p := a) (World.block_lt_of_cell? W a h)).trans h
  exact ⟨k h1, k h2, k h3, k h4, k h5, k h6, k h7, k h8, h9.trans (hb.mono h9.size)⟩
/-- What holds at the head of the first loop. -/
structure L1 (w : World) (A : Option Addr) (id : Int) (nm : List UInt8) (l : List Sct) (k : Nat) (v : Value) (wr : World) : Prop where
  row : RowQ wr w.heap.size v (l.take k)
  sh : ∀ x ∈ l.take k, x.name.length ≤ 300 ∧ x.body.length ≤ 100
  bel : Below w.heap.size w wr
set_option maxHeartbeats 40000000 in
theorem joins_any {w : World} {A : Option Addr} {c : Nat} {l : List Sct} (id : Int) (nm : List UInt8) (hl : Secs w A l) (i0 : 0 ≤ id) (i1 : id ≤ 255) (hT : Tabs w) (h63 : (l.length : Int) ≤ 9223372036854775807) :
    Calls Tryd.prog 3 #[.slice A l.length c, .int .u8 id, .string (S nm)] w fun e w' => e = .returned (.bool true) ∧ Below w.heap.size w w' := by
  have HL := Lib.hid hl
  have HT := Lib.hid hT
  obtain ⟨n, hn⟩ : ∃ n, n = l.length := ⟨_, rfl⟩
  have HN := Lib.hid hn
  rw [← hn] at h63 ⊢
  have HA := Lib.hid (awake_sect w hT)
  clear hl hT hn
  by_cases h30 : n ≤ 30
  · have d30 : decide ((30 : Int) < n) = false := by simp; omega
    have d30' : ¬ (30 : Int) < n := by omega
    go_enter Tryd.func3, Tryd.ntmps3
    go_wp2_with (go_at_call 10; go_must ((with_reducible refine HA.out.mono ?_); rintro e w1 ⟨rfl, hb⟩; have HB1 := Lib.hid hb; clear hb))
    go_loopw [7, 8, 9, 10, 11] (fun v la ri fo i wr => ∃ k : Nat, k ≤ n ∧ i = .int .i64 k ∧ la = .int .i64 (lrP (l.take k)).1 ∧ ri = .bool (lrP (l.take k)).2 ∧ fo = .int .i64 (fdZ id nm (l.take k)) ∧ L1 w A id nm l k v wr) (fun _ _ _ _ i _ => n - (intOf i).toNat)
    case atStart => exact ⟨0, Nat.zero_le _, rfl, rfl, rfl, rfl, by rw [List.take_zero]; exact RowQ.nil _ _, (by rw [List.take_zero]; intro x hx; cases hx), HB1.out⟩
    case round =>
      obtain ⟨k, hk, rfl, rfl, rfl, rfl, hi⟩ := hrel
      have hz1 := hi.bel.size
      by_cases hlt : k < n
      ·
          obtain ⟨x, hx⟩ : ∃ x, l[k]? = some x := ⟨_, List.getElem?_eq_getElem (by rw [← HN.out]; exact hlt)⟩
          obtain ⟨b, off, B, cc, rfl, hbl, ⟨k0, k1, k2, k3⟩, hpc⟩ := HL.out k x hx
          have hb := hi.bel
          have m0 := (hb.cell (p := ⟨b, off + k * 4, none⟩) hbl).trans k0
          have m1 := (hb.cell (p := ⟨b, off + k * 4 + 1, none⟩) hbl).trans k1
          have m2 := (hb.cell (p := ⟨b, off + k * 4 + 2, none⟩) hbl).trans k2
          have m3 := (hb.cell (p := ⟨b, off + k * 4 + 3, none⟩) hbl).trans k3
          have sx := S_size x.name
          have HI := Lib.hid hi
          have HX := Lib.hid hx
          by_cases hbo : x.body.length ≤ 100
          · have d1 : decide ((100 : Int) < x.body.length) = false := by simp; omega
            have d1' : ¬ (100 : Int) < x.body.length := by omega
            by_cases hna : x.name.length ≤ 300
            · have d2 : decide ((300 : Int) < x.name.length) = false := by simp; omega
              have d2' : ¬ (300 : Int) < x.name.length := by omega
              clear hi hb k0 k1 k2 k3 hx
              go_upto_region 12 with fail
              go_cut [12] from 46 to 63 (fun p W => ∃ X, p = .pointer (some ⟨X, 0, none⟩) ∧ wr.heap.size ≤ X ∧ Whole W X 29 (rsecK x) ∧ Below wr.heap.size wr W)
              case first =>
                have HP := Lib.hid (hpc.below HI.out.bel)
                have hst : ∀ o, (convert 25 9 (.slice B x.body.length cc)).run Tryd.prog (wr.alloc o).drew = .ok (.string (S x.body)) (wr.alloc o).drew := fun o => str_any (show Lies (wr.alloc o).drew _ B (cells (nums x.body)) from (HP.out.below (below_box wr o)).lies) cc 9 Tryd.underlying9
                have hst2 : (convert 25 9 (.slice B x.body.length cc)).run Tryd.prog wr.drew = .ok (.string (S x.body)) wr.drew := str_any (show Lies wr.drew _ B (cells (nums x.body)) from HP.out.lies) cc 9 Tryd.underlying9
                have wi : IntKind.i64.wrap (x.id.toNat : Int) = x.id.toNat := by have := x.id.toNat_lt; rw [IntKind.wrap_i64]; omega
                have hbb : b < wr.heap.size := Nat.lt_of_lt_of_le hbl hz1
                have o0 : ∀ o, (wr.alloc o).drew.cell? ⟨b, off + k * 4, none⟩ = some (.int .u8 x.id.toNat) := fun o => ((below_box wr o).cell (p := ⟨b, off + k * 4, none⟩) hbb).trans m0
                have o1 : ∀ o, (wr.alloc o).drew.cell? ⟨b, off + k * 4 + 1, none⟩ = some (.string (S x.name)) := fun o => ((below_box wr o).cell (p := ⟨b, off + k * 4 + 1, none⟩) hbb).trans m1
                have o2 : ∀ o, (wr.alloc o).drew.cell? ⟨b, off + k * 4 + 2, none⟩ = some (.slice B x.body.length cc) := fun o => ((below_box wr o).cell (p := ⟨b, off + k * 4 + 2, none⟩) hbb).trans m2
                clear hpc
                go_region
                all_goals
                  go_wp2
                  go_meet
                  exact ⟨wr.heap.size, rfl, Nat.le_refl _, Whole.made wr _ _, ((Below.refl _ _).alloc (Nat.le_refl _) _).drew⟩
              case rest =>
                obtain ⟨X, rfl, hX, hwx, hbx⟩ := hcut
                have hbb : b < wr.heap.size := Nat.lt_of_lt_of_le hbl hz1
                have n0 := (hbx.cell (p := ⟨b, off + k * 4, none⟩) hbb).trans m0
                have n1 := (hbx.cell (p := ⟨b, off + k * 4 + 1, none⟩) hbb).trans m1
                have n2 := (hbx.cell (p := ⟨b, off + k * 4 + 2, none⟩) hbb).trans m2
                have n3 := (hbx.cell (p := ⟨b, off + k * 4 + 3, none⟩) hbb).trans m3
                have y0 := hwx.cell 0
                have y1 := hwx.cell 1
                have y2 := hwx.cell 2
                have y3 := hwx.cell 3
                simp only [rsecK, List.getElem?_toArray, List.getElem?_cons_zero, List.getElem?_cons_succ] at y0 y1 y2 y3
                have HP := Lib.hid ((hpc.below HI.out.bel).below hbx)
                have HWX := Lib.hid hwx
                have HBX := Lib.hid hbx
                clear m0 m1 m2 m3 hwx hbx hpc
                go_upto_region 13 with fail
                go_cut [72] from 64 to 72 (fun v W => v = .bool false ∧ Below wc.heap.size wc W)
                case first =>
                  have HPU := Lib.hid (fun (W : World) (hb : Below wc.heap.size wc W) => put_sect x B cc W (HP.out.below hb) (by omega) (by omega))
                  have HRP := Lib.hid (fun W => refPut_sect x W (by omega) (by omega))
                  obtain ⟨y, hy⟩ : ∃ y, y = sputL x := ⟨_, rfl⟩
                  rw [← hy] at HPU HRP
                  unfold secV at HPU
                  unfold rsecV at HRP
                  clear hy
                  have sy : ((S y).toList != (S y).toList) = false := by simp
                  refine wp_region_noPanic ?_
                  refine wp_region_held_drew (S := fun W => W.cell? ⟨b, off + k * 4, none⟩ = some (.int .u8 x.id.toNat) ∧ W.cell? ⟨b, off + k * 4 + 1, none⟩ = some (.string (S x.name)) ∧ W.cell? ⟨b, off + k * 4 + 2, none⟩ = some (.slice B x.body.length cc) ∧ W.cell? ⟨b, off + k * 4 + 3, none⟩ = some (.int .i64 x.off) ∧
                    W.cell? ⟨X, 0, none⟩ = some (.int .i64 x.id.toNat) ∧ W.cell? ⟨X, 1, none⟩ = some (.string (S x.name)) ∧ W.cell? ⟨X, 2, none⟩ = some (.string (S x.body)) ∧ W.cell? ⟨X, 3, none⟩ = some (.int .i64 0) ∧ Below wc.heap.size wc W) (by kernel_rfl) ⟨n0, n1, n2, n3, y0, y1, y2, y3, (Below.refl _ _).drew⟩ (fun hHeld => ?_)
                  (refine heldTake (i := 0) (oi := { dst := some 64, op := Op.move (Operand.tmp 0), type := 22, pos := "law.go:61", after := #[], guard := none }) (v := ?_) rfl (by kernel_rfl) (by kernel_rfl) (by kernel_rfl) (by assumption) ?_ ?_; rotate_left; focus (refine .inl ⟨by kernel_rfl, ?_⟩; intro w hSw; (try dsimp only at hSw); go_simp; (try with_reducible rfl)); (try simp only [Act.put, List.setIfInBounds_toArray, List.set_cons_zero, List.set_cons_succ]))
                  (refine heldTake (i := 1) (oi := { dst := some 65, op := Op.move (Operand.tmp 11), type := 3, pos := "law.go:61", after := #[], guard := none }) (v := ?_) rfl (by kernel_rfl) (by kernel_rfl) (by kernel_rfl) (by assumption) ?_ ?_; rotate_left; focus (refine .inl ⟨by kernel_rfl, ?_⟩; intro w hSw; (try dsimp only at hSw); go_simp; (try with_reducible rfl)); (try simp only [Act.put, List.setIfInBounds_toArray, List.set_cons_zero, List.set_cons_succ]))
                  (refine heldTake (i := 2) (oi := { dst := some 66, op := Op.indexAddr 22 (Operand.tmp 64) (Operand.tmp 65), type := 0, pos := "law.go:61", after := #[{ on := 0, ground := Ground.data }, { on := 1, ground := Ground.data }], guard := none }) (v := ?_) rfl (by kernel_rfl) (by kernel_rfl) (by kernel_rfl) (by assumption) ?_ ?_; rotate_left; focus (refine .inl ⟨by kernel_rfl, ?_⟩; intro w hSw; (try dsimp only at hSw); go_simp; (try with_reducible rfl)); (try simp only [Act.put, List.setIfInBounds_toArray, List.set_cons_zero, List.set_cons_succ]))
                  (refine heldTake (i := 3) (oi := { dst := some 67, op := Op.load 27 (Operand.tmp 66), type := 27, pos := "law.go:61", after := #[{ on := 2, ground := Ground.data }], guard := none }) (v := ?_) rfl (by kernel_rfl) (by kernel_rfl) (by kernel_rfl) (by assumption) ?_ ?_; rotate_left; focus (refine .inl ⟨by kernel_rfl, ?_⟩; intro w hSw; (try dsimp only at hSw); go_simp; (try with_reducible rfl)); (try simp only [Act.put, List.setIfInBounds_toArray, List.set_cons_zero, List.set_cons_succ]))
                  (refine heldTake (i := 6) (oi := { dst := some 70, op := Op.load 29 (Operand.tmp 12), type := 29, pos := "law.go:61", after := #[], guard := none }) (v := ?_) rfl (by kernel_rfl) (by kernel_rfl) (by kernel_rfl) (by assumption) ?_ ?_; rotate_left; focus (refine .inl ⟨by kernel_rfl, ?_⟩; intro w hSw; (try dsimp only at hSw); go_simp; (try with_reducible rfl)); (try simp only [Act.put, List.setIfInBounds_toArray, List.set_cons_zero, List.set_cons_succ]))
                  refine wpAnyH_ready (rs := [4]) (by kernel_rfl) (by simp) ?_
                  refine (AllReadyH.cons (o := { dst := some 68, op := Op.call { callee := Callee.value (Operand.func 11), args := #[Operand.tmp 67], argTypes := #[27] }, type := 25, pos := "law.go:61", after := #[{ on := 3, ground := Ground.data }], guard := none }) rfl (fun K hK => ?_) AllReadyH.nil)
                  go_simp
                  (go_at_call 11; (with_reducible refine (HPU.out _ hHeld.2.2.2.2.2.2.2.2).mono ?_); intro e w4 hq; obtain ⟨v4, rfl, hr4, hb4⟩ := hq; obtain ⟨A4, c4, rfl, hp4⟩ := hr4.pc; have HB4 := Lib.hid hb4; have HP4 := Lib.hid hp4; clear hr4 hb4 hp4)
                  refine hK.out _ _ (hold8 hHeld HB4.out) (fun hHeld4 => ?_)
                  clear hK K hHeld
                  (try simp only [Act.put, List.setIfInBounds_toArray, List.set_cons_zero, List.set_cons_succ])
                  refine wpAnyH_ready (rs := [5, 7]) (by kernel_rfl) (by simp) ?_
                  refine (AllReadyH.cons (o := { dst := some 69, op := Op.convert 25 9 (Operand.tmp 68), type := 9, pos := "law.go:61", after := #[{ on := 4, ground := Ground.data }], guard := none }) rfl (fun K hK => ?_) (AllReadyH.cons (o := { dst := some 71, op := Op.call { callee := Callee.value (Operand.func 12), args := #[Operand.tmp 70], argTypes := #[29] }, type := 9, pos := "law.go:61", after := #[{ on := 6, ground := Ground.data }, { on := 4, ground := Ground.chain }], guard := none }) rfl (fun K hK => ?_) AllReadyH.nil))
                  · go_simp; refine upon_str (HP4.out) ?_; have HB5 := Lib.hid (Below.refl 0 w)
                    refine hK.out _ _ hHeld4 (fun hHeld5 => ?_)
                    clear hK K hHeld4
                    (try simp only [Act.put, List.setIfInBounds_toArray, List.set_cons_zero, List.set_cons_succ])
                    refine wpAnyH_ready (rs := [7]) (by kernel_rfl) (by simp) ?_
                    refine (AllReadyH.cons (o := { dst := some 71, op := Op.call { callee := Callee.value (Operand.func 12), args := #[Operand.tmp 70], argTypes := #[29] }, type := 9, pos := "law.go:61", after := #[{ on := 6, ground := Ground.data }, { on := 4, ground := Ground.chain }], guard := none }) rfl (fun K hK => ?_) AllReadyH.nil)
                    go_simp
                    (go_at_call 12; (with_reducible refine (HRP.out _).mono ?_); rintro e w7 ⟨rfl, hb7⟩; have HB7 := Lib.hid hb7; clear hb7)
                    refine hK.out _ _ (hold8 hHeld5 HB7.out) (fun hHeld7 => ?_)
                    clear hK K hHeld5
                    (try simp only [Act.put, List.setIfInBounds_toArray, List.set_cons_zero, List.set_cons_succ])
                    (refine heldTake (i := 8) (oi := { dst := some 72, op := Op.binOp BinOp.neq 9 (Operand.tmp 69) (Operand.tmp 71) 9, type := 4, pos := "law.go:61", after := #[{ on := 5, ground := Ground.data }, { on := 7, ground := Ground.data }], guard := none }) (v := ?_) rfl (by kernel_rfl) (by kernel_rfl) (by kernel_rfl) (by assumption) ?_ ?_; rotate_left; focus (refine .inl ⟨by kernel_rfl, ?_⟩; intro w hSw; (try dsimp only at hSw); go_simp; (try with_reducible rfl)); (try simp only [Act.put, List.setIfInBounds_toArray, List.set_cons_zero, List.set_cons_succ]))
                    refine wpAnyH_done (by kernel_rfl) ?_ _
                    refine NoPanic.normal ?_
                    have hLast := hHeld7
                    clear hHeld7
                    go_wp2
                    go_meet
                    exact ⟨rfl, hLast.2.2.2.2.2.2.2.2⟩
                  · go_simp
                    (go_at_call 12; (with_reducible refine (HRP.out _).mono ?_); rintro e w7 ⟨rfl, hb7⟩; have HB7 := Lib.hid hb7; clear hb7)
                    refine hK.out _ _ (hold8 hHeld4 HB7.out) (fun hHeld7 => ?_)
                    clear hK K hHeld4
                    (try simp only [Act.put, List.setIfInBounds_toArray, List.set_cons_zero, List.set_cons_succ])
                    refine wpAnyH_ready (rs := [5]) (by kernel_rfl) (by simp) ?_
                    refine (AllReadyH.cons (o := { dst := some 69, op := Op.convert 25 9 (Operand.tmp 68), type := 9, pos := "law.go:61", after := #[{ on := 4, ground := Ground.data }], guard := none }) rfl (fun K hK => ?_) AllReadyH.nil)
                    go_simp; refine upon_str (((HP4.out).below HB7.out)) ?_; have HB5 := Lib.hid (Below.refl 0 w)
                    refine hK.out _ _ hHeld7 (fun hHeld5 => ?_)
                    clear hK K hHeld7
                    (try simp only [Act.put, List.setIfInBounds_toArray, List.set_cons_zero, List.set_cons_succ])
                    (refine heldTake (i := 8) (oi := { dst := some 72, op := Op.binOp BinOp.neq 9 (Operand.tmp 69) (Operand.tmp 71) 9, type := 4, pos := "law.go:61", after := #[{ on := 5, ground := Ground.data }, { on := 7, ground := Ground.data }], guard := none }) (v := ?_) rfl (by kernel_rfl) (by kernel_rfl) (by kernel_rfl) (by assumption) ?_ ?_; rotate_left; focus (refine .inl ⟨by kernel_rfl, ?_⟩; intro w hSw; (try dsimp only at hSw); go_simp; (try with_reducible rfl)); (try simp only [Act.put, List.setIfInBounds_toArray, List.set_cons_zero, List.set_cons_succ]))
                    refine wpAnyH_done (by kernel_rfl) ?_ _
                    refine NoPanic.normal ?_
                    have hLast := hHeld5
                    clear hHeld5
                    go_wp2
                    go_meet
                    exact ⟨rfl, hLast.2.2.2.2.2.2.2.2⟩
                case rest =>
                  obtain ⟨rfl, hbc⟩ := hcut
                  have hwx := HWX.out.below hbc
                  have hbr := HBX.out.trans (hbc.mono HBX.out.size)
                  have HQ := Lib.hid (HI.out.row.later hbr)
                  have HB13 := Lib.hid (HI.out.bel.trans (hbr.mono hz1))
                  have p0 := (hbc.cell (p := ⟨b, off + k * 4, none⟩) (World.block_lt_of_cell? _ _ n0)).trans n0
                  have y0' := hwx.cell 0
                  have y1' := hwx.cell 1
                  simp only [rsecK, List.getElem?_toArray, List.getElem?_cons_zero, List.getElem?_cons_succ] at y0' y1'
                  have HWX2 := Lib.hid hwx
                  clear n0 n1 n2 n3 y0 y1 y2 y3 hwx hbc hbr HP HWX HBX
                  generalize hfo : fdZ id nm (l.take k) = fo at *
                  generalize hla : (lrP (l.take k)).1 = la at *
                  generalize hri : (lrP (l.take k)).2 = ri at *
                  have HFO := Lib.hid hfo
                  have HLA := Lib.hid hla
                  have HRI := Lib.hid hri
                  clear hfo hla hri
                  go_upto_region 15 with fail
                  go_cut [93] from 73 to 93 (fun v W => v = .bool (decide (fo < 0 ∧ hit id nm x)) ∧ wc = W)
                  case first =>
                    have e3 : ((S nm).toList == (S x.name).toList) = decide (x.name = nm) := by
                      rw [S_beq2]
                      by_cases h : x.name = nm
                      · rw [decide_eq_true h, h]; simp
                      · rw [decide_eq_false h]; simp; exact fun e => h e.symm
                    by_cases f1 : fo < 0
                    · by_cases f2 : (x.id.toNat : Int) = id
                      · have e2 : ((x.id.toNat : Int) == id) = true := by simpa using f2
                        by_cases f3 : id = 0
                        · have e4 : (id != 0) = false := by simpa using f3
                          have e6 : decide (fo < 0 ∧ hit id nm x) = decide (x.name = nm) := by
                            apply decide_eq_decide.2
                            unfold hit
                            exact ⟨fun h => h.2.2.resolve_left (fun q => q f3), fun h => ⟨f1, f2, .inr h⟩⟩
                          have HE6 := Lib.hid e6
                          clear f2 f3 e6
                          generalize hbb2 : decide (x.name = nm) = bb at *
                          clear hbb2
                          go_wp2
                          go_meet
                          exact ⟨by rw [HE6.out], rfl⟩
                        · have e4 : (id != 0) = true := by simpa using f3
                          have e6 : decide (fo < 0 ∧ hit id nm x) = true := decide_eq_true ⟨f1, f2, .inl f3⟩
                          have HE6 := Lib.hid e6
                          clear f2 f3 e6
                          go_wp2
                          go_meet
                          exact ⟨by rw [HE6.out], rfl⟩
                      · have e2 : ((x.id.toNat : Int) == id) = false := by simpa using f2
                        have e6 : decide (fo < 0 ∧ hit id nm x) = false := decide_eq_false (fun h => f2 h.2.1)
                        have HE6 := Lib.hid e6
                        clear f2 e6
                        go_wp2
                        go_meet
                        exact ⟨by rw [HE6.out], rfl⟩
                    · have e6 : decide (fo < 0 ∧ hit id nm x) = false := decide_eq_false (fun h => f1 h.1)
                      have HE6 := Lib.hid e6
                      clear e6
                      go_wp2
                      go_meet
                      exact ⟨by rw [HE6.out], rfl⟩
                  case rest =>
                    obtain ⟨rfl, rfl⟩ := hcut
                    have HTK := Lib.hid (show l.take (k + 1) = l.take k ++ [x] by rw [List.take_add_one, HX.out]; rfl)
                    have HSH := Lib.hid (show ∀ y ∈ l.take (k + 1), y.name.length ≤ 300 ∧ y.body.length ≤ 100 by
                      rw [HTK.out]
                      intro y hy
                      rcases List.mem_append.1 hy with hy | hy
                      · exact HI.out.sh y hy
                      · obtain rfl := List.mem_singleton.1 hy; exact ⟨hna, hbo⟩)
                    have HF := Lib.hid (fd_snoc (id := id) (nm := nm) HX.out)
                    by_cases hfh : fo < 0 ∧ hit id nm x
                    · have HF1 := Lib.hid (show fdZ id nm (l.take (k + 1)) = k by rw [HF.out, HFO.out, if_pos hfh])
                      rw [decide_eq_true hfh]
                      clear hfh HF
                      by_cases hx0 : x.id.toNat ≠ 0
                      · have HL1 := Lib.hid (show (lrP (l.take (k + 1))).1 = x.id.toNat by rw [lr_snoc HX.out, if_pos hx0])
                        have HL2 := Lib.hid (show (lrP (l.take (k + 1))).2 = (ri && decide (la < x.id.toNat) && decide (x.id.toNat ≤ 11)) by rw [lr_snoc HX.out, if_pos hx0, HLA.out, HRI.out])
                        have e7 : ((x.id.toNat : Int) != 0) = true := by simp; omega
                        clear hx0
                        go_upto_region 18 with fail
                        go_cut [9] from 98 to 109 (fun v W => v = .bool (ri && decide (la < x.id.toNat) && decide (x.id.toNat ≤ 11)) ∧ wc = W)
                        case first =>
                          have g1 : decide ((la : Int) < x.id.toNat) = decide (la < x.id.toNat) := by apply decide_eq_decide.2; omega
                          have g2 : decide ((x.id.toNat : Int) ≤ 11) = decide (x.id.toNat ≤ 11) := by apply decide_eq_decide.2; omega
                          generalize hb1 : decide (la < x.id.toNat) = b1 at *
                          generalize hb2 : decide (x.id.toNat ≤ 11) = b2 at *
                          cases ri <;> cases b1 <;> cases b2
                          all_goals
                            (try simp only [decide_eq_true_eq, decide_eq_false_iff_not] at hb1 hb2)
                            go_wp2
                            go_meet
                            exact ⟨rfl, rfl⟩
                        case rest =>
                          obtain ⟨rfl, rfl⟩ := hcut
                          have HW9 := HWX2
                          have HQ9 := HQ
                          have HB9 := HB13
                          have q0 := (HW9.out).cell 0
                          have q1 := (HW9.out).cell 1
                          have q2 := (HW9.out).cell 2
                          have q3 := (HW9.out).cell 3
                          simp only [rsecK, List.getElem?_toArray, List.getElem?_cons_zero, List.getElem?_cons_succ] at q0 q1 q2 q3
                          have hz9 := HB9.out.size
                          go_wp2_with (at_builtin; (refine rowsQ_new rfl _ _ rfl w.heap.size _ (l.take k) rfl (HQ9.out.later (below_box wc _)) wc.heap.size x rfl (Whole.made wc _ _) (by rw [List.length_take]; omega) (by rw [size_box]; omega) ?_; intro v2 w2 hr2 hb2; have HR2 := Lib.hid hr2; have HB2 := Lib.hid ((HB9.out.alloc hz9 _).trans hb2); clear hr2 hb2))
                          go_roundw
                          case rel => exact ⟨k + 1, by omega, by go_num, by rw [HL1.out], by rw [HL2.out], by rw [HF1.out], ⟨by rw [HTK.out]; exact HR2.out, HSH.out, HB2.out⟩⟩
                          case measure => simp [intOf]; omega
                      · have HL1 := Lib.hid (show (lrP (l.take (k + 1))).1 = la by rw [lr_snoc HX.out, if_neg hx0, HLA.out])
                        have HL2 := Lib.hid (show (lrP (l.take (k + 1))).2 = (ri && decide (x.name.length ≤ 200) && decide (0 ≤ countZ x.name)) by rw [lr_snoc HX.out, if_neg hx0, HRI.out])
                        have e7 : ((x.id.toNat : Int) != 0) = false := by simp; omega
                        clear hx0
                        go_upto_region 20 with fail
                        go_cut [9] from 112 to 124 (fun v W => v = .bool (ri && decide (x.name.length ≤ 200) && decide (0 ≤ countZ x.name)) ∧ Below wc.heap.size wc W)
                        case first =>
                          have HCt := Lib.hid (fun W => refCount_any x.name W (by omega))
                          have g1 : decide ((x.name.length : Int) ≤ 200) = decide (x.name.length ≤ 200) := by apply decide_eq_decide.2; omega
                          generalize countZ x.name = cz at *
                          generalize hb1 : decide (x.name.length ≤ 200) = b1 at *
                          generalize hb2 : decide (0 ≤ cz) = b2 at *
                          clear hb1
                          cases ri <;> cases b1 <;> cases b2
                          all_goals
                            go_wp2_with (go_at_call 13; go_must ((with_reducible refine (HCt.out _).mono ?_); rintro e w8 ⟨rfl, hb8⟩; have HB8 := Lib.hid hb8; clear hb8))
                            go_meet
                            first | exact ⟨rfl, HB8.out⟩ | exact ⟨rfl, Below.refl _ _⟩
                        case rest =>
                          obtain ⟨rfl, hb20⟩ := hcut
                          have HW9 := Lib.hid (HWX2.out.below hb20)
                          have HQ9 := Lib.hid (HQ.out.later hb20)
                          have HB9 := Lib.hid (HB13.out.trans (hb20.mono HB13.out.size))
                          clear hb20
                          have q0 := (HW9.out).cell 0
                          have q1 := (HW9.out).cell 1
                          have q2 := (HW9.out).cell 2
                          have q3 := (HW9.out).cell 3
                          simp only [rsecK, List.getElem?_toArray, List.getElem?_cons_zero, List.getElem?_cons_succ] at q0 q1 q2 q3
                          have hz9 := HB9.out.size
                          go_wp2_with (at_builtin; (refine rowsQ_new rfl _ _ rfl w.heap.size _ (l.take k) rfl (HQ9.out.later (below_box wc _)) wc.heap.size x rfl (Whole.made wc _ _) (by rw [List.length_take]; omega) (by rw [size_box]; omega) ?_; intro v2 w2 hr2 hb2; have HR2 := Lib.hid hr2; have HB2 := Lib.hid ((HB9.out.alloc hz9 _).trans hb2); clear hr2 hb2))
                          go_roundw
                          case rel => exact ⟨k + 1, by omega, by go_num, by rw [HL1.out], by rw [HL2.out], by rw [HF1.out], ⟨by rw [HTK.out]; exact HR2.out, HSH.out, HB2.out⟩⟩
                          case measure => simp [intOf]; omega
                    · have HF1 := Lib.hid (show fdZ id nm (l.take (k + 1)) = fo by rw [HF.out, HFO.out, if_neg hfh])
                      rw [decide_eq_false hfh]
                      clear hfh HF
                      by_cases hx0 : x.id.toNat ≠ 0
                      · have HL1 := Lib.hid (show (lrP (l.take (k + 1))).1 = x.id.toNat by rw [lr_snoc HX.out, if_pos hx0])
                        have HL2 := Lib.hid (show (lrP (l.take (k + 1))).2 = (ri && decide (la < x.id.toNat) && decide (x.id.toNat ≤ 11)) by rw [lr_snoc HX.out, if_pos hx0, HLA.out, HRI.out])
                        have e7 : ((x.id.toNat : Int) != 0) = true := by simp; omega
                        clear hx0
                        go_upto_region 18 with fail
                        go_cut [9] from 98 to 109 (fun v W => v = .bool (ri && decide (la < x.id.toNat) && decide (x.id.toNat ≤ 11)) ∧ wc = W)
                        case first =>
                          have g1 : decide ((la : Int) < x.id.toNat) = decide (la < x.id.toNat) := by apply decide_eq_decide.2; omega
                          have g2 : decide ((x.id.toNat : Int) ≤ 11) = decide (x.id.toNat ≤ 11) := by apply decide_eq_decide.2; omega
                          generalize hb1 : decide (la < x.id.toNat) = b1 at *
                          generalize hb2 : decide (x.id.toNat ≤ 11) = b2 at *
                          cases ri <;> cases b1 <;> cases b2
                          all_goals
                            (try simp only [decide_eq_true_eq, decide_eq_false_iff_not] at hb1 hb2)
                            go_wp2
                            go_meet
                            exact ⟨rfl, rfl⟩
                        case rest =>
                          obtain ⟨rfl, rfl⟩ := hcut
                          have HW9 := HWX2
                          have HQ9 := HQ
                          have HB9 := HB13
                          have q0 := (HW9.out).cell 0
                          have q1 := (HW9.out).cell 1
                          have q2 := (HW9.out).cell 2
                          have q3 := (HW9.out).cell 3
                          simp only [rsecK, List.getElem?_toArray, List.getElem?_cons_zero, List.getElem?_cons_succ] at q0 q1 q2 q3
                          have hz9 := HB9.out.size
                          go_wp2_with (at_builtin; (refine rowsQ_new rfl _ _ rfl w.heap.size _ (l.take k) rfl (HQ9.out.later (below_box wc _)) wc.heap.size x rfl (Whole.made wc _ _) (by rw [List.length_take]; omega) (by rw [size_box]; omega) ?_; intro v2 w2 hr2 hb2; have HR2 := Lib.hid hr2; have HB2 := Lib.hid ((HB9.out.alloc hz9 _).trans hb2); clear hr2 hb2))
                          go_roundw
                          case rel => exact ⟨k + 1, by omega, by go_num, by rw [HL1.out], by rw [HL2.out], by rw [HF1.out], ⟨by rw [HTK.out]; exact HR2.out, HSH.out, HB2.out⟩⟩
                          case measure => simp [intOf]; omega
                      · have HL1 := Lib.hid (show (lrP (l.take (k + 1))).1 = la by rw [lr_snoc HX.out, if_neg hx0, HLA.out])
                        have HL2 := Lib.hid (show (lrP (l.take (k + 1))).2 = (ri && decide (x.name.length ≤ 200) && decide (0 ≤ countZ x.name)) by rw [lr_snoc HX.out, if_neg hx0, HRI.out])
                        have e7 : ((x.id.toNat : Int) != 0) = false := by simp; omega
                        clear hx0
                        go_upto_region 20 with fail
                        go_cut [9] from 112 to 124 (fun v W => v = .bool (ri && decide (x.name.length ≤ 200) && decide (0 ≤ countZ x.name)) ∧ Below wc.heap.size wc W)
                        case first =>
                          have HCt := Lib.hid (fun W => refCount_any x.name W (by omega))
                          have g1 : decide ((x.name.length : Int) ≤ 200) = decide (x.name.length ≤ 200) := by apply decide_eq_decide.2; omega
                          generalize countZ x.name = cz at *
                          generalize hb1 : decide (x.name.length ≤ 200) = b1 at *
                          generalize hb2 : decide (0 ≤ cz) = b2 at *
                          clear hb1
                          cases ri <;> cases b1 <;> cases b2
                          all_goals
                            go_wp2_with (go_at_call 13; go_must ((with_reducible refine (HCt.out _).mono ?_); rintro e w8 ⟨rfl, hb8⟩; have HB8 := Lib.hid hb8; clear hb8))
                            go_meet
                            first | exact ⟨rfl, HB8.out⟩ | exact ⟨rfl, Below.refl _ _⟩
                        case rest =>
                          obtain ⟨rfl, hb20⟩ := hcut
                          have HW9 := Lib.hid (HWX2.out.below hb20)
                          have HQ9 := Lib.hid (HQ.out.later hb20)
                          have HB9 := Lib.hid (HB13.out.trans (hb20.mono HB13.out.size))
                          clear hb20
                          have q0 := (HW9.out).cell 0
                          have q1 := (HW9.out).cell 1
                          have q2 := (HW9.out).cell 2
                          have q3 := (HW9.out).cell 3
                          simp only [rsecK, List.getElem?_toArray, List.getElem?_cons_zero, List.getElem?_cons_succ] at q0 q1 q2 q3
                          have hz9 := HB9.out.size
                          go_wp2_with (at_builtin; (refine rowsQ_new rfl _ _ rfl w.heap.size _ (l.take k) rfl (HQ9.out.later (below_box wc _)) wc.heap.size x rfl (Whole.made wc _ _) (by rw [List.length_take]; omega) (by rw [size_box]; omega) ?_; intro v2 w2 hr2 hb2; have HR2 := Lib.hid hr2; have HB2 := Lib.hid ((HB9.out.alloc hz9 _).trans hb2); clear hr2 hb2))
                          go_roundw
                          case rel => exact ⟨k + 1, by omega, by go_num, by rw [HL1.out], by rw [HL2.out], by rw [HF1.out], ⟨by rw [HTK.out]; exact HR2.out, HSH.out, HB2.out⟩⟩
                          case measure => simp [intOf]; omega
            · have d2 : decide ((300 : Int) < x.name.length) = true := by simp; omega
              have d2' : (300 : Int) < x.name.length := by omega
              have HBB := Lib.hid hb
              clear hi hb k0 k1 k2 k3 hx hna
              go_wp2
              go_ret
              exact ⟨rfl, HBB.out⟩
          · have d1 : decide ((100 : Int) < x.body.length) = true := by simp; omega
            have d1' : (100 : Int) < x.body.length := by omega
            have HBB := Lib.hid hb
            clear hi hb k0 k1 k2 k3 hx hbo
            go_wp2
            go_ret
            exact ⟨rfl, HBB.out⟩
      · obtain rfl : k = n := by omega
        have htl : l.take k = l := by rw [HN.out]; exact List.take_length
        obtain ⟨hrow, hsh, hbel⟩ := hi
        rw [htl] at hrow hsh ⊢
        have hS : Short l := ⟨by rw [← HN.out]; exact h30, hsh⟩
        have HS := Lib.hid hS
        have HB := Lib.hid hbel
        have HSe := Lib.hid (HL.out.below hbel)
        obtain ⟨A9, c9, rfl, hrs⟩ := hrow.secs
        have HRS := Lib.hid hrs
        have HTw := Lib.hid (HT.out.below hbel)
        have HJo := Lib.hid (show Calls Tryd.prog 14 #[.slice A k c] wr _ by have := join_sect (c := c) HSe.out hS; rw [← HN.out] at this; exact this)
        have hri : (lrP l).2 = riseF 0 l := lr_rise l
        rw [hri]
        generalize (lrP l).1 = la at *
        have HFi := Lib.hid (fun (W : World) (hb : Below wr.heap.size wr W) => show Calls Tryd.prog 15 #[.slice A k c, .int .u8 id, .string (S nm)] W (FindP id nm l W) by have := find_sect (c := c) id nm (HSe.out.below hb) hS; rw [← HN.out] at this; exact this)
        have hjl := hS.len
        have HJH := Lib.hid (join_head l)
        have HSJ := Lib.hid (splitR_join hS)
        have HRJ := Lib.hid (fun (W : World) (hb : Below wr.heap.size wr W) => show Calls Tryd.prog 16 #[.slice A9 k c9] W (Strs (joinL l) W) by have := joinR_any (c := c9) (HRS.out.below hb) hS; rw [← HN.out] at this; exact this)
        have hlk : l.length = k := HN.out.symm
        have HLK := Lib.hid hlk
        rw [hlk]
        clear hlk
        obtain ⟨J, hJ⟩ : ∃ J, J = joinL l := ⟨_, rfl⟩
        rw [← hJ] at HJo hjl HJH HSJ HRJ
        clear hrow hsh hbel hS hrs htl hri hJ
        generalize hrf : riseF 0 l = rf at *
        clear hrf
        have HF2 := Lib.hid (fun (W : World) (hb : Below wr.heap.size wr W) => show Calls Tryd.prog 15 #[.slice A k c, .int .u8 id, .string (S nm)] W fun e w' => ∃ (y : Sct) (A : Option Addr) (c : Nat), e = .returned (.tuple #[.agg #[.int .u8 y.id.toNat, .string (S y.name), .slice A y.body.length c, .int .i64 y.off], .bool (decide (0 ≤ fdZ id nm l))]) ∧ Pc A c y.body w' ∧ (∀ j : Nat, fdZ id nm l = j → l[j]? = some y) ∧ Below W.heap.size W w' from
          (HFi.out W hb).mono fun e w' hq => by
            obtain ⟨⟨j, x, A, c, h1, h2, h3, h4⟩ | ⟨h1, h2⟩, h5⟩ := hq
            · exact ⟨x, A, c, by rw [h1, decide_eq_true (by omega)]; exact h3, h4, fun j' hj' => by rw [h1] at hj'; rw [show j' = j by omega]; exact h2, h5⟩
            · exact ⟨⟨0, [], [], 0⟩, none, 0, by rw [h1]; exact h2, ⟨Lies.nil, fun _ => rfl⟩, fun j' hj' => by omega, h5⟩)
        generalize fdZ id nm l = fz at *
        clear HFi
        go_upto_region 24 with (first
          | (go_at_call 14; go_must ((with_reducible refine HJo.out.mono ?_); intro e w2 hq; obtain ⟨jv, rfl, hj, hb2⟩ := hq; obtain ⟨Aj, cj, rfl, hpj⟩ := hj.pc; have HPJ := Lib.hid hpj; have HB2 := Lib.hid hb2; clear hj hpj hb2))
          | (go_at_call 15; go_must ((with_reducible refine (HF2.out _ HB2.out).mono ?_); rintro e w3 ⟨x, A3, c3, rfl, hp3, hx, hb3⟩; have HB3 := Lib.hid (HB2.out.trans (hb3.mono HB2.out.size)); have HPJ3 := Lib.hid (HPJ.out.below hb3); have HP3 := Lib.hid hp3; have HX := Lib.hid hx; clear hb3 hp3 hx)))
        have hw0 := Whole.made w3 27 #[.int .u8 x.id.toNat, .string (S x.name), .slice A3 x.body.length c3, .int .i64 x.off]
        have hbw0 := below_box w3 (.cells #[.int .u8 x.id.toNat, .string (S x.name), .slice A3 x.body.length c3, .int .i64 x.off] 27)
        generalize w3.alloc (.cells #[.int .u8 x.id.toNat, .string (S x.name), .slice A3 x.body.length c3, .int .i64 x.off] 27) = W0 at *
        generalize w3.heap.size = X14 at hw0 ⊢
        have HW0 := Lib.hid hw0
        have HPJ := Lib.hid (HPJ3.out.below hbw0)
        have HPX := Lib.hid (HP3.out.below hbw0)
        have HBW := Lib.hid (HB3.out.trans (hbw0.mono HB3.out.size))
        clear hw0 hbw0 HPJ3 HP3 HB3
        obtain ⟨fb, hfb⟩ : ∃ fb, fb = decide (0 ≤ fz) := ⟨_, rfl⟩
        rw [← hfb]
        have HFB := Lib.hid hfb
        clear hfb
        go_cut [182] from 138 to 182 (fun v W => v = .bool false ∧ Below W0.heap.size W0 W)
        case first =>
          have HRJ0 := Lib.hid (fun (W : World) (hb : Below W0.heap.size W0 W) => HRJ.out W (HBW.out.trans (hb.mono HBW.out.size)))
          cases fb
          ·
              have hfz : fz < 0 := by have := HFB.out; simp at this; omega
              have e1 : decide (0 ≤ fz) = false := by simp; omega
              have e2 : ¬ 0 ≤ fz := by omega
              have HSS := Lib.hid (fun (W : World) (hb : Below W0.heap.size W0 W) => show (convert 25 9 (.slice Aj J.length cj)).run Tryd.prog W = .ok (.string (S J)) W ∧ Below W0.heap.size W0 W from ⟨str_any (HPJ.out.below hb).lies cj 9 Tryd.underlying9, hb⟩)
              clear hfz HJo HRS HJH HSJ HRJ HTw HSe HF2
              refine wp_region_noPanic ?_
              refine wp_region_held_drew (S := fun W => (convert 25 9 (.slice Aj J.length cj)).run Tryd.prog W = .ok (.string (S J)) W ∧ Below W0.heap.size W0 W) (by kernel_rfl) (HSS.out _ (Below.refl _ _).drew) (fun hHeld => ?_)
              (refine heldTake (i := 0) (oi := { dst := some 138, op := Op.move (Operand.tmp 13), type := 25, pos := "law.go:77", after := #[], guard := none }) (v := ?_) rfl (by kernel_rfl) (by kernel_rfl) (by kernel_rfl) (by assumption) ?_ ?_; rotate_left; focus (refine .inl ⟨by kernel_rfl, ?_⟩; intro w hSw; (try dsimp only at hSw); go_simp; (try with_reducible rfl)); (try simp only [Act.put, List.setIfInBounds_toArray, List.set_cons_zero, List.set_cons_succ]))
              (refine heldTake (i := 1) (oi := { dst := some 139, op := Op.convert 25 9 (Operand.tmp 138), type := 9, pos := "law.go:77", after := #[{ on := 0, ground := Ground.data }], guard := none }) (v := ?_) rfl (by kernel_rfl) (by kernel_rfl) (by kernel_rfl) (by assumption) ?_ ?_; rotate_left; focus (refine .inl ⟨by kernel_rfl, ?_⟩; intro w hSw; (try dsimp only at hSw); go_simp; (try with_reducible rfl)); (try simp only [Act.put, List.setIfInBounds_toArray, List.set_cons_zero, List.set_cons_succ]))
              (refine heldTake (i := 2) (oi := { dst := some 140, op := Op.move (Operand.tmp 7), type := 24, pos := "law.go:77", after := #[], guard := none }) (v := ?_) rfl (by kernel_rfl) (by kernel_rfl) (by kernel_rfl) (by assumption) ?_ ?_; rotate_left; focus (refine .inl ⟨by kernel_rfl, ?_⟩; intro w hSw; (try dsimp only at hSw); go_simp; (try with_reducible rfl)); (try simp only [Act.put, List.setIfInBounds_toArray, List.set_cons_zero, List.set_cons_succ]))
              refine wpAnyH_ready (rs := [3]) (by kernel_rfl) (by simp) ?_
              refine AllReadyH.cons (o := { dst := some 141, op := Op.call { callee := Callee.value (Operand.func 16), args := #[Operand.tmp 140], argTypes := #[24] }, type := 9, pos := "law.go:77", after := #[{ on := 2, ground := Ground.data }], guard := none }) rfl (fun K hK => ?_) AllReadyH.nil
              go_simp
              (go_at_call 16; (with_reducible refine (HRJ0.out _ hHeld.2).mono ?_); rintro e w4 ⟨rfl, hb4⟩; have HB4 := Lib.hid hb4; clear hb4)
              refine hK.out _ _ (HSS.out _ (hHeld.2.trans (HB4.out.mono hHeld.2.size))) (fun hHeld3 => ?_)
              clear hK K hHeld
              (try simp only [Act.put, List.setIfInBounds_toArray, List.set_cons_zero, List.set_cons_succ])
              (refine heldTake (i := 4) (oi := { dst := some 142, op := Op.binOp BinOp.neq 9 (Operand.tmp 139) (Operand.tmp 141) 9, type := 4, pos := "law.go:77", after := #[{ on := 1, ground := Ground.data }, { on := 3, ground := Ground.data }], guard := none }) (v := ?_) rfl (by kernel_rfl) (by kernel_rfl) (by kernel_rfl) (by assumption) ?_ ?_; rotate_left; focus (refine .inl ⟨by kernel_rfl, ?_⟩; intro w hSw; (try dsimp only at hSw); go_simp; (try with_reducible rfl)); (try simp only [Act.put, List.setIfInBounds_toArray, List.set_cons_zero, List.set_cons_succ]))
              (refine heldTake (i := 5) (oi := { dst := some 143, op := Op.move (Operand.tmp 142), type := 4, pos := "law.go:77", after := #[{ on := 4, ground := Ground.data }, { on := 3, ground := Ground.chain }], guard := none }) (v := ?_) rfl (by kernel_rfl) (by kernel_rfl) (by kernel_rfl) (by assumption) ?_ ?_; rotate_left; focus (refine .inl ⟨by kernel_rfl, ?_⟩; intro w hSw; (try dsimp only at hSw); go_simp; (try with_reducible rfl)); (try simp only [Act.put, List.setIfInBounds_toArray, List.set_cons_zero, List.set_cons_succ]))
              (refine heldTake (i := 6) (oi := { dst := some 144, op := Op.move (Operand.tmp 15), type := 4, pos := "law.go:77", after := #[{ on := 5, ground := Ground.guard }], guard := some (5, false) }) (v := ?_) rfl (by kernel_rfl) (by kernel_rfl) (by kernel_rfl) (by assumption) ?_ ?_; rotate_left; focus (refine .inl ⟨by kernel_rfl, ?_⟩; intro w hSw; (try dsimp only at hSw); go_simp; (try with_reducible rfl)); (try simp only [Act.put, List.setIfInBounds_toArray, List.set_cons_zero, List.set_cons_succ]))
              (refine heldTake (i := 7) (oi := { dst := some 145, op := Op.move (Operand.tmp 10), type := 3, pos := "law.go:77", after := #[{ on := 5, ground := Ground.guard }], guard := some (5, false) }) (v := ?_) rfl (by kernel_rfl) (by kernel_rfl) (by kernel_rfl) (by assumption) ?_ ?_; rotate_left; focus (refine .inl ⟨by kernel_rfl, ?_⟩; intro w hSw; (try dsimp only at hSw); go_simp; (try with_reducible rfl)); (try simp only [Act.put, List.setIfInBounds_toArray, List.set_cons_zero, List.set_cons_succ]))
              (refine heldTake (i := 8) (oi := { dst := some 146, op := Op.binOp BinOp.geq 3 (Operand.tmp 145) (Operand.const (Value.int IntKind.i64 0)) 3, type := 4, pos := "law.go:77", after := #[{ on := 7, ground := Ground.data }, { on := 5, ground := Ground.guard }], guard := some (5, false) }) (v := ?_) rfl (by kernel_rfl) (by kernel_rfl) (by kernel_rfl) (by assumption) ?_ ?_; rotate_left; focus (refine .inl ⟨by kernel_rfl, ?_⟩; intro w hSw; (try dsimp only at hSw); go_simp; (try with_reducible rfl)); (try simp only [Act.put, List.setIfInBounds_toArray, List.set_cons_zero, List.set_cons_succ]))
              (refine heldTake (i := 9) (oi := { dst := some 147, op := Op.binOp BinOp.neq 4 (Operand.tmp 144) (Operand.tmp 146) 4, type := 4, pos := "law.go:77", after := #[{ on := 6, ground := Ground.data }, { on := 8, ground := Ground.data }, { on := 5, ground := Ground.guard }], guard := some (5, false) }) (v := ?_) rfl (by kernel_rfl) (by kernel_rfl) (by kernel_rfl) (by assumption) ?_ ?_; rotate_left; focus (refine .inl ⟨by kernel_rfl, ?_⟩; intro w hSw; (try dsimp only at hSw); go_simp; (try with_reducible rfl)); (try simp only [Act.put, List.setIfInBounds_toArray, List.set_cons_zero, List.set_cons_succ]))
              (refine heldTake (i := 10) (oi := { dst := some 148, op := Op.pick (Operand.tmp 143) (Operand.const (Value.bool true)) (Operand.tmp 147), type := 4, pos := "law.go:77", after := #[{ on := 5, ground := Ground.data }, { on := 9, ground := Ground.data }], guard := none }) (v := ?_) rfl (by kernel_rfl) (by kernel_rfl) (by kernel_rfl) (by assumption) ?_ ?_; rotate_left; focus (refine .inl ⟨by kernel_rfl, ?_⟩; intro w hSw; (try dsimp only at hSw); go_simp; (try with_reducible rfl)); (try simp only [Act.put, List.setIfInBounds_toArray, List.set_cons_zero, List.set_cons_succ]))
              (refine heldTake (i := 11) (oi := { dst := some 149, op := Op.move (Operand.tmp 148), type := 4, pos := "law.go:77", after := #[{ on := 10, ground := Ground.data }, { on := 5, ground := Ground.chain }], guard := none }) (v := ?_) rfl (by kernel_rfl) (by kernel_rfl) (by kernel_rfl) (by assumption) ?_ ?_; rotate_left; focus (refine .inl ⟨by kernel_rfl, ?_⟩; intro w hSw; (try dsimp only at hSw); go_simp; (try with_reducible rfl)); (try simp only [Act.put, List.setIfInBounds_toArray, List.set_cons_zero, List.set_cons_succ]))
              (refine heldTake (i := 12) (oi := { dst := some 150, op := Op.move (Operand.tmp 15), type := 4, pos := "law.go:77", after := #[{ on := 11, ground := Ground.guard }], guard := some (11, false) }) (v := ?_) rfl (by kernel_rfl) (by kernel_rfl) (by kernel_rfl) (by assumption) ?_ ?_; rotate_left; focus (refine .inl ⟨by kernel_rfl, ?_⟩; intro w hSw; (try dsimp only at hSw); go_simp; (try with_reducible rfl)); (try simp only [Act.put, List.setIfInBounds_toArray, List.set_cons_zero, List.set_cons_succ]))
              (refine heldTake (i := 13) (oi := { dst := some 151, op := Op.move (Operand.tmp 150), type := 4, pos := "law.go:77", after := #[{ on := 12, ground := Ground.data }, { on := 11, ground := Ground.chain }, { on := 11, ground := Ground.guard }], guard := some (11, false) }) (v := ?_) rfl (by kernel_rfl) (by kernel_rfl) (by kernel_rfl) (by assumption) ?_ ?_; rotate_left; focus (refine .inl ⟨by kernel_rfl, ?_⟩; intro w hSw; (try dsimp only at hSw); go_simp; (try with_reducible rfl)); (try simp only [Act.put, List.setIfInBounds_toArray, List.set_cons_zero, List.set_cons_succ]))
              (refine heldTake (i := 14) (oi := { dst := some 152, op := Op.fieldAddr 27 (Operand.tmp 14) 3, type := 0, pos := "law.go:77", after := #[{ on := 13, ground := Ground.guard }], guard := some (13, true) }) (v := undef) rfl (by kernel_rfl) (by kernel_rfl) (by kernel_rfl) (by assumption) (.inr ⟨by kernel_rfl, rfl⟩) ?_; (try simp only [Act.put, List.setIfInBounds_toArray, List.set_cons_zero, List.set_cons_succ]))
              (refine heldTake (i := 15) (oi := { dst := some 153, op := Op.load 3 (Operand.tmp 152), type := 3, pos := "law.go:77", after := #[{ on := 14, ground := Ground.data }, { on := 13, ground := Ground.guard }], guard := some (13, true) }) (v := undef) rfl (by kernel_rfl) (by kernel_rfl) (by kernel_rfl) (by assumption) (.inr ⟨by kernel_rfl, rfl⟩) ?_; (try simp only [Act.put, List.setIfInBounds_toArray, List.set_cons_zero, List.set_cons_succ]))
              (refine heldTake (i := 16) (oi := { dst := some 154, op := Op.move (Operand.tmp 0), type := 22, pos := "law.go:77", after := #[{ on := 13, ground := Ground.guard }], guard := some (13, true) }) (v := undef) rfl (by kernel_rfl) (by kernel_rfl) (by kernel_rfl) (by assumption) (.inr ⟨by kernel_rfl, rfl⟩) ?_; (try simp only [Act.put, List.setIfInBounds_toArray, List.set_cons_zero, List.set_cons_succ]))
              (refine heldTake (i := 17) (oi := { dst := some 155, op := Op.move (Operand.tmp 10), type := 3, pos := "law.go:77", after := #[{ on := 13, ground := Ground.guard }], guard := some (13, true) }) (v := undef) rfl (by kernel_rfl) (by kernel_rfl) (by kernel_rfl) (by assumption) (.inr ⟨by kernel_rfl, rfl⟩) ?_; (try simp only [Act.put, List.setIfInBounds_toArray, List.set_cons_zero, List.set_cons_succ]))
              (refine heldTake (i := 18) (oi := { dst := some 156, op := Op.indexAddr 22 (Operand.tmp 154) (Operand.tmp 155), type := 0, pos := "law.go:77", after := #[{ on := 16, ground := Ground.data }, { on := 17, ground := Ground.data }, { on := 13, ground := Ground.guard }], guard := some (13, true) }) (v := undef) rfl (by kernel_rfl) (by kernel_rfl) (by kernel_rfl) (by assumption) (.inr ⟨by kernel_rfl, rfl⟩) ?_; (try simp only [Act.put, List.setIfInBounds_toArray, List.set_cons_zero, List.set_cons_succ]))
              (refine heldTake (i := 19) (oi := { dst := some 157, op := Op.fieldAddr 27 (Operand.tmp 156) 3, type := 0, pos := "law.go:77", after := #[{ on := 18, ground := Ground.data }, { on := 13, ground := Ground.guard }], guard := some (13, true) }) (v := undef) rfl (by kernel_rfl) (by kernel_rfl) (by kernel_rfl) (by assumption) (.inr ⟨by kernel_rfl, rfl⟩) ?_; (try simp only [Act.put, List.setIfInBounds_toArray, List.set_cons_zero, List.set_cons_succ]))
              (refine heldTake (i := 20) (oi := { dst := some 158, op := Op.load 3 (Operand.tmp 157), type := 3, pos := "law.go:77", after := #[{ on := 19, ground := Ground.data }, { on := 13, ground := Ground.guard }], guard := some (13, true) }) (v := undef) rfl (by kernel_rfl) (by kernel_rfl) (by kernel_rfl) (by assumption) (.inr ⟨by kernel_rfl, rfl⟩) ?_; (try simp only [Act.put, List.setIfInBounds_toArray, List.set_cons_zero, List.set_cons_succ]))
              (refine heldTake (i := 21) (oi := { dst := some 159, op := Op.binOp BinOp.neq 3 (Operand.tmp 153) (Operand.tmp 158) 3, type := 4, pos := "law.go:77", after := #[{ on := 15, ground := Ground.data }, { on := 20, ground := Ground.data }, { on := 13, ground := Ground.guard }], guard := some (13, true) }) (v := undef) rfl (by kernel_rfl) (by kernel_rfl) (by kernel_rfl) (by assumption) (.inr ⟨by kernel_rfl, rfl⟩) ?_; (try simp only [Act.put, List.setIfInBounds_toArray, List.set_cons_zero, List.set_cons_succ]))
              (refine heldTake (i := 22) (oi := { dst := some 160, op := Op.move (Operand.tmp 159), type := 4, pos := "law.go:77", after := #[{ on := 21, ground := Ground.data }, { on := 13, ground := Ground.chain }, { on := 13, ground := Ground.guard }], guard := some (13, true) }) (v := undef) rfl (by kernel_rfl) (by kernel_rfl) (by kernel_rfl) (by assumption) (.inr ⟨by kernel_rfl, rfl⟩) ?_; (try simp only [Act.put, List.setIfInBounds_toArray, List.set_cons_zero, List.set_cons_succ]))
              (refine heldTake (i := 23) (oi := { dst := some 161, op := Op.fieldAddr 27 (Operand.tmp 14) 2, type := 0, pos := "law.go:77", after := #[{ on := 22, ground := Ground.guard }], guard := some (22, false) }) (v := undef) rfl (by kernel_rfl) (by kernel_rfl) (by kernel_rfl) (by assumption) (.inr ⟨by kernel_rfl, rfl⟩) ?_; (try simp only [Act.put, List.setIfInBounds_toArray, List.set_cons_zero, List.set_cons_succ]))
              (refine heldTake (i := 24) (oi := { dst := some 162, op := Op.load 25 (Operand.tmp 161), type := 25, pos := "law.go:77", after := #[{ on := 23, ground := Ground.data }, { on := 22, ground := Ground.guard }], guard := some (22, false) }) (v := undef) rfl (by kernel_rfl) (by kernel_rfl) (by kernel_rfl) (by assumption) (.inr ⟨by kernel_rfl, rfl⟩) ?_; (try simp only [Act.put, List.setIfInBounds_toArray, List.set_cons_zero, List.set_cons_succ]))
              (refine heldTake (i := 25) (oi := { dst := some 163, op := Op.convert 25 9 (Operand.tmp 162), type := 9, pos := "law.go:77", after := #[{ on := 24, ground := Ground.data }, { on := 22, ground := Ground.guard }], guard := some (22, false) }) (v := undef) rfl (by kernel_rfl) (by kernel_rfl) (by kernel_rfl) (by assumption) (.inr ⟨by kernel_rfl, rfl⟩) ?_; (try simp only [Act.put, List.setIfInBounds_toArray, List.set_cons_zero, List.set_cons_succ]))
              (refine heldTake (i := 26) (oi := { dst := some 164, op := Op.move (Operand.tmp 7), type := 24, pos := "law.go:77", after := #[{ on := 22, ground := Ground.guard }], guard := some (22, false) }) (v := undef) rfl (by kernel_rfl) (by kernel_rfl) (by kernel_rfl) (by assumption) (.inr ⟨by kernel_rfl, rfl⟩) ?_; (try simp only [Act.put, List.setIfInBounds_toArray, List.set_cons_zero, List.set_cons_succ]))
              (refine heldTake (i := 27) (oi := { dst := some 165, op := Op.move (Operand.tmp 10), type := 3, pos := "law.go:77", after := #[{ on := 22, ground := Ground.guard }], guard := some (22, false) }) (v := undef) rfl (by kernel_rfl) (by kernel_rfl) (by kernel_rfl) (by assumption) (.inr ⟨by kernel_rfl, rfl⟩) ?_; (try simp only [Act.put, List.setIfInBounds_toArray, List.set_cons_zero, List.set_cons_succ]))
              (refine heldTake (i := 28) (oi := { dst := some 166, op := Op.indexAddr 24 (Operand.tmp 164) (Operand.tmp 165), type := 0, pos := "law.go:77", after := #[{ on := 26, ground := Ground.data }, { on := 27, ground := Ground.data }, { on := 22, ground := Ground.guard }], guard := some (22, false) }) (v := undef) rfl (by kernel_rfl) (by kernel_rfl) (by kernel_rfl) (by assumption) (.inr ⟨by kernel_rfl, rfl⟩) ?_; (try simp only [Act.put, List.setIfInBounds_toArray, List.set_cons_zero, List.set_cons_succ]))
              (refine heldTake (i := 29) (oi := { dst := some 167, op := Op.fieldAddr 29 (Operand.tmp 166) 2, type := 0, pos := "law.go:77", after := #[{ on := 28, ground := Ground.data }, { on := 22, ground := Ground.guard }], guard := some (22, false) }) (v := undef) rfl (by kernel_rfl) (by kernel_rfl) (by kernel_rfl) (by assumption) (.inr ⟨by kernel_rfl, rfl⟩) ?_; (try simp only [Act.put, List.setIfInBounds_toArray, List.set_cons_zero, List.set_cons_succ]))
              (refine heldTake (i := 30) (oi := { dst := some 168, op := Op.load 9 (Operand.tmp 167), type := 9, pos := "law.go:77", after := #[{ on := 29, ground := Ground.data }, { on := 22, ground := Ground.guard }], guard := some (22, false) }) (v := undef) rfl (by kernel_rfl) (by kernel_rfl) (by kernel_rfl) (by assumption) (.inr ⟨by kernel_rfl, rfl⟩) ?_; (try simp only [Act.put, List.setIfInBounds_toArray, List.set_cons_zero, List.set_cons_succ]))
              (refine heldTake (i := 31) (oi := { dst := some 169, op := Op.binOp BinOp.neq 9 (Operand.tmp 163) (Operand.tmp 168) 9, type := 4, pos := "law.go:77", after := #[{ on := 25, ground := Ground.data }, { on := 30, ground := Ground.data }, { on := 22, ground := Ground.guard }], guard := some (22, false) }) (v := undef) rfl (by kernel_rfl) (by kernel_rfl) (by kernel_rfl) (by assumption) (.inr ⟨by kernel_rfl, rfl⟩) ?_; (try simp only [Act.put, List.setIfInBounds_toArray, List.set_cons_zero, List.set_cons_succ]))
              (refine heldTake (i := 32) (oi := { dst := some 170, op := Op.pick (Operand.tmp 160) (Operand.const (Value.bool true)) (Operand.tmp 169), type := 4, pos := "law.go:77", after := #[{ on := 22, ground := Ground.data }, { on := 31, ground := Ground.data }, { on := 13, ground := Ground.guard }], guard := some (13, true) }) (v := undef) rfl (by kernel_rfl) (by kernel_rfl) (by kernel_rfl) (by assumption) (.inr ⟨by kernel_rfl, rfl⟩) ?_; (try simp only [Act.put, List.setIfInBounds_toArray, List.set_cons_zero, List.set_cons_succ]))
              (refine heldTake (i := 33) (oi := { dst := some 171, op := Op.move (Operand.tmp 170), type := 4, pos := "law.go:77", after := #[{ on := 32, ground := Ground.data }, { on := 22, ground := Ground.chain }, { on := 13, ground := Ground.guard }], guard := some (13, true) }) (v := undef) rfl (by kernel_rfl) (by kernel_rfl) (by kernel_rfl) (by assumption) (.inr ⟨by kernel_rfl, rfl⟩) ?_; (try simp only [Act.put, List.setIfInBounds_toArray, List.set_cons_zero, List.set_cons_succ]))
              (refine heldTake (i := 34) (oi := { dst := some 172, op := Op.fieldAddr 27 (Operand.tmp 14) 1, type := 0, pos := "law.go:77", after := #[{ on := 33, ground := Ground.guard }], guard := some (33, false) }) (v := undef) rfl (by kernel_rfl) (by kernel_rfl) (by kernel_rfl) (by assumption) (.inr ⟨by kernel_rfl, rfl⟩) ?_; (try simp only [Act.put, List.setIfInBounds_toArray, List.set_cons_zero, List.set_cons_succ]))
              (refine heldTake (i := 35) (oi := { dst := some 173, op := Op.load 9 (Operand.tmp 172), type := 9, pos := "law.go:77", after := #[{ on := 34, ground := Ground.data }, { on := 33, ground := Ground.guard }], guard := some (33, false) }) (v := undef) rfl (by kernel_rfl) (by kernel_rfl) (by kernel_rfl) (by assumption) (.inr ⟨by kernel_rfl, rfl⟩) ?_; (try simp only [Act.put, List.setIfInBounds_toArray, List.set_cons_zero, List.set_cons_succ]))
              (refine heldTake (i := 36) (oi := { dst := some 174, op := Op.move (Operand.tmp 7), type := 24, pos := "law.go:77", after := #[{ on := 33, ground := Ground.guard }], guard := some (33, false) }) (v := undef) rfl (by kernel_rfl) (by kernel_rfl) (by kernel_rfl) (by assumption) (.inr ⟨by kernel_rfl, rfl⟩) ?_; (try simp only [Act.put, List.setIfInBounds_toArray, List.set_cons_zero, List.set_cons_succ]))
              (refine heldTake (i := 37) (oi := { dst := some 175, op := Op.move (Operand.tmp 10), type := 3, pos := "law.go:77", after := #[{ on := 33, ground := Ground.guard }], guard := some (33, false) }) (v := undef) rfl (by kernel_rfl) (by kernel_rfl) (by kernel_rfl) (by assumption) (.inr ⟨by kernel_rfl, rfl⟩) ?_; (try simp only [Act.put, List.setIfInBounds_toArray, List.set_cons_zero, List.set_cons_succ]))
              (refine heldTake (i := 38) (oi := { dst := some 176, op := Op.indexAddr 24 (Operand.tmp 174) (Operand.tmp 175), type := 0, pos := "law.go:77", after := #[{ on := 36, ground := Ground.data }, { on := 37, ground := Ground.data }, { on := 33, ground := Ground.guard }], guard := some (33, false) }) (v := undef) rfl (by kernel_rfl) (by kernel_rfl) (by kernel_rfl) (by assumption) (.inr ⟨by kernel_rfl, rfl⟩) ?_; (try simp only [Act.put, List.setIfInBounds_toArray, List.set_cons_zero, List.set_cons_succ]))
              (refine heldTake (i := 39) (oi := { dst := some 177, op := Op.fieldAddr 29 (Operand.tmp 176) 1, type := 0, pos := "law.go:77", after := #[{ on := 38, ground := Ground.data }, { on := 33, ground := Ground.guard }], guard := some (33, false) }) (v := undef) rfl (by kernel_rfl) (by kernel_rfl) (by kernel_rfl) (by assumption) (.inr ⟨by kernel_rfl, rfl⟩) ?_; (try simp only [Act.put, List.setIfInBounds_toArray, List.set_cons_zero, List.set_cons_succ]))
              (refine heldTake (i := 40) (oi := { dst := some 178, op := Op.load 9 (Operand.tmp 177), type := 9, pos := "law.go:77", after := #[{ on := 39, ground := Ground.data }, { on := 33, ground := Ground.guard }], guard := some (33, false) }) (v := undef) rfl (by kernel_rfl) (by kernel_rfl) (by kernel_rfl) (by assumption) (.inr ⟨by kernel_rfl, rfl⟩) ?_; (try simp only [Act.put, List.setIfInBounds_toArray, List.set_cons_zero, List.set_cons_succ]))
              (refine heldTake (i := 41) (oi := { dst := some 179, op := Op.binOp BinOp.neq 9 (Operand.tmp 173) (Operand.tmp 178) 9, type := 4, pos := "law.go:77", after := #[{ on := 35, ground := Ground.data }, { on := 40, ground := Ground.data }, { on := 33, ground := Ground.guard }], guard := some (33, false) }) (v := undef) rfl (by kernel_rfl) (by kernel_rfl) (by kernel_rfl) (by assumption) (.inr ⟨by kernel_rfl, rfl⟩) ?_; (try simp only [Act.put, List.setIfInBounds_toArray, List.set_cons_zero, List.set_cons_succ]))
              (refine heldTake (i := 42) (oi := { dst := some 180, op := Op.pick (Operand.tmp 171) (Operand.const (Value.bool true)) (Operand.tmp 179), type := 4, pos := "law.go:77", after := #[{ on := 33, ground := Ground.data }, { on := 41, ground := Ground.data }, { on := 13, ground := Ground.guard }], guard := some (13, true) }) (v := undef) rfl (by kernel_rfl) (by kernel_rfl) (by kernel_rfl) (by assumption) (.inr ⟨by kernel_rfl, rfl⟩) ?_; (try simp only [Act.put, List.setIfInBounds_toArray, List.set_cons_zero, List.set_cons_succ]))
              (refine heldTake (i := 43) (oi := { dst := some 181, op := Op.pick (Operand.tmp 151) (Operand.tmp 180) (Operand.const (Value.bool false)), type := 4, pos := "law.go:77", after := #[{ on := 13, ground := Ground.data }, { on := 42, ground := Ground.data }, { on := 11, ground := Ground.guard }], guard := some (11, false) }) (v := ?_) rfl (by kernel_rfl) (by kernel_rfl) (by kernel_rfl) (by assumption) ?_ ?_; rotate_left; focus (refine .inl ⟨by kernel_rfl, ?_⟩; intro w hSw; (try dsimp only at hSw); go_simp; (try with_reducible rfl)); (try simp only [Act.put, List.setIfInBounds_toArray, List.set_cons_zero, List.set_cons_succ]))
              (refine heldTake (i := 44) (oi := { dst := some 182, op := Op.pick (Operand.tmp 149) (Operand.const (Value.bool true)) (Operand.tmp 181), type := 4, pos := "law.go:77", after := #[{ on := 11, ground := Ground.data }, { on := 43, ground := Ground.data }], guard := none }) (v := ?_) rfl (by kernel_rfl) (by kernel_rfl) (by kernel_rfl) (by assumption) ?_ ?_; rotate_left; focus (refine .inl ⟨by kernel_rfl, ?_⟩; intro w hSw; (try dsimp only at hSw); go_simp; (try with_reducible rfl)); (try simp only [Act.put, List.setIfInBounds_toArray, List.set_cons_zero, List.set_cons_succ]))
              refine wpAnyH_done (by kernel_rfl) ?_ _
              refine NoPanic.normal ?_
              have hLast := hHeld3
              clear hHeld3
              go_wp2
              go_meet
              exact ⟨rfl, hLast.2⟩
          ·
              have hfz : 0 ≤ fz := by have := HFB.out; simp at this; omega
              obtain ⟨j, rfl⟩ : ∃ j : Nat, fz = j := ⟨fz.toNat, by omega⟩
              have hxj := HX.out j rfl
              have hjk : j < k := by have := (List.getElem?_eq_some_iff.1 hxj).1; rw [HLK.out] at this; exact this
              obtain ⟨b, off, B, cc, rfl, hbl, ⟨-, -, -, k3⟩, -⟩ := HL.out j x hxj
              obtain ⟨b2, off2, rfl, hbl2, ⟨-, r1, r2, -⟩⟩ := HRS.out j x hxj
              have z1 := HW0.out.cell 1
              have z2 := HW0.out.cell 2
              have z3 := HW0.out.cell 3
              simp only [List.getElem?_toArray, List.getElem?_cons_zero, List.getElem?_cons_succ] at z1 z2 z3
              have hbww := HB.out.trans (HBW.out.mono HB.out.size)
              have l3 := (hbww.cell (p := ⟨b, off + j * 4 + 3, none⟩) hbl).trans k3
              have s1 := (HBW.out.cell (p := ⟨b2, off2 + j * 4 + 1, none⟩) hbl2).trans r1
              have s2 := (HBW.out.cell (p := ⟨b2, off2 + j * 4 + 2, none⟩) hbl2).trans r2
              have hs : ∀ W, Below W0.heap.size W0 W → ∀ a v, W0.cell? a = some v → W.cell? a = some v := fun W hb a v h => (hb.cell (p := a) (World.block_lt_of_cell? W0 a h)).trans h
              have HSS := Lib.hid (fun (W : World) (hb : Below W0.heap.size W0 W) => show (convert 25 9 (.slice Aj J.length cj)).run Tryd.prog W = .ok (.string (S J)) W ∧ (convert 25 9 (.slice A3 x.body.length c3)).run Tryd.prog W = .ok (.string (S x.body)) W ∧
                  W.cell? ⟨X14, 1, none⟩ = some (.string (S x.name)) ∧ W.cell? ⟨X14, 2, none⟩ = some (.slice A3 x.body.length c3) ∧ W.cell? ⟨X14, 3, none⟩ = some (.int .i64 x.off) ∧ W.cell? ⟨b, off + j * 4 + 3, none⟩ = some (.int .i64 x.off) ∧
                  W.cell? ⟨b2, off2 + j * 4 + 1, none⟩ = some (.string (S x.name)) ∧ W.cell? ⟨b2, off2 + j * 4 + 2, none⟩ = some (.string (S x.body)) ∧ Below W0.heap.size W0 W from
                ⟨str_any (HPJ.out.below hb).lies cj 9 Tryd.underlying9, str_any (HPX.out.below hb).lies c3 9 Tryd.underlying9, hs W hb _ _ z1, hs W hb _ _ z2, hs W hb _ _ z3, hs W hb _ _ l3, hs W hb _ _ s1, hs W hb _ _ s2, hb⟩)
              have e1 : decide ((0 : Int) ≤ (j : Int)) = true := by simp
              clear z1 z2 z3 l3 s1 s2 hs hfz HJo HRS HJH HSJ HRJ HTw HSe HF2 hbww k3 r1 r2 hxj
              refine wp_region_noPanic ?_
              refine wp_region_held_drew (S := fun W => (convert 25 9 (.slice Aj J.length cj)).run Tryd.prog W = .ok (.string (S J)) W ∧ (convert 25 9 (.slice A3 x.body.length c3)).run Tryd.prog W = .ok (.string (S x.body)) W ∧
                  W.cell? ⟨X14, 1, none⟩ = some (.string (S x.name)) ∧ W.cell? ⟨X14, 2, none⟩ = some (.slice A3 x.body.length c3) ∧ W.cell? ⟨X14, 3, none⟩ = some (.int .i64 x.off) ∧ W.cell? ⟨b, off + j * 4 + 3, none⟩ = some (.int .i64 x.off) ∧
                  W.cell? ⟨b2, off2 + j * 4 + 1, none⟩ = some (.string (S x.name)) ∧ W.cell? ⟨b2, off2 + j * 4 + 2, none⟩ = some (.string (S x.body)) ∧ Below W0.heap.size W0 W) (by kernel_rfl) (HSS.out _ (Below.refl _ _).drew) (fun hHeld => ?_)
              (refine heldTake (i := 0) (oi := { dst := some 138, op := Op.move (Operand.tmp 13), type := 25, pos := "law.go:77", after := #[], guard := none }) (v := ?_) rfl (by kernel_rfl) (by kernel_rfl) (by kernel_rfl) (by assumption) ?_ ?_; rotate_left; focus (refine .inl ⟨by kernel_rfl, ?_⟩; intro w hSw; (try dsimp only at hSw); go_simp; (try with_reducible rfl)); (try simp only [Act.put, List.setIfInBounds_toArray, List.set_cons_zero, List.set_cons_succ]))
              (refine heldTake (i := 1) (oi := { dst := some 139, op := Op.convert 25 9 (Operand.tmp 138), type := 9, pos := "law.go:77", after := #[{ on := 0, ground := Ground.data }], guard := none }) (v := ?_) rfl (by kernel_rfl) (by kernel_rfl) (by kernel_rfl) (by assumption) ?_ ?_; rotate_left; focus (refine .inl ⟨by kernel_rfl, ?_⟩; intro w hSw; (try dsimp only at hSw); go_simp; (try with_reducible rfl)); (try simp only [Act.put, List.setIfInBounds_toArray, List.set_cons_zero, List.set_cons_succ]))
              (refine heldTake (i := 2) (oi := { dst := some 140, op := Op.move (Operand.tmp 7), type := 24, pos := "law.go:77", after := #[], guard := none }) (v := ?_) rfl (by kernel_rfl) (by kernel_rfl) (by kernel_rfl) (by assumption) ?_ ?_; rotate_left; focus (refine .inl ⟨by kernel_rfl, ?_⟩; intro w hSw; (try dsimp only at hSw); go_simp; (try with_reducible rfl)); (try simp only [Act.put, List.setIfInBounds_toArray, List.set_cons_zero, List.set_cons_succ]))
              refine wpAnyH_ready (rs := [3]) (by kernel_rfl) (by simp) ?_
              refine AllReadyH.cons (o := { dst := some 141, op := Op.call { callee := Callee.value (Operand.func 16), args := #[Operand.tmp 140], argTypes := #[24] }, type := 9, pos := "law.go:77", after := #[{ on := 2, ground := Ground.data }], guard := none }) rfl (fun K hK => ?_) AllReadyH.nil
              go_simp
              (go_at_call 16; (with_reducible refine (HRJ0.out _ hHeld.2.2.2.2.2.2.2.2).mono ?_); rintro e w4 ⟨rfl, hb4⟩; have HB4 := Lib.hid hb4; clear hb4)
              refine hK.out _ _ (HSS.out _ (hHeld.2.2.2.2.2.2.2.2.trans (HB4.out.mono hHeld.2.2.2.2.2.2.2.2.size))) (fun hHeld3 => ?_)
              clear hK K hHeld
              (try simp only [Act.put, List.setIfInBounds_toArray, List.set_cons_zero, List.set_cons_succ])
              (refine heldTake (i := 4) (oi := { dst := some 142, op := Op.binOp BinOp.neq 9 (Operand.tmp 139) (Operand.tmp 141) 9, type := 4, pos := "law.go:77", after := #[{ on := 1, ground := Ground.data }, { on := 3, ground := Ground.data }], guard := none }) (v := ?_) rfl (by kernel_rfl) (by kernel_rfl) (by kernel_rfl) (by assumption) ?_ ?_; rotate_left; focus (refine .inl ⟨by kernel_rfl, ?_⟩; intro w hSw; (try dsimp only at hSw); go_simp; (try with_reducible rfl)); (try simp only [Act.put, List.setIfInBounds_toArray, List.set_cons_zero, List.set_cons_succ]))
              (refine heldTake (i := 5) (oi := { dst := some 143, op := Op.move (Operand.tmp 142), type := 4, pos := "law.go:77", after := #[{ on := 4, ground := Ground.data }, { on := 3, ground := Ground.chain }], guard := none }) (v := ?_) rfl (by kernel_rfl) (by kernel_rfl) (by kernel_rfl) (by assumption) ?_ ?_; rotate_left; focus (refine .inl ⟨by kernel_rfl, ?_⟩; intro w hSw; (try dsimp only at hSw); go_simp; (try with_reducible rfl)); (try simp only [Act.put, List.setIfInBounds_toArray, List.set_cons_zero, List.set_cons_succ]))
              (refine heldTake (i := 6) (oi := { dst := some 144, op := Op.move (Operand.tmp 15), type := 4, pos := "law.go:77", after := #[{ on := 5, ground := Ground.guard }], guard := some (5, false) }) (v := ?_) rfl (by kernel_rfl) (by kernel_rfl) (by kernel_rfl) (by assumption) ?_ ?_; rotate_left; focus (refine .inl ⟨by kernel_rfl, ?_⟩; intro w hSw; (try dsimp only at hSw); go_simp; (try with_reducible rfl)); (try simp only [Act.put, List.setIfInBounds_toArray, List.set_cons_zero, List.set_cons_succ]))
              (try (dsimp only; simp only [Act.put, List.setIfInBounds_toArray, List.set_cons_zero, List.set_cons_succ]))
              (refine heldTake (i := 7) (oi := { dst := some 145, op := Op.move (Operand.tmp 10), type := 3, pos := "law.go:77", after := #[{ on := 5, ground := Ground.guard }], guard := some (5, false) }) (v := ?_) rfl (by kernel_rfl) (by kernel_rfl) (by kernel_rfl) (by assumption) ?_ ?_; rotate_left; focus (refine .inl ⟨by kernel_rfl, ?_⟩; intro w hSw; (try dsimp only at hSw); go_simp; (try with_reducible rfl)); (try simp only [Act.put, List.setIfInBounds_toArray, List.set_cons_zero, List.set_cons_succ]))
              (try (dsimp only; simp only [Act.put, List.setIfInBounds_toArray, List.set_cons_zero, List.set_cons_succ]))
              (refine heldTake (i := 8) (oi := { dst := some 146, op := Op.binOp BinOp.geq 3 (Operand.tmp 145) (Operand.const (Value.int IntKind.i64 0)) 3, type := 4, pos := "law.go:77", after := #[{ on := 7, ground := Ground.data }, { on := 5, ground := Ground.guard }], guard := some (5, false) }) (v := ?_) rfl (by kernel_rfl) (by kernel_rfl) (by kernel_rfl) (by assumption) ?_ ?_; rotate_left; focus (refine .inl ⟨by kernel_rfl, ?_⟩; intro w hSw; (try dsimp only at hSw); go_simp; (try with_reducible rfl)); (try simp only [Act.put, List.setIfInBounds_toArray, List.set_cons_zero, List.set_cons_succ]))
              (try (dsimp only; simp only [Act.put, List.setIfInBounds_toArray, List.set_cons_zero, List.set_cons_succ]))
              (refine heldTake (i := 9) (oi := { dst := some 147, op := Op.binOp BinOp.neq 4 (Operand.tmp 144) (Operand.tmp 146) 4, type := 4, pos := "law.go:77", after := #[{ on := 6, ground := Ground.data }, { on := 8, ground := Ground.data }, { on := 5, ground := Ground.guard }], guard := some (5, false) }) (v := ?_) rfl (by kernel_rfl) (by kernel_rfl) (by kernel_rfl) (by assumption) ?_ ?_; rotate_left; focus (refine .inl ⟨by kernel_rfl, ?_⟩; intro w hSw; (try dsimp only at hSw); go_simp; (try with_reducible rfl)); (try simp only [Act.put, List.setIfInBounds_toArray, List.set_cons_zero, List.set_cons_succ]))
              (try (dsimp only; simp only [Act.put, List.setIfInBounds_toArray, List.set_cons_zero, List.set_cons_succ]))
              (refine heldTake (i := 10) (oi := { dst := some 148, op := Op.pick (Operand.tmp 143) (Operand.const (Value.bool true)) (Operand.tmp 147), type := 4, pos := "law.go:77", after := #[{ on := 5, ground := Ground.data }, { on := 9, ground := Ground.data }], guard := none }) (v := ?_) rfl (by kernel_rfl) (by kernel_rfl) (by kernel_rfl) (by assumption) ?_ ?_; rotate_left; focus (refine .inl ⟨by kernel_rfl, ?_⟩; intro w hSw; (try dsimp only at hSw); go_simp; (try with_reducible rfl)); (try simp only [Act.put, List.setIfInBounds_toArray, List.set_cons_zero, List.set_cons_succ]))
              (try (dsimp only; simp only [Act.put, List.setIfInBounds_toArray, List.set_cons_zero, List.set_cons_succ]))
              (refine heldTake (i := 11) (oi := { dst := some 149, op := Op.move (Operand.tmp 148), type := 4, pos := "law.go:77", after := #[{ on := 10, ground := Ground.data }, { on := 5, ground := Ground.chain }], guard := none }) (v := ?_) rfl (by kernel_rfl) (by kernel_rfl) (by kernel_rfl) (by assumption) ?_ ?_; rotate_left; focus (refine .inl ⟨by kernel_rfl, ?_⟩; intro w hSw; (try dsimp only at hSw); go_simp; (try with_reducible rfl)); (try simp only [Act.put, List.setIfInBounds_toArray, List.set_cons_zero, List.set_cons_succ]))
              (try (dsimp only; simp only [Act.put, List.setIfInBounds_toArray, List.set_cons_zero, List.set_cons_succ]))
              (refine heldTake (i := 12) (oi := { dst := some 150, op := Op.move (Operand.tmp 15), type := 4, pos := "law.go:77", after := #[{ on := 11, ground := Ground.guard }], guard := some (11, false) }) (v := ?_) rfl (by kernel_rfl) (by kernel_rfl) (by kernel_rfl) (by assumption) ?_ ?_; rotate_left; focus (refine .inl ⟨by kernel_rfl, ?_⟩; intro w hSw; (try dsimp only at hSw); go_simp; (try with_reducible rfl)); (try simp only [Act.put, List.setIfInBounds_toArray, List.set_cons_zero, List.set_cons_succ]))
              (try (dsimp only; simp only [Act.put, List.setIfInBounds_toArray, List.set_cons_zero, List.set_cons_succ]))
              (refine heldTake (i := 13) (oi := { dst := some 151, op := Op.move (Operand.tmp 150), type := 4, pos := "law.go:77", after := #[{ on := 12, ground := Ground.data }, { on := 11, ground := Ground.chain }, { on := 11, ground := Ground.guard }], guard := some (11, false) }) (v := ?_) rfl (by kernel_rfl) (by kernel_rfl) (by kernel_rfl) (by assumption) ?_ ?_; rotate_left; focus (refine .inl ⟨by kernel_rfl, ?_⟩; intro w hSw; (try dsimp only at hSw); go_simp; (try with_reducible rfl)); (try simp only [Act.put, List.setIfInBounds_toArray, List.set_cons_zero, List.set_cons_succ]))
              (try (dsimp only; simp only [Act.put, List.setIfInBounds_toArray, List.set_cons_zero, List.set_cons_succ]))
              (refine heldTake (i := 14) (oi := { dst := some 152, op := Op.fieldAddr 27 (Operand.tmp 14) 3, type := 0, pos := "law.go:77", after := #[{ on := 13, ground := Ground.guard }], guard := some (13, true) }) (v := ?_) rfl (by kernel_rfl) (by kernel_rfl) (by kernel_rfl) (by assumption) ?_ ?_; rotate_left; focus (refine .inl ⟨by kernel_rfl, ?_⟩; intro w hSw; (try dsimp only at hSw); go_simp; (try with_reducible rfl)); (try simp only [Act.put, List.setIfInBounds_toArray, List.set_cons_zero, List.set_cons_succ]))
              (try (dsimp only; simp only [Act.put, List.setIfInBounds_toArray, List.set_cons_zero, List.set_cons_succ]))
              (refine heldTake (i := 15) (oi := { dst := some 153, op := Op.load 3 (Operand.tmp 152), type := 3, pos := "law.go:77", after := #[{ on := 14, ground := Ground.data }, { on := 13, ground := Ground.guard }], guard := some (13, true) }) (v := ?_) rfl (by kernel_rfl) (by kernel_rfl) (by kernel_rfl) (by assumption) ?_ ?_; rotate_left; focus (refine .inl ⟨by kernel_rfl, ?_⟩; intro w hSw; (try dsimp only at hSw); go_simp; (try with_reducible rfl)); (try simp only [Act.put, List.setIfInBounds_toArray, List.set_cons_zero, List.set_cons_succ]))
              (try (dsimp only; simp only [Act.put, List.setIfInBounds_toArray, List.set_cons_zero, List.set_cons_succ]))
              (refine heldTake (i := 16) (oi := { dst := some 154, op := Op.move (Operand.tmp 0), type := 22, pos := "law.go:77", after := #[{ on := 13, ground := Ground.guard }], guard := some (13, true) }) (v := ?_) rfl (by kernel_rfl) (by kernel_rfl) (by kernel_rfl) (by assumption) ?_ ?_; rotate_left; focus (refine .inl ⟨by kernel_rfl, ?_⟩; intro w hSw; (try dsimp only at hSw); go_simp; (try with_reducible rfl)); (try simp only [Act.put, List.setIfInBounds_toArray, List.set_cons_zero, List.set_cons_succ]))
              (try (dsimp only; simp only [Act.put, List.setIfInBounds_toArray, List.set_cons_zero, List.set_cons_succ]))
              (refine heldTake (i := 17) (oi := { dst := some 155, op := Op.move (Operand.tmp 10), type := 3, pos := "law.go:77", after := #[{ on := 13, ground := Ground.guard }], guard := some (13, true) }) (v := ?_) rfl (by kernel_rfl) (by kernel_rfl) (by kernel_rfl) (by assumption) ?_ ?_; rotate_left; focus (refine .inl ⟨by kernel_rfl, ?_⟩; intro w hSw; (try dsimp only at hSw); go_simp; (try with_reducible rfl)); (try simp only [Act.put, List.setIfInBounds_toArray, List.set_cons_zero, List.set_cons_succ]))
              (try (dsimp only; simp only [Act.put, List.setIfInBounds_toArray, List.set_cons_zero, List.set_cons_succ]))
              (refine heldTake (i := 18) (oi := { dst := some 156, op := Op.indexAddr 22 (Operand.tmp 154) (Operand.tmp 155), type := 0, pos := "law.go:77", after := #[{ on := 16, ground := Ground.data }, { on := 17, ground := Ground.data }, { on := 13, ground := Ground.guard }], guard := some (13, true) }) (v := ?_) rfl (by kernel_rfl) (by kernel_rfl) (by kernel_rfl) (by assumption) ?_ ?_; rotate_left; focus (refine .inl ⟨by kernel_rfl, ?_⟩; intro w hSw; (try dsimp only at hSw); go_simp; (try with_reducible rfl)); (try simp only [Act.put, List.setIfInBounds_toArray, List.set_cons_zero, List.set_cons_succ]))
              (try (dsimp only; simp only [Act.put, List.setIfInBounds_toArray, List.set_cons_zero, List.set_cons_succ]))
              (refine heldTake (i := 19) (oi := { dst := some 157, op := Op.fieldAddr 27 (Operand.tmp 156) 3, type := 0, pos := "law.go:77", after := #[{ on := 18, ground := Ground.data }, { on := 13, ground := Ground.guard }], guard := some (13, true) }) (v := ?_) rfl (by kernel_rfl) (by kernel_rfl) (by kernel_rfl) (by assumption) ?_ ?_; rotate_left; focus (refine .inl ⟨by kernel_rfl, ?_⟩; intro w hSw; (try dsimp only at hSw); go_simp; (try with_reducible rfl)); (try simp only [Act.put, List.setIfInBounds_toArray, List.set_cons_zero, List.set_cons_succ]))
              (try (dsimp only; simp only [Act.put, List.setIfInBounds_toArray, List.set_cons_zero, List.set_cons_succ]))
              (refine heldTake (i := 20) (oi := { dst := some 158, op := Op.load 3 (Operand.tmp 157), type := 3, pos := "law.go:77", after := #[{ on := 19, ground := Ground.data }, { on := 13, ground := Ground.guard }], guard := some (13, true) }) (v := ?_) rfl (by kernel_rfl) (by kernel_rfl) (by kernel_rfl) (by assumption) ?_ ?_; rotate_left; focus (refine .inl ⟨by kernel_rfl, ?_⟩; intro w hSw; (try dsimp only at hSw); go_simp; (try with_reducible rfl)); (try simp only [Act.put, List.setIfInBounds_toArray, List.set_cons_zero, List.set_cons_succ]))
              (try (dsimp only; simp only [Act.put, List.setIfInBounds_toArray, List.set_cons_zero, List.set_cons_succ]))
              (refine heldTake (i := 21) (oi := { dst := some 159, op := Op.binOp BinOp.neq 3 (Operand.tmp 153) (Operand.tmp 158) 3, type := 4, pos := "law.go:77", after := #[{ on := 15, ground := Ground.data }, { on := 20, ground := Ground.data }, { on := 13, ground := Ground.guard }], guard := some (13, true) }) (v := ?_) rfl (by kernel_rfl) (by kernel_rfl) (by kernel_rfl) (by assumption) ?_ ?_; rotate_left; focus (refine .inl ⟨by kernel_rfl, ?_⟩; intro w hSw; (try dsimp only at hSw); go_simp; (try with_reducible rfl)); (try simp only [Act.put, List.setIfInBounds_toArray, List.set_cons_zero, List.set_cons_succ]))
              (try (dsimp only; simp only [Act.put, List.setIfInBounds_toArray, List.set_cons_zero, List.set_cons_succ]))
              (refine heldTake (i := 22) (oi := { dst := some 160, op := Op.move (Operand.tmp 159), type := 4, pos := "law.go:77", after := #[{ on := 21, ground := Ground.data }, { on := 13, ground := Ground.chain }, { on := 13, ground := Ground.guard }], guard := some (13, true) }) (v := ?_) rfl (by kernel_rfl) (by kernel_rfl) (by kernel_rfl) (by assumption) ?_ ?_; rotate_left; focus (refine .inl ⟨by kernel_rfl, ?_⟩; intro w hSw; (try dsimp only at hSw); go_simp; (try with_reducible rfl)); (try simp only [Act.put, List.setIfInBounds_toArray, List.set_cons_zero, List.set_cons_succ]))
              (try (dsimp only; simp only [Act.put, List.setIfInBounds_toArray, List.set_cons_zero, List.set_cons_succ]))
              (refine heldTake (i := 23) (oi := { dst := some 161, op := Op.fieldAddr 27 (Operand.tmp 14) 2, type := 0, pos := "law.go:77", after := #[{ on := 22, ground := Ground.guard }], guard := some (22, false) }) (v := ?_) rfl (by kernel_rfl) (by kernel_rfl) (by kernel_rfl) (by assumption) ?_ ?_; rotate_left; focus (refine .inl ⟨by kernel_rfl, ?_⟩; intro w hSw; (try dsimp only at hSw); go_simp; (try with_reducible rfl)); (try simp only [Act.put, List.setIfInBounds_toArray, List.set_cons_zero, List.set_cons_succ]))
              (try (dsimp only; simp only [Act.put, List.setIfInBounds_toArray, List.set_cons_zero, List.set_cons_succ]))
              (refine heldTake (i := 24) (oi := { dst := some 162, op := Op.load 25 (Operand.tmp 161), type := 25, pos := "law.go:77", after := #[{ on := 23, ground := Ground.data }, { on := 22, ground := Ground.guard }], guard := some (22, false) }) (v := ?_) rfl (by kernel_rfl) (by kernel_rfl) (by kernel_rfl) (by assumption) ?_ ?_; rotate_left; focus (refine .inl ⟨by kernel_rfl, ?_⟩; intro w hSw; (try dsimp only at hSw); go_simp; (try with_reducible rfl)); (try simp only [Act.put, List.setIfInBounds_toArray, List.set_cons_zero, List.set_cons_succ]))
              (try (dsimp only; simp only [Act.put, List.setIfInBounds_toArray, List.set_cons_zero, List.set_cons_succ]))
              (refine heldTake (i := 25) (oi := { dst := some 163, op := Op.convert 25 9 (Operand.tmp 162), type := 9, pos := "law.go:77", after := #[{ on := 24, ground := Ground.data }, { on := 22, ground := Ground.guard }], guard := some (22, false) }) (v := ?_) rfl (by kernel_rfl) (by kernel_rfl) (by kernel_rfl) (by assumption) ?_ ?_; rotate_left; focus (refine .inl ⟨by kernel_rfl, ?_⟩; intro w hSw; (try dsimp only at hSw); go_simp; (try with_reducible rfl)); (try simp only [Act.put, List.setIfInBounds_toArray, List.set_cons_zero, List.set_cons_succ]))
              (try (dsimp only; simp only [Act.put, List.setIfInBounds_toArray, List.set_cons_zero, List.set_cons_succ]))
              (refine heldTake (i := 26) (oi := { dst := some 164, op := Op.move (Operand.tmp 7), type := 24, pos := "law.go:77", after := #[{ on := 22, ground := Ground.guard }], guard := some (22, false) }) (v := ?_) rfl (by kernel_rfl) (by kernel_rfl) (by kernel_rfl) (by assumption) ?_ ?_; rotate_left; focus (refine .inl ⟨by kernel_rfl, ?_⟩; intro w hSw; (try dsimp only at hSw); go_simp; (try with_reducible rfl)); (try simp only [Act.put, List.setIfInBounds_toArray, List.set_cons_zero, List.set_cons_succ]))
              (try (dsimp only; simp only [Act.put, List.setIfInBounds_toArray, List.set_cons_zero, List.set_cons_succ]))
              (refine heldTake (i := 27) (oi := { dst := some 165, op := Op.move (Operand.tmp 10), type := 3, pos := "law.go:77", after := #[{ on := 22, ground := Ground.guard }], guard := some (22, false) }) (v := ?_) rfl (by kernel_rfl) (by kernel_rfl) (by kernel_rfl) (by assumption) ?_ ?_; rotate_left; focus (refine .inl ⟨by kernel_rfl, ?_⟩; intro w hSw; (try dsimp only at hSw); go_simp; (try with_reducible rfl)); (try simp only [Act.put, List.setIfInBounds_toArray, List.set_cons_zero, List.set_cons_succ]))
              (try (dsimp only; simp only [Act.put, List.setIfInBounds_toArray, List.set_cons_zero, List.set_cons_succ]))
              (refine heldTake (i := 28) (oi := { dst := some 166, op := Op.indexAddr 24 (Operand.tmp 164) (Operand.tmp 165), type := 0, pos := "law.go:77", after := #[{ on := 26, ground := Ground.data }, { on := 27, ground := Ground.data }, { on := 22, ground := Ground.guard }], guard := some (22, false) }) (v := ?_) rfl (by kernel_rfl) (by kernel_rfl) (by kernel_rfl) (by assumption) ?_ ?_; rotate_left; focus (refine .inl ⟨by kernel_rfl, ?_⟩; intro w hSw; (try dsimp only at hSw); go_simp; (try with_reducible rfl)); (try simp only [Act.put, List.setIfInBounds_toArray, List.set_cons_zero, List.set_cons_succ]))
              (try (dsimp only; simp only [Act.put, List.setIfInBounds_toArray, List.set_cons_zero, List.set_cons_succ]))
              (refine heldTake (i := 29) (oi := { dst := some 167, op := Op.fieldAddr 29 (Operand.tmp 166) 2, type := 0, pos := "law.go:77", after := #[{ on := 28, ground := Ground.data }, { on := 22, ground := Ground.guard }], guard := some (22, false) }) (v := ?_) rfl (by kernel_rfl) (by kernel_rfl) (by kernel_rfl) (by assumption) ?_ ?_; rotate_left; focus (refine .inl ⟨by kernel_rfl, ?_⟩; intro w hSw; (try dsimp only at hSw); go_simp; (try with_reducible rfl)); (try simp only [Act.put, List.setIfInBounds_toArray, List.set_cons_zero, List.set_cons_succ]))
              (try (dsimp only; simp only [Act.put, List.setIfInBounds_toArray, List.set_cons_zero, List.set_cons_succ]))
              (refine heldTake (i := 30) (oi := { dst := some 168, op := Op.load 9 (Operand.tmp 167), type := 9, pos := "law.go:77", after := #[{ on := 29, ground := Ground.data }, { on := 22, ground := Ground.guard }], guard := some (22, false) }) (v := ?_) rfl (by kernel_rfl) (by kernel_rfl) (by kernel_rfl) (by assumption) ?_ ?_; rotate_left; focus (refine .inl ⟨by kernel_rfl, ?_⟩; intro w hSw; (try dsimp only at hSw); go_simp; (try with_reducible rfl)); (try simp only [Act.put, List.setIfInBounds_toArray, List.set_cons_zero, List.set_cons_succ]))
              (try (dsimp only; simp only [Act.put, List.setIfInBounds_toArray, List.set_cons_zero, List.set_cons_succ]))
              (refine heldTake (i := 31) (oi := { dst := some 169, op := Op.binOp BinOp.neq 9 (Operand.tmp 163) (Operand.tmp 168) 9, type := 4, pos := "law.go:77", after := #[{ on := 25, ground := Ground.data }, { on := 30, ground := Ground.data }, { on := 22, ground := Ground.guard }], guard := some (22, false) }) (v := ?_) rfl (by kernel_rfl) (by kernel_rfl) (by kernel_rfl) (by assumption) ?_ ?_; rotate_left; focus (refine .inl ⟨by kernel_rfl, ?_⟩; intro w hSw; (try dsimp only at hSw); go_simp; (try with_reducible rfl)); (try simp only [Act.put, List.setIfInBounds_toArray, List.set_cons_zero, List.set_cons_succ]))
              (try (dsimp only; simp only [Act.put, List.setIfInBounds_toArray, List.set_cons_zero, List.set_cons_succ]))
              (refine heldTake (i := 32) (oi := { dst := some 170, op := Op.pick (Operand.tmp 160) (Operand.const (Value.bool true)) (Operand.tmp 169), type := 4, pos := "law.go:77", after := #[{ on := 22, ground := Ground.data }, { on := 31, ground := Ground.data }, { on := 13, ground := Ground.guard }], guard := some (13, true) }) (v := ?_) rfl (by kernel_rfl) (by kernel_rfl) (by kernel_rfl) (by assumption) ?_ ?_; rotate_left; focus (refine .inl ⟨by kernel_rfl, ?_⟩; intro w hSw; (try dsimp only at hSw); go_simp; (try with_reducible rfl)); (try simp only [Act.put, List.setIfInBounds_toArray, List.set_cons_zero, List.set_cons_succ]))
              (try (dsimp only; simp only [Act.put, List.setIfInBounds_toArray, List.set_cons_zero, List.set_cons_succ]))
              (refine heldTake (i := 33) (oi := { dst := some 171, op := Op.move (Operand.tmp 170), type := 4, pos := "law.go:77", after := #[{ on := 32, ground := Ground.data }, { on := 22, ground := Ground.chain }, { on := 13, ground := Ground.guard }], guard := some (13, true) }) (v := ?_) rfl (by kernel_rfl) (by kernel_rfl) (by kernel_rfl) (by assumption) ?_ ?_; rotate_left; focus (refine .inl ⟨by kernel_rfl, ?_⟩; intro w hSw; (try dsimp only at hSw); go_simp; (try with_reducible rfl)); (try simp only [Act.put, List.setIfInBounds_toArray, List.set_cons_zero, List.set_cons_succ]))
              (try (dsimp only; simp only [Act.put, List.setIfInBounds_toArray, List.set_cons_zero, List.set_cons_succ]))
              (refine heldTake (i := 34) (oi := { dst := some 172, op := Op.fieldAddr 27 (Operand.tmp 14) 1, type := 0, pos := "law.go:77", after := #[{ on := 33, ground := Ground.guard }], guard := some (33, false) }) (v := ?_) rfl (by kernel_rfl) (by kernel_rfl) (by kernel_rfl) (by assumption) ?_ ?_; rotate_left; focus (refine .inl ⟨by kernel_rfl, ?_⟩; intro w hSw; (try dsimp only at hSw); go_simp; (try with_reducible rfl)); (try simp only [Act.put, List.setIfInBounds_toArray, List.set_cons_zero, List.set_cons_succ]))
              (try (dsimp only; simp only [Act.put, List.setIfInBounds_toArray, List.set_cons_zero, List.set_cons_succ]))
              (refine heldTake (i := 35) (oi := { dst := some 173, op := Op.load 9 (Operand.tmp 172), type := 9, pos := "law.go:77", after := #[{ on := 34, ground := Ground.data }, { on := 33, ground := Ground.guard }], guard := some (33, false) }) (v := ?_) rfl (by kernel_rfl) (by kernel_rfl) (by kernel_rfl) (by assumption) ?_ ?_; rotate_left; focus (refine .inl ⟨by kernel_rfl, ?_⟩; intro w hSw; (try dsimp only at hSw); go_simp; (try with_reducible rfl)); (try simp only [Act.put, List.setIfInBounds_toArray, List.set_cons_zero, List.set_cons_succ]))
              (try (dsimp only; simp only [Act.put, List.setIfInBounds_toArray, List.set_cons_zero, List.set_cons_succ]))
              (refine heldTake (i := 36) (oi := { dst := some 174, op := Op.move (Operand.tmp 7), type := 24, pos := "law.go:77", after := #[{ on := 33, ground := Ground.guard }], guard := some (33, false) }) (v := ?_) rfl (by kernel_rfl) (by kernel_rfl) (by kernel_rfl) (by assumption) ?_ ?_; rotate_left; focus (refine .inl ⟨by kernel_rfl, ?_⟩; intro w hSw; (try dsimp only at hSw); go_simp; (try with_reducible rfl)); (try simp only [Act.put, List.setIfInBounds_toArray, List.set_cons_zero, List.set_cons_succ]))
              (try (dsimp only; simp only [Act.put, List.setIfInBounds_toArray, List.set_cons_zero, List.set_cons_succ]))
              (refine heldTake (i := 37) (oi := { dst := some 175, op := Op.move (Operand.tmp 10), type := 3, pos := "law.go:77", after := #[{ on := 33, ground := Ground.guard }], guard := some (33, false) }) (v := ?_) rfl (by kernel_rfl) (by kernel_rfl) (by kernel_rfl) (by assumption) ?_ ?_; rotate_left; focus (refine .inl ⟨by kernel_rfl, ?_⟩; intro w hSw; (try dsimp only at hSw); go_simp; (try with_reducible rfl)); (try simp only [Act.put, List.setIfInBounds_toArray, List.set_cons_zero, List.set_cons_succ]))
              (try (dsimp only; simp only [Act.put, List.setIfInBounds_toArray, List.set_cons_zero, List.set_cons_succ]))
              (refine heldTake (i := 38) (oi := { dst := some 176, op := Op.indexAddr 24 (Operand.tmp 174) (Operand.tmp 175), type := 0, pos := "law.go:77", after := #[{ on := 36, ground := Ground.data }, { on := 37, ground := Ground.data }, { on := 33, ground := Ground.guard }], guard := some (33, false) }) (v := ?_) rfl (by kernel_rfl) (by kernel_rfl) (by kernel_rfl) (by assumption) ?_ ?_; rotate_left; focus (refine .inl ⟨by kernel_rfl, ?_⟩; intro w hSw; (try dsimp only at hSw); go_simp; (try with_reducible rfl)); (try simp only [Act.put, List.setIfInBounds_toArray, List.set_cons_zero, List.set_cons_succ]))
              (try (dsimp only; simp only [Act.put, List.setIfInBounds_toArray, List.set_cons_zero, List.set_cons_succ]))
              (refine heldTake (i := 39) (oi := { dst := some 177, op := Op.fieldAddr 29 (Operand.tmp 176) 1, type := 0, pos := "law.go:77", after := #[{ on := 38, ground := Ground.data }, { on := 33, ground := Ground.guard }], guard := some (33, false) }) (v := ?_) rfl (by kernel_rfl) (by kernel_rfl) (by kernel_rfl) (by assumption) ?_ ?_; rotate_left; focus (refine .inl ⟨by kernel_rfl, ?_⟩; intro w hSw; (try dsimp only at hSw); go_simp; (try with_reducible rfl)); (try simp only [Act.put, List.setIfInBounds_toArray, List.set_cons_zero, List.set_cons_succ]))
              (try (dsimp only; simp only [Act.put, List.setIfInBounds_toArray, List.set_cons_zero, List.set_cons_succ]))
              (refine heldTake (i := 40) (oi := { dst := some 178, op := Op.load 9 (Operand.tmp 177), type := 9, pos := "law.go:77", after := #[{ on := 39, ground := Ground.data }, { on := 33, ground := Ground.guard }], guard := some (33, false) }) (v := ?_) rfl (by kernel_rfl) (by kernel_rfl) (by kernel_rfl) (by assumption) ?_ ?_; rotate_left; focus (refine .inl ⟨by kernel_rfl, ?_⟩; intro w hSw; (try dsimp only at hSw); go_simp; (try with_reducible rfl)); (try simp only [Act.put, List.setIfInBounds_toArray, List.set_cons_zero, List.set_cons_succ]))
              (try (dsimp only; simp only [Act.put, List.setIfInBounds_toArray, List.set_cons_zero, List.set_cons_succ]))
              (refine heldTake (i := 41) (oi := { dst := some 179, op := Op.binOp BinOp.neq 9 (Operand.tmp 173) (Operand.tmp 178) 9, type := 4, pos := "law.go:77", after := #[{ on := 35, ground := Ground.data }, { on := 40, ground := Ground.data }, { on := 33, ground := Ground.guard }], guard := some (33, false) }) (v := ?_) rfl (by kernel_rfl) (by kernel_rfl) (by kernel_rfl) (by assumption) ?_ ?_; rotate_left; focus (refine .inl ⟨by kernel_rfl, ?_⟩; intro w hSw; (try dsimp only at hSw); go_simp; (try with_reducible rfl)); (try simp only [Act.put, List.setIfInBounds_toArray, List.set_cons_zero, List.set_cons_succ]))
              (try (dsimp only; simp only [Act.put, List.setIfInBounds_toArray, List.set_cons_zero, List.set_cons_succ]))
              (refine heldTake (i := 42) (oi := { dst := some 180, op := Op.pick (Operand.tmp 171) (Operand.const (Value.bool true)) (Operand.tmp 179), type := 4, pos := "law.go:77", after := #[{ on := 33, ground := Ground.data }, { on := 41, ground := Ground.data }, { on := 13, ground := Ground.guard }], guard := some (13, true) }) (v := ?_) rfl (by kernel_rfl) (by kernel_rfl) (by kernel_rfl) (by assumption) ?_ ?_; rotate_left; focus (refine .inl ⟨by kernel_rfl, ?_⟩; intro w hSw; (try dsimp only at hSw); go_simp; (try with_reducible rfl)); (try simp only [Act.put, List.setIfInBounds_toArray, List.set_cons_zero, List.set_cons_succ]))
              (try (dsimp only; simp only [Act.put, List.setIfInBounds_toArray, List.set_cons_zero, List.set_cons_succ]))
              (refine heldTake (i := 43) (oi := { dst := some 181, op := Op.pick (Operand.tmp 151) (Operand.tmp 180) (Operand.const (Value.bool false)), type := 4, pos := "law.go:77", after := #[{ on := 13, ground := Ground.data }, { on := 42, ground := Ground.data }, { on := 11, ground := Ground.guard }], guard := some (11, false) }) (v := ?_) rfl (by kernel_rfl) (by kernel_rfl) (by kernel_rfl) (by assumption) ?_ ?_; rotate_left; focus (refine .inl ⟨by kernel_rfl, ?_⟩; intro w hSw; (try dsimp only at hSw); go_simp; (try with_reducible rfl)); (try simp only [Act.put, List.setIfInBounds_toArray, List.set_cons_zero, List.set_cons_succ]))
              (try (dsimp only; simp only [Act.put, List.setIfInBounds_toArray, List.set_cons_zero, List.set_cons_succ]))
              (refine heldTake (i := 44) (oi := { dst := some 182, op := Op.pick (Operand.tmp 149) (Operand.const (Value.bool true)) (Operand.tmp 181), type := 4, pos := "law.go:77", after := #[{ on := 11, ground := Ground.data }, { on := 43, ground := Ground.data }], guard := none }) (v := ?_) rfl (by kernel_rfl) (by kernel_rfl) (by kernel_rfl) (by assumption) ?_ ?_; rotate_left; focus (refine .inl ⟨by kernel_rfl, ?_⟩; intro w hSw; (try dsimp only at hSw); go_simp; (try with_reducible rfl)); (try simp only [Act.put, List.setIfInBounds_toArray, List.set_cons_zero, List.set_cons_succ]))
              (try (dsimp only; simp only [Act.put, List.setIfInBounds_toArray, List.set_cons_zero, List.set_cons_succ]))
              refine wpAnyH_done (by kernel_rfl) ?_ _
              refine NoPanic.normal ?_
              have hLast := hHeld3
              clear hHeld3
              go_wp2
              go_meet
              exact ⟨rfl, hLast.2.2.2.2.2.2.2.2⟩
        case rest =>
          ·
              obtain ⟨rfl, hb24⟩ := hcut
              have HB9 := Lib.hid (HB.out.trans ((HBW.out.trans (hb24.mono HBW.out.size)).mono HB.out.size))
              have HP9 := Lib.hid (HPJ.out.below hb24)
              clear hb24 HPJ HBW
              have hsp := split_any (cap := cj) HP9.out.lies HJH.out.2 HJH.out.1 hjl (HT.out.below HB9.out)
              cases rf with
              | false =>
                obtain ⟨c5, a5, hsr⟩ : ∃ c a, splitR J = .err c a := by
                  rcases HSJ.out with ⟨h, _⟩ | ⟨_, h⟩
                  · cases h
                  · exact h
                unfold SplitP at hsp
                rw [hsr] at hsp
                have HSp := Lib.hid hsp
                clear hsp hsr
                go_wp2_with (go_at_call 17; go_must ((with_reducible refine HSp.out.mono ?_); rintro e w5 ⟨⟨hc0, rfl⟩, hb5⟩; have dc : (c5 != 0) = true := (by simpa using hc0); have HB5 := Lib.hid (HB9.out.trans (hb5.mono HB9.out.size)); clear hb5 hc0))
                go_ret
                exact ⟨rfl, HB5.out.alloc HB5.out.size _⟩
              | true =>
                obtain ⟨xs, k5, hsr, hal⟩ : ∃ xs k, splitR J = .ok xs k ∧ Alike xs l := by
                  rcases HSJ.out with ⟨_, h⟩ | ⟨h, _⟩
                  · exact h
                  · cases h
                unfold SplitP at hsp
                rw [hsr] at hsp
                have HSp := Lib.hid hsp
                have HAL := Lib.hid hal
                clear hsp hsr hal
                go_wp2_with (go_at_call 17; go_must ((with_reducible refine HSp.out.mono ?_); rintro e w5 ⟨⟨A2, c2, rows, rfl, hm, h1, h2⟩, hb5⟩; have hrl : rows.length = k := (by have q := HAL.out.1; rw [← hm, List.length_map, HLK.out] at q; exact q); have HB5 := Lib.hid (HB9.out.trans (hb5.mono HB9.out.size)); have HBk := Lib.hid (RowS.secs h1 h2); have HM := Lib.hid hm; clear hb5 h1 h2 hm))
                have HBF := Lib.hid (HB5.out.alloc HB5.out.size (.cells #[.int .i64 0, .int .i64 0] 39))
                have HBG := Lib.hid (HBk.out.below (below_box w5 (.cells #[.int .i64 0, .int .i64 0] 39)))
                generalize w5.alloc (.cells #[.int .i64 0, .int .i64 0] 39) = W6 at *
                go_loopw [18] (fun i W => ∃ m : Nat, m ≤ k ∧ i = .int .i64 m ∧ Below W6.heap.size W6 W) (fun i _ => k - (intOf i).toNat)
                case atStart => exact ⟨0, Nat.zero_le _, rfl, Below.refl _ _⟩
                case round =>
                  obtain ⟨m, hmk, rfl, hbW⟩ := hrel
                  have HBW6 := Lib.hid hbW
                  by_cases hlt2 : m < k
                  · obtain ⟨x2, hx2⟩ : ∃ x, l[m]? = some x := ⟨_, List.getElem?_eq_getElem (by rw [HLK.out]; exact hlt2)⟩
                    obtain ⟨y2, hy2, e1, e2, e3⟩ := HAL.out.2 m x2 hx2
                    rw [← HM.out] at hy2
                    obtain ⟨b3, off3, B3, cc3, rfl, hbl3, ⟨k0, k1, k2, k3⟩, hpc3⟩ := HL.out m x2 hx2
                    obtain ⟨b4, off4, B4, cc4, rfl, hbl4, ⟨j0, j1, j2, j3⟩, hpc4⟩ := HBG.out m y2 hy2
                    have hbw := HBF.out.trans (hbW.mono HBF.out.size)
                    have m0 := (hbw.cell (p := ⟨b3, off3 + m * 4, none⟩) hbl3).trans k0
                    have m1 := (hbw.cell (p := ⟨b3, off3 + m * 4 + 1, none⟩) hbl3).trans k1
                    have m2 := (hbw.cell (p := ⟨b3, off3 + m * 4 + 2, none⟩) hbl3).trans k2
                    have p0 := (hbW.cell (p := ⟨b4, off4 + m * 4, none⟩) hbl4).trans j0
                    have p1 := (hbW.cell (p := ⟨b4, off4 + m * 4 + 1, none⟩) hbl4).trans j1
                    have p2 := (hbW.cell (p := ⟨b4, off4 + m * 4 + 2, none⟩) hbl4).trans j2
                    have HQ3 := Lib.hid (hpc3.below hbw)
                    have HQ4 := Lib.hid (hpc4.below hbW)
                    rw [e1] at p0
                    rw [e3] at p2 HQ4
                    have hs3 : ∀ q, (convert 25 9 (.slice B3 x2.body.length cc3)).run Tryd.prog (wr.drewN q) = .ok (.string (S x2.body)) (wr.drewN q) := fun q => str_any (show Lies (wr.drewN q) _ B3 (cells (nums x2.body)) from HQ3.out.lies) cc3 9 Tryd.underlying9
                    have hs4 : ∀ q, (convert 25 9 (.slice B4 x2.body.length cc4)).run Tryd.prog (wr.drewN q) = .ok (.string (S x2.body)) (wr.drewN q) := fun q => str_any (show Lies (wr.drewN q) _ B4 (cells (nums x2.body)) from HQ4.out.lies) cc4 9 Tryd.underlying9
                    have d1 : ((x2.id.toNat : Int) != x2.id.toNat) = false := by simp
                    have d3 : ((S x2.body).toList != (S x2.body).toList) = false := by simp
                    clear k0 k1 k2 k3 j0 j1 j2 j3 hpc3 hpc4 hbw hbW hx2 hy2 e1 e3
                    by_cases hi0 : x2.id.toNat = 0
                    · have d2 : ((x2.id.toNat : Int) == 0) = true := by simp; omega
                      have d4 : ((S x2.name).toList != (S x2.name).toList) = false := by simp
                      rw [e2 hi0] at p1
                      clear e2 hi0
                      go_upto_region 34 with fail
                      go_quiet (fail)
                      go_wp2
                      go_roundw
                      case rel => exact ⟨m + 1, by omega, by go_num, below_drewN HBW6.out _⟩
                      case measure => simp [intOf]; omega
                    · have d2 : ((x2.id.toNat : Int) == 0) = false := by simp; omega
                      clear e2 hi0
                      go_upto_region 34 with fail
                      go_quiet (fail)
                      go_wp2
                      go_roundw
                      case rel => exact ⟨m + 1, by omega, by go_num, below_drewN HBW6.out _⟩
                      case measure => simp [intOf]; omega
                  · obtain rfl : m = k := by omega
                    go_wp2
                    go_ret
                    exact ⟨rfl, HBF.out.trans (HBW6.out.mono HBF.out.size)⟩
  · have d30 : decide ((30 : Int) < n) = true := by simp; omega
    have d30' : (30 : Int) < n := by omega
    go_enter Tryd.func3, Tryd.ntmps3
    go_wp2_with (go_at_call 10; go_must ((with_reducible refine HA.out.mono ?_); rintro e w1 ⟨rfl, hb⟩; have HB1 := Lib.hid hb; clear hb))
    go_ret
    exact ⟨rfl, HB1.out⟩
end Go.Proofs.YtanddfkhokcepaaDoor
