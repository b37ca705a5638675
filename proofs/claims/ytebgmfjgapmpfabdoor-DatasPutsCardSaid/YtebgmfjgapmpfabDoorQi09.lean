/- consts.Right and the reference's Right. (By gen/genCRight.py.) -/
import Derived.Test.YtebgmfjgapmpfabDoorQi08
import Derived.Test.YtebgmfjgapmpfabDoorQi07
namespace Go.Proofs.YtebgmfjgapmpfabDoor
open Go.RowKit
set_option linter.unusedVariables false
set_option maxRecDepth 100000

/-- May an instruction be a constant expression? -/
def IsC (n : Nat) : Prop := n = 35 ∨ n = 65 ∨ n = 66
instance (n : Nat) : Decidable (IsC n) := by unfold IsC; infer_instance
def crightZ (i : I) : Int := if rightZ i = 0 then (if IsC i.n then 0 else 12) else rightZ i
theorem cr_no {i : I} (h : ¬ rightZ i = 0) : crightZ i = rightZ i := by unfold crightZ; rw [if_neg h]
theorem cr_yes {i : I} (h : rightZ i = 0) (h2 : IsC i.n) : crightZ i = 0 := by unfold crightZ; rw [if_pos h, if_pos h2]
theorem cr_else {i : I} (h : rightZ i = 0) (h2 : ¬ IsC i.n) : crightZ i = 12 := by unfold crightZ; rw [if_pos h, if_neg h2]
theorem cr_zero {i : I} (h : crightZ i = 0) : rightZ i = 0 ∧ IsC i.n := by
  by_cases h1 : rightZ i = 0
  · by_cases h2 : IsC i.n
    · exact ⟨h1, h2⟩
    · rw [cr_else h1 h2] at h; omega
  · rw [cr_no h1] at h; exact absurd h h1

set_option maxHeartbeats 800000 in
theorem cright_any (i : I) (A : Option Addr) (c : Nat) (w : World) (h : i.Ok) (hT : Tabs w) (hl : (i.l.length : Int) ≤ 9223372036854775807) :
    Calls Tryd.prog 26 #[insV i A c] w (IntPost (crightZ i) w) := by
  have HB := Lib.hid (BoxI.start w i A c)
  have HR := Lib.hid (right_any i A c (w.alloc (.cells (insC i A c) 37)) h (hT.below HB.out.2) hl)
  by_cases h0 : rightZ i = 0
  · rw [h0] at HR
    have HE1 := Lib.hid (fun h2 => cr_yes (i := i) h0 h2)
    have HE2 := Lib.hid (fun h2 => cr_else (i := i) h0 h2)
    clear h hT hl h0
    by_cases h35 : i.n = 35
    · have d35 : ((i.op.toNat : Int) == 35) = true := beq_iff_eq.2 (by have : i.op.toNat = 35 := h35; omega)
      have HE := Lib.hid (HE1.out (by unfold IsC; omega))
      clear HE1 HE2 h35
      go_enter Tryd.func26, Tryd.ntmps26
      go_wp2_with (go_at_call 47; go_must ((with_reducible refine HR.out.mono ?_); rintro e w1 ⟨rfl, hb⟩; have HB1 := Lib.hid (HB.out.on hb); have c0 := HB1.out.c0; clear hb))
      go_ret
      exact ret_below HE.out.symm HB1.out.2
    have d35 : ((i.op.toNat : Int) == 35) = false := by have : ¬ i.op.toNat = 35 := h35; simp; omega
    by_cases h65 : i.n = 65
    · have d65 : ((i.op.toNat : Int) == 65) = true := beq_iff_eq.2 (by have : i.op.toNat = 65 := h65; omega)
      have HE := Lib.hid (HE1.out (by unfold IsC; omega))
      clear HE1 HE2 h35 h65
      go_enter Tryd.func26, Tryd.ntmps26
      go_wp2_with (go_at_call 47; go_must ((with_reducible refine HR.out.mono ?_); rintro e w1 ⟨rfl, hb⟩; have HB1 := Lib.hid (HB.out.on hb); have c0 := HB1.out.c0; clear hb))
      go_ret
      exact ret_below HE.out.symm HB1.out.2
    have d65 : ((i.op.toNat : Int) == 65) = false := by have : ¬ i.op.toNat = 65 := h65; simp; omega
    by_cases h66 : i.n = 66
    · have d66 : ((i.op.toNat : Int) == 66) = true := beq_iff_eq.2 (by have : i.op.toNat = 66 := h66; omega)
      have HE := Lib.hid (HE1.out (by unfold IsC; omega))
      clear HE1 HE2 h35 h65 h66
      go_enter Tryd.func26, Tryd.ntmps26
      go_wp2_with (go_at_call 47; go_must ((with_reducible refine HR.out.mono ?_); rintro e w1 ⟨rfl, hb⟩; have HB1 := Lib.hid (HB.out.on hb); have c0 := HB1.out.c0; clear hb))
      go_ret
      exact ret_below HE.out.symm HB1.out.2
    have d66 : ((i.op.toNat : Int) == 66) = false := by have : ¬ i.op.toNat = 66 := h66; simp; omega
    have HE := Lib.hid (HE2.out (by unfold IsC; omega))
    clear HE1 HE2 h35 h65 h66
    go_enter Tryd.func26, Tryd.ntmps26
    go_wp2_with (go_at_call 47; go_must ((with_reducible refine HR.out.mono ?_); rintro e w1 ⟨rfl, hb⟩; have HB1 := Lib.hid (HB.out.on hb); have c0 := HB1.out.c0; clear hb))
    go_ret
    exact ret_below HE.out.symm HB1.out.2
  · have HE := Lib.hid (cr_no h0)
    obtain ⟨z, hz⟩ : ∃ z, z = rightZ i := ⟨_, rfl⟩
    rw [← hz] at HR HE h0
    have dz : (z != 0) = true := by simpa using h0
    clear h hT hl h0 hz
    go_enter Tryd.func26, Tryd.ntmps26
    go_wp2_with (go_at_call 47; go_must ((with_reducible refine HR.out.mono ?_); rintro e w1 ⟨rfl, hb⟩; have HB1 := Lib.hid (HB.out.on hb); have c0 := HB1.out.c0; clear hb))
    go_ret
    exact ret_below HE.out.symm HB1.out.2
set_option maxHeartbeats 800000 in
theorem rcright_any (i : I) (A : Option Addr) (c : Nat) (w : World) (h : i.Ok) (hl : (i.l.length : Int) ≤ 9223372036854775807) :
    Calls Tryd.prog 23 #[insV i A c] w (IntPost (crightZ i) w) := by
  have HB := Lib.hid (BoxI.start w i A c)
  have HR := Lib.hid (refRight_any i A c (w.alloc (.cells (insC i A c) 37)) h hl)
  by_cases h0 : rightZ i = 0
  · rw [h0] at HR
    have HE1 := Lib.hid (fun h2 => cr_yes (i := i) h0 h2)
    have HE2 := Lib.hid (fun h2 => cr_else (i := i) h0 h2)
    clear h hl h0
    by_cases h35 : i.n = 35
    · have d35 : ((i.op.toNat : Int) == 35) = true := beq_iff_eq.2 (by have : i.op.toNat = 35 := h35; omega)
      have HE := Lib.hid (HE1.out (by unfold IsC; omega))
      clear HE1 HE2 h35
      go_enter Tryd.func23, Tryd.ntmps23
      go_wp2_with (go_at_call 43; go_must ((with_reducible refine HR.out.mono ?_); rintro e w1 ⟨rfl, hb⟩; have HB1 := Lib.hid (HB.out.on hb); have c0 := HB1.out.c0; clear hb))
      go_ret
      exact ret_below HE.out.symm HB1.out.2
    have d35 : ((i.op.toNat : Int) == 35) = false := by have : ¬ i.op.toNat = 35 := h35; simp; omega
    by_cases h65 : i.n = 65
    · have d65 : ((i.op.toNat : Int) == 65) = true := beq_iff_eq.2 (by have : i.op.toNat = 65 := h65; omega)
      have HE := Lib.hid (HE1.out (by unfold IsC; omega))
      clear HE1 HE2 h35 h65
      go_enter Tryd.func23, Tryd.ntmps23
      go_wp2_with (go_at_call 43; go_must ((with_reducible refine HR.out.mono ?_); rintro e w1 ⟨rfl, hb⟩; have HB1 := Lib.hid (HB.out.on hb); have c0 := HB1.out.c0; clear hb))
      go_ret
      exact ret_below HE.out.symm HB1.out.2
    have d65 : ((i.op.toNat : Int) == 65) = false := by have : ¬ i.op.toNat = 65 := h65; simp; omega
    by_cases h66 : i.n = 66
    · have d66 : ((i.op.toNat : Int) == 66) = true := beq_iff_eq.2 (by have : i.op.toNat = 66 := h66; omega)
      have HE := Lib.hid (HE1.out (by unfold IsC; omega))
      clear HE1 HE2 h35 h65 h66
      go_enter Tryd.func23, Tryd.ntmps23
      go_wp2_with (go_at_call 43; go_must ((with_reducible refine HR.out.mono ?_); rintro e w1 ⟨rfl, hb⟩; have HB1 := Lib.hid (HB.out.on hb); have c0 := HB1.out.c0; clear hb))
      go_ret
      exact ret_below HE.out.symm HB1.out.2
    have d66 : ((i.op.toNat : Int) == 66) = false := by have : ¬ i.op.toNat = 66 := h66; simp; omega
    have HE := Lib.hid (HE2.out (by unfold IsC; omega))
    clear HE1 HE2 h35 h65 h66
    go_enter Tryd.func23, Tryd.ntmps23
    go_wp2_with (go_at_call 43; go_must ((with_reducible refine HR.out.mono ?_); rintro e w1 ⟨rfl, hb⟩; have HB1 := Lib.hid (HB.out.on hb); have c0 := HB1.out.c0; clear hb))
    go_ret
    exact ret_below HE.out.symm HB1.out.2
  · have HE := Lib.hid (cr_no h0)
    obtain ⟨z, hz⟩ : ∃ z, z = rightZ i := ⟨_, rfl⟩
    rw [← hz] at HR HE h0
    have dz : (z != 0) = true := by simpa using h0
    clear h hl h0 hz
    go_enter Tryd.func23, Tryd.ntmps23
    go_wp2_with (go_at_call 43; go_must ((with_reducible refine HR.out.mono ?_); rintro e w1 ⟨rfl, hb⟩; have HB1 := Lib.hid (HB.out.on hb); have c0 := HB1.out.c0; clear hb))
    go_ret
    exact ret_below HE.out.symm HB1.out.2
end Go.Proofs.YtebgmfjgapmpfabDoor

/- What an instruction and a constant expression read of any bytes are, as plain functions; wire.Nought of any bytes. -/
namespace Go.Proofs.YtebgmfjgapmpfabDoor
open Go.RowKit
set_option linter.unusedVariables false
set_option maxRecDepth 100000

theorem indexR_ok {l : List UInt8} {k : Nat} {v : Int} {k' : Nat} (h : indexR l k = .ok v k') : k' ≤ l.length ∧ 0 ≤ v ∧ v ≤ 4294967295 := by
  obtain ⟨h1, h2, h3⟩ := uintR_ok (show uintR l k 32 = .ok v k' from h)
  have h4 : v < 4294967296 := h3
  exact ⟨h1, h2, by omega⟩
theorem idxK_ok {l : List UInt8} : ∀ (n q : Nat) (acc ls : List Int) (k' : Nat), q ≤ l.length → (∀ c ∈ acc, 0 ≤ c ∧ c ≤ 4294967295) → idxK l n q acc = .ok ls k' → k' ≤ l.length ∧ ls.length = acc.length + n ∧ ∀ c ∈ ls, 0 ≤ c ∧ c ≤ 4294967295
  | 0, q, acc, ls, k', hq, ha, h => by
    injection h with h1 h2
    subst h1; subst h2
    exact ⟨hq, rfl, ha⟩
  | n + 1, q, acc, ls, k', hq, ha, h => by
    unfold idxK at h
    cases hr : indexR l q with
    | err c a => rw [hr, Res.bind_err] at h; cases h
    | ok x q2 =>
      rw [hr, Res.bind_ok] at h
      obtain ⟨h1, h2, h3⟩ := indexR_ok hr
      have := idxK_ok n q2 (acc ++ [x]) ls k' h1 (by
        intro c hc
        rcases List.mem_append.1 hc with hc | hc
        · exact ha c hc
        · rw [List.mem_singleton] at hc; subst hc; exact ⟨h2, h3⟩) h
      refine ⟨this.1, ?_, this.2.2⟩
      rw [this.2.1, List.length_append, List.length_singleton]
      omega
/-- What stands behind an opcode. -/
noncomputable def bodyR (m : Nat) (c : UInt8) (l : List UInt8) (k : Nat) : Res I :=
  if m = 0 then .ok ⟨c, 0, 0, []⟩ k
  else if m = 1 then (blockR l k).bind fun a k1 => .ok ⟨c, a, 0, []⟩ k1
  else if m = 3 then (labelsR l k).bind fun ls k1 => (indexR l k1).bind fun a k2 => .ok ⟨c, a, 0, ls⟩ k2
  else if m = 5 then (indexR l k).bind fun a k1 => (noughtR l k1).bind fun _ k2 => .ok ⟨c, a, 0, []⟩ k2
  else if m = 8 then (indexR l k).bind fun a k1 => (indexR l k1).bind fun b k2 => .ok ⟨c, a, b, []⟩ k2
  else if m = 9 then (noughtR l k).bind fun _ k1 => .ok ⟨c, 0, 0, []⟩ k1
  else if m = 10 then (intR l k 32).bind fun v k1 => .ok ⟨c, v % 4294967296, 0, []⟩ k1
  else if m = 11 then (intR l k 64).bind fun v k1 => .ok ⟨c, v % 18446744073709551616, 0, []⟩ k1
  else (indexR l k).bind fun a k1 => .ok ⟨c, a, 0, []⟩ k1
/-- An instruction. -/
noncomputable def getR (l : List UInt8) (k : Nat) : Res I := (opR l k).bind fun c k1 => bodyR (immR c.toNat) c l k1
/-- A constant expression. -/
noncomputable def readR (l : List UInt8) (k : Nat) : Res I :=
  (getR l k).bind fun i k1 => if crightZ i = 0 then (byteR l k1).bind fun c k2 => if c = 11 then .ok i k2 else .err 12 k1 else .err (crightZ i) k

theorem byteR_ok {l : List UInt8} {k : Nat} {c : UInt8} {k' : Nat} (h : byteR l k = .ok c k') : k' ≤ l.length := by
  unfold byteR at h
  cases hc : l[k]? with
  | none => rw [hc] at h; cases h
  | some d =>
    rw [hc] at h
    injection h with h1 h2
    have := (List.getElem?_eq_some_iff.1 hc).1
    omega
theorem opR_ok {l : List UInt8} {k : Nat} {c : UInt8} {k' : Nat} (h : opR l k = .ok c k') : k' ≤ l.length ∧ checkR c.toNat = 0 := by
  unfold opR at h
  cases hr : byteR l k with
  | err e a => rw [hr, Res.bind_err] at h; cases h
  | ok d q =>
    rw [hr, Res.bind_ok] at h
    by_cases hc : checkR d.toNat = 0
    · rw [if_pos hc] at h
      injection h with h1 h2
      subst h1; subst h2
      exact ⟨byteR_ok hr, hc⟩
    · rw [if_neg hc] at h; cases h
theorem blockR_ok {l : List UInt8} {k : Nat} {a : Int} {k' : Nat} (h : blockR l k = .ok a k') : k' ≤ l.length ∧ 0 ≤ a ∧ a ≤ 255 := by
  unfold blockR at h
  cases hr : byteR l k with
  | err e a => rw [hr, Res.bind_err] at h; cases h
  | ok d q =>
    rw [hr, Res.bind_ok] at h
    by_cases hc : blockZ d.toNat = 0
    · rw [if_pos hc] at h
      injection h with h1 h2
      have := d.toNat_lt
      have := byteR_ok hr
      omega
    · rw [if_neg hc] at h; cases h
theorem noughtR_ok {l : List UInt8} {k : Nat} {u : Unit} {k' : Nat} (h : noughtR l k = .ok u k') : k' ≤ l.length := by
  unfold noughtR at h
  cases hr : byteR l k with
  | err e a => rw [hr, Res.bind_err] at h; cases h
  | ok d q =>
    rw [hr, Res.bind_ok] at h
    by_cases hc : d = 0
    · rw [if_pos hc] at h
      injection h with h1 h2
      have := byteR_ok hr
      omega
    · rw [if_neg hc] at h; cases h
theorem countR_le {l : List UInt8} {k : Nat} {v : Int} {k' : Nat} (h : countR l k = .ok v k') : k' ≤ l.length := by
  unfold countR atMostR at h
  cases hr : indexR l k with
  | err e a => rw [hr, Res.bind_err] at h; cases h
  | ok u q =>
    rw [hr, Res.bind_ok] at h
    by_cases hm : u ≤ 10000
    · rw [if_pos hm] at h
      injection h with h1 h2
      have := (indexR_ok hr).1
      omega
    · rw [if_neg hm] at h; cases h
theorem labelsR_ok {l : List UInt8} {k : Nat} {ls : List Int} {k' : Nat} (h : labelsR l k = .ok ls k') : k' ≤ l.length ∧ ls.length ≤ 10000 ∧ ∀ c ∈ ls, 0 ≤ c ∧ c ≤ 4294967295 := by
  unfold labelsR at h
  cases hr : countR l k with
  | err e a => rw [hr, Res.bind_err] at h; cases h
  | ok v q =>
    rw [hr, Res.bind_ok] at h
    obtain ⟨v0, v1⟩ := countR_ok hr
    obtain ⟨h1, h2, h3⟩ := idxK_ok _ _ _ _ _ (countR_le hr) (by simp) h
    simp at h2
    exact ⟨h1, by omega, h3⟩
/-- What is had of an instruction that was read. -/
def GOk (l : List UInt8) (i : I) (k' : Nat) : Prop := i.Ok ∧ i.l.length ≤ 10000 ∧ k' ≤ l.length
theorem gok_no {l : List UInt8} {c : UInt8} {a b : Int} {k : Nat} (ha : 0 ≤ a ∧ a ≤ 18446744073709551615) (hb : 0 ≤ b ∧ b ≤ 18446744073709551615) (hk : k ≤ l.length) : GOk l ⟨c, a, b, []⟩ k :=
  ⟨⟨ha.1, ha.2, hb.1, hb.2, fun c h => by cases h⟩, by simp, hk⟩
theorem bodyR_ok {l : List UInt8} {m : Nat} {c : UInt8} {k : Nat} {i : I} {k' : Nat} (hk : k ≤ l.length) (h : bodyR m c l k = .ok i k') : GOk l i k' := by
  unfold bodyR at h
  by_cases m0 : m = 0
  · rw [if_pos m0] at h
    injection h with h1 h2
    subst h1; subst h2
    exact gok_no (by omega) (by omega) hk
  rw [if_neg m0] at h
  by_cases m1 : m = 1
  · rw [if_pos m1] at h
    cases hr : blockR l k with
    | err e a => rw [hr, Res.bind_err] at h; cases h
    | ok a q =>
      rw [hr, Res.bind_ok] at h
      injection h with h1 h2
      subst h1; subst h2
      obtain ⟨g1, g2, g3⟩ := blockR_ok hr
      exact gok_no (by omega) (by omega) g1
  rw [if_neg m1] at h
  by_cases m3 : m = 3
  · rw [if_pos m3] at h
    cases hr : labelsR l k with
    | err e a => rw [hr, Res.bind_err] at h; cases h
    | ok ls q =>
      rw [hr, Res.bind_ok] at h
      cases hr2 : indexR l q with
      | err e a => rw [hr2, Res.bind_err] at h; cases h
      | ok a q2 =>
        rw [hr2, Res.bind_ok] at h
        injection h with h1 h2
        subst h1; subst h2
        obtain ⟨g1, g2, g3⟩ := labelsR_ok hr
        obtain ⟨f1, f2, f3⟩ := indexR_ok hr2
        exact ⟨⟨f2, by show a ≤ _; omega, by show (0 : Int) ≤ 0; omega, by show (0 : Int) ≤ _; omega, g3⟩, g2, f1⟩
  rw [if_neg m3] at h
  by_cases m5 : m = 5
  · rw [if_pos m5] at h
    cases hr : indexR l k with
    | err e a => rw [hr, Res.bind_err] at h; cases h
    | ok a q =>
      rw [hr, Res.bind_ok] at h
      cases hr2 : noughtR l q with
      | err e a => rw [hr2, Res.bind_err] at h; cases h
      | ok u q2 =>
        rw [hr2, Res.bind_ok] at h
        injection h with h1 h2
        subst h1; subst h2
        obtain ⟨f1, f2, f3⟩ := indexR_ok hr
        exact gok_no (by omega) (by omega) (noughtR_ok hr2)
  rw [if_neg m5] at h
  by_cases m8 : m = 8
  · rw [if_pos m8] at h
    cases hr : indexR l k with
    | err e a => rw [hr, Res.bind_err] at h; cases h
    | ok a q =>
      rw [hr, Res.bind_ok] at h
      cases hr2 : indexR l q with
      | err e a => rw [hr2, Res.bind_err] at h; cases h
      | ok b q2 =>
        rw [hr2, Res.bind_ok] at h
        injection h with h1 h2
        subst h1; subst h2
        obtain ⟨f1, f2, f3⟩ := indexR_ok hr
        obtain ⟨g1, g2, g3⟩ := indexR_ok hr2
        exact gok_no (by omega) (by omega) g1
  rw [if_neg m8] at h
  by_cases m9 : m = 9
  · rw [if_pos m9] at h
    cases hr : noughtR l k with
    | err e a => rw [hr, Res.bind_err] at h; cases h
    | ok u q =>
      rw [hr, Res.bind_ok] at h
      injection h with h1 h2
      subst h1; subst h2
      exact gok_no (by omega) (by omega) (noughtR_ok hr)
  rw [if_neg m9] at h
  by_cases m10 : m = 10
  · rw [if_pos m10] at h
    cases hr : intR l k 32 with
    | err e a => rw [hr, Res.bind_err] at h; cases h
    | ok v q =>
      rw [hr, Res.bind_ok] at h
      injection h with h1 h2
      subst h1; subst h2
      exact gok_no (by omega) (by omega) (intR_ok hr)
  rw [if_neg m10] at h
  by_cases m11 : m = 11
  · rw [if_pos m11] at h
    cases hr : intR l k 64 with
    | err e a => rw [hr, Res.bind_err] at h; cases h
    | ok v q =>
      rw [hr, Res.bind_ok] at h
      injection h with h1 h2
      subst h1; subst h2
      exact gok_no (by omega) (by omega) (intR_ok hr)
  rw [if_neg m11] at h
  cases hr : indexR l k with
  | err e a => rw [hr, Res.bind_err] at h; cases h
  | ok a q =>
    rw [hr, Res.bind_ok] at h
    injection h with h1 h2
    subst h1; subst h2
    obtain ⟨f1, f2, f3⟩ := indexR_ok hr
    exact gok_no (by omega) (by omega) f1
theorem getR_ok {l : List UInt8} {k : Nat} {i : I} {k' : Nat} (h : getR l k = .ok i k') : GOk l i k' := by
  unfold getR at h
  cases hr : opR l k with
  | err e a => rw [hr, Res.bind_err] at h; cases h
  | ok c q =>
    rw [hr, Res.bind_ok] at h
    exact bodyR_ok (opR_ok hr).1 h

theorem getNought_any {w : World} {p : Nat} {l : List UInt8} {k : Nat} (hs : Sc w p l k) :
    Calls Tryd.prog 51 #[.pointer (some ⟨p, 0, none⟩)] w (Did encU p l w (noughtR l k)) := by
  have hB := byte_any hs
  have HA := Lib.hid (at_any hs)
  unfold noughtR
  cases hr : byteR l k with
  | err c a =>
    rw [hr] at hB
    rw [Res.bind_err]
    have HB := Lib.hid hB
    clear hs hB hr
    go_enter Tryd.func51, Tryd.ntmps51
    go_wp2_with (first
      | (go_at_call 54; go_must ((with_reducible refine HA.out.mono ?_); rintro e w' ⟨rfl, rfl⟩))
      | (go_at_call 74; go_must ((with_reducible refine HB.out.mono ?_); rintro e w1 ⟨rfl, hg⟩; have HG := Lib.hid hg; clear hg)))
    exact ⟨rfl, rfl, HG.out⟩
  | ok c k' =>
    rw [hr] at hB
    rw [Res.bind_ok]
    have HB := Lib.hid hB
    clear hs hB hr
    by_cases hc : c = 0
    · subst hc
      rw [if_pos rfl]
      have d : (((0 : UInt8).toNat : Int) == 0) = true := rfl
      go_enter Tryd.func51, Tryd.ntmps51
      go_wp2_with (first
        | (go_at_call 54; go_must ((with_reducible refine HA.out.mono ?_); rintro e w' ⟨rfl, rfl⟩))
        | (go_at_call 74; go_must ((with_reducible refine HB.out.mono ?_); rintro e w1 ⟨rfl, hs, hg⟩; have HS := Lib.hid hs; have HG := Lib.hid hg; clear hs hg))
        | (go_at_call 55; go_must ((with_reducible refine (unlessT _ _ _).mono ?_); rintro e w' ⟨rfl, rfl⟩)))
      go_end0
      exact ⟨rfl, HS.out, HG.out⟩
    · rw [if_neg hc]
      have d : ((c.toNat : Int) == 0) = false := by
        have : c.toNat ≠ 0 := fun e => hc (UInt8.toNat_inj.1 (by rw [e]; rfl))
        simp; omega
      clear hc
      go_enter Tryd.func51, Tryd.ntmps51
      go_wp2_with (first
        | (go_at_call 54; go_must ((with_reducible refine HA.out.mono ?_); rintro e w' ⟨rfl, rfl⟩))
        | (go_at_call 74; go_must ((with_reducible refine HB.out.mono ?_); rintro e w1 ⟨rfl, hs, hg⟩; have HS := Lib.hid hs; have HG := Lib.hid hg; clear hs hg))
        | (go_at_call 55; go_must ((with_reducible refine (unlessF _ _ _).mono ?_); rintro e w' ⟨rfl, rfl⟩)))
      exact ⟨rfl, rfl, HG.out⟩
end Go.Proofs.YtebgmfjgapmpfabDoor

/- instr.Get of an instruction's bytes. (By gen/genGet.py.) -/
namespace Go.Proofs.YtebgmfjgapmpfabDoor
open Go.RowKit
set_option linter.unusedVariables false
set_option maxRecDepth 100000

theorem Lies.keep {W W' : World} {A : Option Addr} {vs : List Value} {q : Nat} (h : Lies W W.heap.size A vs) (hg : W.grownBy W' (some q)) (hq : ∀ a, A = some a → a.block ≠ q) : Lies W' W'.heap.size A vs := fun j v hv => by
  obtain ⟨b, off, rfl, hb, hc⟩ := h j v hv
  refine ⟨b, off, rfl, Nat.lt_of_lt_of_le hb hg.size, ?_⟩
  have hne : b ≠ q := hq _ rfl
  rw [← hc]
  unfold World.cell?
  rw [hg.block b hb (by simpa using hne)]
/-- How far Get has come: its result's block, the instruction's box, the scanner. -/
structure GSt (w : World) (p : Nat) (l : List UInt8) (H2 : Nat) (A : Option Addr) (ls : List Int) (k : Nat) (v0 v1 v2 v3 : Value) (W : World) : Prop where
  res : Whole W w.heap.size 37 #[.int .u8 0, .int .u64 0, .int .u64 0, .slice none 0 0]
  box : Whole W H2 37 #[v0, v1, v2, v3]
  sc : Sc W p l k
  gr : w.grownBy W (some p)
  hp : p < w.heap.size
  h2 : w.heap.size < H2
  tb : TbP p W
  lab : Lies W W.heap.size A (cells32 ls)
  far : ∀ a, A = some a → H2 < a.block
  ty : LabT W A ls
section
variable {w : World} {p : Nat} {l : List UInt8} {H2 : Nat} {A : Option Addr} {ls : List Int} {k k' : Nat} {v0 v1 v2 v3 : Value} {W W' : World}
theorem GSt.call (h : GSt w p l H2 A ls k v0 v1 v2 v3 W) (hs : Sc W' p l k') (hg : W.grownBy W' (some p)) : GSt w p l H2 A ls k' v0 v1 v2 v3 W' := by
  have a := h.hp
  have b := h.h2
  exact ⟨h.res.grown hg (by simp only [ne_eq, Option.some.injEq]; omega), h.box.grown hg (by simp only [ne_eq, Option.some.injEq]; omega), hs, gb_trans h.gr hg, h.hp, h.h2, h.tb.self hg, h.lab.keep hg (fun x hx => by have := h.far x hx; omega), h.far, h.ty.keep hg (fun x hx => by have := h.far x hx; simp only [ne_eq, Option.some.injEq]; omega)⟩
theorem GSt.below (h : GSt w p l H2 A ls k v0 v1 v2 v3 W) (hb : Below W.heap.size W W') : GSt w p l H2 A ls k v0 v1 v2 v3 W' :=
  h.call (h.sc.below hb) (gb_of_below _ hb)
theorem GSt.put (h : GSt w p l H2 A ls k v0 v1 v2 v3 W) (i : Nat) (x : Value) {u0 u1 u2 u3 : Value} (he : #[v0, v1, v2, v3].setIfInBounds i x = #[u0, u1, u2, u3]) : GSt w p l H2 A ls k u0 u1 u2 u3 (W.setCell ⟨H2, i, none⟩ x) := by
  have a := h.hp
  have b := h.h2
  have hg : W.grownBy (W.setCell ⟨H2, i, none⟩ x) (some H2) := gb_put (p := ⟨H2, i, none⟩) (gb_refl W _) (.inl rfl) x
  have hb := h.box.put i x
  rw [he] at hb
  exact ⟨h.res.grown hg (by simp only [ne_eq, Option.some.injEq]; omega), hb, h.sc.grown hg (by simp only [ne_eq, Option.some.injEq]; omega) (fun g e => by injection e with e; omega), gb_before h.gr hg (fun g e => .inr (by injection e with e; omega)), h.hp, h.h2,
    h.tb.grown hg (fun g e => by injection e with e; omega), h.lab.keep hg (fun x hx => by have := h.far x hx; omega), h.far, h.ty.keep hg (fun x hx => by have := h.far x hx; simp only [ne_eq, Option.some.injEq]; omega)⟩
theorem GSt.labs (h : GSt w p l H2 none [] k v0 v1 v2 v3 W) (hty : LabT W A ls) (hf : ∀ a, A = some a → H2 < a.block) : GSt w p l H2 A ls k v0 v1 v2 v3 W :=
  ⟨h.res, h.box, h.sc, h.gr, h.hp, h.h2, h.tb, hty.lies, hf, hty⟩
/-- The result is written. -/
theorem GSt.fin (h : GSt w p l H2 A ls k v0 v1 v2 v3 W) (x0 x1 x2 x3 : Value) (W4 : World) (hW : W4 = (((W.setCell ⟨w.heap.size, 0, none⟩ x0).setCell ⟨w.heap.size, 1, none⟩ x1).setCell ⟨w.heap.size, 2, none⟩ x2).setCell ⟨w.heap.size, 3, none⟩ x3) :
    Whole W4 w.heap.size 37 #[x0, x1, x2, x3] ∧ Sc W4 p l k ∧ w.grownBy W4 (some p) ∧ Lies W4 W4.heap.size A (cells32 ls) ∧ LabT W4 A ls := by
  subst hW
  have a := h.hp
  have b := h.h2
  have hg := gb_put (p := ⟨w.heap.size, 3, none⟩) (gb_put (p := ⟨w.heap.size, 2, none⟩) (gb_put (p := ⟨w.heap.size, 1, none⟩) (gb_put (p := ⟨w.heap.size, 0, none⟩) (gb_refl W (some w.heap.size)) (.inl rfl) x0) (.inl rfl) x1) (.inl rfl) x2) (.inl rfl) x3
  exact ⟨(((h.res.put 0 x0).put 1 x1).put 2 x2).put 3 x3, h.sc.grown hg (by simp only [ne_eq, Option.some.injEq]; omega) (fun g e => by injection e with e; omega), gb_before h.gr hg (fun g e => .inr (by injection e with e; omega)), h.lab.keep hg (fun x hx => by have := h.far x hx; omega), h.ty.keep hg (fun x hx => by have := h.far x hx; simp only [ne_eq, Option.some.injEq]; omega)⟩
end
/-- What Get hands back of an instruction's bytes. -/
def Gets (p : Nat) (l : List UInt8) (i : I) (k : Nat) (w : World) (e : Ending) (w' : World) : Prop :=
  ∃ A c, e = .returned (insV i A c) ∧ Lies w' w'.heap.size A (cells32 i.l) ∧ (∀ a, A = some a → w.heap.size ≤ a.block) ∧ Sc w' p l k ∧ w.grownBy w' (some p) ∧ LabT w' A i.l
theorem gets_end {w : World} {p : Nat} {l : List UInt8} {i : I} {H2 : Nat} {A : Option Addr} {c k k' : Nat} {v0 v1 v2 v3 : Value} {W W4 : World} {v : Value} (h : GSt w p l H2 A i.l k v0 v1 v2 v3 W) (hf : Sc W4 p l k ∧ w.grownBy W4 (some p) ∧ Lies W4 W4.heap.size A (cells32 i.l) ∧ LabT W4 A i.l) (he : v = insV i A c) (hk : k = k') :
    Gets p l i k' w (.returned v) W4 := by
  subst hk
  exact ⟨A, c, by rw [he], hf.2.2.1, fun a ha => by have := h.far a ha; have := h.h2; omega, hf.1, hf.2.1, hf.2.2.2⟩
theorem ins_eq {i : I} {a b : Int} {v : Value} (hb : i.b = b) (ha : i.a = a) (hl : i.l = []) (hv : v = .slice none 0 0) : Value.agg #[.int .u8 i.op.toNat, .int .u64 a, .int .u64 b, v] = insV i none 0 := by
  subst hv; subst ha; subst hb
  show _ = Value.agg #[.int .u8 i.op.toNat, .int .u64 i.a, .int .u64 i.b, .slice none i.l.length 0]
  rw [hl]
  rfl

set_option maxHeartbeats 3000000 in
theorem get_ok {w : World} {p : Nat} {l r : List UInt8} {k : Nat} {i : I} (h : i.Ok) (hr : rightZ i = 0) (hs : Sc w p l k) (hT : TbP p w) (hd : l.drop k = putL i ++ r) :
    Calls Tryd.prog 75 #[.pointer (some ⟨p, 0, none⟩)] w (Gets p l i (k + (putL i).length) w) := by
  have hn := i.n_le
  obtain ⟨a0, a1, b0, b1, hl0⟩ := h
  obtain ⟨hc0, hl3, h10, hb8, hz0⟩ := right_zero hr
  obtain ⟨hz1, hz2, hz3⟩ := nums_zero hz0 a0
  have hlt := hs.lt
  obtain ⟨m, hm⟩ : ∃ m, m = immR i.n := ⟨_, rfl⟩
  obtain ⟨inf, hinf⟩ : ∃ inf, inf = infR i.n := ⟨_, rfl⟩
  have him : inf.imm = m := by rw [hinf, hm]; exact (imm_same hn hc0).1
  have HI : Hid (∀ W, Tabs W → Calls Tryd.prog 72 #[.int .u8 i.op.toNat] W fun e w' => e = .returned (infV inf) ∧ Below W.heap.size W w') := fun W hW => by rw [hinf]; exact of_any i.n W hW hn
  have hfield := fun z wx => field_imm (S inf.name) (S inf.ps) (S inf.rs) z inf.free wx
  rw [← hm] at hz1 hz2 hz3 hl3 hb8
  have hp1 : putL i = i.op :: immB m i := by unfold putL immL; rw [hm]
  rw [hp1, List.cons_append] at hd
  have HPL := Lib.hid (show (putL i).length = 1 + (immB m i).length by rw [hp1, List.length_cons]; omega)
  have hd1 : l.drop (k + 1) = immB m i ++ r := drop_past (a := [i.op]) hd
  have HZ : Hid (Sc (w.alloc (.cells #[.int .u8 0, .int .u64 0, .int .u64 0, .slice none 0 0] 37)) p l k ∧ TbP p (w.alloc (.cells #[.int .u8 0, .int .u64 0, .int .u64 0, .slice none 0 0] 37))) := ⟨hs.alloc _, hT.below (below_box w _) (by omega)⟩
  have HOP := Lib.hid (getOp_ok HZ.out.1 HZ.out.2 hd hc0)
  have HWM := Lib.hid (Whole.made w 37 #[.int .u8 0, .int .u64 0, .int .u64 0, .slice none 0 0])
  have HL0 := Lib.hid hl0
  have hstart : ∀ w1, Sc w1 p l (k + 1) → (w.alloc (.cells #[.int .u8 0, .int .u64 0, .int .u64 0, .slice none 0 0] 37)).grownBy w1 (some p) → GSt w p l w1.heap.size none [] (k + 1) (.int .u8 i.op.toNat) (.int .u64 0) (.int .u64 0) (.slice none 0 0) (w1.alloc (.cells #[.int .u8 i.op.toNat, .int .u64 0, .int .u64 0, .slice none 0 0] 37)) := fun w1 hs1 hg1 => by
    have hz := hg1.size
    rw [size_box] at hz
    exact ⟨(HWM.out.grown hg1 (by simp only [ne_eq, Option.some.injEq]; omega)).alloc _, Whole.made _ _ _, hs1.alloc _, gb_alloc (gb_trans (gb_alloc (gb_refl w _) _) hg1) _, hlt, by omega, (HZ.out.2.self hg1).below (below_box w1 _) (by omega), (fun j v hv => by simp [cells32] at hv), (fun a e => by cases e), .inl ⟨rfl, rfl⟩⟩
  have HST := Lib.hid hstart
  clear hs hT hr hc0 hz0 hinf hm hp1 hd hstart hl0
  by_cases m0 : m = 0
  · subst m0
    have himm : immB 0 i = [] := by unfold immB; rw [if_pos rfl]
    rw [himm] at HPL hd1
    have hl : i.l = [] := List.eq_nil_of_length_eq_zero (by omega)
    have hb : i.b = 0 := by omega
    have HB := Lib.hid hb
    have HL := Lib.hid hl
    have HA := Lib.hid (hz2 (by omega))
    clear hd1 himm hb8 hl3 hb hl
    go_enter Tryd.func75, Tryd.ntmps75
    go_wp2_with (first
      | (go_at_call 95; go_must ((with_reducible refine HOP.out.mono ?_); rintro e w1 ⟨rfl, hs, hg⟩; have HG1 := Lib.hid (HST.out w1 hs hg); have hh := HG1.out.h2; have n1 : ¬ w1.heap.size = w.heap.size := (by omega); have n2 : ¬ w.heap.size = w1.heap.size := (by omega); clear hs hg hh))
      | (go_at_call 72; go_must ((with_reducible refine (HI.out _ HG1.out.tb.tabs).mono ?_); rintro e w2 ⟨rfl, hb⟩; unfold infV; have HG2 := Lib.hid (HG1.out.below hb); have c0 := HG2.out.box.cell 0; have c1 := HG2.out.box.cell 1; have c2 := HG2.out.box.cell 2; have c3 := HG2.out.box.cell 3; have f1 := HG2.out.box.frozen 1; have f2 := HG2.out.box.frozen 2; have f3 := HG2.out.box.frozen 3; have r0 := HG2.out.res.cell 0; have r1 := HG2.out.res.cell 1; have r2 := HG2.out.res.cell 2; have r3 := HG2.out.res.cell 3; have z0 := HG2.out.res.frozen 0; have z1 := HG2.out.res.frozen 1; have z2 := HG2.out.res.frozen 2; have z3 := HG2.out.res.frozen 3; simp only [List.getElem?_toArray, List.getElem?_cons_zero, List.getElem?_cons_succ] at c0 c1 c2 c3 r0 r1 r2 r3; clear hb)))
    obtain ⟨q, hf⟩ := GSt.fin (show GSt w p l w1.heap.size none i.l _ _ _ _ _ _ from by rw [HL.out]; exact HG2.out) (.int .u8 i.op.toNat) (.int .u64 0) (.int .u64 0) (.slice none 0 0) _ rfl
    have q0 := q.cell 0
    have q1 := q.cell 1
    have q2 := q.cell 2
    have q3 := q.cell 3
    simp only [List.getElem?_toArray, List.getElem?_cons_zero, List.getElem?_cons_succ] at q0 q1 q2 q3
    exact bodyPost_ret (v := .agg #[.int .u8 i.op.toNat, .int .u64 0, .int .u64 0, .slice none 0 0]) (by simp [results, Tryd.results75, go_sem, q0, q1, q2, q3]) rfl (gets_end (show GSt w p l w1.heap.size none i.l _ _ _ _ _ _ from by rw [HL.out]; exact HG2.out) hf (ins_eq HB.out HA.out HL.out rfl) (by rw [HPL.out]; rfl))
  have d0 : ((m : Int) == 0) = false := by simp; omega
  by_cases m1 : m = 1
  · subst m1
    have himm : immB 1 i = [UInt8.ofNat i.a.toNat] := by unfold immB; rw [if_neg (by omega), if_pos rfl]
    rw [himm] at HPL hd1
    have hl : i.l = [] := List.eq_nil_of_length_eq_zero (by omega)
    have hb : i.b = 0 := by omega
    have HB := Lib.hid hb
    have HL := Lib.hid hl
    obtain ⟨ha, hab⟩ := hz1 rfl
    have hx := u8_of a0 ha
    have HX := Lib.hid (fun W (h : Sc W p l (k + 1)) => by have := getBlock_ok h hd1 (by rw [hx]; exact hab); rw [hx] at this; exact this)
    clear hd1 hx himm hb8 hl3 hb hl
    go_enter Tryd.func75, Tryd.ntmps75
    go_wp2_with (first
      | (go_at_call 95; go_must ((with_reducible refine HOP.out.mono ?_); rintro e w1 ⟨rfl, hs, hg⟩; have HG1 := Lib.hid (HST.out w1 hs hg); have hh := HG1.out.h2; have n1 : ¬ w1.heap.size = w.heap.size := (by omega); have n2 : ¬ w.heap.size = w1.heap.size := (by omega); clear hs hg hh))
      | (go_at_call 72; go_must ((with_reducible refine (HI.out _ HG1.out.tb.tabs).mono ?_); rintro e w2 ⟨rfl, hb⟩; unfold infV; have HG2 := Lib.hid (HG1.out.below hb); have c0 := HG2.out.box.cell 0; have c1 := HG2.out.box.cell 1; have c2 := HG2.out.box.cell 2; have c3 := HG2.out.box.cell 3; have f1 := HG2.out.box.frozen 1; have f2 := HG2.out.box.frozen 2; have f3 := HG2.out.box.frozen 3; have r0 := HG2.out.res.cell 0; have r1 := HG2.out.res.cell 1; have r2 := HG2.out.res.cell 2; have r3 := HG2.out.res.cell 3; have z0 := HG2.out.res.frozen 0; have z1 := HG2.out.res.frozen 1; have z2 := HG2.out.res.frozen 2; have z3 := HG2.out.res.frozen 3; simp only [List.getElem?_toArray, List.getElem?_cons_zero, List.getElem?_cons_succ] at c0 c1 c2 c3 r0 r1 r2 r3; clear hb))
      | (go_at_call 96; go_must ((with_reducible refine (HX.out _ HG2.out.sc).mono ?_); rintro e w3 ⟨rfl, hs, hg⟩; clear c0 c1 c2 c3 f1 f2 f3 r0 r1 r2 r3 z0 z1 z2 z3; have HG3 := Lib.hid (HG2.out.call hs hg); have c0 := HG3.out.box.cell 0; have c1 := HG3.out.box.cell 1; have c2 := HG3.out.box.cell 2; have c3 := HG3.out.box.cell 3; have f1 := HG3.out.box.frozen 1; have f2 := HG3.out.box.frozen 2; have f3 := HG3.out.box.frozen 3; have r0 := HG3.out.res.cell 0; have r1 := HG3.out.res.cell 1; have r2 := HG3.out.res.cell 2; have r3 := HG3.out.res.cell 3; have z0 := HG3.out.res.frozen 0; have z1 := HG3.out.res.frozen 1; have z2 := HG3.out.res.frozen 2; have z3 := HG3.out.res.frozen 3; simp only [List.getElem?_toArray, List.getElem?_cons_zero, List.getElem?_cons_succ] at c0 c1 c2 c3 r0 r1 r2 r3; clear hs hg)))
    obtain ⟨q, hf⟩ := GSt.fin (show GSt w p l w1.heap.size none i.l _ _ _ _ _ _ from by rw [HL.out]; exact HG3.out.put 1 (.int .u64 i.a) rfl) (.int .u8 i.op.toNat) (.int .u64 i.a) (.int .u64 0) (.slice none 0 0) _ rfl
    have q0 := q.cell 0
    have q1 := q.cell 1
    have q2 := q.cell 2
    have q3 := q.cell 3
    simp only [List.getElem?_toArray, List.getElem?_cons_zero, List.getElem?_cons_succ] at q0 q1 q2 q3
    exact bodyPost_ret (v := .agg #[.int .u8 i.op.toNat, .int .u64 i.a, .int .u64 0, .slice none 0 0]) (by simp [results, Tryd.results75, go_sem, q0, q1, q2, q3]) rfl (gets_end (show GSt w p l w1.heap.size none i.l _ _ _ _ _ _ from by rw [HL.out]; exact HG3.out.put 1 (.int .u64 i.a) rfl) hf (ins_eq HB.out rfl HL.out rfl) (by rw [HPL.out]; rfl))
  have d1 : ((m : Int) == 1) = false := by simp; omega
  by_cases m3 : m = 3
  · subst m3
    have himm : immB 3 i = labL i.l ++ lebL i.a := by unfold immB; rw [if_neg (by omega), if_neg (by omega), if_pos rfl]
    rw [himm] at HPL hd1
    have hb : i.b = 0 := by omega
    have HB := Lib.hid hb
    obtain ⟨ha, _⟩ := hz3 (by omega)
    rw [List.append_assoc] at hd1
    have hd2 := drop_past hd1
    have HX := Lib.hid (fun W (h : Sc W p l (k + 1)) => getLabels_ok h hd1 h10 HL0.out)
    have HY := Lib.hid (fun W (h : Sc W p l (k + 1 + (labL i.l).length)) => getNumber_ok h hd2 a0 ha)
    clear hd1 hd2 himm hb8 hl3 hb
    go_enter Tryd.func75, Tryd.ntmps75
    go_wp2_with (first
      | (go_at_call 95; go_must ((with_reducible refine HOP.out.mono ?_); rintro e w1 ⟨rfl, hs, hg⟩; have HG1 := Lib.hid (HST.out w1 hs hg); have hh := HG1.out.h2; have n1 : ¬ w1.heap.size = w.heap.size := (by omega); have n2 : ¬ w.heap.size = w1.heap.size := (by omega); clear hs hg hh))
      | (go_at_call 72; go_must ((with_reducible refine (HI.out _ HG1.out.tb.tabs).mono ?_); rintro e w2 ⟨rfl, hb⟩; unfold infV; have HG2 := Lib.hid (HG1.out.below hb); have c0 := HG2.out.box.cell 0; have c1 := HG2.out.box.cell 1; have c2 := HG2.out.box.cell 2; have c3 := HG2.out.box.cell 3; have f1 := HG2.out.box.frozen 1; have f2 := HG2.out.box.frozen 2; have f3 := HG2.out.box.frozen 3; have r0 := HG2.out.res.cell 0; have r1 := HG2.out.res.cell 1; have r2 := HG2.out.res.cell 2; have r3 := HG2.out.res.cell 3; have z0 := HG2.out.res.frozen 0; have z1 := HG2.out.res.frozen 1; have z2 := HG2.out.res.frozen 2; have z3 := HG2.out.res.frozen 3; simp only [List.getElem?_toArray, List.getElem?_cons_zero, List.getElem?_cons_succ] at c0 c1 c2 c3 r0 r1 r2 r3; clear hb))
      | (go_at_call 97; go_must ((with_reducible refine (HX.out _ HG2.out.sc).mono ?_); intro e w3 hq; obtain ⟨A, c, rfl, hge, hs, hg, hty⟩ := hq; clear c0 c1 c2 c3 f1 f2 f3 r0 r1 r2 r3 z0 z1 z2 z3; have HG3 := Lib.hid ((HG2.out.call hs hg).labs hty (fun a ha => Nat.lt_of_lt_of_le HG2.out.box.lt (hge a ha))); have c0 := HG3.out.box.cell 0; have c1 := HG3.out.box.cell 1; have c2 := HG3.out.box.cell 2; have c3 := HG3.out.box.cell 3; have f1 := HG3.out.box.frozen 1; have f2 := HG3.out.box.frozen 2; have f3 := HG3.out.box.frozen 3; have r0 := HG3.out.res.cell 0; have r1 := HG3.out.res.cell 1; have r2 := HG3.out.res.cell 2; have r3 := HG3.out.res.cell 3; have z0 := HG3.out.res.frozen 0; have z1 := HG3.out.res.frozen 1; have z2 := HG3.out.res.frozen 2; have z3 := HG3.out.res.frozen 3; simp only [List.getElem?_toArray, List.getElem?_cons_zero, List.getElem?_cons_succ] at c0 c1 c2 c3 r0 r1 r2 r3; clear hs hg hge hty))
      | (go_at_call 98; go_must ((with_reducible refine (HY.out _ (HG3.out.put 3 (.slice A i.l.length c) rfl).sc).mono ?_); rintro e w4 ⟨rfl, hs, hg⟩; clear c0 c1 c2 c3 f1 f2 f3 r0 r1 r2 r3 z0 z1 z2 z3; have HG4 := Lib.hid ((HG3.out.put 3 (.slice A i.l.length c) rfl).call hs hg); have c0 := HG4.out.box.cell 0; have c1 := HG4.out.box.cell 1; have c2 := HG4.out.box.cell 2; have c3 := HG4.out.box.cell 3; have f1 := HG4.out.box.frozen 1; have f2 := HG4.out.box.frozen 2; have f3 := HG4.out.box.frozen 3; have r0 := HG4.out.res.cell 0; have r1 := HG4.out.res.cell 1; have r2 := HG4.out.res.cell 2; have r3 := HG4.out.res.cell 3; have z0 := HG4.out.res.frozen 0; have z1 := HG4.out.res.frozen 1; have z2 := HG4.out.res.frozen 2; have z3 := HG4.out.res.frozen 3; simp only [List.getElem?_toArray, List.getElem?_cons_zero, List.getElem?_cons_succ] at c0 c1 c2 c3 r0 r1 r2 r3; clear hs hg)))
    obtain ⟨q, hf⟩ := GSt.fin (HG4.out.put 1 (.int .u64 i.a) rfl) (.int .u8 i.op.toNat) (.int .u64 i.a) (.int .u64 0) (.slice A i.l.length c) _ rfl
    have q0 := q.cell 0
    have q1 := q.cell 1
    have q2 := q.cell 2
    have q3 := q.cell 3
    simp only [List.getElem?_toArray, List.getElem?_cons_zero, List.getElem?_cons_succ] at q0 q1 q2 q3
    exact bodyPost_ret (v := .agg #[.int .u8 i.op.toNat, .int .u64 i.a, .int .u64 0, .slice A i.l.length c]) (by simp [results, Tryd.results75, go_sem, q0, q1, q2, q3]) rfl (gets_end (HG4.out.put 1 (.int .u64 i.a) rfl) hf (show _ = insV i A c by rw [show insV i A c = Value.agg #[.int .u8 i.op.toNat, .int .u64 i.a, .int .u64 i.b, .slice A i.l.length c] from rfl, HB.out]) (by rw [HPL.out, List.length_append]; omega))
  have d3 : ((m : Int) == 3) = false := by simp; omega
  by_cases m5 : m = 5
  · subst m5
    have himm : immB 5 i = lebL i.a ++ [0] := by unfold immB; rw [if_neg (by omega), if_neg (by omega), if_neg (by omega), if_pos rfl]
    rw [himm] at HPL hd1
    have hl : i.l = [] := List.eq_nil_of_length_eq_zero (by omega)
    have hb : i.b = 0 := by omega
    have HB := Lib.hid hb
    have HL := Lib.hid hl
    obtain ⟨ha, _⟩ := hz3 (by omega)
    rw [List.append_assoc] at hd1
    have hd2 := drop_past hd1
    have HX := Lib.hid (fun W (h : Sc W p l (k + 1)) => getNumber_ok h hd1 a0 ha)
    have HY := Lib.hid (fun W (h : Sc W p l (k + 1 + (lebL i.a).length)) => getNought_ok h hd2)
    clear hd1 hd2 himm hb8 hl3 hb hl
    go_enter Tryd.func75, Tryd.ntmps75
    go_wp2_with (first
      | (go_at_call 95; go_must ((with_reducible refine HOP.out.mono ?_); rintro e w1 ⟨rfl, hs, hg⟩; have HG1 := Lib.hid (HST.out w1 hs hg); have hh := HG1.out.h2; have n1 : ¬ w1.heap.size = w.heap.size := (by omega); have n2 : ¬ w.heap.size = w1.heap.size := (by omega); clear hs hg hh))
      | (go_at_call 72; go_must ((with_reducible refine (HI.out _ HG1.out.tb.tabs).mono ?_); rintro e w2 ⟨rfl, hb⟩; unfold infV; have HG2 := Lib.hid (HG1.out.below hb); have c0 := HG2.out.box.cell 0; have c1 := HG2.out.box.cell 1; have c2 := HG2.out.box.cell 2; have c3 := HG2.out.box.cell 3; have f1 := HG2.out.box.frozen 1; have f2 := HG2.out.box.frozen 2; have f3 := HG2.out.box.frozen 3; have r0 := HG2.out.res.cell 0; have r1 := HG2.out.res.cell 1; have r2 := HG2.out.res.cell 2; have r3 := HG2.out.res.cell 3; have z0 := HG2.out.res.frozen 0; have z1 := HG2.out.res.frozen 1; have z2 := HG2.out.res.frozen 2; have z3 := HG2.out.res.frozen 3; simp only [List.getElem?_toArray, List.getElem?_cons_zero, List.getElem?_cons_succ] at c0 c1 c2 c3 r0 r1 r2 r3; clear hb))
      | (go_at_call 98; go_must ((with_reducible refine (HX.out _ HG2.out.sc).mono ?_); rintro e w3 ⟨rfl, hs, hg⟩; clear c0 c1 c2 c3 f1 f2 f3 r0 r1 r2 r3 z0 z1 z2 z3; have HG3 := Lib.hid (HG2.out.call hs hg); have c0 := HG3.out.box.cell 0; have c1 := HG3.out.box.cell 1; have c2 := HG3.out.box.cell 2; have c3 := HG3.out.box.cell 3; have f1 := HG3.out.box.frozen 1; have f2 := HG3.out.box.frozen 2; have f3 := HG3.out.box.frozen 3; have r0 := HG3.out.res.cell 0; have r1 := HG3.out.res.cell 1; have r2 := HG3.out.res.cell 2; have r3 := HG3.out.res.cell 3; have z0 := HG3.out.res.frozen 0; have z1 := HG3.out.res.frozen 1; have z2 := HG3.out.res.frozen 2; have z3 := HG3.out.res.frozen 3; simp only [List.getElem?_toArray, List.getElem?_cons_zero, List.getElem?_cons_succ] at c0 c1 c2 c3 r0 r1 r2 r3; clear hs hg))
      | (go_at_call 51; go_must ((with_reducible refine (HY.out _ (HG3.out.put 1 (.int .u64 i.a) rfl).sc).mono ?_); rintro e w4 ⟨rfl, hs, hg⟩; clear c0 c1 c2 c3 f1 f2 f3 r0 r1 r2 r3 z0 z1 z2 z3; have HG4 := Lib.hid ((HG3.out.put 1 (.int .u64 i.a) rfl).call hs hg); have c0 := HG4.out.box.cell 0; have c1 := HG4.out.box.cell 1; have c2 := HG4.out.box.cell 2; have c3 := HG4.out.box.cell 3; have f1 := HG4.out.box.frozen 1; have f2 := HG4.out.box.frozen 2; have f3 := HG4.out.box.frozen 3; have r0 := HG4.out.res.cell 0; have r1 := HG4.out.res.cell 1; have r2 := HG4.out.res.cell 2; have r3 := HG4.out.res.cell 3; have z0 := HG4.out.res.frozen 0; have z1 := HG4.out.res.frozen 1; have z2 := HG4.out.res.frozen 2; have z3 := HG4.out.res.frozen 3; simp only [List.getElem?_toArray, List.getElem?_cons_zero, List.getElem?_cons_succ] at c0 c1 c2 c3 r0 r1 r2 r3; clear hs hg)))
    obtain ⟨q, hf⟩ := GSt.fin (show GSt w p l w1.heap.size none i.l _ _ _ _ _ _ from by rw [HL.out]; exact HG4.out) (.int .u8 i.op.toNat) (.int .u64 i.a) (.int .u64 0) (.slice none 0 0) _ rfl
    have q0 := q.cell 0
    have q1 := q.cell 1
    have q2 := q.cell 2
    have q3 := q.cell 3
    simp only [List.getElem?_toArray, List.getElem?_cons_zero, List.getElem?_cons_succ] at q0 q1 q2 q3
    exact bodyPost_ret (v := .agg #[.int .u8 i.op.toNat, .int .u64 i.a, .int .u64 0, .slice none 0 0]) (by simp [results, Tryd.results75, go_sem, q0, q1, q2, q3]) rfl (gets_end (show GSt w p l w1.heap.size none i.l _ _ _ _ _ _ from by rw [HL.out]; exact HG4.out) hf (ins_eq HB.out rfl HL.out rfl) (by rw [HPL.out, List.length_append, List.length_singleton]; omega))
  have d5 : ((m : Int) == 5) = false := by simp; omega
  by_cases m8 : m = 8
  · subst m8
    have himm : immB 8 i = lebL i.a ++ lebL i.b := by unfold immB; rw [if_neg (by omega), if_neg (by omega), if_neg (by omega), if_neg (by omega), if_pos rfl]
    rw [himm] at HPL hd1
    have hl : i.l = [] := List.eq_nil_of_length_eq_zero (by omega)
    have HL := Lib.hid hl
    obtain ⟨ha, hbb⟩ := hz3 (by omega)
    rw [List.append_assoc] at hd1
    have hd2 := drop_past hd1
    have HX := Lib.hid (fun W (h : Sc W p l (k + 1)) => getNumber_ok h hd1 a0 ha)
    have HY := Lib.hid (fun W (h : Sc W p l (k + 1 + (lebL i.a).length)) => getNumber_ok h hd2 b0 hbb)
    clear hd1 hd2 himm hb8 hl3 hl
    go_enter Tryd.func75, Tryd.ntmps75
    go_wp2_with (first
      | (go_at_call 95; go_must ((with_reducible refine HOP.out.mono ?_); rintro e w1 ⟨rfl, hs, hg⟩; have HG1 := Lib.hid (HST.out w1 hs hg); have hh := HG1.out.h2; have n1 : ¬ w1.heap.size = w.heap.size := (by omega); have n2 : ¬ w.heap.size = w1.heap.size := (by omega); clear hs hg hh))
      | (go_at_call 72; go_must ((with_reducible refine (HI.out _ HG1.out.tb.tabs).mono ?_); rintro e w2 ⟨rfl, hb⟩; unfold infV; have HG2 := Lib.hid (HG1.out.below hb); have c0 := HG2.out.box.cell 0; have c1 := HG2.out.box.cell 1; have c2 := HG2.out.box.cell 2; have c3 := HG2.out.box.cell 3; have f1 := HG2.out.box.frozen 1; have f2 := HG2.out.box.frozen 2; have f3 := HG2.out.box.frozen 3; have r0 := HG2.out.res.cell 0; have r1 := HG2.out.res.cell 1; have r2 := HG2.out.res.cell 2; have r3 := HG2.out.res.cell 3; have z0 := HG2.out.res.frozen 0; have z1 := HG2.out.res.frozen 1; have z2 := HG2.out.res.frozen 2; have z3 := HG2.out.res.frozen 3; simp only [List.getElem?_toArray, List.getElem?_cons_zero, List.getElem?_cons_succ] at c0 c1 c2 c3 r0 r1 r2 r3; clear hb))
      | (have tok := HG3; go_at_call 98; go_must ((with_reducible refine (HY.out _ (HG3.out.put 1 (.int .u64 i.a) rfl).sc).mono ?_); rintro e w4 ⟨rfl, hs, hg⟩; clear c0 c1 c2 c3 f1 f2 f3 r0 r1 r2 r3 z0 z1 z2 z3; have HG4 := Lib.hid ((HG3.out.put 1 (.int .u64 i.a) rfl).call hs hg); have c0 := HG4.out.box.cell 0; have c1 := HG4.out.box.cell 1; have c2 := HG4.out.box.cell 2; have c3 := HG4.out.box.cell 3; have f1 := HG4.out.box.frozen 1; have f2 := HG4.out.box.frozen 2; have f3 := HG4.out.box.frozen 3; have r0 := HG4.out.res.cell 0; have r1 := HG4.out.res.cell 1; have r2 := HG4.out.res.cell 2; have r3 := HG4.out.res.cell 3; have z0 := HG4.out.res.frozen 0; have z1 := HG4.out.res.frozen 1; have z2 := HG4.out.res.frozen 2; have z3 := HG4.out.res.frozen 3; simp only [List.getElem?_toArray, List.getElem?_cons_zero, List.getElem?_cons_succ] at c0 c1 c2 c3 r0 r1 r2 r3; clear hs hg))
      | (go_at_call 98; go_must ((with_reducible refine (HX.out _ HG2.out.sc).mono ?_); rintro e w3 ⟨rfl, hs, hg⟩; clear c0 c1 c2 c3 f1 f2 f3 r0 r1 r2 r3 z0 z1 z2 z3; have HG3 := Lib.hid (HG2.out.call hs hg); have c0 := HG3.out.box.cell 0; have c1 := HG3.out.box.cell 1; have c2 := HG3.out.box.cell 2; have c3 := HG3.out.box.cell 3; have f1 := HG3.out.box.frozen 1; have f2 := HG3.out.box.frozen 2; have f3 := HG3.out.box.frozen 3; have r0 := HG3.out.res.cell 0; have r1 := HG3.out.res.cell 1; have r2 := HG3.out.res.cell 2; have r3 := HG3.out.res.cell 3; have z0 := HG3.out.res.frozen 0; have z1 := HG3.out.res.frozen 1; have z2 := HG3.out.res.frozen 2; have z3 := HG3.out.res.frozen 3; simp only [List.getElem?_toArray, List.getElem?_cons_zero, List.getElem?_cons_succ] at c0 c1 c2 c3 r0 r1 r2 r3; clear hs hg)))
    obtain ⟨q, hf⟩ := GSt.fin (show GSt w p l w1.heap.size none i.l _ _ _ _ _ _ from by rw [HL.out]; exact HG4.out.put 2 (.int .u64 i.b) rfl) (.int .u8 i.op.toNat) (.int .u64 i.a) (.int .u64 i.b) (.slice none 0 0) _ rfl
    have q0 := q.cell 0
    have q1 := q.cell 1
    have q2 := q.cell 2
    have q3 := q.cell 3
    simp only [List.getElem?_toArray, List.getElem?_cons_zero, List.getElem?_cons_succ] at q0 q1 q2 q3
    exact bodyPost_ret (v := .agg #[.int .u8 i.op.toNat, .int .u64 i.a, .int .u64 i.b, .slice none 0 0]) (by simp [results, Tryd.results75, go_sem, q0, q1, q2, q3]) rfl (gets_end (show GSt w p l w1.heap.size none i.l _ _ _ _ _ _ from by rw [HL.out]; exact HG4.out.put 2 (.int .u64 i.b) rfl) hf (ins_eq rfl rfl HL.out rfl) (by rw [HPL.out, List.length_append]; omega))
  have d8 : ((m : Int) == 8) = false := by simp; omega
  by_cases m9 : m = 9
  · subst m9
    have himm : immB 9 i = [0] := by unfold immB; rw [if_neg (by omega), if_neg (by omega), if_neg (by omega), if_neg (by omega), if_neg (by omega), if_pos rfl]
    rw [himm] at HPL hd1
    have hl : i.l = [] := List.eq_nil_of_length_eq_zero (by omega)
    have hb : i.b = 0 := by omega
    have HB := Lib.hid hb
    have HL := Lib.hid hl
    have HA := Lib.hid (hz2 (by omega))
    have HX := Lib.hid (fun W (h : Sc W p l (k + 1)) => getNought_ok h hd1)
    clear hd1 himm hb8 hl3 hb hl
    go_enter Tryd.func75, Tryd.ntmps75
    go_wp2_with (first
      | (go_at_call 95; go_must ((with_reducible refine HOP.out.mono ?_); rintro e w1 ⟨rfl, hs, hg⟩; have HG1 := Lib.hid (HST.out w1 hs hg); have hh := HG1.out.h2; have n1 : ¬ w1.heap.size = w.heap.size := (by omega); have n2 : ¬ w.heap.size = w1.heap.size := (by omega); clear hs hg hh))
      | (go_at_call 72; go_must ((with_reducible refine (HI.out _ HG1.out.tb.tabs).mono ?_); rintro e w2 ⟨rfl, hb⟩; unfold infV; have HG2 := Lib.hid (HG1.out.below hb); have c0 := HG2.out.box.cell 0; have c1 := HG2.out.box.cell 1; have c2 := HG2.out.box.cell 2; have c3 := HG2.out.box.cell 3; have f1 := HG2.out.box.frozen 1; have f2 := HG2.out.box.frozen 2; have f3 := HG2.out.box.frozen 3; have r0 := HG2.out.res.cell 0; have r1 := HG2.out.res.cell 1; have r2 := HG2.out.res.cell 2; have r3 := HG2.out.res.cell 3; have z0 := HG2.out.res.frozen 0; have z1 := HG2.out.res.frozen 1; have z2 := HG2.out.res.frozen 2; have z3 := HG2.out.res.frozen 3; simp only [List.getElem?_toArray, List.getElem?_cons_zero, List.getElem?_cons_succ] at c0 c1 c2 c3 r0 r1 r2 r3; clear hb))
      | (go_at_call 51; go_must ((with_reducible refine (HX.out _ HG2.out.sc).mono ?_); rintro e w3 ⟨rfl, hs, hg⟩; clear c0 c1 c2 c3 f1 f2 f3 r0 r1 r2 r3 z0 z1 z2 z3; have HG3 := Lib.hid (HG2.out.call hs hg); have c0 := HG3.out.box.cell 0; have c1 := HG3.out.box.cell 1; have c2 := HG3.out.box.cell 2; have c3 := HG3.out.box.cell 3; have f1 := HG3.out.box.frozen 1; have f2 := HG3.out.box.frozen 2; have f3 := HG3.out.box.frozen 3; have r0 := HG3.out.res.cell 0; have r1 := HG3.out.res.cell 1; have r2 := HG3.out.res.cell 2; have r3 := HG3.out.res.cell 3; have z0 := HG3.out.res.frozen 0; have z1 := HG3.out.res.frozen 1; have z2 := HG3.out.res.frozen 2; have z3 := HG3.out.res.frozen 3; simp only [List.getElem?_toArray, List.getElem?_cons_zero, List.getElem?_cons_succ] at c0 c1 c2 c3 r0 r1 r2 r3; clear hs hg)))
    obtain ⟨q, hf⟩ := GSt.fin (show GSt w p l w1.heap.size none i.l _ _ _ _ _ _ from by rw [HL.out]; exact HG3.out) (.int .u8 i.op.toNat) (.int .u64 0) (.int .u64 0) (.slice none 0 0) _ rfl
    have q0 := q.cell 0
    have q1 := q.cell 1
    have q2 := q.cell 2
    have q3 := q.cell 3
    simp only [List.getElem?_toArray, List.getElem?_cons_zero, List.getElem?_cons_succ] at q0 q1 q2 q3
    exact bodyPost_ret (v := .agg #[.int .u8 i.op.toNat, .int .u64 0, .int .u64 0, .slice none 0 0]) (by simp [results, Tryd.results75, go_sem, q0, q1, q2, q3]) rfl (gets_end (show GSt w p l w1.heap.size none i.l _ _ _ _ _ _ from by rw [HL.out]; exact HG3.out) hf (ins_eq HB.out HA.out HL.out rfl) (by rw [HPL.out]; rfl))
  have d9 : ((m : Int) == 9) = false := by simp; omega
  by_cases m10 : m = 10
  · subst m10
    have himm : immB 10 i = sebL (s32 i.a) := by unfold immB; rw [if_neg (by omega), if_neg (by omega), if_neg (by omega), if_neg (by omega), if_neg (by omega), if_neg (by omega), if_pos rfl]
    rw [himm] at HPL hd1
    have hl : i.l = [] := List.eq_nil_of_length_eq_zero (by omega)
    have hb : i.b = 0 := by omega
    have HB := Lib.hid hb
    have HL := Lib.hid hl
    obtain ⟨ha, _⟩ := hz3 (by omega)
    have HX := Lib.hid (fun W (h : Sc W p l (k + 1)) => show Calls Tryd.prog 99 #[.pointer (some ⟨p, 0, none⟩), .int .i64 32] W (Did encS64 p l W (.ok (s32 i.a) (k + 1 + (sebL (s32 i.a)).length))) from int_scan (n := 32) h hd1 (show -2147483648 ≤ s32 i.a by unfold s32; omega) (show s32 i.a < 2147483648 by unfold s32; omega) (by omega) (by omega))
    have hw : IntKind.u32.wrap (s32 i.a) = i.a := by unfold s32; simp [IntKind.wrap, IntKind.bits, IntKind.signed]; omega
    have hw2 : IntKind.u64.wrap i.a = i.a := by simp [IntKind.wrap, IntKind.bits, IntKind.signed]; omega
    generalize s32 i.a = sx at *
    clear hd1 hb8 hl3 hb hl himm
    go_enter Tryd.func75, Tryd.ntmps75
    go_wp2_with (first
      | (go_at_call 95; go_must ((with_reducible refine HOP.out.mono ?_); rintro e w1 ⟨rfl, hs, hg⟩; have HG1 := Lib.hid (HST.out w1 hs hg); have hh := HG1.out.h2; have n1 : ¬ w1.heap.size = w.heap.size := (by omega); have n2 : ¬ w.heap.size = w1.heap.size := (by omega); clear hs hg hh))
      | (go_at_call 72; go_must ((with_reducible refine (HI.out _ HG1.out.tb.tabs).mono ?_); rintro e w2 ⟨rfl, hb⟩; unfold infV; have HG2 := Lib.hid (HG1.out.below hb); have c0 := HG2.out.box.cell 0; have c1 := HG2.out.box.cell 1; have c2 := HG2.out.box.cell 2; have c3 := HG2.out.box.cell 3; have f1 := HG2.out.box.frozen 1; have f2 := HG2.out.box.frozen 2; have f3 := HG2.out.box.frozen 3; have r0 := HG2.out.res.cell 0; have r1 := HG2.out.res.cell 1; have r2 := HG2.out.res.cell 2; have r3 := HG2.out.res.cell 3; have z0 := HG2.out.res.frozen 0; have z1 := HG2.out.res.frozen 1; have z2 := HG2.out.res.frozen 2; have z3 := HG2.out.res.frozen 3; simp only [List.getElem?_toArray, List.getElem?_cons_zero, List.getElem?_cons_succ] at c0 c1 c2 c3 r0 r1 r2 r3; clear hb))
      | (go_at_call 99; go_must ((with_reducible refine (HX.out _ HG2.out.sc).mono ?_); rintro e w3 ⟨rfl, hs, hg⟩; clear c0 c1 c2 c3 f1 f2 f3 r0 r1 r2 r3 z0 z1 z2 z3; have HG3 := Lib.hid (HG2.out.call hs hg); have c0 := HG3.out.box.cell 0; have c1 := HG3.out.box.cell 1; have c2 := HG3.out.box.cell 2; have c3 := HG3.out.box.cell 3; have f1 := HG3.out.box.frozen 1; have f2 := HG3.out.box.frozen 2; have f3 := HG3.out.box.frozen 3; have r0 := HG3.out.res.cell 0; have r1 := HG3.out.res.cell 1; have r2 := HG3.out.res.cell 2; have r3 := HG3.out.res.cell 3; have z0 := HG3.out.res.frozen 0; have z1 := HG3.out.res.frozen 1; have z2 := HG3.out.res.frozen 2; have z3 := HG3.out.res.frozen 3; simp only [List.getElem?_toArray, List.getElem?_cons_zero, List.getElem?_cons_succ] at c0 c1 c2 c3 r0 r1 r2 r3; clear hs hg)))
    obtain ⟨q, hf⟩ := GSt.fin (show GSt w p l w1.heap.size none i.l _ _ _ _ _ _ from by rw [HL.out]; exact HG3.out.put 1 (.int .u64 i.a) rfl) (.int .u8 i.op.toNat) (.int .u64 i.a) (.int .u64 0) (.slice none 0 0) _ rfl
    have q0 := q.cell 0
    have q1 := q.cell 1
    have q2 := q.cell 2
    have q3 := q.cell 3
    simp only [List.getElem?_toArray, List.getElem?_cons_zero, List.getElem?_cons_succ] at q0 q1 q2 q3
    exact bodyPost_ret (v := .agg #[.int .u8 i.op.toNat, .int .u64 i.a, .int .u64 0, .slice none 0 0]) (by simp [results, Tryd.results75, go_sem, q0, q1, q2, q3]) rfl (gets_end (show GSt w p l w1.heap.size none i.l _ _ _ _ _ _ from by rw [HL.out]; exact HG3.out.put 1 (.int .u64 i.a) rfl) hf (ins_eq HB.out rfl HL.out rfl) (by rw [HPL.out]; omega))
  have d10 : ((m : Int) == 10) = false := by simp; omega
  by_cases m11 : m = 11
  · subst m11
    have himm : immB 11 i = sebL (s64 i.a) := by unfold immB; rw [if_neg (by omega), if_neg (by omega), if_neg (by omega), if_neg (by omega), if_neg (by omega), if_neg (by omega), if_neg (by omega), if_pos rfl]
    rw [himm] at HPL hd1
    have hl : i.l = [] := List.eq_nil_of_length_eq_zero (by omega)
    have hb : i.b = 0 := by omega
    have HB := Lib.hid hb
    have HL := Lib.hid hl
    have HX := Lib.hid (fun W (h : Sc W p l (k + 1)) => show Calls Tryd.prog 99 #[.pointer (some ⟨p, 0, none⟩), .int .i64 64] W (Did encS64 p l W (.ok (s64 i.a) (k + 1 + (sebL (s64 i.a)).length))) from int_scan (n := 64) h hd1 (show -9223372036854775808 ≤ s64 i.a by unfold s64; omega) (show s64 i.a < 9223372036854775808 by unfold s64; omega) (by omega) (by omega))
    have hw : IntKind.u64.wrap (s64 i.a) = i.a := by unfold s64; simp [IntKind.wrap, IntKind.bits, IntKind.signed]; omega
    generalize s64 i.a = sx at *
    clear hd1 hb8 hl3 hb hl himm
    go_enter Tryd.func75, Tryd.ntmps75
    go_wp2_with (first
      | (go_at_call 95; go_must ((with_reducible refine HOP.out.mono ?_); rintro e w1 ⟨rfl, hs, hg⟩; have HG1 := Lib.hid (HST.out w1 hs hg); have hh := HG1.out.h2; have n1 : ¬ w1.heap.size = w.heap.size := (by omega); have n2 : ¬ w.heap.size = w1.heap.size := (by omega); clear hs hg hh))
      | (go_at_call 72; go_must ((with_reducible refine (HI.out _ HG1.out.tb.tabs).mono ?_); rintro e w2 ⟨rfl, hb⟩; unfold infV; have HG2 := Lib.hid (HG1.out.below hb); have c0 := HG2.out.box.cell 0; have c1 := HG2.out.box.cell 1; have c2 := HG2.out.box.cell 2; have c3 := HG2.out.box.cell 3; have f1 := HG2.out.box.frozen 1; have f2 := HG2.out.box.frozen 2; have f3 := HG2.out.box.frozen 3; have r0 := HG2.out.res.cell 0; have r1 := HG2.out.res.cell 1; have r2 := HG2.out.res.cell 2; have r3 := HG2.out.res.cell 3; have z0 := HG2.out.res.frozen 0; have z1 := HG2.out.res.frozen 1; have z2 := HG2.out.res.frozen 2; have z3 := HG2.out.res.frozen 3; simp only [List.getElem?_toArray, List.getElem?_cons_zero, List.getElem?_cons_succ] at c0 c1 c2 c3 r0 r1 r2 r3; clear hb))
      | (go_at_call 99; go_must ((with_reducible refine (HX.out _ HG2.out.sc).mono ?_); rintro e w3 ⟨rfl, hs, hg⟩; clear c0 c1 c2 c3 f1 f2 f3 r0 r1 r2 r3 z0 z1 z2 z3; have HG3 := Lib.hid (HG2.out.call hs hg); have c0 := HG3.out.box.cell 0; have c1 := HG3.out.box.cell 1; have c2 := HG3.out.box.cell 2; have c3 := HG3.out.box.cell 3; have f1 := HG3.out.box.frozen 1; have f2 := HG3.out.box.frozen 2; have f3 := HG3.out.box.frozen 3; have r0 := HG3.out.res.cell 0; have r1 := HG3.out.res.cell 1; have r2 := HG3.out.res.cell 2; have r3 := HG3.out.res.cell 3; have z0 := HG3.out.res.frozen 0; have z1 := HG3.out.res.frozen 1; have z2 := HG3.out.res.frozen 2; have z3 := HG3.out.res.frozen 3; simp only [List.getElem?_toArray, List.getElem?_cons_zero, List.getElem?_cons_succ] at c0 c1 c2 c3 r0 r1 r2 r3; clear hs hg)))
    obtain ⟨q, hf⟩ := GSt.fin (show GSt w p l w1.heap.size none i.l _ _ _ _ _ _ from by rw [HL.out]; exact HG3.out.put 1 (.int .u64 i.a) rfl) (.int .u8 i.op.toNat) (.int .u64 i.a) (.int .u64 0) (.slice none 0 0) _ rfl
    have q0 := q.cell 0
    have q1 := q.cell 1
    have q2 := q.cell 2
    have q3 := q.cell 3
    simp only [List.getElem?_toArray, List.getElem?_cons_zero, List.getElem?_cons_succ] at q0 q1 q2 q3
    exact bodyPost_ret (v := .agg #[.int .u8 i.op.toNat, .int .u64 i.a, .int .u64 0, .slice none 0 0]) (by simp [results, Tryd.results75, go_sem, q0, q1, q2, q3]) rfl (gets_end (show GSt w p l w1.heap.size none i.l _ _ _ _ _ _ from by rw [HL.out]; exact HG3.out.put 1 (.int .u64 i.a) rfl) hf (ins_eq HB.out rfl HL.out rfl) (by rw [HPL.out]; omega))
  have d11 : ((m : Int) == 11) = false := by simp; omega
  have himm : immB m i = lebL i.a := by unfold immB; rw [if_neg m0, if_neg m1, if_neg m3, if_neg m5, if_neg m8, if_neg m9, if_neg m10, if_neg m11]
  rw [himm] at HPL hd1
  have HL := Lib.hid (show i.l = [] from List.eq_nil_of_length_eq_zero (by omega))
  have HB := Lib.hid (show i.b = 0 by omega)
  obtain ⟨ha, _⟩ := hz3 (by omega)
  have HX := Lib.hid (fun W (h : Sc W p l (k + 1)) => getNumber_ok h hd1 a0 ha)
  clear hd1 himm hb8 hl3
  go_enter Tryd.func75, Tryd.ntmps75
  go_wp2_with (first
    | (go_at_call 95; go_must ((with_reducible refine HOP.out.mono ?_); rintro e w1 ⟨rfl, hs, hg⟩; have HG1 := Lib.hid (HST.out w1 hs hg); have hh := HG1.out.h2; have n1 : ¬ w1.heap.size = w.heap.size := (by omega); have n2 : ¬ w.heap.size = w1.heap.size := (by omega); clear hs hg hh))
    | (go_at_call 72; go_must ((with_reducible refine (HI.out _ HG1.out.tb.tabs).mono ?_); rintro e w2 ⟨rfl, hb⟩; unfold infV; have HG2 := Lib.hid (HG1.out.below hb); have c0 := HG2.out.box.cell 0; have c1 := HG2.out.box.cell 1; have c2 := HG2.out.box.cell 2; have c3 := HG2.out.box.cell 3; have f1 := HG2.out.box.frozen 1; have f2 := HG2.out.box.frozen 2; have f3 := HG2.out.box.frozen 3; have r0 := HG2.out.res.cell 0; have r1 := HG2.out.res.cell 1; have r2 := HG2.out.res.cell 2; have r3 := HG2.out.res.cell 3; have z0 := HG2.out.res.frozen 0; have z1 := HG2.out.res.frozen 1; have z2 := HG2.out.res.frozen 2; have z3 := HG2.out.res.frozen 3; simp only [List.getElem?_toArray, List.getElem?_cons_zero, List.getElem?_cons_succ] at c0 c1 c2 c3 r0 r1 r2 r3; clear hb))
    | (go_at_call 98; go_must ((with_reducible refine (HX.out _ HG2.out.sc).mono ?_); rintro e w3 ⟨rfl, hs, hg⟩; clear c0 c1 c2 c3 f1 f2 f3 r0 r1 r2 r3 z0 z1 z2 z3; have HG3 := Lib.hid (HG2.out.call hs hg); have c0 := HG3.out.box.cell 0; have c1 := HG3.out.box.cell 1; have c2 := HG3.out.box.cell 2; have c3 := HG3.out.box.cell 3; have f1 := HG3.out.box.frozen 1; have f2 := HG3.out.box.frozen 2; have f3 := HG3.out.box.frozen 3; have r0 := HG3.out.res.cell 0; have r1 := HG3.out.res.cell 1; have r2 := HG3.out.res.cell 2; have r3 := HG3.out.res.cell 3; have z0 := HG3.out.res.frozen 0; have z1 := HG3.out.res.frozen 1; have z2 := HG3.out.res.frozen 2; have z3 := HG3.out.res.frozen 3; simp only [List.getElem?_toArray, List.getElem?_cons_zero, List.getElem?_cons_succ] at c0 c1 c2 c3 r0 r1 r2 r3; clear hs hg)))
  obtain ⟨q, hf⟩ := GSt.fin (show GSt w p l w1.heap.size none i.l _ _ _ _ _ _ from by rw [HL.out]; exact HG3.out.put 1 (.int .u64 i.a) rfl) (.int .u8 i.op.toNat) (.int .u64 i.a) (.int .u64 0) (.slice none 0 0) _ rfl
  have q0 := q.cell 0
  have q1 := q.cell 1
  have q2 := q.cell 2
  have q3 := q.cell 3
  simp only [List.getElem?_toArray, List.getElem?_cons_zero, List.getElem?_cons_succ] at q0 q1 q2 q3
  exact bodyPost_ret (v := .agg #[.int .u8 i.op.toNat, .int .u64 i.a, .int .u64 0, .slice none 0 0]) (by simp [results, Tryd.results75, go_sem, q0, q1, q2, q3]) rfl (gets_end (show GSt w p l w1.heap.size none i.l _ _ _ _ _ _ from by rw [HL.out]; exact HG3.out.put 1 (.int .u64 i.a) rfl) hf (ins_eq HB.out rfl HL.out rfl) (by rw [HPL.out]; omega))
end Go.Proofs.YtebgmfjgapmpfabDoor
