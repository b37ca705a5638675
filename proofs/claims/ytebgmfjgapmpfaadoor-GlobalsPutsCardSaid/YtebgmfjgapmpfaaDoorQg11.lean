/- The reference's reader: how far it is; Fail, Byte, Num, Index, Count, nought, whatever it is. -/
import Derived.Test.YtebgmfjgapmpfaaDoorQg09
import Derived.Test.YtebgmfjgapmpfaaDoorQg04
import Derived.Test.YtebgmfjgapmpfaaDoorQg07
import Derived.StillTailTactics
import Derived.Test.YtebgmfjgapmpfaaDoorQg02
import Derived.Test.YtebgmfjgapmpfaaDoorQg08
import Derived.Deep.RegionLaw
namespace Go.Proofs.YtebgmfjgapmpfaaDoor
open Go.RowKit
set_option linter.unusedVariables false
set_option maxRecDepth 100000

/-- A place, or an error and its place. -/
inductive RSt where
  | at (k : Nat)
  | bad (c a : Int)
def RSt.why : RSt → Int
  | .at _ => 0
  | .bad c _ => c
def RSt.off : RSt → Int
  | .at _ => 0
  | .bad _ a => a
def RSt.bind {β : Type} (s : RSt) (f : Nat → Res β) : Res β := match s with
  | .at k => f k
  | .bad c a => .err c a
def RSt.fail (s : RSt) (c a : Int) : RSt := match s with
  | .at _ => .bad c a
  | .bad c2 a2 => .bad c2 a2
def stOf {α : Type} : Res α → RSt
  | .ok _ k => .at k
  | .err c a => .bad c a
def RSt.Right (s : RSt) (l : List UInt8) (k : Int) : Prop := match s with
  | .at j => k = j ∧ j ≤ l.length
  | .bad c _ => c ≠ 0
/-- The reader at block q. -/
def Rs (w : World) (q : Nat) (l : List UInt8) (s : RSt) : Prop :=
  ∃ A cap k, Whole w q 55 #[.slice A l.length cap, .int .i64 k, .int .i64 s.why, .int .i64 s.off] ∧ Lies w q A (cells (nums l)) ∧ l.length ≤ cap ∧ cap ≤ maxLen ∧ s.Right l k
section
variable {w w' : World} {q : Nat} {l : List UInt8} {s : RSt} {k : Nat} {c a : Int}
theorem Rs.grown {row : Option Nat} (h : Rs w q l s) (hg : w.grownBy w' row) (hr : some q ≠ row) (hr2 : ∀ g, row = some g → q ≤ g) : Rs w' q l s := by
  obtain ⟨A, cap, k, h1, h2, h3⟩ := h
  exact ⟨A, cap, k, h1.grown hg hr, h2.grown hg (Nat.le_of_lt h1.lt) hr2, h3⟩
theorem Rs.below (h : Rs w q l s) (hb : Below w.heap.size w w') : Rs w' q l s := h.grown (gb_of_below none hb) (by simp) (fun g e => by cases e)
theorem Rs.alloc (h : Rs w q l s) (o : Obj) : Rs (w.alloc o) q l s := h.below (below_box w o)
theorem Rs.drewN (h : Rs w q l s) (n : Nat) : Rs (w.drewN n) q l s := h
theorem Rs.lt (h : Rs w q l s) : q < w.heap.size := by
  obtain ⟨A, cap, k, h1, _⟩ := h
  exact h1.lt
theorem Rs.good (h : Rs w q l (.at k)) : ∃ A cap, Whole w q 55 #[.slice A l.length cap, .int .i64 k, .int .i64 0, .int .i64 0] ∧ Lies w q A (cells (nums l)) ∧ l.length ≤ cap ∧ cap ≤ maxLen ∧ k ≤ l.length := by
  obtain ⟨A, cap, j, h1, h2, h3, h4, h5, h6⟩ := h
  subst h5
  exact ⟨A, cap, h1, h2, h3, h4, h6⟩
theorem Rs.badly (h : Rs w q l (.bad c a)) : ∃ A cap j, Whole w q 55 #[.slice A l.length cap, .int .i64 j, .int .i64 c, .int .i64 a] ∧ Lies w q A (cells (nums l)) ∧ l.length ≤ cap ∧ cap ≤ maxLen ∧ c ≠ 0 := by
  obtain ⟨A, cap, j, h1, h2, h3, h4, h5⟩ := h
  exact ⟨A, cap, j, h1, h2, h3, h4, h5⟩
/-- Whatever it is: the error's cell; the place, if there is none. -/
theorem Rs.cells (h : Rs w q l s) : w.cell? ⟨q, 2, none⟩ = some (.int .i64 s.why) ∧ ∃ j, w.cell? ⟨q, 1, none⟩ = some (.int .i64 j) ∧ (∀ k, s = .at k → j = k) := by
  obtain ⟨A, cap, j, h1, _, _, _, h5⟩ := h
  refine ⟨h1.cell 2, j, h1.cell 1, fun k e => ?_⟩
  subst e
  exact h5.1
theorem Rs.nz (h : Rs w q l (.bad c a)) : c ≠ 0 := by
  obtain ⟨A, cap, j, _, _, _, _, h5⟩ := h
  exact h5
theorem Rs.le (h : Rs w q l (.at k)) : k ≤ l.length := by
  obtain ⟨A, cap, _, _, _, _, h5⟩ := h.good
  exact h5
/-- The place is written. -/
theorem Rs.moved (h : Rs w q l (.at k)) (n : Nat) (v : Int) (k' : Nat) (hv : v = k') (hk : k' ≤ l.length) :
    Rs ((w.drewN n).setCell ⟨q, 1, none⟩ (.int .i64 v)) q l (.at k') ∧ w.grownBy ((w.drewN n).setCell ⟨q, 1, none⟩ (.int .i64 v)) (some q) := by
  subst hv
  have hlt := h.lt
  obtain ⟨A, cap, h1, h2, h3, h4, _⟩ := h.good
  have hg : w.grownBy ((w.drewN n).setCell ⟨q, 1, none⟩ (.int .i64 k')) (some q) := gb_put (p := ⟨q, 1, none⟩) (gb_drewN (gb_refl w _) n) (.inl rfl) _
  have hw : Whole (w.drewN n) q 55 #[.slice A l.length cap, .int .i64 k, .int .i64 0, .int .i64 0] := h1
  exact ⟨⟨A, cap, k', by simpa [RSt.why, RSt.off] using hw.put 1 (.int .i64 k'), h2.grown hg (Nat.le_of_lt hlt) (fun g e => by injection e with e; omega), h3, h4, rfl, hk⟩, hg⟩
end

theorem fail_ref {w : World} {q : Nat} {l : List UInt8} {s : RSt} (h : Rs w q l s) (c a : Int) (hc : c ≠ 0) :
    Calls Tryd.prog 83 #[.pointer (some ⟨q, 0, none⟩), .int .i64 c, .int .i64 a] w fun e w' => e = .returned (.tuple #[]) ∧ Rs w' q l (s.fail c a) ∧ w.grownBy w' (some q) := by
  cases s with
  | «at» k =>
    show Calls _ _ _ _ fun e w' => e = .returned (.tuple #[]) ∧ Rs w' q l (.bad c a) ∧ w.grownBy w' (some q)
    have hlt := h.lt
    obtain ⟨A, cap, h1, h2, h3, h4, _⟩ := h.good
    have c2 := h1.cell 2
    have c3 := h1.cell 3
    have f2 := h1.frozen 2
    have f3 := h1.frozen 3
    simp only [List.getElem?_toArray, List.getElem?_cons_zero, List.getElem?_cons_succ] at c2 c3
    have hg : w.grownBy ((w.setCell ⟨q, 2, none⟩ (.int .i64 c)).setCell ⟨q, 3, none⟩ (.int .i64 a)) (some q) := gb_put (p := ⟨q, 3, none⟩) (gb_put (p := ⟨q, 2, none⟩) (gb_refl w _) (.inl rfl) _) (.inl rfl) _
    have HG := Lib.hid hg
    have HR : Hid (Rs ((w.setCell ⟨q, 2, none⟩ (.int .i64 c)).setCell ⟨q, 3, none⟩ (.int .i64 a)) q l (.bad c a)) :=
      ⟨A, cap, k, by simpa [RSt.why, RSt.off] using (h1.put 2 (.int .i64 c)).put 3 (.int .i64 a), h2.grown hg (Nat.le_of_lt hlt) (fun g e => by injection e with e; omega), h3, h4, hc⟩
    clear h h1 h2 hg hc
    go_enter Tryd.func83, Tryd.ntmps83
    go_wp2
    go_end0
    exact ⟨rfl, HR.out, HG.out⟩
  | bad c2 a2 =>
    show Calls _ _ _ _ fun e w' => e = .returned (.tuple #[]) ∧ Rs w' q l (.bad c2 a2) ∧ w.grownBy w' (some q)
    have HR := Lib.hid h
    obtain ⟨A, cap, j, h1, _, _, _, hn⟩ := h.badly
    have g2 := h1.cell 2
    simp only [List.getElem?_toArray, List.getElem?_cons_zero, List.getElem?_cons_succ] at g2
    have d : (c2 == 0) = false := by simpa using hn
    clear h h1 hn hc
    go_enter Tryd.func83, Tryd.ntmps83
    go_wp2
    go_end0
    exact ⟨rfl, HR.out, gb_refl _ _⟩

/-- A byte, or 0. -/
def v8 : Res UInt8 → Int
  | .ok c _ => c.toNat
  | .err _ _ => 0
set_option maxHeartbeats 800000 in
theorem byte_ref {w : World} {q : Nat} {l : List UInt8} {s : RSt} (h : Rs w q l s) :
    Calls Tryd.prog 84 #[.pointer (some ⟨q, 0, none⟩)] w fun e w' => e = .returned (.int .i64 (v8 (s.bind (byteR l)))) ∧ Rs w' q l (stOf (s.bind (byteR l))) ∧ w.grownBy w' (some q) := by
  cases s with
  | bad c a =>
    show Calls _ _ _ _ fun e w' => e = .returned (.int .i64 0) ∧ Rs w' q l (.bad c a) ∧ w.grownBy w' (some q)
    have HR := Lib.hid h
    obtain ⟨A, cap, j, h1, _, _, _, hn⟩ := h.badly
    have g2 := h1.cell 2
    simp only [List.getElem?_toArray, List.getElem?_cons_zero, List.getElem?_cons_succ] at g2
    have d : (c != 0) = true := by simpa using hn
    clear h h1 hn
    go_enter Tryd.func84, Tryd.ntmps84
    go_wp2
    go_ret
    exact ⟨rfl, HR.out, gb_refl _ _⟩
  | «at» k =>
    show Calls _ _ _ _ fun e w' => e = .returned (.int .i64 (v8 (byteR l k))) ∧ Rs w' q l (stOf (byteR l k)) ∧ w.grownBy w' (some q)
    have HS := Lib.hid h
    obtain ⟨A, cap, h1, h2, h3, h4, h5⟩ := h.good
    have h4' := h4
    unfold maxLen at h4'
    have c0 := h1.cell 0
    have c1 := h1.cell 1
    have c2 := h1.cell 2
    have f1 := h1.frozen 1
    simp only [List.getElem?_toArray, List.getElem?_cons_zero, List.getElem?_cons_succ] at c0 c1 c2
    unfold byteR
    by_cases hk : k < l.length
    · have hc : l[k]? = some l[k] := List.getElem?_eq_getElem hk
      rw [hc]
      have hcn : (nums l)[k]? = some (l[k].toNat : Int) := by
        unfold nums
        rw [List.getElem?_map, hc]
        rfl
      obtain ⟨c, hcc⟩ : ∃ c, c = l[k] := ⟨_, rfl⟩
      rw [← hcc] at hcn ⊢
      show Calls _ _ _ _ fun e w' => e = .returned (.int .i64 c.toNat) ∧ Rs w' q l (.at (k + 1)) ∧ w.grownBy w' (some q)
      have hw : IntKind.i64.wrap (c.toNat : Int) = c.toNat := by rw [IntKind.wrap_i64]; have := c.toNat_lt; omega
      have d : ¬ l.length ≤ k := by omega
      have d2 : decide ((l.length : Int) ≤ k) = false := by simp; omega
      have e1 : IntKind.i64.wrap ((k : Int) + 1) = k + 1 := by rw [IntKind.wrap_i64]; omega
      have e2 : IntKind.i64.wrap (((k : Int) + 1) - 1) = k := by rw [IntKind.wrap_i64]; omega
      have HM := Lib.hid (fun n => HS.out.moved n ((k : Int) + 1) (k + 1) (by omega) (by omega))
      have HCN := Lib.hid hcn
      clear h h1 h2 hc hcc hcn
      go_enter Tryd.func84, Tryd.ntmps84
      go_wp2
      go_quiet (fail)
      go_wp2
      obtain ⟨hs2, hg2⟩ := HM.out nq
      generalize (w.drewN nq).setCell ⟨q, 1, none⟩ (.int .i64 ((k : Int) + 1)) = W at *
      obtain ⟨A2, cap2, j1, j2, j3, j4, j5⟩ := hs2.good
      obtain ⟨b, off, rfl, _, hcell⟩ := j2.byte HCN.out
      have b0 := j1.cell 0
      have b1 := j1.cell 1
      simp only [List.getElem?_toArray, List.getElem?_cons_zero, List.getElem?_cons_succ] at b0 b1
      rw [show ((k + 1 : Nat) : Int) = (k : Int) + 1 by omega] at b1
      have HS2 := Lib.hid hs2
      have HG2 := Lib.hid hg2
      clear hs2 hg2 j1 j2 c0 c1 c2 f1
      go_quiet (fail)
      go_wp2
      go_ret
      exact ⟨rfl, HS2.out.drewN _, gb_drewN HG2.out _⟩
    · have hc : l[k]? = none := List.getElem?_eq_none (by omega)
      rw [hc]
      show Calls _ _ _ _ fun e w' => e = .returned (.int .i64 0) ∧ Rs w' q l (.bad 2 k) ∧ w.grownBy w' (some q)
      have d : l.length ≤ k := by omega
      have d2 : decide ((l.length : Int) ≤ k) = true := by simp; omega
      have HF := Lib.hid (fun n => fail_ref (HS.out.drewN n) 2 k (by decide))
      clear h h1 h2 hc
      go_enter Tryd.func84, Tryd.ntmps84
      go_wp2
      go_quiet (fail)
      go_wp2_with (go_at_call 83; go_must ((with_reducible refine (HF.out _).mono ?_); rintro e w1 ⟨rfl, hs, hg⟩; have HS1 := Lib.hid hs; have HG1 := Lib.hid hg; clear hs hg))
      go_ret
      exact ⟨rfl, HS1.out, gb_trans (gb_drewN (gb_refl w _) _) HG1.out⟩

/-- creelref02.Read of any bytes. -/
theorem refReadU_any {w : World} {A : Option Addr} {cap B : Nat} {l : List UInt8} (hl : Lies w B A (cells (nums l))) (hB : B ≤ w.heap.size) (hc : l.length ≤ cap) (hm : cap ≤ maxLen) (k n : Nat) (hk : k ≤ l.length) (m1 : 1 ≤ n) (m2 : n ≤ 64) :
    Calls Tryd.prog 149 #[.slice A l.length cap, .int .i64 k, .int .i64 n, .bool false] w fun x w' => x = .returned (readT (uintR l k n)) ∧ Below w.heap.size w w' := by
  have hlen := nums_length l
  have hb := nums_wf l
  have hp := onN_stop l k n
  have hpM := hp.leM
  have hpR := hp.leR
  rw [List.length_drop, hlen] at hpR
  unfold uintR
  rw [if_pos ⟨m1, m2⟩]
  rw [← hlen] at hc hk ⊢
  generalize onN l k n = p at *
  generalize nums l = r at *
  by_cases h1 : p = (n + 6) / 7
  · rw [if_pos h1]
    exact rr_right r A cap B k n p false 0 0 3 w hl hB hb hc hm hk m1 m2 hp (.inl ⟨h1, rfl, rfl, rfl⟩)
  · rw [if_neg h1]
    by_cases h2 : p = r.length - k
    · rw [show (r.drop k)[p]? = none from List.getElem?_eq_none (by rw [List.length_drop]; omega)]
      exact rr_right r A cap B k n p false 0 0 2 w hl hB hb hc hm hk m1 m2 hp (.inr (.inl ⟨by omega, by omega, rfl, rfl, rfl⟩))
    · obtain ⟨c, hpc⟩ : ∃ c, (r.drop k)[p]? = some c := ⟨_, List.getElem?_eq_getElem (by rw [List.length_drop]; omega)⟩
      rw [hpc]
      obtain ⟨c0, c1⟩ := hb c (List.mem_of_mem_drop (List.mem_of_getElem? hpc))
      have hpM2 : p < (n + 6) / 7 := by omega
      have c2 := hp.off c hpM2 hpc
      obtain ⟨l0, l1⟩ := low_bd ((r.drop k).take p)
      obtain ⟨b0, b1⟩ := num_bd hpc c0 c2
      have hlen := take_len hpc
      rw [hlen] at l1
      have hov : numU ((r.drop k).take p) c / 2 ^ n = c / 2 ^ (n - 7 * p) := by unfold numU; rw [hlen]; exact over_more l0 l1 (by omega)
      have hext : ext false (numU ((r.drop k).take p) c) (7 * (p + 1)) = numU ((r.drop k).take p) c := by simp [ext]
      have hgf := good_fits (s := false) (n := n) (m := 7 * (p + 1)) (by omega) m1 b0 b1
      have hfit : Fits false (numU ((r.drop k).take p) c) n ↔ c / 2 ^ (n - 7 * p) = 0 := by unfold Fits; rw [if_neg (by simp), hov]
      rw [hext, hfit] at hgf
      have hlow := low_take hpc c0 c2
      by_cases hf : c / 2 ^ (n - 7 * p) = 0
      · simp only [if_pos hf]
        refine rr_right r A cap B k n p false _ _ _ w hl hB hb hc hm hk m1 m2 hp (.inr (.inr (.inr ⟨hpM2, by omega, ?_, ?_, by omega, rfl⟩)))
        · rw [hlow]; exact hgf.2 hf
        · rw [hlow, hext]
          have hbu := bdU (c := c) l0 l1 c0 (b := n) (by omega) hf
          have hm := mono2 m2
          have e : numU ((r.drop k).take p) c = low ((r.drop k).take p) + c * 2 ^ (7 * p) := by unfold numU; rw [hlen]
          rw [Int.emod_eq_of_lt b0 (by omega)]
      · simp only [if_neg hf]
        refine rr_right r A cap B k n p false _ _ _ w hl hB hb hc hm hk m1 m2 hp (.inr (.inr (.inl ⟨hpM2, by omega, ?_, rfl, rfl, rfl⟩)))
        rw [hlow]; exact fun hg => hf (hgf.1 hg)
/-- .. with a sign. -/
def readM : Res Int → Value
  | .ok v k => .tuple #[.int .u64 (v % 2 ^ 64), .int .i64 k, .int .i64 0]
  | .err c _ => .tuple #[.int .u64 0, .int .i64 0, .int .i64 c]
theorem refReadI_any {w : World} {A : Option Addr} {cap B : Nat} {l : List UInt8} (hl : Lies w B A (cells (nums l))) (hB : B ≤ w.heap.size) (hc : l.length ≤ cap) (hm : cap ≤ maxLen) (k n : Nat) (hk : k ≤ l.length) (m1 : 1 ≤ n) (m2 : n ≤ 64) :
    Calls Tryd.prog 149 #[.slice A l.length cap, .int .i64 k, .int .i64 n, .bool true] w fun x w' => x = .returned (readM (intR l k n)) ∧ Below w.heap.size w w' := by
  have hlen := nums_length l
  have hb := nums_wf l
  have hp := onN_stop l k n
  have hpM := hp.leM
  have hpR := hp.leR
  rw [List.length_drop, hlen] at hpR
  unfold intR
  rw [if_pos ⟨m1, m2⟩]
  rw [← hlen] at hc hk ⊢
  generalize onN l k n = p at *
  generalize nums l = r at *
  by_cases h1 : p = (n + 6) / 7
  · rw [if_pos h1]
    exact rr_right r A cap B k n p true 0 0 3 w hl hB hb hc hm hk m1 m2 hp (.inl ⟨h1, rfl, rfl, rfl⟩)
  · rw [if_neg h1]
    by_cases h2 : p = r.length - k
    · rw [show (r.drop k)[p]? = none from List.getElem?_eq_none (by rw [List.length_drop]; omega)]
      exact rr_right r A cap B k n p true 0 0 2 w hl hB hb hc hm hk m1 m2 hp (.inr (.inl ⟨by omega, by omega, rfl, rfl, rfl⟩))
    · obtain ⟨c, hpc⟩ : ∃ c, (r.drop k)[p]? = some c := ⟨_, List.getElem?_eq_getElem (by rw [List.length_drop]; omega)⟩
      rw [hpc]
      obtain ⟨c0, c1⟩ := hb c (List.mem_of_mem_drop (List.mem_of_getElem? hpc))
      have hpM2 : p < (n + 6) / 7 := by omega
      have c2 := hp.off c hpM2 hpc
      obtain ⟨l0, l1⟩ := low_bd ((r.drop k).take p)
      obtain ⟨b0, b1⟩ := num_bd hpc c0 c2
      have hlen := take_len hpc
      rw [hlen] at l1
      have hov : numS ((r.drop k).take p) c / 2 ^ (n - 1) = sg c / 2 ^ (n - 7 * p - 1) := by
        unfold numS; rw [hlen, show n - 7 * p - 1 = n - 1 - 7 * p by omega]; exact over_more l0 l1 (by omega)
      have hext := ext_signed hpc c0 c2
      have hgf := good_fits (s := true) (n := n) (m := 7 * (p + 1)) (by omega) m1 b0 b1
      have hfit : Fits true (numS ((r.drop k).take p) c) n ↔ (sg c / 2 ^ (n - 7 * p - 1) = 0 ∨ sg c / 2 ^ (n - 7 * p - 1) = -1) := by unfold Fits; rw [if_pos rfl, hov]
      rw [hext, hfit] at hgf
      have hlow := low_take hpc c0 c2
      by_cases hf : sg c / 2 ^ (n - 7 * p - 1) = 0 ∨ sg c / 2 ^ (n - 7 * p - 1) = -1
      · simp only [if_pos hf]
        refine rr_right r A cap B k n p true _ _ _ w hl hB hb hc hm hk m1 m2 hp (.inr (.inr (.inr ⟨hpM2, by omega, ?_, ?_, by omega, rfl⟩)))
        · rw [hlow]; exact hgf.2 hf
        · rw [hlow, hext]
      · simp only [if_neg hf]
        refine rr_right r A cap B k n p true _ _ _ w hl hB hb hc hm hk m1 m2 hp (.inr (.inr (.inl ⟨hpM2, by omega, ?_, rfl, rfl, rfl⟩)))
        rw [hlow]; exact fun hg => hf (hgf.1 hg)
end Go.Proofs.YtebgmfjgapmpfaaDoor

/- The reference's reader: Num, Index, Count, nought. -/
namespace Go.Proofs.YtebgmfjgapmpfaaDoor
open Go.RowKit
set_option linter.unusedVariables false
set_option maxRecDepth 100000

/-- A number, or 0. -/
def vZ : Res Int → Int
  | .ok v _ => v
  | .err _ _ => 0
def vM : Res Int → Int
  | .ok v _ => v % 2 ^ 64
  | .err _ _ => 0
/-- What is held while a number is read. -/
abbrev HNum (w : World) (q : Nat) (v0 v1 : Value) (W : World) : Prop := Below w.heap.size w W ∧ W.cell? ⟨q, 0, none⟩ = some v0 ∧ W.cell? ⟨q, 1, none⟩ = some v1
theorem hnum_on {w : World} {q : Nat} {v0 v1 : Value} {W W' : World} (h : HNum w q v0 v1 W) (hq : q < w.heap.size) (hb : Below W.heap.size W W') : HNum w q v0 v1 W' :=
  ⟨h.1.trans (hb.mono h.1.size), (hb.cell (p := ⟨q, 0, none⟩) (by show q < _; have := h.1.size; omega)).trans h.2.1, (hb.cell (p := ⟨q, 1, none⟩) (by show q < _; have := h.1.size; omega)).trans h.2.2⟩
theorem hnum_start {w : World} {q : Nat} {v0 v1 : Value} (c0 : w.cell? ⟨q, 0, none⟩ = some v0) (c1 : w.cell? ⟨q, 1, none⟩ = some v1) (n : Nat) : HNum w q v0 v1 (w.drewN n) := ⟨⟨rfl, rfl, rfl, Nat.le_refl _, fun _ _ => rfl⟩, c0, c1⟩
theorem hnum_bel {w : World} {q : Nat} {v0 v1 : Value} {W : World} (h : HNum w q v0 v1 W) : Below w.heap.size w W := h.1
set_option maxHeartbeats 1000000 in
theorem numU_ref {w : World} {q : Nat} {l : List UInt8} {s : RSt} (h : Rs w q l s) (n : Nat) (n1 : 1 ≤ n) (n2 : n ≤ 64) :
    Calls Tryd.prog 132 #[.pointer (some ⟨q, 0, none⟩), .int .i64 n, .bool false] w fun e w' => e = .returned (.int .u64 (vZ (s.bind fun k => uintR l k n))) ∧ Rs w' q l (stOf (s.bind fun k => uintR l k n)) ∧ w.grownBy w' (some q) := by
  cases s with
  | bad c a =>
    show Calls _ _ _ _ fun e w' => e = .returned (.int .u64 0) ∧ Rs w' q l (.bad c a) ∧ w.grownBy w' (some q)
    have HR := Lib.hid h
    obtain ⟨A, cap, j, h1, _, _, _, hn⟩ := h.badly
    have g2 := h1.cell 2
    simp only [List.getElem?_toArray, List.getElem?_cons_zero, List.getElem?_cons_succ] at g2
    have d : (c != 0) = true := by simpa using hn
    clear h h1 hn
    go_enter Tryd.func132, Tryd.ntmps132
    go_wp2
    go_ret
    exact ⟨rfl, HR.out, gb_refl _ _⟩
  | «at» k =>
    show Calls _ _ _ _ fun e w' => e = .returned (.int .u64 (vZ (uintR l k n))) ∧ Rs w' q l (stOf (uintR l k n)) ∧ w.grownBy w' (some q)
    have HS := Lib.hid h
    have hlt := h.lt
    obtain ⟨A, cap, h1, h2, h3, h4, h5⟩ := h.good
    have c0 := h1.cell 0
    have c1 := h1.cell 1
    have c2 := h1.cell 2
    simp only [List.getElem?_toArray, List.getElem?_cons_zero, List.getElem?_cons_succ] at c0 c1 c2
    have hU := fun W (hb : Below w.heap.size w W) => refReadU_any (w := W) (h2.below hb (Nat.le_of_lt hlt)) (Nat.le_trans (Nat.le_of_lt hlt) hb.size) h3 h4 k n h5 n1 n2
    cases hr : uintR l k n with
    | ok v k' =>
      show Calls _ _ _ _ fun e w' => e = .returned (.int .u64 v) ∧ Rs w' q l (.at k') ∧ w.grownBy w' (some q)
      simp only [hr, readT] at hU
      have HU := Lib.hid hU
      have HK := Lib.hid (uintR_ok hr).1
      clear hU hr h h1 h2
      go_enter Tryd.func132, Tryd.ntmps132
      go_wp2
      go_region_held3 (fun W => Below w.heap.size w W ∧ W.cell? ⟨q, 0, none⟩ = some (.slice A l.length cap) ∧ W.cell? ⟨q, 1, none⟩ = some (.int .i64 k))
        (first | assumption | exact hnum_start c0 c1 1 | exact hnum_start c0 c1 _)
        ((go_at_call 149; (with_reducible refine (HU.out _ (hnum_bel ‹_›)).mono ?_); rintro e w1 ⟨rfl, hb⟩; have hk1 := hnum_on ‹_› hlt hb; have HK1 := Lib.hid hk1.1; clear hb))
      have HS1 := Lib.hid (Rs.below HS.out HK1.out)
      have HG1 := Lib.hid (gb_of_below (some q) HK1.out)
      obtain ⟨A9, cap9, i1, _⟩ := HS1.out.good
      have x1 := i1.cell 1
      have y1 := i1.frozen 1
      simp only [List.getElem?_toArray, List.getElem?_cons_zero, List.getElem?_cons_succ] at x1
      clear i1 c0 c1 c2
      go_wp2
      go_ret
      have hm := HS1.out.moved 0 (k' : Int) k' rfl HK.out
      exact ⟨rfl, hm.1, gb_trans HG1.out hm.2⟩
    | err c a =>
      obtain ⟨rfl, hcs⟩ := uintR_err hr
      show Calls _ _ _ _ fun e w' => e = .returned (.int .u64 0) ∧ Rs w' q l (.bad c k) ∧ w.grownBy w' (some q)
      simp only [hr, readT] at hU
      have HU := Lib.hid hU
      have hne : c ≠ 0 := by omega
      have d : (c != 0) = true := by simpa using hne
      have HF := Lib.hid (fun W (g : Rs W q l (.at k)) => fail_ref g c k hne)
      clear hU hr h h1 h2 hne hcs
      go_enter Tryd.func132, Tryd.ntmps132
      go_wp2
      go_region_held3 (fun W => Below w.heap.size w W ∧ W.cell? ⟨q, 0, none⟩ = some (.slice A l.length cap) ∧ W.cell? ⟨q, 1, none⟩ = some (.int .i64 k))
        (first | assumption | exact hnum_start c0 c1 1 | exact hnum_start c0 c1 _)
        ((go_at_call 149; (with_reducible refine (HU.out _ (hnum_bel ‹_›)).mono ?_); rintro e w1 ⟨rfl, hb⟩; have hk1 := hnum_on ‹_› hlt hb; have HK1 := Lib.hid hk1.1; clear hb))
      have HS1 := Lib.hid (Rs.below HS.out HK1.out)
      have HG1 := Lib.hid (gb_of_below (some q) HK1.out)
      obtain ⟨A9, cap9, i1, _⟩ := HS1.out.good
      have x1 := i1.cell 1
      have y1 := i1.frozen 1
      simp only [List.getElem?_toArray, List.getElem?_cons_zero, List.getElem?_cons_succ] at x1
      clear i1 c0 c1 c2
      go_wp2_with (go_at_call 83; go_must ((with_reducible refine (HF.out _ HS1.out).mono ?_); rintro e w2 ⟨rfl, hs, hg⟩; have HS2 := Lib.hid hs; have HG2 := Lib.hid hg; clear hs hg))
      go_ret
      exact ⟨rfl, HS2.out, gb_trans HG1.out HG2.out⟩
set_option maxHeartbeats 1000000 in
theorem numS_ref {w : World} {q : Nat} {l : List UInt8} {s : RSt} (h : Rs w q l s) (n : Nat) (n1 : 1 ≤ n) (n2 : n ≤ 64) :
    Calls Tryd.prog 132 #[.pointer (some ⟨q, 0, none⟩), .int .i64 n, .bool true] w fun e w' => e = .returned (.int .u64 (vM (s.bind fun k => intR l k n))) ∧ Rs w' q l (stOf (s.bind fun k => intR l k n)) ∧ w.grownBy w' (some q) := by
  cases s with
  | bad c a =>
    show Calls _ _ _ _ fun e w' => e = .returned (.int .u64 0) ∧ Rs w' q l (.bad c a) ∧ w.grownBy w' (some q)
    have HR := Lib.hid h
    obtain ⟨A, cap, j, h1, _, _, _, hn⟩ := h.badly
    have g2 := h1.cell 2
    simp only [List.getElem?_toArray, List.getElem?_cons_zero, List.getElem?_cons_succ] at g2
    have d : (c != 0) = true := by simpa using hn
    clear h h1 hn
    go_enter Tryd.func132, Tryd.ntmps132
    go_wp2
    go_ret
    exact ⟨rfl, HR.out, gb_refl _ _⟩
  | «at» k =>
    show Calls _ _ _ _ fun e w' => e = .returned (.int .u64 (vM (intR l k n))) ∧ Rs w' q l (stOf (intR l k n)) ∧ w.grownBy w' (some q)
    have HS := Lib.hid h
    have hlt := h.lt
    obtain ⟨A, cap, h1, h2, h3, h4, h5⟩ := h.good
    have c0 := h1.cell 0
    have c1 := h1.cell 1
    have c2 := h1.cell 2
    simp only [List.getElem?_toArray, List.getElem?_cons_zero, List.getElem?_cons_succ] at c0 c1 c2
    have hU := fun W (hb : Below w.heap.size w W) => refReadI_any (w := W) (h2.below hb (Nat.le_of_lt hlt)) (Nat.le_trans (Nat.le_of_lt hlt) hb.size) h3 h4 k n h5 n1 n2
    cases hr : intR l k n with
    | ok v k' =>
      show Calls _ _ _ _ fun e w' => e = .returned (.int .u64 (v % 2 ^ 64)) ∧ Rs w' q l (.at k') ∧ w.grownBy w' (some q)
      simp only [hr, readM] at hU
      obtain ⟨x, hx⟩ : ∃ x, x = v % 2 ^ 64 := ⟨_, rfl⟩
      rw [← hx] at hU ⊢
      have HU := Lib.hid hU
      have HK := Lib.hid (intR_ok hr)
      clear hU hr h h1 h2 hx
      go_enter Tryd.func132, Tryd.ntmps132
      go_wp2
      go_region_held3 (fun W => Below w.heap.size w W ∧ W.cell? ⟨q, 0, none⟩ = some (.slice A l.length cap) ∧ W.cell? ⟨q, 1, none⟩ = some (.int .i64 k))
        (first | assumption | exact hnum_start c0 c1 1 | exact hnum_start c0 c1 _)
        ((go_at_call 149; (with_reducible refine (HU.out _ (hnum_bel ‹_›)).mono ?_); rintro e w1 ⟨rfl, hb⟩; have hk1 := hnum_on ‹_› hlt hb; have HK1 := Lib.hid hk1.1; clear hb))
      have HS1 := Lib.hid (Rs.below HS.out HK1.out)
      have HG1 := Lib.hid (gb_of_below (some q) HK1.out)
      obtain ⟨A9, cap9, i1, _⟩ := HS1.out.good
      have x1 := i1.cell 1
      have y1 := i1.frozen 1
      simp only [List.getElem?_toArray, List.getElem?_cons_zero, List.getElem?_cons_succ] at x1
      clear i1 c0 c1 c2
      go_wp2
      go_ret
      have hm := HS1.out.moved 0 (k' : Int) k' rfl HK.out
      exact ⟨rfl, hm.1, gb_trans HG1.out hm.2⟩
    | err c a =>
      obtain ⟨rfl, hcs⟩ := intR_err hr
      show Calls _ _ _ _ fun e w' => e = .returned (.int .u64 0) ∧ Rs w' q l (.bad c k) ∧ w.grownBy w' (some q)
      simp only [hr, readM] at hU
      have HU := Lib.hid hU
      have hne : c ≠ 0 := by omega
      have d : (c != 0) = true := by simpa using hne
      have HF := Lib.hid (fun W (g : Rs W q l (.at k)) => fail_ref g c k hne)
      clear hU hr h h1 h2 hne hcs
      go_enter Tryd.func132, Tryd.ntmps132
      go_wp2
      go_region_held3 (fun W => Below w.heap.size w W ∧ W.cell? ⟨q, 0, none⟩ = some (.slice A l.length cap) ∧ W.cell? ⟨q, 1, none⟩ = some (.int .i64 k))
        (first | assumption | exact hnum_start c0 c1 1 | exact hnum_start c0 c1 _)
        ((go_at_call 149; (with_reducible refine (HU.out _ (hnum_bel ‹_›)).mono ?_); rintro e w1 ⟨rfl, hb⟩; have hk1 := hnum_on ‹_› hlt hb; have HK1 := Lib.hid hk1.1; clear hb))
      have HS1 := Lib.hid (Rs.below HS.out HK1.out)
      have HG1 := Lib.hid (gb_of_below (some q) HK1.out)
      obtain ⟨A9, cap9, i1, _⟩ := HS1.out.good
      have x1 := i1.cell 1
      have y1 := i1.frozen 1
      simp only [List.getElem?_toArray, List.getElem?_cons_zero, List.getElem?_cons_succ] at x1
      clear i1 c0 c1 c2
      go_wp2_with (go_at_call 83; go_must ((with_reducible refine (HF.out _ HS1.out).mono ?_); rintro e w2 ⟨rfl, hs, hg⟩; have HS2 := Lib.hid hs; have HG2 := Lib.hid hg; clear hs hg))
      go_ret
      exact ⟨rfl, HS2.out, gb_trans HG1.out HG2.out⟩

theorem vZ_bd {l : List UInt8} {s : RSt} : 0 ≤ vZ (s.bind (indexR l)) ∧ vZ (s.bind (indexR l)) ≤ 4294967295 := by
  cases s with
  | bad c a => exact ⟨Int.le_refl _, by show (0 : Int) ≤ _; omega⟩
  | «at» k =>
    show 0 ≤ vZ (indexR l k) ∧ vZ (indexR l k) ≤ 4294967295
    cases hr : indexR l k with
    | err c a => exact ⟨Int.le_refl _, by show (0 : Int) ≤ _; omega⟩
    | ok v k' => exact (indexR_ok hr).2
theorem index_ref {w : World} {q : Nat} {l : List UInt8} {s : RSt} (h : Rs w q l s) :
    Calls Tryd.prog 130 #[.pointer (some ⟨q, 0, none⟩)] w fun e w' => e = .returned (.int .u32 (vZ (s.bind (indexR l)))) ∧ Rs w' q l (stOf (s.bind (indexR l))) ∧ w.grownBy w' (some q) := by
  have HN := Lib.hid (show Calls Tryd.prog 132 #[.pointer (some ⟨q, 0, none⟩), .int .i64 32, .bool false] w fun e w' => e = .returned (.int .u64 (vZ (s.bind (indexR l)))) ∧ Rs w' q l (stOf (s.bind (indexR l))) ∧ w.grownBy w' (some q) from numU_ref h 32 (by omega) (by omega))
  obtain ⟨b0, b1⟩ := vZ_bd (l := l) (s := s)
  generalize vZ (s.bind (indexR l)) = x at *
  have hw : IntKind.u32.wrap x = x := by simp [IntKind.wrap, IntKind.bits, IntKind.signed]; omega
  clear h
  go_enter Tryd.func130, Tryd.ntmps130
  go_wp2_with (go_at_call 132; go_must ((with_reducible refine HN.out.mono ?_); rintro e w1 ⟨rfl, hs, hg⟩; have HS := Lib.hid hs; have HG := Lib.hid hg; clear hs hg))
  go_ret
  exact ⟨rfl, HS.out, HG.out⟩

set_option maxHeartbeats 800000 in
theorem count_ref {w : World} {q : Nat} {l : List UInt8} {k : Nat} (h : Rs w q l (.at k)) :
    Calls Tryd.prog 129 #[.pointer (some ⟨q, 0, none⟩)] w fun e w' => e = .returned (.int .i64 (vZ (countR l k))) ∧ Rs w' q l (stOf (countR l k)) ∧ w.grownBy w' (some q) := by
  have HN := Lib.hid (show Calls Tryd.prog 130 #[.pointer (some ⟨q, 0, none⟩)] w fun e w' => e = .returned (.int .u32 (vZ (indexR l k))) ∧ Rs w' q l (stOf (indexR l k)) ∧ w.grownBy w' (some q) from index_ref h)
  obtain ⟨A, cap, h1, _⟩ := h.good
  have c1 := h1.cell 1
  simp only [List.getElem?_toArray, List.getElem?_cons_zero, List.getElem?_cons_succ] at c1
  unfold countR atMostR
  cases hr : indexR l k with
  | err c a =>
    rw [hr] at HN
    rw [Res.bind_err]
    show Calls _ _ _ _ fun e w' => e = .returned (.int .i64 0) ∧ Rs w' q l (.bad c a) ∧ w.grownBy w' (some q)
    obtain ⟨rfl, hcs⟩ := uintR_err (show uintR l k 32 = .err c a from hr)
    have hne : (c != 0) = true := by simp; omega
    have HN2 := Lib.hid (show Calls Tryd.prog 130 #[.pointer (some ⟨q, 0, none⟩)] w fun e w' => e = .returned (.int .u32 0) ∧ Rs w' q l (.bad c k) ∧ w.grownBy w' (some q) from HN.out)
    clear h h1 hr HN hcs
    go_enter Tryd.func129, Tryd.ntmps129
    go_wp2_with (go_at_call 130; go_must ((with_reducible refine HN2.out.mono ?_); rintro e w1 ⟨rfl, hs, hg⟩; have HS := Lib.hid hs; have HG := Lib.hid hg; have x2 := hs.cells.1; rw [show (RSt.bad c k).why = c from rfl] at x2; clear hs hg c1))
    go_ret
    exact ⟨rfl, HS.out, HG.out⟩
  | ok v k' =>
    rw [hr] at HN
    rw [Res.bind_ok]
    obtain ⟨_, v0, v1⟩ := indexR_ok hr
    have HN2 := Lib.hid (show Calls Tryd.prog 130 #[.pointer (some ⟨q, 0, none⟩)] w fun e w' => e = .returned (.int .u32 v) ∧ Rs w' q l (.at k') ∧ w.grownBy w' (some q) from HN.out)
    have hw : IntKind.i64.wrap v = v := by rw [IntKind.wrap_i64]; omega
    by_cases hm : v ≤ 10000
    · rw [if_pos hm]
      show Calls _ _ _ _ fun e w' => e = .returned (.int .i64 v) ∧ Rs w' q l (.at k') ∧ w.grownBy w' (some q)
      have d : decide (10000 < v) = false := by simp; omega
      clear h h1 hr HN v0 v1
      go_enter Tryd.func129, Tryd.ntmps129
      go_wp2_with (go_at_call 130; go_must ((with_reducible refine HN2.out.mono ?_); rintro e w1 ⟨rfl, hs, hg⟩; have HS := Lib.hid hs; have HG := Lib.hid hg; have x2 := hs.cells.1; rw [show (RSt.at k').why = 0 from rfl] at x2; clear hs hg c1))
      go_ret
      exact ⟨rfl, HS.out, HG.out⟩
    · rw [if_neg hm]
      show Calls _ _ _ _ fun e w' => e = .returned (.int .i64 0) ∧ Rs w' q l (.bad 29 k) ∧ w.grownBy w' (some q)
      have d : decide (10000 < v) = true := by simp; omega
      have HF := Lib.hid (fun W (g : Rs W q l (.at k')) => show Calls Tryd.prog 83 #[.pointer (some ⟨q, 0, none⟩), .int .i64 29, .int .i64 k] W fun e w' => e = .returned (.tuple #[]) ∧ Rs w' q l (.bad 29 k) ∧ W.grownBy w' (some q) from fail_ref g 29 k (by decide))
      clear h h1 hr HN v0 v1 hm
      go_enter Tryd.func129, Tryd.ntmps129
      go_wp2_with (first
        | (go_at_call 130; go_must ((with_reducible refine HN2.out.mono ?_); rintro e w1 ⟨rfl, hs, hg⟩; have HS := Lib.hid hs; have HG := Lib.hid hg; clear hs hg c1))
        | (go_at_call 83; go_must ((with_reducible refine (HF.out _ HS.out).mono ?_); rintro e w2 ⟨rfl, hs, hg⟩; have HS2 := Lib.hid hs; have HG2 := Lib.hid hg; have x2 := hs.cells.1; rw [show (RSt.bad 29 k).why = 29 from rfl] at x2; clear hs hg)))
      go_ret
      exact ⟨rfl, HS2.out, gb_trans HG.out HG2.out⟩

theorem nought_ref {w : World} {q : Nat} {l : List UInt8} {s : RSt} (h : Rs w q l s) :
    Calls Tryd.prog 131 #[.pointer (some ⟨q, 0, none⟩)] w fun e w' => e = .returned (.tuple #[]) ∧ Rs w' q l (stOf (s.bind (noughtR l))) ∧ w.grownBy w' (some q) := by
  have hB := byte_ref h
  obtain ⟨_, j, c1, hj⟩ := h.cells
  cases s with
  | bad c a =>
    have HB := Lib.hid (show Calls Tryd.prog 84 #[.pointer (some ⟨q, 0, none⟩)] w fun e w' => e = .returned (.int .i64 0) ∧ Rs w' q l (.bad c a) ∧ w.grownBy w' (some q) from hB)
    show Calls _ _ _ _ fun e w' => e = .returned (.tuple #[]) ∧ Rs w' q l (.bad c a) ∧ w.grownBy w' (some q)
    clear h hB hj
    go_enter Tryd.func131, Tryd.ntmps131
    go_wp2_with (go_at_call 84; go_must ((with_reducible refine HB.out.mono ?_); rintro e w1 ⟨rfl, hs, hg⟩; have HS := Lib.hid hs; have HG := Lib.hid hg; clear hs hg))
    go_end0
    exact ⟨rfl, HS.out, HG.out⟩
  | «at» k =>
    obtain rfl := hj k rfl
    show Calls _ _ _ _ fun e w' => e = .returned (.tuple #[]) ∧ Rs w' q l (stOf (noughtR l k)) ∧ w.grownBy w' (some q)
    unfold noughtR
    have hB2 : Calls Tryd.prog 84 #[.pointer (some ⟨q, 0, none⟩)] w fun e w' => e = .returned (.int .i64 (v8 (byteR l k))) ∧ Rs w' q l (stOf (byteR l k)) ∧ w.grownBy w' (some q) := hB
    cases hr : byteR l k with
    | err c a =>
      rw [hr] at hB2
      rw [Res.bind_err]
      have HB := Lib.hid (show Calls Tryd.prog 84 #[.pointer (some ⟨q, 0, none⟩)] w fun e w' => e = .returned (.int .i64 0) ∧ Rs w' q l (.bad c a) ∧ w.grownBy w' (some q) from hB2)
      show Calls _ _ _ _ fun e w' => e = .returned (.tuple #[]) ∧ Rs w' q l (.bad c a) ∧ w.grownBy w' (some q)
      clear h hB hB2 hr hj
      go_enter Tryd.func131, Tryd.ntmps131
      go_wp2_with (go_at_call 84; go_must ((with_reducible refine HB.out.mono ?_); rintro e w1 ⟨rfl, hs, hg⟩; have HS := Lib.hid hs; have HG := Lib.hid hg; clear hs hg))
      go_end0
      exact ⟨rfl, HS.out, HG.out⟩
    | ok c k' =>
      rw [hr] at hB2
      rw [Res.bind_ok]
      have HB := Lib.hid (show Calls Tryd.prog 84 #[.pointer (some ⟨q, 0, none⟩)] w fun e w' => e = .returned (.int .i64 c.toNat) ∧ Rs w' q l (.at k') ∧ w.grownBy w' (some q) from hB2)
      by_cases hc : c = 0
      · rw [if_pos hc]
        show Calls _ _ _ _ fun e w' => e = .returned (.tuple #[]) ∧ Rs w' q l (.at k') ∧ w.grownBy w' (some q)
        have d : ((c.toNat : Int) != 0) = false := by rw [hc]; rfl
        clear h hB hB2 hr hj hc
        go_enter Tryd.func131, Tryd.ntmps131
        go_wp2_with (go_at_call 84; go_must ((with_reducible refine HB.out.mono ?_); rintro e w1 ⟨rfl, hs, hg⟩; have HS := Lib.hid hs; have HG := Lib.hid hg; clear hs hg))
        go_end0
        exact ⟨rfl, HS.out, HG.out⟩
      · rw [if_neg hc]
        show Calls _ _ _ _ fun e w' => e = .returned (.tuple #[]) ∧ Rs w' q l (.bad 10 k) ∧ w.grownBy w' (some q)
        have d : ((c.toNat : Int) != 0) = true := by
          have : c.toNat ≠ 0 := fun e => hc (UInt8.toNat_inj.1 (by rw [e]; rfl))
          simp; omega
        have HF := Lib.hid (fun W (g : Rs W q l (.at k')) => show Calls Tryd.prog 83 #[.pointer (some ⟨q, 0, none⟩), .int .i64 10, .int .i64 k] W fun e w' => e = .returned (.tuple #[]) ∧ Rs w' q l (.bad 10 k) ∧ W.grownBy w' (some q) from fail_ref g 10 k (by decide))
        clear h hB hB2 hr hj hc
        go_enter Tryd.func131, Tryd.ntmps131
        go_wp2_with (first
          | (go_at_call 84; go_must ((with_reducible refine HB.out.mono ?_); rintro e w1 ⟨rfl, hs, hg⟩; have HS := Lib.hid hs; have HG := Lib.hid hg; clear hs hg))
          | (go_at_call 83; go_must ((with_reducible refine (HF.out _ HS.out).mono ?_); rintro e w2 ⟨rfl, hs, hg⟩; have HS2 := Lib.hid hs; have HG2 := Lib.hid hg; clear hs hg)))
        go_end0
        exact ⟨rfl, HS2.out, gb_trans HG.out HG2.out⟩
end Go.Proofs.YtebgmfjgapmpfaaDoor

/- What the reference's Get keeps on its way; its labels in a row of its own. -/
namespace Go.Proofs.YtebgmfjgapmpfaaDoor
open Go.RowKit
set_option linter.unusedVariables false
set_option maxRecDepth 100000

theorem gb_of_drew {w w' : World} {row : Option Nat} {n : Nat} (h : (w.drewN n).grownBy w' row) : w.grownBy w' row := ⟨h.os, h.tape, h.output, h.size, h.block⟩
theorem gb_of_drew1 {w w' : World} {row : Option Nat} (h : w.drew.grownBy w' row) : w.grownBy w' row := ⟨h.os, h.tape, h.output, h.size, h.block⟩
theorem Rs.drew {w : World} {q : Nat} {l : List UInt8} {s : RSt} (h : Rs w q l s) : Rs w.drew q l s := h
theorem byteR_nz {l : List UInt8} {k : Nat} {c a : Int} (h : byteR l k = .err c a) : c ≠ 0 := by
  unfold byteR at h
  cases hc : l[k]? with
  | none => rw [hc] at h; injection h with h1 h2; omega
  | some d => rw [hc] at h; cases h
theorem indexR_nz {l : List UInt8} {k : Nat} {c a : Int} (h : indexR l k = .err c a) : c ≠ 0 := by
  have := (uintR_err (show uintR l k 32 = .err c a from h)).2
  omega
theorem intR_nz {l : List UInt8} {k n : Nat} {c a : Int} (h : intR l k n = .err c a) : c ≠ 0 := by
  have := (intR_err h).2
  omega
theorem noughtR_nz {l : List UInt8} {k : Nat} {c a : Int} (h : noughtR l k = .err c a) : c ≠ 0 := by
  unfold noughtR at h
  cases hr : byteR l k with
  | err e b => rw [hr, Res.bind_err] at h; injection h with h1 h2; have := byteR_nz hr; omega
  | ok d p =>
    rw [hr, Res.bind_ok] at h
    by_cases hd : d = 0
    · rw [if_pos hd] at h; cases h
    · rw [if_neg hd] at h; injection h with h1 h2; omega

/-- How far the reference's Get has come: its result's block, the instruction's box, the reader. -/
structure RGt (w : World) (q : Nat) (l : List UInt8) (H2 : Nat) (A : Option Addr) (ls : List Int) (s : RSt) (v0 v1 v2 v3 : Value) (W : World) : Prop where
  res : Whole W w.heap.size 25 #[.int .u8 0, .int .u64 0, .int .u64 0, .slice none 0 0]
  box : Whole W H2 25 #[v0, v1, v2, v3]
  rs : Rs W q l s
  gr : w.grownBy W (some q)
  hq : q < w.heap.size
  h2 : w.heap.size < H2
  lab : Lies W W.heap.size A (cells32 ls)
  far : ∀ a, A = some a → H2 < a.block
/-- .. while its labels are read. -/
structure RLp (w : World) (q : Nat) (l : List UInt8) (H2 : Nat) (c : Int) (s : RSt) (vb v : Value) (acc : List Int) (W : World) : Prop where
  res : Whole W w.heap.size 25 #[.int .u8 0, .int .u64 0, .int .u64 0, .slice none 0 0]
  box : Whole W H2 25 #[.int .u8 c, .int .u64 0, .int .u64 0, vb]
  rs : Rs W q l s
  gr : w.grownBy W (some q)
  hq : q < w.heap.size
  h2 : w.heap.size < H2
  row : W.ownsRow (H2 + 1) 48 1 v acc.length (cells32 acc)
section
variable {w : World} {q : Nat} {l : List UInt8} {H2 : Nat} {A : Option Addr} {ls : List Int} {s s' : RSt} {v0 v1 v2 v3 : Value} {W W' : World} {c : Int} {vb v v' : Value} {acc : List Int}
theorem RGt.call (h : RGt w q l H2 A ls s v0 v1 v2 v3 W) (hs : Rs W' q l s') (hg : W.grownBy W' (some q)) : RGt w q l H2 A ls s' v0 v1 v2 v3 W' := by
  have a := h.hq
  have b := h.h2
  exact ⟨h.res.grown hg (by simp only [ne_eq, Option.some.injEq]; omega), h.box.grown hg (by simp only [ne_eq, Option.some.injEq]; omega), hs, gb_trans h.gr hg, h.hq, h.h2, h.lab.keep hg (fun x hx => by have := h.far x hx; omega), h.far⟩
theorem RGt.below (h : RGt w q l H2 A ls s v0 v1 v2 v3 W) (hb : Below W.heap.size W W') : RGt w q l H2 A ls s v0 v1 v2 v3 W' := h.call (h.rs.below hb) (gb_of_below _ hb)
theorem RGt.put (h : RGt w q l H2 A ls s v0 v1 v2 v3 W) (i : Nat) (x : Value) {u0 u1 u2 u3 : Value} (he : #[v0, v1, v2, v3].setIfInBounds i x = #[u0, u1, u2, u3]) : RGt w q l H2 A ls s u0 u1 u2 u3 (W.setCell ⟨H2, i, none⟩ x) := by
  have a := h.hq
  have b := h.h2
  have hg : W.grownBy (W.setCell ⟨H2, i, none⟩ x) (some H2) := gb_put (p := ⟨H2, i, none⟩) (gb_refl W _) (.inl rfl) x
  have hb := h.box.put i x
  rw [he] at hb
  exact ⟨h.res.grown hg (by simp only [ne_eq, Option.some.injEq]; omega), hb, h.rs.grown hg (by simp only [ne_eq, Option.some.injEq]; omega) (fun g e => by injection e with e; omega), gb_before h.gr hg (fun g e => .inr (by injection e with e; omega)), h.hq, h.h2,
    h.lab.keep hg (fun x hx => by have := h.far x hx; omega), h.far⟩
/-- The result is written. -/
theorem RGt.fin (h : RGt w q l H2 A ls s v0 v1 v2 v3 W) (x0 x1 x2 x3 : Value) (W4 : World) (hW : W4 = (((W.setCell ⟨w.heap.size, 0, none⟩ x0).setCell ⟨w.heap.size, 1, none⟩ x1).setCell ⟨w.heap.size, 2, none⟩ x2).setCell ⟨w.heap.size, 3, none⟩ x3) :
    Whole W4 w.heap.size 25 #[x0, x1, x2, x3] ∧ Rs W4 q l s ∧ w.grownBy W4 (some q) ∧ Lies W4 W4.heap.size A (cells32 ls) := by
  subst hW
  have a := h.hq
  have b := h.h2
  have hg := gb_put (p := ⟨w.heap.size, 3, none⟩) (gb_put (p := ⟨w.heap.size, 2, none⟩) (gb_put (p := ⟨w.heap.size, 1, none⟩) (gb_put (p := ⟨w.heap.size, 0, none⟩) (gb_refl W (some w.heap.size)) (.inl rfl) x0) (.inl rfl) x1) (.inl rfl) x2) (.inl rfl) x3
  exact ⟨(((h.res.put 0 x0).put 1 x1).put 2 x2).put 3 x3, h.rs.grown hg (by simp only [ne_eq, Option.some.injEq]; omega) (fun g e => by injection e with e; omega), gb_before h.gr hg (fun g e => .inr (by injection e with e; omega)), h.lab.keep hg (fun x hx => by have := h.far x hx; omega)⟩
theorem RGt.loop (h : RGt w q l H2 none [] s (.int .u8 c) (.int .u64 0) (.int .u64 0) (.slice none 0 0) W) : RLp w q l H2 c s (.slice none 0 0) (.slice none 0 0) [] W :=
  ⟨h.res, h.box, h.rs, h.gr, h.hq, h.h2, World.ownsRow_nil _ _ _ _⟩
theorem RLp.call (h : RLp w q l H2 c s vb v acc W) (hs : Rs W' q l s') (hg : W.grownBy W' (some q)) : RLp w q l H2 c s' vb v acc W' := by
  have a := h.hq
  have b := h.h2
  obtain ⟨A0, cap0, k0, hwh, _⟩ := h.rs
  exact ⟨h.res.grown hg (by simp only [ne_eq, Option.some.injEq]; omega), h.box.grown hg (by simp only [ne_eq, Option.some.injEq]; omega), hs, gb_trans h.gr hg, h.hq, h.h2,
    World.ownsRow.kept h.row hg (.inr (fun e => own_whole h.row hwh (by decide) e.symm))⟩
theorem RLp.app {x : Int} {w' : World} (h : RLp w q l H2 c s vb v acc W) (hr : w'.ownsRow (H2 + 1) 48 1 v' (acc ++ [x]).length (cells32 (acc ++ [x]))) (hg : (W.alloc (.cells #[.int .u32 x] 48)).grownBy w' v.ownBlock) :
    RLp w q l H2 c s vb v' (acc ++ [x]) w' := by
  have a := h.hq
  have b := h.h2
  have hlo : ∀ g, v.ownBlock = some g → H2 + 1 ≤ g := fun g e => (World.ownsRow.lt h.row g e).1
  have hrs := h.rs
  obtain ⟨A0, cap0, k0, hwh, _⟩ := hrs
  exact ⟨(h.res.alloc _).grown hg (own_whole h.row h.res (by decide)), (h.box.alloc _).grown hg (own_whole h.row h.box (by decide)), (h.rs.alloc _).grown hg (own_whole h.row hwh (by decide)) (fun g e => by have := hlo g e; omega),
    gb_before (gb_alloc h.gr _) hg (fun g e => .inr (by have := hlo g e; omega)), h.hq, h.h2, hr⟩
theorem RLp.store (h : RLp w q l H2 c s vb v acc W) : RLp w q l H2 c s v v acc (W.setCell ⟨H2, 3, none⟩ v) := by
  have a := h.hq
  have b := h.h2
  have hg : W.grownBy (W.setCell ⟨H2, 3, none⟩ v) (some H2) := gb_put (p := ⟨H2, 3, none⟩) (gb_refl W _) (.inl rfl) v
  exact ⟨h.res.grown hg (by simp only [ne_eq, Option.some.injEq]; omega), h.box.put 3 v, h.rs.grown hg (by simp only [ne_eq, Option.some.injEq]; omega) (fun g e => by injection e with e; omega), gb_before h.gr hg (fun g e => .inr (by injection e with e; omega)), h.hq, h.h2,
    World.ownsRow.kept h.row hg (.inr (fun e => own_whole h.row h.box (by decide) e.symm))⟩
theorem RLp.gt (h : RLp w q l H2 c s v v acc W) : ∃ A cap, v = .slice A acc.length cap ∧ RGt w q l H2 A acc s (.int .u8 c) (.int .u64 0) (.int .u64 0) (.slice A acc.length cap) W := by
  obtain ⟨A, cap, rfl, _, _, hl, hf⟩ := lies_own h.row
  exact ⟨A, cap, rfl, h.res, h.box, h.rs, h.gr, h.hq, h.h2, hl, fun a ha => by have := (hf a ha).1; omega⟩
end
/-- At a step of a region that draws its order: append of a new block of one number. -/
theorem step32 {w : World} {ops : Array Oper} {o : Oper} {a : Act} {K : Act → World → Prop} {Q : Exit → Act → World → Prop} {E : Prop} (hgd : o.guard = none) (s x : Operand)
    (ho : o.op = .call { callee := .builtin .append, args := #[s, x], argTypes := #[23, 23] })
    (B : Nat) (v : Value) (acc : List Int) (hs : a.eval s = v) (hr : w.ownsRow B 48 1 v acc.length (cells32 acc)) (g : Nat) (y : Int) (hx : a.eval x = .slice (some ⟨g, 0, none⟩) 1 1)
    (hg : Whole w g 48 #[.int .u32 y]) (hb : acc.length ≤ 10000) (hB : B ≤ w.heap.size)
    (h : ∀ v' w', w'.ownsRow B 48 1 v' (acc ++ [y]).length (cells32 (acc ++ [y])) → w.grownBy w' v.ownBlock → K (a.put o.dst v') w') :
    if Region.wanted o (yielded ops a.tmps) = true then Oper.wp Tryd.prog o a w K Q else E := by
  have hw : Region.wanted o (yielded ops a.tmps) = true := by simp [Region.wanted, hgd]
  rw [if_pos hw]
  obtain ⟨i0, hi0, hz0, hz1, hz2⟩ := info_parts info32
  refine wp_append_own _ s x _ ho B 48 i0 _ 1 4 Tryd.underlying23 hi0 hz0 hz1 hz2 rfl (by omega) v _ _ hs hr ⟨g, 0, none⟩ 1 1 [.int .u32 y] hx rfl ?_ ?_ (by unfold maxLen; omega) (by omega) hB (fun v' w' h2 h3 _ => h v' w' ?_ h3)
  · intro j u hu
    rw [Go.WideShapes.add_plain, Nat.zero_add, hg.cell]
    simpa using hu
  · intro u hu
    simp only [List.mem_cons, List.not_mem_nil, or_false] at hu
    subst hu
    rfl
  · rw [List.length_append]
    unfold cells32 at *
    rw [List.map_append]
    simpa using h2

/-- The labels' loop: j of n are read. -/
def Inv32 (l : List UInt8) (n j : Nat) (s : RSt) (acc : List Int) (R : Res (List Int)) : Prop := match s with
  | .at p => acc.length = j ∧ idxK l (n - j) p acc = R
  | .bad c a => R = .err c a
theorem count_start {l : List UInt8} {k : Nat} : ∃ (n : Nat) (s0 : RSt), n ≤ 10000 ∧ (vZ (countR l k) = n ∧ stOf (countR l k) = s0) ∧ Inv32 l n 0 s0 [] (labelsR l k) := by
  unfold labelsR
  cases hr : countR l k with
  | err c a => exact ⟨0, .bad c a, by omega, ⟨rfl, rfl⟩, rfl⟩
  | ok v p =>
    obtain ⟨v0, v1⟩ := countR_ok hr
    refine ⟨v.toNat, .at p, by omega, ⟨?_, rfl⟩, rfl, rfl⟩
    show v = _
    omega
theorem index_step {l : List UInt8} {n j p : Nat} {acc : List Int} {R : Res (List Int)} (h : ((indexR l p).bind fun x q2 => idxK l (n - (j + 1)) q2 (acc ++ [x])) = R) (ha : acc.length = j) (hj : j < n) :
    ∃ (x : Int) (s2 : RSt), 0 ≤ x ∧ x ≤ 4294967295 ∧ (vZ (indexR l p) = x ∧ stOf (indexR l p) = s2) ∧ Inv32 l n (j + 1) s2 (acc ++ [x]) R := by
  cases hr : indexR l p with
  | err c a =>
    rw [hr, Res.bind_err] at h
    exact ⟨0, .bad c a, by omega, by omega, ⟨rfl, rfl⟩, h.symm⟩
  | ok x q2 =>
    rw [hr, Res.bind_ok] at h
    obtain ⟨_, h1, h2⟩ := indexR_ok hr
    exact ⟨x, .at q2, h1, h2, ⟨rfl, rfl⟩, by simp; omega, h⟩
end Go.Proofs.YtebgmfjgapmpfaaDoor

/- The reference's Get of any bytes. (By gen/genRefG.py.) -/
namespace Go.Proofs.YtebgmfjgapmpfaaDoor
open Go.RowKit
set_option linter.unusedVariables false
set_option maxRecDepth 100000

/-- What the reference's Get hands back. -/
def RGets (q : Nat) (l : List UInt8) (r : Res I) (w : World) (e : Ending) (w' : World) : Prop := match r with
  | .ok i k => ∃ A c, e = .returned (insV i A c) ∧ Lies w' w'.heap.size A (cells32 i.l) ∧ (∀ a, A = some a → w.heap.size ≤ a.block) ∧ Rs w' q l (.at k) ∧ w.grownBy w' (some q)
  | .err c a => e = .returned (.agg #[.int .u8 0, .int .u64 0, .int .u64 0, .slice none 0 0]) ∧ Rs w' q l (.bad c a) ∧ w.grownBy w' (some q)
theorem rgets_ok {w : World} {q : Nat} {l : List UInt8} {i : I} {H2 : Nat} {A : Option Addr} {c k : Nat} {v0 v1 v2 v3 : Value} {W W4 : World} (h : RGt w q l H2 A i.l (.at k) v0 v1 v2 v3 W) (hf : Rs W4 q l (.at k) ∧ w.grownBy W4 (some q) ∧ Lies W4 W4.heap.size A (cells32 i.l)) :
    RGets q l (.ok i k) w (.returned (insV i A c)) W4 := ⟨A, c, rfl, hf.2.2, fun a ha => by have := h.far a ha; have := h.h2; omega, hf.1, hf.2.1⟩
theorem rgets_no {w : World} {q : Nat} {l : List UInt8} {A : Option Addr} {ls : List Int} {ec ea : Int} {W4 : World} (hf : Rs W4 q l (.bad ec ea) ∧ w.grownBy W4 (some q) ∧ Lies W4 W4.heap.size A (cells32 ls)) :
    RGets q l (.err ec ea) w (.returned (.agg #[.int .u8 0, .int .u64 0, .int .u64 0, .slice none 0 0])) W4 := ⟨rfl, hf.1, hf.2.1⟩
theorem wrap8 (c : UInt8) : IntKind.u8.wrap (c.toNat : Int) = c.toNat := by have := c.toNat_lt; simp [IntKind.wrap, IntKind.bits, IntKind.signed]; omega
theorem wrap64u {x : Int} (h0 : 0 ≤ x) (h1 : x ≤ 4294967295) : IntKind.u64.wrap x = x := by simp [IntKind.wrap, IntKind.bits, IntKind.signed]; omega
theorem why_at {W : World} {q : Nat} {l : List UInt8} {k : Nat} (h : Rs W q l (.at k)) : W.cell? ⟨q, 2, none⟩ = some (.int .i64 0) := h.cells.1
theorem why_bad {W : World} {q : Nat} {l : List UInt8} {c a : Int} (h : Rs W q l (.bad c a)) : W.cell? ⟨q, 2, none⟩ = some (.int .i64 c) := h.cells.1
theorem at_at {W : World} {q : Nat} {l : List UInt8} {k : Nat} (h : Rs W q l (.at k)) : W.cell? ⟨q, 1, none⟩ = some (.int .i64 k) := by
  obtain ⟨_, j, h1, h2⟩ := h.cells
  rw [h1, h2 k rfl]
theorem at_bad {W : World} {q : Nat} {l : List UInt8} {c a : Int} (h : Rs W q l (.bad c a)) : ∃ j, W.cell? ⟨q, 1, none⟩ = some (.int .i64 j) := by
  obtain ⟨_, j, h1, _⟩ := h.cells
  exact ⟨j, h1⟩

set_option maxHeartbeats 8000000 in
theorem refG_any {w : World} {q : Nat} {l : List UInt8} {k : Nat} (h : Rs w q l (.at k)) :
    Calls Tryd.prog 82 #[.pointer (some ⟨q, 0, none⟩)] w (RGets q l (getR l k) w) := by
  have hlt := h.lt
  have HZ := Lib.hid (h.alloc (.cells #[.int .u8 0, .int .u64 0, .int .u64 0, .slice none 0 0] 25))
  have y1 := at_at HZ.out
  have hB := byte_ref HZ.out
  rw [show (RSt.at k).bind (byteR l) = byteR l k from rfl] at hB
  have HWM := Lib.hid (Whole.made w 25 #[.int .u8 0, .int .u64 0, .int .u64 0, .slice none 0 0])
  have hstart : ∀ (x : Int) (s : RSt) w1, Rs w1 q l s → (w.alloc (.cells #[.int .u8 0, .int .u64 0, .int .u64 0, .slice none 0 0] 25)).grownBy w1 (some q) → RGt w q l w1.heap.size none [] s (.int .u8 x) (.int .u64 0) (.int .u64 0) (.slice none 0 0) (w1.alloc (.cells #[.int .u8 x, .int .u64 0, .int .u64 0, .slice none 0 0] 25)) := fun x s w1 hs1 hg1 => by
    have hz := hg1.size
    rw [size_box] at hz
    exact ⟨(HWM.out.grown hg1 (by simp only [ne_eq, Option.some.injEq]; omega)).alloc _, Whole.made _ _ _, hs1.alloc _, gb_alloc (gb_trans (gb_alloc (gb_refl w _) _) hg1) _, hlt, by omega, (fun j v hv => by simp [cells32] at hv), (fun a e => by cases e)⟩
  unfold getR opR
  cases hop : byteR l k with
  | err ec ea =>
    rw [Res.bind_err, Res.bind_err]
    rw [hop] at hB
    have HBY := Lib.hid (show Calls Tryd.prog 84 #[.pointer (some ⟨q, 0, none⟩)] (w.alloc (.cells #[.int .u8 0, .int .u64 0, .int .u64 0, .slice none 0 0] 25)) fun e w' => e = .returned (.int .i64 0) ∧ Rs w' q l (.bad ec ea) ∧ (w.alloc (.cells #[.int .u8 0, .int .u64 0, .int .u64 0, .slice none 0 0] 25)).grownBy w' (some q) from hB)
    have HST := Lib.hid (hstart 0 (.bad ec ea))
    have dw : (ec != 0) = true := by have := byteR_nz hop; simpa using this
    have dw2 : (ec == 0) = false := by have := byteR_nz hop; simpa using this
    clear h hB hstart hop HZ
    go_enter Tryd.func82, Tryd.ntmps82
    go_wp2_with (first
      | (go_at_call 84; go_must ((with_reducible refine HBY.out.mono ?_); rintro e w1 ⟨rfl, hs, hg⟩; have HG1 := Lib.hid (HST.out w1 hs hg); have hh := HG1.out.h2; have hqq := HG1.out.hq; have n1 : ¬ w1.heap.size = w.heap.size := (by omega); have n2 : ¬ w.heap.size = w1.heap.size := (by omega); have n3 : ¬ w1.heap.size = q := (by omega); have n4 : ¬ q = w1.heap.size := (by omega); have c0 := HG1.out.box.cell 0; have c1 := HG1.out.box.cell 1; have c2 := HG1.out.box.cell 2; have c3 := HG1.out.box.cell 3; have f1 := HG1.out.box.frozen 1; have f2 := HG1.out.box.frozen 2; have f3 := HG1.out.box.frozen 3; have r0 := HG1.out.res.cell 0; have r1 := HG1.out.res.cell 1; have r2 := HG1.out.res.cell 2; have r3 := HG1.out.res.cell 3; have z0 := HG1.out.res.frozen 0; have z1 := HG1.out.res.frozen 1; have z2 := HG1.out.res.frozen 2; have z3 := HG1.out.res.frozen 3; simp only [List.getElem?_toArray, List.getElem?_cons_zero, List.getElem?_cons_succ] at c0 c1 c2 c3 r0 r1 r2 r3; obtain ⟨jat, x1⟩ := at_bad HG1.out.rs; have x2 := why_bad HG1.out.rs; clear hs hg hh hqq y1)))
    obtain ⟨q4, hf⟩ := RGt.fin (HG1.out) (.int .u8 0) (.int .u64 0) (.int .u64 0) (.slice none 0 0) _ rfl
    have q0 := q4.cell 0
    have q1 := q4.cell 1
    have q2 := q4.cell 2
    have q3 := q4.cell 3
    simp only [List.getElem?_toArray, List.getElem?_cons_zero, List.getElem?_cons_succ] at q0 q1 q2 q3
    exact bodyPost_ret (v := .agg #[.int .u8 0, .int .u64 0, .int .u64 0, .slice none 0 0]) (by simp [results, Tryd.results82, go_sem, q0, q1, q2, q3]) rfl (rgets_no hf)
  | ok c k1 =>
    rw [Res.bind_ok]
    rw [hop] at hB
    have HBY := Lib.hid (show Calls Tryd.prog 84 #[.pointer (some ⟨q, 0, none⟩)] (w.alloc (.cells #[.int .u8 0, .int .u64 0, .int .u64 0, .slice none 0 0] 25)) fun e w' => e = .returned (.int .i64 c.toNat) ∧ Rs w' q l (.at k1) ∧ (w.alloc (.cells #[.int .u8 0, .int .u64 0, .int .u64 0, .slice none 0 0] 25)).grownBy w' (some q) from hB)
    have HST := Lib.hid (hstart c.toNat (.at k1))
    have hn : c.toNat ≤ 255 := by have := c.toNat_lt; omega
    have hw8 := wrap8 c
    have hwb : IntKind.i64.wrap (c.toNat : Int) = c.toNat := by rw [IntKind.wrap_i64]; omega
    clear h hB hstart hop HZ
    by_cases hc0 : checkR c.toNat = 0
    · rw [if_pos hc0, Res.bind_ok]
      have HC : Hid (∀ W, Calls Tryd.prog 60 #[.int .i64 c.toNat] W fun e w' => e = .returned (.int .i64 0) ∧ Below W.heap.size W w') := fun W => by
        have := refCheck_any c.toNat W hn
        rw [← check_same hn, hc0] at this
        exact this
      obtain ⟨m, hm⟩ : ∃ m, m = immR c.toNat := ⟨_, rfl⟩
      have him : ((refR c.toNat).getD row0).imm = m := by rw [hm]; exact (imm_same hn hc0).2
      have hof : ∃ (r1 : Int) (s1 s2 s3 : ByteArray) (fb b : Bool), ∀ W, Calls Tryd.prog 61 #[.int .i64 c.toNat] W fun e w' => e = .returned (.tuple #[.agg #[.int .i64 r1, .string s1, .int .i64 m, .string s2, .string s3, .bool fb], .bool b]) ∧ Below W.heap.size W w' :=
        ⟨_, _, _, _, _, _, fun W => (ref_any c.toNat W hn).mono fun e w' ⟨h1, h2⟩ => ⟨by rw [h1, ← him], h2⟩⟩
      obtain ⟨r1, s1, s2, s3, fb, b, hI⟩ := hof
      have HI := Lib.hid hI
      show Calls _ _ _ _ (RGets q l (bodyR (immR c.toNat) c l k1) w)
      rw [← hm]
      clear hI him hm hc0 hn
      by_cases m0 : m = 0
      · subst m0
        rw [show bodyR 0 c l k1 = .ok ⟨c, 0, 0, []⟩ k1 from by unfold bodyR; rw [if_pos rfl]]
        have HI := Lib.hid (show ∀ W, Calls Tryd.prog 61 #[.int .i64 c.toNat] W fun e w' => e = .returned (.tuple #[.agg #[.int .i64 r1, .string s1, .int .i64 0, .string s2, .string s3, .bool fb], .bool b]) ∧ Below W.heap.size W w' from HI.out)
        go_enter Tryd.func82, Tryd.ntmps82
        go_wp2_with (first
          | (go_at_call 84; go_must ((with_reducible refine HBY.out.mono ?_); rintro e w1 ⟨rfl, hs, hg⟩; have HG1 := Lib.hid (HST.out w1 hs hg); have hh := HG1.out.h2; have hqq := HG1.out.hq; have n1 : ¬ w1.heap.size = w.heap.size := (by omega); have n2 : ¬ w.heap.size = w1.heap.size := (by omega); have n3 : ¬ w1.heap.size = q := (by omega); have n4 : ¬ q = w1.heap.size := (by omega); have c0 := HG1.out.box.cell 0; have c1 := HG1.out.box.cell 1; have c2 := HG1.out.box.cell 2; have c3 := HG1.out.box.cell 3; have f1 := HG1.out.box.frozen 1; have f2 := HG1.out.box.frozen 2; have f3 := HG1.out.box.frozen 3; have r0 := HG1.out.res.cell 0; have r1 := HG1.out.res.cell 1; have r2 := HG1.out.res.cell 2; have r3 := HG1.out.res.cell 3; have z0 := HG1.out.res.frozen 0; have z1 := HG1.out.res.frozen 1; have z2 := HG1.out.res.frozen 2; have z3 := HG1.out.res.frozen 3; simp only [List.getElem?_toArray, List.getElem?_cons_zero, List.getElem?_cons_succ] at c0 c1 c2 c3 r0 r1 r2 r3; have x1 := at_at HG1.out.rs; have x2 := why_at HG1.out.rs; clear hs hg hh hqq y1))
          | (go_at_call 60; go_must ((with_reducible refine (HC.out _).mono ?_); rintro e w2 ⟨rfl, hb⟩; clear c0 c1 c2 c3 f1 f2 f3 r0 r1 r2 r3 z0 z1 z2 z3 x1 x2; have HG2 := Lib.hid (HG1.out.below hb); have c0 := HG2.out.box.cell 0; have c1 := HG2.out.box.cell 1; have c2 := HG2.out.box.cell 2; have c3 := HG2.out.box.cell 3; have f1 := HG2.out.box.frozen 1; have f2 := HG2.out.box.frozen 2; have f3 := HG2.out.box.frozen 3; have r0 := HG2.out.res.cell 0; have r1 := HG2.out.res.cell 1; have r2 := HG2.out.res.cell 2; have r3 := HG2.out.res.cell 3; have z0 := HG2.out.res.frozen 0; have z1 := HG2.out.res.frozen 1; have z2 := HG2.out.res.frozen 2; have z3 := HG2.out.res.frozen 3; simp only [List.getElem?_toArray, List.getElem?_cons_zero, List.getElem?_cons_succ] at c0 c1 c2 c3 r0 r1 r2 r3; have x1 := at_at HG2.out.rs; have x2 := why_at HG2.out.rs; clear hb))
          | (go_at_call 61; go_must ((with_reducible refine (HI.out _).mono ?_); rintro e w3 ⟨rfl, hb⟩; clear c0 c1 c2 c3 f1 f2 f3 r0 r1 r2 r3 z0 z1 z2 z3 x1 x2; have HG3 := Lib.hid ((HG2.out.below hb).below (below_box w3 (.cells #[.int .i64 r1, .string s1, .int .i64 0, .string s2, .string s3, .bool fb] 107))); have c0 := HG3.out.box.cell 0; have c1 := HG3.out.box.cell 1; have c2 := HG3.out.box.cell 2; have c3 := HG3.out.box.cell 3; have f1 := HG3.out.box.frozen 1; have f2 := HG3.out.box.frozen 2; have f3 := HG3.out.box.frozen 3; have r0 := HG3.out.res.cell 0; have r1 := HG3.out.res.cell 1; have r2 := HG3.out.res.cell 2; have r3 := HG3.out.res.cell 3; have z0 := HG3.out.res.frozen 0; have z1 := HG3.out.res.frozen 1; have z2 := HG3.out.res.frozen 2; have z3 := HG3.out.res.frozen 3; simp only [List.getElem?_toArray, List.getElem?_cons_zero, List.getElem?_cons_succ] at c0 c1 c2 c3 r0 r1 r2 r3; have x1 := at_at HG3.out.rs; have x2 := why_at HG3.out.rs; clear hb)))
        obtain ⟨q4, hf⟩ := RGt.fin (HG3.out) (.int .u8 c.toNat) (.int .u64 0) (.int .u64 0) (.slice none 0 0) _ rfl
        have q0 := q4.cell 0
        have q1 := q4.cell 1
        have q2 := q4.cell 2
        have q3 := q4.cell 3
        simp only [List.getElem?_toArray, List.getElem?_cons_zero, List.getElem?_cons_succ] at q0 q1 q2 q3
        exact bodyPost_ret (v := insV (⟨c, 0, 0, []⟩ : I) none 0) (by simp [results, Tryd.results82, go_sem, q0, q1, q2, q3]) rfl (rgets_ok (i := (⟨c, 0, 0, []⟩ : I)) (HG3.out) hf)
      have d0 : ((m : Int) == 0) = false := by simp; omega
      by_cases m1 : m = 1
      · subst m1
        rw [show bodyR 1 c l k1 = (blockR l k1).bind fun a k1 => .ok ⟨c, a, 0, []⟩ k1 from by unfold bodyR; rw [if_neg (by omega), if_pos rfl]]
        have HI := Lib.hid (show ∀ W, Calls Tryd.prog 61 #[.int .i64 c.toNat] W fun e w' => e = .returned (.tuple #[.agg #[.int .i64 r1, .string s1, .int .i64 1, .string s2, .string s3, .bool fb], .bool b]) ∧ Below W.heap.size W w' from HI.out)
        unfold blockR
        cases hr0 : byteR l k1 with
        | err ec ea =>
          rw [Res.bind_err, Res.bind_err]
          have HX0 := Lib.hid (fun W (h : Rs W q l (.at k1)) => show Calls Tryd.prog 84 #[.pointer (some ⟨q, 0, none⟩)] W fun e w' => e = .returned (.int .i64 0) ∧ Rs w' q l (.bad ec ea) ∧ W.grownBy w' (some q) from by have := byte_ref h; rw [show (RSt.at k1).bind (byteR l) = byteR l k1 from rfl, hr0] at this; exact this)
          have dw : (ec != 0) = true := by have := byteR_nz hr0; simpa using this
          have dw2 : (ec == 0) = false := by have := byteR_nz hr0; simpa using this
          have HF := Lib.hid (fun W (h : Rs W q l (.bad ec ea)) => show Calls Tryd.prog 83 #[.pointer (some ⟨q, 0, none⟩), .int .i64 (valueZ 0), .int .i64 k1] W fun e w' => e = .returned (.tuple #[]) ∧ Rs w' q l (.bad ec ea) ∧ W.grownBy w' (some q) from fail_ref h (valueZ 0) k1 (by decide))
          have dz : (valueZ 0 != 0) = true := by decide
          clear hr0
          go_enter Tryd.func82, Tryd.ntmps82
          go_wp2_with (first
            | (have tok := HG3; go_at_call 84; go_must ((with_reducible refine (HX0.out _ HG3.out.rs).mono ?_); rintro e w4 ⟨rfl, hs, hg⟩; clear c0 c1 c2 c3 f1 f2 f3 r0 r1 r2 r3 z0 z1 z2 z3 x1 x2; have HG4 := Lib.hid (HG3.out.call hs hg); have c0 := HG4.out.box.cell 0; have c1 := HG4.out.box.cell 1; have c2 := HG4.out.box.cell 2; have c3 := HG4.out.box.cell 3; have f1 := HG4.out.box.frozen 1; have f2 := HG4.out.box.frozen 2; have f3 := HG4.out.box.frozen 3; have r0 := HG4.out.res.cell 0; have r1 := HG4.out.res.cell 1; have r2 := HG4.out.res.cell 2; have r3 := HG4.out.res.cell 3; have z0 := HG4.out.res.frozen 0; have z1 := HG4.out.res.frozen 1; have z2 := HG4.out.res.frozen 2; have z3 := HG4.out.res.frozen 3; simp only [List.getElem?_toArray, List.getElem?_cons_zero, List.getElem?_cons_succ] at c0 c1 c2 c3 r0 r1 r2 r3; obtain ⟨jat, x1⟩ := at_bad HG4.out.rs; have x2 := why_bad HG4.out.rs; clear hs hg))
            | (go_at_call 62; go_must ((with_reducible refine (refValue_any _ _).mono ?_); rintro e w' ⟨rfl, rfl⟩))
            | (go_at_call 83; go_must ((with_reducible refine (HF.out _ ((HG4.out.put 1 (.int .u64 0) rfl)).rs).mono ?_); rintro e w5 ⟨rfl, hs, hg⟩; clear c0 c1 c2 c3 f1 f2 f3 r0 r1 r2 r3 z0 z1 z2 z3 x1 x2; have HG5 := Lib.hid (((HG4.out.put 1 (.int .u64 0) rfl)).call hs hg); have c0 := HG5.out.box.cell 0; have c1 := HG5.out.box.cell 1; have c2 := HG5.out.box.cell 2; have c3 := HG5.out.box.cell 3; have f1 := HG5.out.box.frozen 1; have f2 := HG5.out.box.frozen 2; have f3 := HG5.out.box.frozen 3; have r0 := HG5.out.res.cell 0; have r1 := HG5.out.res.cell 1; have r2 := HG5.out.res.cell 2; have r3 := HG5.out.res.cell 3; have z0 := HG5.out.res.frozen 0; have z1 := HG5.out.res.frozen 1; have z2 := HG5.out.res.frozen 2; have z3 := HG5.out.res.frozen 3; simp only [List.getElem?_toArray, List.getElem?_cons_zero, List.getElem?_cons_succ] at c0 c1 c2 c3 r0 r1 r2 r3; obtain ⟨jat, x1⟩ := at_bad HG5.out.rs; have x2 := why_bad HG5.out.rs; clear hs hg))
            | (go_at_call 84; go_must ((with_reducible refine HBY.out.mono ?_); rintro e w1 ⟨rfl, hs, hg⟩; have HG1 := Lib.hid (HST.out w1 hs hg); have hh := HG1.out.h2; have hqq := HG1.out.hq; have n1 : ¬ w1.heap.size = w.heap.size := (by omega); have n2 : ¬ w.heap.size = w1.heap.size := (by omega); have n3 : ¬ w1.heap.size = q := (by omega); have n4 : ¬ q = w1.heap.size := (by omega); have c0 := HG1.out.box.cell 0; have c1 := HG1.out.box.cell 1; have c2 := HG1.out.box.cell 2; have c3 := HG1.out.box.cell 3; have f1 := HG1.out.box.frozen 1; have f2 := HG1.out.box.frozen 2; have f3 := HG1.out.box.frozen 3; have r0 := HG1.out.res.cell 0; have r1 := HG1.out.res.cell 1; have r2 := HG1.out.res.cell 2; have r3 := HG1.out.res.cell 3; have z0 := HG1.out.res.frozen 0; have z1 := HG1.out.res.frozen 1; have z2 := HG1.out.res.frozen 2; have z3 := HG1.out.res.frozen 3; simp only [List.getElem?_toArray, List.getElem?_cons_zero, List.getElem?_cons_succ] at c0 c1 c2 c3 r0 r1 r2 r3; have x1 := at_at HG1.out.rs; have x2 := why_at HG1.out.rs; clear hs hg hh hqq y1))
            | (go_at_call 60; go_must ((with_reducible refine (HC.out _).mono ?_); rintro e w2 ⟨rfl, hb⟩; clear c0 c1 c2 c3 f1 f2 f3 r0 r1 r2 r3 z0 z1 z2 z3 x1 x2; have HG2 := Lib.hid (HG1.out.below hb); have c0 := HG2.out.box.cell 0; have c1 := HG2.out.box.cell 1; have c2 := HG2.out.box.cell 2; have c3 := HG2.out.box.cell 3; have f1 := HG2.out.box.frozen 1; have f2 := HG2.out.box.frozen 2; have f3 := HG2.out.box.frozen 3; have r0 := HG2.out.res.cell 0; have r1 := HG2.out.res.cell 1; have r2 := HG2.out.res.cell 2; have r3 := HG2.out.res.cell 3; have z0 := HG2.out.res.frozen 0; have z1 := HG2.out.res.frozen 1; have z2 := HG2.out.res.frozen 2; have z3 := HG2.out.res.frozen 3; simp only [List.getElem?_toArray, List.getElem?_cons_zero, List.getElem?_cons_succ] at c0 c1 c2 c3 r0 r1 r2 r3; have x1 := at_at HG2.out.rs; have x2 := why_at HG2.out.rs; clear hb))
            | (go_at_call 61; go_must ((with_reducible refine (HI.out _).mono ?_); rintro e w3 ⟨rfl, hb⟩; clear c0 c1 c2 c3 f1 f2 f3 r0 r1 r2 r3 z0 z1 z2 z3 x1 x2; have HG3 := Lib.hid ((HG2.out.below hb).below (below_box w3 (.cells #[.int .i64 r1, .string s1, .int .i64 1, .string s2, .string s3, .bool fb] 107))); have c0 := HG3.out.box.cell 0; have c1 := HG3.out.box.cell 1; have c2 := HG3.out.box.cell 2; have c3 := HG3.out.box.cell 3; have f1 := HG3.out.box.frozen 1; have f2 := HG3.out.box.frozen 2; have f3 := HG3.out.box.frozen 3; have r0 := HG3.out.res.cell 0; have r1 := HG3.out.res.cell 1; have r2 := HG3.out.res.cell 2; have r3 := HG3.out.res.cell 3; have z0 := HG3.out.res.frozen 0; have z1 := HG3.out.res.frozen 1; have z2 := HG3.out.res.frozen 2; have z3 := HG3.out.res.frozen 3; simp only [List.getElem?_toArray, List.getElem?_cons_zero, List.getElem?_cons_succ] at c0 c1 c2 c3 r0 r1 r2 r3; have x1 := at_at HG3.out.rs; have x2 := why_at HG3.out.rs; clear hb)))
          obtain ⟨q4, hf⟩ := RGt.fin (HG5.out) (.int .u8 0) (.int .u64 0) (.int .u64 0) (.slice none 0 0) _ rfl
          have q0 := q4.cell 0
          have q1 := q4.cell 1
          have q2 := q4.cell 2
          have q3 := q4.cell 3
          simp only [List.getElem?_toArray, List.getElem?_cons_zero, List.getElem?_cons_succ] at q0 q1 q2 q3
          exact bodyPost_ret (v := .agg #[.int .u8 0, .int .u64 0, .int .u64 0, .slice none 0 0]) (by simp [results, Tryd.results82, go_sem, q0, q1, q2, q3]) rfl (rgets_no hf)
        | ok d k2 =>
          rw [Res.bind_ok]
          have HX0 := Lib.hid (fun W (h : Rs W q l (.at k1)) => show Calls Tryd.prog 84 #[.pointer (some ⟨q, 0, none⟩)] W fun e w' => e = .returned (.int .i64 d.toNat) ∧ Rs w' q l (.at k2) ∧ W.grownBy w' (some q) from by have := byte_ref h; rw [show (RSt.at k1).bind (byteR l) = byteR l k1 from rfl, hr0] at this; exact this)
          have hwd : IntKind.u64.wrap (d.toNat : Int) = d.toNat := wrap64u (by omega) (by have := d.toNat_lt; omega)
          have hwe : IntKind.i64.wrap (d.toNat : Int) = d.toNat := by rw [IntKind.wrap_i64]; have := d.toNat_lt; omega
          have hbz : ¬ (d.toNat : Int) = 64 → blockZ d.toNat = valueZ d.toNat := fun h => by unfold blockZ; rw [if_neg h, if_neg (by have := d.toNat_lt; omega)]
          clear hr0
          by_cases h64 : (d.toNat : Int) = 64
          · rw [if_pos (show blockZ d.toNat = 0 by unfold blockZ; rw [if_pos h64]), Res.bind_ok]
            have d64 : ((d.toNat : Int) != 64) = false := by rw [h64]; rfl
            clear h64 hbz
            go_enter Tryd.func82, Tryd.ntmps82
            go_wp2_with (first
              | (have tok := HG3; go_at_call 84; go_must ((with_reducible refine (HX0.out _ HG3.out.rs).mono ?_); rintro e w4 ⟨rfl, hs, hg⟩; clear c0 c1 c2 c3 f1 f2 f3 r0 r1 r2 r3 z0 z1 z2 z3 x1 x2; have HG4 := Lib.hid (HG3.out.call hs hg); have c0 := HG4.out.box.cell 0; have c1 := HG4.out.box.cell 1; have c2 := HG4.out.box.cell 2; have c3 := HG4.out.box.cell 3; have f1 := HG4.out.box.frozen 1; have f2 := HG4.out.box.frozen 2; have f3 := HG4.out.box.frozen 3; have r0 := HG4.out.res.cell 0; have r1 := HG4.out.res.cell 1; have r2 := HG4.out.res.cell 2; have r3 := HG4.out.res.cell 3; have z0 := HG4.out.res.frozen 0; have z1 := HG4.out.res.frozen 1; have z2 := HG4.out.res.frozen 2; have z3 := HG4.out.res.frozen 3; simp only [List.getElem?_toArray, List.getElem?_cons_zero, List.getElem?_cons_succ] at c0 c1 c2 c3 r0 r1 r2 r3; have x1 := at_at HG4.out.rs; have x2 := why_at HG4.out.rs; clear hs hg))
              | (go_at_call 84; go_must ((with_reducible refine HBY.out.mono ?_); rintro e w1 ⟨rfl, hs, hg⟩; have HG1 := Lib.hid (HST.out w1 hs hg); have hh := HG1.out.h2; have hqq := HG1.out.hq; have n1 : ¬ w1.heap.size = w.heap.size := (by omega); have n2 : ¬ w.heap.size = w1.heap.size := (by omega); have n3 : ¬ w1.heap.size = q := (by omega); have n4 : ¬ q = w1.heap.size := (by omega); have c0 := HG1.out.box.cell 0; have c1 := HG1.out.box.cell 1; have c2 := HG1.out.box.cell 2; have c3 := HG1.out.box.cell 3; have f1 := HG1.out.box.frozen 1; have f2 := HG1.out.box.frozen 2; have f3 := HG1.out.box.frozen 3; have r0 := HG1.out.res.cell 0; have r1 := HG1.out.res.cell 1; have r2 := HG1.out.res.cell 2; have r3 := HG1.out.res.cell 3; have z0 := HG1.out.res.frozen 0; have z1 := HG1.out.res.frozen 1; have z2 := HG1.out.res.frozen 2; have z3 := HG1.out.res.frozen 3; simp only [List.getElem?_toArray, List.getElem?_cons_zero, List.getElem?_cons_succ] at c0 c1 c2 c3 r0 r1 r2 r3; have x1 := at_at HG1.out.rs; have x2 := why_at HG1.out.rs; clear hs hg hh hqq y1))
              | (go_at_call 60; go_must ((with_reducible refine (HC.out _).mono ?_); rintro e w2 ⟨rfl, hb⟩; clear c0 c1 c2 c3 f1 f2 f3 r0 r1 r2 r3 z0 z1 z2 z3 x1 x2; have HG2 := Lib.hid (HG1.out.below hb); have c0 := HG2.out.box.cell 0; have c1 := HG2.out.box.cell 1; have c2 := HG2.out.box.cell 2; have c3 := HG2.out.box.cell 3; have f1 := HG2.out.box.frozen 1; have f2 := HG2.out.box.frozen 2; have f3 := HG2.out.box.frozen 3; have r0 := HG2.out.res.cell 0; have r1 := HG2.out.res.cell 1; have r2 := HG2.out.res.cell 2; have r3 := HG2.out.res.cell 3; have z0 := HG2.out.res.frozen 0; have z1 := HG2.out.res.frozen 1; have z2 := HG2.out.res.frozen 2; have z3 := HG2.out.res.frozen 3; simp only [List.getElem?_toArray, List.getElem?_cons_zero, List.getElem?_cons_succ] at c0 c1 c2 c3 r0 r1 r2 r3; have x1 := at_at HG2.out.rs; have x2 := why_at HG2.out.rs; clear hb))
              | (go_at_call 61; go_must ((with_reducible refine (HI.out _).mono ?_); rintro e w3 ⟨rfl, hb⟩; clear c0 c1 c2 c3 f1 f2 f3 r0 r1 r2 r3 z0 z1 z2 z3 x1 x2; have HG3 := Lib.hid ((HG2.out.below hb).below (below_box w3 (.cells #[.int .i64 r1, .string s1, .int .i64 1, .string s2, .string s3, .bool fb] 107))); have c0 := HG3.out.box.cell 0; have c1 := HG3.out.box.cell 1; have c2 := HG3.out.box.cell 2; have c3 := HG3.out.box.cell 3; have f1 := HG3.out.box.frozen 1; have f2 := HG3.out.box.frozen 2; have f3 := HG3.out.box.frozen 3; have r0 := HG3.out.res.cell 0; have r1 := HG3.out.res.cell 1; have r2 := HG3.out.res.cell 2; have r3 := HG3.out.res.cell 3; have z0 := HG3.out.res.frozen 0; have z1 := HG3.out.res.frozen 1; have z2 := HG3.out.res.frozen 2; have z3 := HG3.out.res.frozen 3; simp only [List.getElem?_toArray, List.getElem?_cons_zero, List.getElem?_cons_succ] at c0 c1 c2 c3 r0 r1 r2 r3; have x1 := at_at HG3.out.rs; have x2 := why_at HG3.out.rs; clear hb)))
            obtain ⟨q4, hf⟩ := RGt.fin ((HG4.out.put 1 (.int .u64 d.toNat) rfl)) (.int .u8 c.toNat) (.int .u64 d.toNat) (.int .u64 0) (.slice none 0 0) _ rfl
            have q0 := q4.cell 0
            have q1 := q4.cell 1
            have q2 := q4.cell 2
            have q3 := q4.cell 3
            simp only [List.getElem?_toArray, List.getElem?_cons_zero, List.getElem?_cons_succ] at q0 q1 q2 q3
            exact bodyPost_ret (v := insV (⟨c, d.toNat, 0, []⟩ : I) none 0) (by simp [results, Tryd.results82, go_sem, q0, q1, q2, q3]) rfl (rgets_ok (i := (⟨c, d.toNat, 0, []⟩ : I)) ((HG4.out.put 1 (.int .u64 d.toNat) rfl)) hf)
          · have d64 : ((d.toNat : Int) != 64) = true := by simpa using h64
            rw [hbz h64]
            obtain ⟨vz, hvz⟩ : ∃ vz, vz = valueZ d.toNat := ⟨_, rfl⟩
            rw [← hvz]
            have HV := Lib.hid (fun W => show Calls Tryd.prog 62 #[.int .i64 d.toNat] W fun e w' => e = .returned (.int .i64 vz) ∧ W = w' from by rw [hvz]; exact refValue_any _ _)
            clear hbz h64 hvz
            by_cases hv0 : vz = 0
            · subst hv0
              rw [if_pos rfl, Res.bind_ok]
              go_enter Tryd.func82, Tryd.ntmps82
              go_wp2_with (first
                | (have tok := HG3; go_at_call 84; go_must ((with_reducible refine (HX0.out _ HG3.out.rs).mono ?_); rintro e w4 ⟨rfl, hs, hg⟩; clear c0 c1 c2 c3 f1 f2 f3 r0 r1 r2 r3 z0 z1 z2 z3 x1 x2; have HG4 := Lib.hid (HG3.out.call hs hg); have c0 := HG4.out.box.cell 0; have c1 := HG4.out.box.cell 1; have c2 := HG4.out.box.cell 2; have c3 := HG4.out.box.cell 3; have f1 := HG4.out.box.frozen 1; have f2 := HG4.out.box.frozen 2; have f3 := HG4.out.box.frozen 3; have r0 := HG4.out.res.cell 0; have r1 := HG4.out.res.cell 1; have r2 := HG4.out.res.cell 2; have r3 := HG4.out.res.cell 3; have z0 := HG4.out.res.frozen 0; have z1 := HG4.out.res.frozen 1; have z2 := HG4.out.res.frozen 2; have z3 := HG4.out.res.frozen 3; simp only [List.getElem?_toArray, List.getElem?_cons_zero, List.getElem?_cons_succ] at c0 c1 c2 c3 r0 r1 r2 r3; have x1 := at_at HG4.out.rs; have x2 := why_at HG4.out.rs; clear hs hg))
                | (go_at_call 62; go_must ((with_reducible refine (HV.out _).mono ?_); rintro e w' ⟨rfl, rfl⟩))
                | (go_at_call 84; go_must ((with_reducible refine HBY.out.mono ?_); rintro e w1 ⟨rfl, hs, hg⟩; have HG1 := Lib.hid (HST.out w1 hs hg); have hh := HG1.out.h2; have hqq := HG1.out.hq; have n1 : ¬ w1.heap.size = w.heap.size := (by omega); have n2 : ¬ w.heap.size = w1.heap.size := (by omega); have n3 : ¬ w1.heap.size = q := (by omega); have n4 : ¬ q = w1.heap.size := (by omega); have c0 := HG1.out.box.cell 0; have c1 := HG1.out.box.cell 1; have c2 := HG1.out.box.cell 2; have c3 := HG1.out.box.cell 3; have f1 := HG1.out.box.frozen 1; have f2 := HG1.out.box.frozen 2; have f3 := HG1.out.box.frozen 3; have r0 := HG1.out.res.cell 0; have r1 := HG1.out.res.cell 1; have r2 := HG1.out.res.cell 2; have r3 := HG1.out.res.cell 3; have z0 := HG1.out.res.frozen 0; have z1 := HG1.out.res.frozen 1; have z2 := HG1.out.res.frozen 2; have z3 := HG1.out.res.frozen 3; simp only [List.getElem?_toArray, List.getElem?_cons_zero, List.getElem?_cons_succ] at c0 c1 c2 c3 r0 r1 r2 r3; have x1 := at_at HG1.out.rs; have x2 := why_at HG1.out.rs; clear hs hg hh hqq y1))
                | (go_at_call 60; go_must ((with_reducible refine (HC.out _).mono ?_); rintro e w2 ⟨rfl, hb⟩; clear c0 c1 c2 c3 f1 f2 f3 r0 r1 r2 r3 z0 z1 z2 z3 x1 x2; have HG2 := Lib.hid (HG1.out.below hb); have c0 := HG2.out.box.cell 0; have c1 := HG2.out.box.cell 1; have c2 := HG2.out.box.cell 2; have c3 := HG2.out.box.cell 3; have f1 := HG2.out.box.frozen 1; have f2 := HG2.out.box.frozen 2; have f3 := HG2.out.box.frozen 3; have r0 := HG2.out.res.cell 0; have r1 := HG2.out.res.cell 1; have r2 := HG2.out.res.cell 2; have r3 := HG2.out.res.cell 3; have z0 := HG2.out.res.frozen 0; have z1 := HG2.out.res.frozen 1; have z2 := HG2.out.res.frozen 2; have z3 := HG2.out.res.frozen 3; simp only [List.getElem?_toArray, List.getElem?_cons_zero, List.getElem?_cons_succ] at c0 c1 c2 c3 r0 r1 r2 r3; have x1 := at_at HG2.out.rs; have x2 := why_at HG2.out.rs; clear hb))
                | (go_at_call 61; go_must ((with_reducible refine (HI.out _).mono ?_); rintro e w3 ⟨rfl, hb⟩; clear c0 c1 c2 c3 f1 f2 f3 r0 r1 r2 r3 z0 z1 z2 z3 x1 x2; have HG3 := Lib.hid ((HG2.out.below hb).below (below_box w3 (.cells #[.int .i64 r1, .string s1, .int .i64 1, .string s2, .string s3, .bool fb] 107))); have c0 := HG3.out.box.cell 0; have c1 := HG3.out.box.cell 1; have c2 := HG3.out.box.cell 2; have c3 := HG3.out.box.cell 3; have f1 := HG3.out.box.frozen 1; have f2 := HG3.out.box.frozen 2; have f3 := HG3.out.box.frozen 3; have r0 := HG3.out.res.cell 0; have r1 := HG3.out.res.cell 1; have r2 := HG3.out.res.cell 2; have r3 := HG3.out.res.cell 3; have z0 := HG3.out.res.frozen 0; have z1 := HG3.out.res.frozen 1; have z2 := HG3.out.res.frozen 2; have z3 := HG3.out.res.frozen 3; simp only [List.getElem?_toArray, List.getElem?_cons_zero, List.getElem?_cons_succ] at c0 c1 c2 c3 r0 r1 r2 r3; have x1 := at_at HG3.out.rs; have x2 := why_at HG3.out.rs; clear hb)))
              obtain ⟨q4, hf⟩ := RGt.fin ((HG4.out.put 1 (.int .u64 d.toNat) rfl)) (.int .u8 c.toNat) (.int .u64 d.toNat) (.int .u64 0) (.slice none 0 0) _ rfl
              have q0 := q4.cell 0
              have q1 := q4.cell 1
              have q2 := q4.cell 2
              have q3 := q4.cell 3
              simp only [List.getElem?_toArray, List.getElem?_cons_zero, List.getElem?_cons_succ] at q0 q1 q2 q3
              exact bodyPost_ret (v := insV (⟨c, d.toNat, 0, []⟩ : I) none 0) (by simp [results, Tryd.results82, go_sem, q0, q1, q2, q3]) rfl (rgets_ok (i := (⟨c, d.toNat, 0, []⟩ : I)) ((HG4.out.put 1 (.int .u64 d.toNat) rfl)) hf)
            · rw [if_neg hv0, Res.bind_err]
              have dz : (vz != 0) = true := by simpa using hv0
              have HF := Lib.hid (fun W (h : Rs W q l (.at k2)) => show Calls Tryd.prog 83 #[.pointer (some ⟨q, 0, none⟩), .int .i64 vz, .int .i64 k1] W fun e w' => e = .returned (.tuple #[]) ∧ Rs w' q l (.bad vz k1) ∧ W.grownBy w' (some q) from fail_ref h vz k1 hv0)
              clear hv0
              go_enter Tryd.func82, Tryd.ntmps82
              go_wp2_with (first
                | (have tok := HG3; go_at_call 84; go_must ((with_reducible refine (HX0.out _ HG3.out.rs).mono ?_); rintro e w4 ⟨rfl, hs, hg⟩; clear c0 c1 c2 c3 f1 f2 f3 r0 r1 r2 r3 z0 z1 z2 z3 x1 x2; have HG4 := Lib.hid (HG3.out.call hs hg); have c0 := HG4.out.box.cell 0; have c1 := HG4.out.box.cell 1; have c2 := HG4.out.box.cell 2; have c3 := HG4.out.box.cell 3; have f1 := HG4.out.box.frozen 1; have f2 := HG4.out.box.frozen 2; have f3 := HG4.out.box.frozen 3; have r0 := HG4.out.res.cell 0; have r1 := HG4.out.res.cell 1; have r2 := HG4.out.res.cell 2; have r3 := HG4.out.res.cell 3; have z0 := HG4.out.res.frozen 0; have z1 := HG4.out.res.frozen 1; have z2 := HG4.out.res.frozen 2; have z3 := HG4.out.res.frozen 3; simp only [List.getElem?_toArray, List.getElem?_cons_zero, List.getElem?_cons_succ] at c0 c1 c2 c3 r0 r1 r2 r3; have x1 := at_at HG4.out.rs; have x2 := why_at HG4.out.rs; clear hs hg))
                | (go_at_call 62; go_must ((with_reducible refine (HV.out _).mono ?_); rintro e w' ⟨rfl, rfl⟩))
                | (go_at_call 83; go_must ((with_reducible refine (HF.out _ ((HG4.out.put 1 (.int .u64 d.toNat) rfl)).rs).mono ?_); rintro e w5 ⟨rfl, hs, hg⟩; clear c0 c1 c2 c3 f1 f2 f3 r0 r1 r2 r3 z0 z1 z2 z3 x1 x2; have HG5 := Lib.hid (((HG4.out.put 1 (.int .u64 d.toNat) rfl)).call hs hg); have c0 := HG5.out.box.cell 0; have c1 := HG5.out.box.cell 1; have c2 := HG5.out.box.cell 2; have c3 := HG5.out.box.cell 3; have f1 := HG5.out.box.frozen 1; have f2 := HG5.out.box.frozen 2; have f3 := HG5.out.box.frozen 3; have r0 := HG5.out.res.cell 0; have r1 := HG5.out.res.cell 1; have r2 := HG5.out.res.cell 2; have r3 := HG5.out.res.cell 3; have z0 := HG5.out.res.frozen 0; have z1 := HG5.out.res.frozen 1; have z2 := HG5.out.res.frozen 2; have z3 := HG5.out.res.frozen 3; simp only [List.getElem?_toArray, List.getElem?_cons_zero, List.getElem?_cons_succ] at c0 c1 c2 c3 r0 r1 r2 r3; obtain ⟨jat, x1⟩ := at_bad HG5.out.rs; have x2 := why_bad HG5.out.rs; clear hs hg))
                | (go_at_call 84; go_must ((with_reducible refine HBY.out.mono ?_); rintro e w1 ⟨rfl, hs, hg⟩; have HG1 := Lib.hid (HST.out w1 hs hg); have hh := HG1.out.h2; have hqq := HG1.out.hq; have n1 : ¬ w1.heap.size = w.heap.size := (by omega); have n2 : ¬ w.heap.size = w1.heap.size := (by omega); have n3 : ¬ w1.heap.size = q := (by omega); have n4 : ¬ q = w1.heap.size := (by omega); have c0 := HG1.out.box.cell 0; have c1 := HG1.out.box.cell 1; have c2 := HG1.out.box.cell 2; have c3 := HG1.out.box.cell 3; have f1 := HG1.out.box.frozen 1; have f2 := HG1.out.box.frozen 2; have f3 := HG1.out.box.frozen 3; have r0 := HG1.out.res.cell 0; have r1 := HG1.out.res.cell 1; have r2 := HG1.out.res.cell 2; have r3 := HG1.out.res.cell 3; have z0 := HG1.out.res.frozen 0; have z1 := HG1.out.res.frozen 1; have z2 := HG1.out.res.frozen 2; have z3 := HG1.out.res.frozen 3; simp only [List.getElem?_toArray, List.getElem?_cons_zero, List.getElem?_cons_succ] at c0 c1 c2 c3 r0 r1 r2 r3; have x1 := at_at HG1.out.rs; have x2 := why_at HG1.out.rs; clear hs hg hh hqq y1))
                | (go_at_call 60; go_must ((with_reducible refine (HC.out _).mono ?_); rintro e w2 ⟨rfl, hb⟩; clear c0 c1 c2 c3 f1 f2 f3 r0 r1 r2 r3 z0 z1 z2 z3 x1 x2; have HG2 := Lib.hid (HG1.out.below hb); have c0 := HG2.out.box.cell 0; have c1 := HG2.out.box.cell 1; have c2 := HG2.out.box.cell 2; have c3 := HG2.out.box.cell 3; have f1 := HG2.out.box.frozen 1; have f2 := HG2.out.box.frozen 2; have f3 := HG2.out.box.frozen 3; have r0 := HG2.out.res.cell 0; have r1 := HG2.out.res.cell 1; have r2 := HG2.out.res.cell 2; have r3 := HG2.out.res.cell 3; have z0 := HG2.out.res.frozen 0; have z1 := HG2.out.res.frozen 1; have z2 := HG2.out.res.frozen 2; have z3 := HG2.out.res.frozen 3; simp only [List.getElem?_toArray, List.getElem?_cons_zero, List.getElem?_cons_succ] at c0 c1 c2 c3 r0 r1 r2 r3; have x1 := at_at HG2.out.rs; have x2 := why_at HG2.out.rs; clear hb))
                | (go_at_call 61; go_must ((with_reducible refine (HI.out _).mono ?_); rintro e w3 ⟨rfl, hb⟩; clear c0 c1 c2 c3 f1 f2 f3 r0 r1 r2 r3 z0 z1 z2 z3 x1 x2; have HG3 := Lib.hid ((HG2.out.below hb).below (below_box w3 (.cells #[.int .i64 r1, .string s1, .int .i64 1, .string s2, .string s3, .bool fb] 107))); have c0 := HG3.out.box.cell 0; have c1 := HG3.out.box.cell 1; have c2 := HG3.out.box.cell 2; have c3 := HG3.out.box.cell 3; have f1 := HG3.out.box.frozen 1; have f2 := HG3.out.box.frozen 2; have f3 := HG3.out.box.frozen 3; have r0 := HG3.out.res.cell 0; have r1 := HG3.out.res.cell 1; have r2 := HG3.out.res.cell 2; have r3 := HG3.out.res.cell 3; have z0 := HG3.out.res.frozen 0; have z1 := HG3.out.res.frozen 1; have z2 := HG3.out.res.frozen 2; have z3 := HG3.out.res.frozen 3; simp only [List.getElem?_toArray, List.getElem?_cons_zero, List.getElem?_cons_succ] at c0 c1 c2 c3 r0 r1 r2 r3; have x1 := at_at HG3.out.rs; have x2 := why_at HG3.out.rs; clear hb)))
              obtain ⟨q4, hf⟩ := RGt.fin (HG5.out) (.int .u8 0) (.int .u64 0) (.int .u64 0) (.slice none 0 0) _ rfl
              have q0 := q4.cell 0
              have q1 := q4.cell 1
              have q2 := q4.cell 2
              have q3 := q4.cell 3
              simp only [List.getElem?_toArray, List.getElem?_cons_zero, List.getElem?_cons_succ] at q0 q1 q2 q3
              exact bodyPost_ret (v := .agg #[.int .u8 0, .int .u64 0, .int .u64 0, .slice none 0 0]) (by simp [results, Tryd.results82, go_sem, q0, q1, q2, q3]) rfl (rgets_no hf)
      have d1 : ((m : Int) == 1) = false := by simp; omega
      by_cases m3 : m = 3
      · subst m3
        rw [show bodyR 3 c l k1 = (labelsR l k1).bind fun ls k1 => (indexR l k1).bind fun a k2 => .ok ⟨c, a, 0, ls⟩ k2 from by unfold bodyR; rw [if_neg (by omega), if_neg (by omega), if_pos rfl]]
        have HI := Lib.hid (show ∀ W, Calls Tryd.prog 61 #[.int .i64 c.toNat] W fun e w' => e = .returned (.tuple #[.agg #[.int .i64 r1, .string s1, .int .i64 3, .string s2, .string s3, .bool fb], .bool b]) ∧ Below W.heap.size W w' from HI.out)
        obtain ⟨R, hR⟩ : ∃ R, R = labelsR l k1 := ⟨_, rfl⟩
        rw [← hR]
        obtain ⟨n, s0, hn0, hcount, hinv⟩ := count_start (l := l) (k := k1)
        rw [← hR] at hinv
        obtain ⟨T, hT⟩ : ∃ T, T = R.bind fun ls k1 => (indexR l k1).bind fun a k2 => .ok (⟨c, a, 0, ls⟩ : I) k2 := ⟨_, rfl⟩
        rw [← hT]
        have HT := Lib.hid hT
        have HX0 := Lib.hid (fun W (h : Rs W q l (.at k1)) => show Calls Tryd.prog 129 #[.pointer (some ⟨q, 0, none⟩)] W fun e w' => e = .returned (.int .i64 n) ∧ Rs w' q l s0 ∧ W.grownBy w' (some q) from by have := count_ref h; rw [hcount.1, hcount.2] at this; exact this)
        have HINV := Lib.hid hinv
        clear hcount hinv hR hT
        go_enter Tryd.func82, Tryd.ntmps82
        go_wp2_with (first
          | (go_at_call 129; go_must ((with_reducible refine (HX0.out _ HG3.out.rs).mono ?_); rintro e w4 ⟨rfl, hs, hg⟩; clear c0 c1 c2 c3 f1 f2 f3 r0 r1 r2 r3 z0 z1 z2 z3 x1 x2; have HG4 := Lib.hid ((HG3.out.call hs hg).loop); clear hs hg))
          | (go_at_call 84; go_must ((with_reducible refine HBY.out.mono ?_); rintro e w1 ⟨rfl, hs, hg⟩; have HG1 := Lib.hid (HST.out w1 hs hg); have hh := HG1.out.h2; have hqq := HG1.out.hq; have n1 : ¬ w1.heap.size = w.heap.size := (by omega); have n2 : ¬ w.heap.size = w1.heap.size := (by omega); have n3 : ¬ w1.heap.size = q := (by omega); have n4 : ¬ q = w1.heap.size := (by omega); have c0 := HG1.out.box.cell 0; have c1 := HG1.out.box.cell 1; have c2 := HG1.out.box.cell 2; have c3 := HG1.out.box.cell 3; have f1 := HG1.out.box.frozen 1; have f2 := HG1.out.box.frozen 2; have f3 := HG1.out.box.frozen 3; have r0 := HG1.out.res.cell 0; have r1 := HG1.out.res.cell 1; have r2 := HG1.out.res.cell 2; have r3 := HG1.out.res.cell 3; have z0 := HG1.out.res.frozen 0; have z1 := HG1.out.res.frozen 1; have z2 := HG1.out.res.frozen 2; have z3 := HG1.out.res.frozen 3; simp only [List.getElem?_toArray, List.getElem?_cons_zero, List.getElem?_cons_succ] at c0 c1 c2 c3 r0 r1 r2 r3; have x1 := at_at HG1.out.rs; have x2 := why_at HG1.out.rs; clear hs hg hh hqq y1))
          | (go_at_call 60; go_must ((with_reducible refine (HC.out _).mono ?_); rintro e w2 ⟨rfl, hb⟩; clear c0 c1 c2 c3 f1 f2 f3 r0 r1 r2 r3 z0 z1 z2 z3 x1 x2; have HG2 := Lib.hid (HG1.out.below hb); have c0 := HG2.out.box.cell 0; have c1 := HG2.out.box.cell 1; have c2 := HG2.out.box.cell 2; have c3 := HG2.out.box.cell 3; have f1 := HG2.out.box.frozen 1; have f2 := HG2.out.box.frozen 2; have f3 := HG2.out.box.frozen 3; have r0 := HG2.out.res.cell 0; have r1 := HG2.out.res.cell 1; have r2 := HG2.out.res.cell 2; have r3 := HG2.out.res.cell 3; have z0 := HG2.out.res.frozen 0; have z1 := HG2.out.res.frozen 1; have z2 := HG2.out.res.frozen 2; have z3 := HG2.out.res.frozen 3; simp only [List.getElem?_toArray, List.getElem?_cons_zero, List.getElem?_cons_succ] at c0 c1 c2 c3 r0 r1 r2 r3; have x1 := at_at HG2.out.rs; have x2 := why_at HG2.out.rs; clear hb))
          | (go_at_call 61; go_must ((with_reducible refine (HI.out _).mono ?_); rintro e w3 ⟨rfl, hb⟩; clear c0 c1 c2 c3 f1 f2 f3 r0 r1 r2 r3 z0 z1 z2 z3 x1 x2; have HG3 := Lib.hid ((HG2.out.below hb).below (below_box w3 (.cells #[.int .i64 r1, .string s1, .int .i64 3, .string s2, .string s3, .bool fb] 107))); have c0 := HG3.out.box.cell 0; have c1 := HG3.out.box.cell 1; have c2 := HG3.out.box.cell 2; have c3 := HG3.out.box.cell 3; have f1 := HG3.out.box.frozen 1; have f2 := HG3.out.box.frozen 2; have f3 := HG3.out.box.frozen 3; have r0 := HG3.out.res.cell 0; have r1 := HG3.out.res.cell 1; have r2 := HG3.out.res.cell 2; have r3 := HG3.out.res.cell 3; have z0 := HG3.out.res.frozen 0; have z1 := HG3.out.res.frozen 1; have z2 := HG3.out.res.frozen 2; have z3 := HG3.out.res.frozen 3; simp only [List.getElem?_toArray, List.getElem?_cons_zero, List.getElem?_cons_succ] at c0 c1 c2 c3 r0 r1 r2 r3; have x1 := at_at HG3.out.rs; have x2 := why_at HG3.out.rs; clear hb)))
        go_loopw [8] (fun i wr => ∃ (j : Nat) (s : RSt) (v : Value) (acc : List Int), j ≤ n ∧ i = .int .i64 j ∧ RLp w q l w1.heap.size c.toNat s v v acc wr ∧ Inv32 l n j s acc R) (fun i _ => n - (intOf i).toNat)
        case atStart => exact ⟨0, s0, _, [], Nat.zero_le _, rfl, HG4.out, HINV.out⟩
        case round =>
          obtain ⟨j, s, v, acc, hj, rfl, hrl, hiv⟩ := hrel
          have HR := Lib.hid hrl
          have c0 := hrl.box.cell 0
          have c1 := hrl.box.cell 1
          have c2 := hrl.box.cell 2
          have c3 := hrl.box.cell 3
          have f1 := hrl.box.frozen 1
          have f2 := hrl.box.frozen 2
          have f3 := hrl.box.frozen 3
          have r0 := hrl.res.cell 0
          have r1 := hrl.res.cell 1
          have r2 := hrl.res.cell 2
          have r3 := hrl.res.cell 3
          have z0 := hrl.res.frozen 0
          have z1 := hrl.res.frozen 1
          have z2 := hrl.res.frozen 2
          have z3 := hrl.res.frozen 3
          simp only [List.getElem?_toArray, List.getElem?_cons_zero, List.getElem?_cons_succ] at c0 c1 c2 c3 r0 r1 r2 r3
          cases s with
          | bad ec ea =>
            have hRe : R = .err ec ea := hiv
            have HTE := Lib.hid (show T = .err ec ea by rw [HT.out, hRe]; rfl)
            have x2 := why_bad hrl.rs
            have hnz := hrl.rs.nz
            have dw : (ec != 0) = true := by simpa using hnz
            have dw2 : (ec == 0) = false := by simpa using hnz
            obtain ⟨A, cap, hv, hgt⟩ := hrl.gt
            have HG6 := Lib.hid hgt
            have HX1 := Lib.hid (fun W (h : Rs W q l (.bad ec ea)) => show Calls Tryd.prog 130 #[.pointer (some ⟨q, 0, none⟩)] W fun e w' => e = .returned (.int .u32 0) ∧ Rs w' q l (.bad ec ea) ∧ W.grownBy w' (some q) from index_ref h)
            subst hv
            clear hrl hiv hnz hgt HR hRe
            by_cases hlt : j < n
            · go_wp2_with (go_at_call 130; go_must ((with_reducible refine (HX1.out _ HG6.out.rs).mono ?_); rintro e w7 ⟨rfl, hs, hg⟩; clear c0 c1 c2 c3 f1 f2 f3 r0 r1 r2 r3 z0 z1 z2 z3 x2; have HG7 := Lib.hid (HG6.out.call hs hg); have c0 := HG7.out.box.cell 0; have c1 := HG7.out.box.cell 1; have c2 := HG7.out.box.cell 2; have c3 := HG7.out.box.cell 3; have f1 := HG7.out.box.frozen 1; have f2 := HG7.out.box.frozen 2; have f3 := HG7.out.box.frozen 3; have r0 := HG7.out.res.cell 0; have r1 := HG7.out.res.cell 1; have r2 := HG7.out.res.cell 2; have r3 := HG7.out.res.cell 3; have z0 := HG7.out.res.frozen 0; have z1 := HG7.out.res.frozen 1; have z2 := HG7.out.res.frozen 2; have z3 := HG7.out.res.frozen 3; simp only [List.getElem?_toArray, List.getElem?_cons_zero, List.getElem?_cons_succ] at c0 c1 c2 c3 r0 r1 r2 r3; obtain ⟨jat, x1⟩ := at_bad HG7.out.rs; have x2 := why_bad HG7.out.rs; clear hs hg))
              obtain ⟨q4, hf⟩ := RGt.fin ((HG7.out.put 1 (.int .u64 0) rfl)) (.int .u8 0) (.int .u64 0) (.int .u64 0) (.slice none 0 0) _ rfl
              have q0 := q4.cell 0
              have q1 := q4.cell 1
              have q2 := q4.cell 2
              have q3 := q4.cell 3
              simp only [List.getElem?_toArray, List.getElem?_cons_zero, List.getElem?_cons_succ] at q0 q1 q2 q3
              exact bodyPost_ret (v := .agg #[.int .u8 0, .int .u64 0, .int .u64 0, .slice none 0 0]) (by simp [results, Tryd.results82, go_sem, q0, q1, q2, q3]) rfl (by rw [HTE.out]; exact rgets_no hf)
            · have hge : ¬ j < n := hlt
              go_wp2_with (go_at_call 130; go_must ((with_reducible refine (HX1.out _ HG6.out.rs).mono ?_); rintro e w7 ⟨rfl, hs, hg⟩; clear c0 c1 c2 c3 f1 f2 f3 r0 r1 r2 r3 z0 z1 z2 z3 x2; have HG7 := Lib.hid (HG6.out.call hs hg); have c0 := HG7.out.box.cell 0; have c1 := HG7.out.box.cell 1; have c2 := HG7.out.box.cell 2; have c3 := HG7.out.box.cell 3; have f1 := HG7.out.box.frozen 1; have f2 := HG7.out.box.frozen 2; have f3 := HG7.out.box.frozen 3; have r0 := HG7.out.res.cell 0; have r1 := HG7.out.res.cell 1; have r2 := HG7.out.res.cell 2; have r3 := HG7.out.res.cell 3; have z0 := HG7.out.res.frozen 0; have z1 := HG7.out.res.frozen 1; have z2 := HG7.out.res.frozen 2; have z3 := HG7.out.res.frozen 3; simp only [List.getElem?_toArray, List.getElem?_cons_zero, List.getElem?_cons_succ] at c0 c1 c2 c3 r0 r1 r2 r3; obtain ⟨jat, x1⟩ := at_bad HG7.out.rs; have x2 := why_bad HG7.out.rs; clear hs hg))
              obtain ⟨q4, hf⟩ := RGt.fin ((HG7.out.put 1 (.int .u64 0) rfl)) (.int .u8 0) (.int .u64 0) (.int .u64 0) (.slice none 0 0) _ rfl
              have q0 := q4.cell 0
              have q1 := q4.cell 1
              have q2 := q4.cell 2
              have q3 := q4.cell 3
              simp only [List.getElem?_toArray, List.getElem?_cons_zero, List.getElem?_cons_succ] at q0 q1 q2 q3
              exact bodyPost_ret (v := .agg #[.int .u8 0, .int .u64 0, .int .u64 0, .slice none 0 0]) (by simp [results, Tryd.results82, go_sem, q0, q1, q2, q3]) rfl (by rw [HTE.out]; exact rgets_no hf)
          | «at» p =>
            have x2 := why_at hrl.rs
            obtain ⟨hal, hik⟩ := hiv
            by_cases hlt : j < n
            · rw [idxK_more hlt] at hik
              obtain ⟨x, s2, hx0, hx1, hix, hinv2⟩ := index_step hik hal hlt
              have HX := Lib.hid (fun W (h : Rs W q l (.at p)) => show Calls Tryd.prog 130 #[.pointer (some ⟨q, 0, none⟩)] W fun e w' => e = .returned (.int .u32 x) ∧ Rs w' q l s2 ∧ W.grownBy w' (some q) from by have := index_ref h; rw [show (RSt.at p).bind (indexR l) = indexR l p from rfl, hix.1, hix.2] at this; exact this)
              obtain ⟨acc2, hacc2⟩ : ∃ acc2, acc2 = acc ++ [x] := ⟨_, rfl⟩
              rw [← hacc2] at hinv2
              have HA2 := Lib.hid hacc2
              have HINV2 := Lib.hid hinv2
              have hal2 : acc.length ≤ 10000 := by omega
              clear hrl hik hix hinv2 hacc2
              go_wp2_with fail
              go_region_law (first
            | (refine step32 (by rfl) _ _ (by rfl) (w1.heap.size + 1) _ acc (by rfl) (HK1.out.row.alloc _) w5.heap.size x (by rfl) (Whole.made w5 _ _) hal2 (Nat.le_trans HK1.out.box.lt (below_box w5 _).size) ?_; intro v2 w6 hr6 hg6; have HK2 := Lib.hid (show RLp w q l w1.heap.size c.toNat _ v v2 acc2 w6 from by rw [HA2.out]; exact HK1.out.app hr6 hg6); obtain ⟨A9, cap9, hv9, _⟩ := lies_own HK2.out.row; subst hv9; have f3b := HK2.out.box.frozen 3; have k3b : w6.cell? ⟨w1.heap.size, 3, none⟩ = some v := HK2.out.box.cell 3; clear hr6 hg6)
            | (go_simp; go_at_call 130; (with_reducible refine (HX.out wr.drew (Rs.drew HR.out.rs)).mono ?_); rintro e w5 ⟨rfl, hs, hg⟩; have HK1 := Lib.hid (HR.out.call hs (gb_of_drew1 hg)); have hk1 : w5.cell? ⟨w1.heap.size, 3, none⟩ = some v := HK1.out.box.cell 3; have hl5 := HK1.out.box.lt; have n5 : ¬ w1.heap.size = w5.heap.size := (by omega); clear hs hg))
              all_goals
                go_wp2
                go_roundw
                case rel => exact ⟨j + 1, s2, _, acc2, by omega, by go_num, HK2.out.store, HINV2.out⟩
                case measure => simp [intOf]; omega
            · obtain rfl : j = n := by omega
              rw [Nat.sub_self] at hik
              have hRe : R = .ok acc p := hik.symm
              obtain ⟨A, cap, hv, hgt⟩ := hrl.gt
              have HG6 := Lib.hid hgt
              subst hv
              have hTr : T = (indexR l p).bind fun a k2 => .ok (⟨c, a, 0, acc⟩ : I) k2 := by rw [HT.out, hRe]; rfl
              clear hrl hik hgt hal HR hRe
              cases hri : indexR l p with
              | err ec ea =>
                have HTE := Lib.hid (show T = .err ec ea by rw [hTr, hri]; rfl)
                clear hTr
                have HX1 := Lib.hid (fun W (h : Rs W q l (.at p)) => show Calls Tryd.prog 130 #[.pointer (some ⟨q, 0, none⟩)] W fun e w' => e = .returned (.int .u32 0) ∧ Rs w' q l (.bad ec ea) ∧ W.grownBy w' (some q) from by have := index_ref h; rw [show (RSt.at p).bind (indexR l) = indexR l p from rfl, hri] at this; exact this)
                have dw : (ec != 0) = true := by have := indexR_nz hri; simpa using this
                have dw2 : (ec == 0) = false := by have := indexR_nz hri; simpa using this
                clear hri
                go_wp2_with (go_at_call 130; go_must ((with_reducible refine (HX1.out _ HG6.out.rs).mono ?_); rintro e w7 ⟨rfl, hs, hg⟩; clear c0 c1 c2 c3 f1 f2 f3 r0 r1 r2 r3 z0 z1 z2 z3 x2; have HG7 := Lib.hid (HG6.out.call hs hg); have c0 := HG7.out.box.cell 0; have c1 := HG7.out.box.cell 1; have c2 := HG7.out.box.cell 2; have c3 := HG7.out.box.cell 3; have f1 := HG7.out.box.frozen 1; have f2 := HG7.out.box.frozen 2; have f3 := HG7.out.box.frozen 3; have r0 := HG7.out.res.cell 0; have r1 := HG7.out.res.cell 1; have r2 := HG7.out.res.cell 2; have r3 := HG7.out.res.cell 3; have z0 := HG7.out.res.frozen 0; have z1 := HG7.out.res.frozen 1; have z2 := HG7.out.res.frozen 2; have z3 := HG7.out.res.frozen 3; simp only [List.getElem?_toArray, List.getElem?_cons_zero, List.getElem?_cons_succ] at c0 c1 c2 c3 r0 r1 r2 r3; obtain ⟨jat, x1⟩ := at_bad HG7.out.rs; have x2 := why_bad HG7.out.rs; clear hs hg))
                obtain ⟨q4, hf⟩ := RGt.fin ((HG7.out.put 1 (.int .u64 0) rfl)) (.int .u8 0) (.int .u64 0) (.int .u64 0) (.slice none 0 0) _ rfl
                have q0 := q4.cell 0
                have q1 := q4.cell 1
                have q2 := q4.cell 2
                have q3 := q4.cell 3
                simp only [List.getElem?_toArray, List.getElem?_cons_zero, List.getElem?_cons_succ] at q0 q1 q2 q3
                exact bodyPost_ret (v := .agg #[.int .u8 0, .int .u64 0, .int .u64 0, .slice none 0 0]) (by simp [results, Tryd.results82, go_sem, q0, q1, q2, q3]) rfl (by rw [HTE.out]; exact rgets_no hf)
              | ok a k3 =>
                have HTE := Lib.hid (show T = .ok (⟨c, a, 0, acc⟩ : I) k3 by rw [hTr, hri]; rfl)
                clear hTr
                have HX1 := Lib.hid (fun W (h : Rs W q l (.at p)) => show Calls Tryd.prog 130 #[.pointer (some ⟨q, 0, none⟩)] W fun e w' => e = .returned (.int .u32 a) ∧ Rs w' q l (.at k3) ∧ W.grownBy w' (some q) from by have := index_ref h; rw [show (RSt.at p).bind (indexR l) = indexR l p from rfl, hri] at this; exact this)
                have hwa : IntKind.u64.wrap a = a := wrap64u (indexR_ok hri).2.1 (indexR_ok hri).2.2
                clear hri
                go_wp2_with (go_at_call 130; go_must ((with_reducible refine (HX1.out _ HG6.out.rs).mono ?_); rintro e w7 ⟨rfl, hs, hg⟩; clear c0 c1 c2 c3 f1 f2 f3 r0 r1 r2 r3 z0 z1 z2 z3 x2; have HG7 := Lib.hid (HG6.out.call hs hg); have c0 := HG7.out.box.cell 0; have c1 := HG7.out.box.cell 1; have c2 := HG7.out.box.cell 2; have c3 := HG7.out.box.cell 3; have f1 := HG7.out.box.frozen 1; have f2 := HG7.out.box.frozen 2; have f3 := HG7.out.box.frozen 3; have r0 := HG7.out.res.cell 0; have r1 := HG7.out.res.cell 1; have r2 := HG7.out.res.cell 2; have r3 := HG7.out.res.cell 3; have z0 := HG7.out.res.frozen 0; have z1 := HG7.out.res.frozen 1; have z2 := HG7.out.res.frozen 2; have z3 := HG7.out.res.frozen 3; simp only [List.getElem?_toArray, List.getElem?_cons_zero, List.getElem?_cons_succ] at c0 c1 c2 c3 r0 r1 r2 r3; have x1 := at_at HG7.out.rs; have x2 := why_at HG7.out.rs; clear hs hg))
                obtain ⟨q4, hf⟩ := RGt.fin ((HG7.out.put 1 (.int .u64 a) rfl)) (.int .u8 c.toNat) (.int .u64 a) (.int .u64 0) (.slice A acc.length cap) _ rfl
                have q0 := q4.cell 0
                have q1 := q4.cell 1
                have q2 := q4.cell 2
                have q3 := q4.cell 3
                simp only [List.getElem?_toArray, List.getElem?_cons_zero, List.getElem?_cons_succ] at q0 q1 q2 q3
                exact bodyPost_ret (v := insV (⟨c, a, 0, acc⟩ : I) A cap) (by simp [results, Tryd.results82, go_sem, q0, q1, q2, q3]) rfl (by rw [HTE.out]; exact rgets_ok (i := (⟨c, a, 0, acc⟩ : I)) ((HG7.out.put 1 (.int .u64 a) rfl)) hf)
      have d3 : ((m : Int) == 3) = false := by simp; omega
      by_cases m5 : m = 5
      · subst m5
        rw [show bodyR 5 c l k1 = (indexR l k1).bind fun a k1 => (noughtR l k1).bind fun _ k2 => .ok ⟨c, a, 0, []⟩ k2 from by unfold bodyR; rw [if_neg (by omega), if_neg (by omega), if_neg (by omega), if_pos rfl]]
        have HI := Lib.hid (show ∀ W, Calls Tryd.prog 61 #[.int .i64 c.toNat] W fun e w' => e = .returned (.tuple #[.agg #[.int .i64 r1, .string s1, .int .i64 5, .string s2, .string s3, .bool fb], .bool b]) ∧ Below W.heap.size W w' from HI.out)
        cases hr0 : indexR l k1 with
        | err ec ea =>
          rw [Res.bind_err]
          have HX0 := Lib.hid (fun W (h : Rs W q l (.at k1)) => show Calls Tryd.prog 130 #[.pointer (some ⟨q, 0, none⟩)] W fun e w' => e = .returned (.int .u32 0) ∧ Rs w' q l (.bad ec ea) ∧ W.grownBy w' (some q) from by have := index_ref h; rw [show (RSt.at k1).bind (indexR l) = indexR l k1 from rfl, hr0] at this; exact this)
          have dw : (ec != 0) = true := by have := (indexR_nz hr0); simpa using this
          have dw2 : (ec == 0) = false := by have := (indexR_nz hr0); simpa using this
          clear hr0
          have HX1 := Lib.hid (fun W (h : Rs W q l (.bad ec ea)) => show Calls Tryd.prog 131 #[.pointer (some ⟨q, 0, none⟩)] W fun e w' => e = .returned (.tuple #[]) ∧ Rs w' q l (.bad ec ea) ∧ W.grownBy w' (some q) from by have := nought_ref h; exact this)
          go_enter Tryd.func82, Tryd.ntmps82
          go_wp2_with (first
            | (have tok := HG4; go_at_call 131; go_must ((with_reducible refine (HX1.out _ ((HG4.out.put 1 (.int .u64 0) rfl)).rs).mono ?_); rintro e w5 ⟨rfl, hs, hg⟩; clear c0 c1 c2 c3 f1 f2 f3 r0 r1 r2 r3 z0 z1 z2 z3 x1 x2; have HG5 := Lib.hid (((HG4.out.put 1 (.int .u64 0) rfl)).call hs hg); have c0 := HG5.out.box.cell 0; have c1 := HG5.out.box.cell 1; have c2 := HG5.out.box.cell 2; have c3 := HG5.out.box.cell 3; have f1 := HG5.out.box.frozen 1; have f2 := HG5.out.box.frozen 2; have f3 := HG5.out.box.frozen 3; have r0 := HG5.out.res.cell 0; have r1 := HG5.out.res.cell 1; have r2 := HG5.out.res.cell 2; have r3 := HG5.out.res.cell 3; have z0 := HG5.out.res.frozen 0; have z1 := HG5.out.res.frozen 1; have z2 := HG5.out.res.frozen 2; have z3 := HG5.out.res.frozen 3; simp only [List.getElem?_toArray, List.getElem?_cons_zero, List.getElem?_cons_succ] at c0 c1 c2 c3 r0 r1 r2 r3; obtain ⟨jat, x1⟩ := at_bad HG5.out.rs; have x2 := why_bad HG5.out.rs; clear hs hg))
            | (go_at_call 130; go_must ((with_reducible refine (HX0.out _ (HG3.out).rs).mono ?_); rintro e w4 ⟨rfl, hs, hg⟩; clear c0 c1 c2 c3 f1 f2 f3 r0 r1 r2 r3 z0 z1 z2 z3 x1 x2; have HG4 := Lib.hid ((HG3.out).call hs hg); have c0 := HG4.out.box.cell 0; have c1 := HG4.out.box.cell 1; have c2 := HG4.out.box.cell 2; have c3 := HG4.out.box.cell 3; have f1 := HG4.out.box.frozen 1; have f2 := HG4.out.box.frozen 2; have f3 := HG4.out.box.frozen 3; have r0 := HG4.out.res.cell 0; have r1 := HG4.out.res.cell 1; have r2 := HG4.out.res.cell 2; have r3 := HG4.out.res.cell 3; have z0 := HG4.out.res.frozen 0; have z1 := HG4.out.res.frozen 1; have z2 := HG4.out.res.frozen 2; have z3 := HG4.out.res.frozen 3; simp only [List.getElem?_toArray, List.getElem?_cons_zero, List.getElem?_cons_succ] at c0 c1 c2 c3 r0 r1 r2 r3; obtain ⟨jat, x1⟩ := at_bad HG4.out.rs; have x2 := why_bad HG4.out.rs; clear hs hg))
            | (go_at_call 84; go_must ((with_reducible refine HBY.out.mono ?_); rintro e w1 ⟨rfl, hs, hg⟩; have HG1 := Lib.hid (HST.out w1 hs hg); have hh := HG1.out.h2; have hqq := HG1.out.hq; have n1 : ¬ w1.heap.size = w.heap.size := (by omega); have n2 : ¬ w.heap.size = w1.heap.size := (by omega); have n3 : ¬ w1.heap.size = q := (by omega); have n4 : ¬ q = w1.heap.size := (by omega); have c0 := HG1.out.box.cell 0; have c1 := HG1.out.box.cell 1; have c2 := HG1.out.box.cell 2; have c3 := HG1.out.box.cell 3; have f1 := HG1.out.box.frozen 1; have f2 := HG1.out.box.frozen 2; have f3 := HG1.out.box.frozen 3; have r0 := HG1.out.res.cell 0; have r1 := HG1.out.res.cell 1; have r2 := HG1.out.res.cell 2; have r3 := HG1.out.res.cell 3; have z0 := HG1.out.res.frozen 0; have z1 := HG1.out.res.frozen 1; have z2 := HG1.out.res.frozen 2; have z3 := HG1.out.res.frozen 3; simp only [List.getElem?_toArray, List.getElem?_cons_zero, List.getElem?_cons_succ] at c0 c1 c2 c3 r0 r1 r2 r3; have x1 := at_at HG1.out.rs; have x2 := why_at HG1.out.rs; clear hs hg hh hqq y1))
            | (go_at_call 60; go_must ((with_reducible refine (HC.out _).mono ?_); rintro e w2 ⟨rfl, hb⟩; clear c0 c1 c2 c3 f1 f2 f3 r0 r1 r2 r3 z0 z1 z2 z3 x1 x2; have HG2 := Lib.hid (HG1.out.below hb); have c0 := HG2.out.box.cell 0; have c1 := HG2.out.box.cell 1; have c2 := HG2.out.box.cell 2; have c3 := HG2.out.box.cell 3; have f1 := HG2.out.box.frozen 1; have f2 := HG2.out.box.frozen 2; have f3 := HG2.out.box.frozen 3; have r0 := HG2.out.res.cell 0; have r1 := HG2.out.res.cell 1; have r2 := HG2.out.res.cell 2; have r3 := HG2.out.res.cell 3; have z0 := HG2.out.res.frozen 0; have z1 := HG2.out.res.frozen 1; have z2 := HG2.out.res.frozen 2; have z3 := HG2.out.res.frozen 3; simp only [List.getElem?_toArray, List.getElem?_cons_zero, List.getElem?_cons_succ] at c0 c1 c2 c3 r0 r1 r2 r3; have x1 := at_at HG2.out.rs; have x2 := why_at HG2.out.rs; clear hb))
            | (go_at_call 61; go_must ((with_reducible refine (HI.out _).mono ?_); rintro e w3 ⟨rfl, hb⟩; clear c0 c1 c2 c3 f1 f2 f3 r0 r1 r2 r3 z0 z1 z2 z3 x1 x2; have HG3 := Lib.hid ((HG2.out.below hb).below (below_box w3 (.cells #[.int .i64 r1, .string s1, .int .i64 5, .string s2, .string s3, .bool fb] 107))); have c0 := HG3.out.box.cell 0; have c1 := HG3.out.box.cell 1; have c2 := HG3.out.box.cell 2; have c3 := HG3.out.box.cell 3; have f1 := HG3.out.box.frozen 1; have f2 := HG3.out.box.frozen 2; have f3 := HG3.out.box.frozen 3; have r0 := HG3.out.res.cell 0; have r1 := HG3.out.res.cell 1; have r2 := HG3.out.res.cell 2; have r3 := HG3.out.res.cell 3; have z0 := HG3.out.res.frozen 0; have z1 := HG3.out.res.frozen 1; have z2 := HG3.out.res.frozen 2; have z3 := HG3.out.res.frozen 3; simp only [List.getElem?_toArray, List.getElem?_cons_zero, List.getElem?_cons_succ] at c0 c1 c2 c3 r0 r1 r2 r3; have x1 := at_at HG3.out.rs; have x2 := why_at HG3.out.rs; clear hb)))
          obtain ⟨q4, hf⟩ := RGt.fin (HG5.out) (.int .u8 0) (.int .u64 0) (.int .u64 0) (.slice none 0 0) _ rfl
          have q0 := q4.cell 0
          have q1 := q4.cell 1
          have q2 := q4.cell 2
          have q3 := q4.cell 3
          simp only [List.getElem?_toArray, List.getElem?_cons_zero, List.getElem?_cons_succ] at q0 q1 q2 q3
          exact bodyPost_ret (v := .agg #[.int .u8 0, .int .u64 0, .int .u64 0, .slice none 0 0]) (by simp [results, Tryd.results82, go_sem, q0, q1, q2, q3]) rfl (rgets_no hf)
        | ok v0 k2 =>
          rw [Res.bind_ok]
          have HX0 := Lib.hid (fun W (h : Rs W q l (.at k1)) => show Calls Tryd.prog 130 #[.pointer (some ⟨q, 0, none⟩)] W fun e w' => e = .returned (.int .u32 v0) ∧ Rs w' q l (.at k2) ∧ W.grownBy w' (some q) from by have := index_ref h; rw [show (RSt.at k1).bind (indexR l) = indexR l k1 from rfl, hr0] at this; exact this)
          have hw0 : IntKind.u64.wrap v0 = v0 := wrap64u (indexR_ok hr0).2.1 (indexR_ok hr0).2.2
          clear hr0
          cases hr1 : noughtR l k2 with
          | err ec ea =>
            rw [Res.bind_err]
            have HX1 := Lib.hid (fun W (h : Rs W q l (.at k2)) => show Calls Tryd.prog 131 #[.pointer (some ⟨q, 0, none⟩)] W fun e w' => e = .returned (.tuple #[]) ∧ Rs w' q l (.bad ec ea) ∧ W.grownBy w' (some q) from by have := nought_ref h; rw [show (RSt.at k2).bind (noughtR l) = noughtR l k2 from rfl, hr1] at this; exact this)
            have dw : (ec != 0) = true := by have := (noughtR_nz hr1); simpa using this
            have dw2 : (ec == 0) = false := by have := (noughtR_nz hr1); simpa using this
            clear hr1
            go_enter Tryd.func82, Tryd.ntmps82
            go_wp2_with (first
              | (have tok := HG4; go_at_call 131; go_must ((with_reducible refine (HX1.out _ ((HG4.out.put 1 (.int .u64 v0) rfl)).rs).mono ?_); rintro e w5 ⟨rfl, hs, hg⟩; clear c0 c1 c2 c3 f1 f2 f3 r0 r1 r2 r3 z0 z1 z2 z3 x1 x2; have HG5 := Lib.hid (((HG4.out.put 1 (.int .u64 v0) rfl)).call hs hg); have c0 := HG5.out.box.cell 0; have c1 := HG5.out.box.cell 1; have c2 := HG5.out.box.cell 2; have c3 := HG5.out.box.cell 3; have f1 := HG5.out.box.frozen 1; have f2 := HG5.out.box.frozen 2; have f3 := HG5.out.box.frozen 3; have r0 := HG5.out.res.cell 0; have r1 := HG5.out.res.cell 1; have r2 := HG5.out.res.cell 2; have r3 := HG5.out.res.cell 3; have z0 := HG5.out.res.frozen 0; have z1 := HG5.out.res.frozen 1; have z2 := HG5.out.res.frozen 2; have z3 := HG5.out.res.frozen 3; simp only [List.getElem?_toArray, List.getElem?_cons_zero, List.getElem?_cons_succ] at c0 c1 c2 c3 r0 r1 r2 r3; obtain ⟨jat, x1⟩ := at_bad HG5.out.rs; have x2 := why_bad HG5.out.rs; clear hs hg))
              | (go_at_call 130; go_must ((with_reducible refine (HX0.out _ (HG3.out).rs).mono ?_); rintro e w4 ⟨rfl, hs, hg⟩; clear c0 c1 c2 c3 f1 f2 f3 r0 r1 r2 r3 z0 z1 z2 z3 x1 x2; have HG4 := Lib.hid ((HG3.out).call hs hg); have c0 := HG4.out.box.cell 0; have c1 := HG4.out.box.cell 1; have c2 := HG4.out.box.cell 2; have c3 := HG4.out.box.cell 3; have f1 := HG4.out.box.frozen 1; have f2 := HG4.out.box.frozen 2; have f3 := HG4.out.box.frozen 3; have r0 := HG4.out.res.cell 0; have r1 := HG4.out.res.cell 1; have r2 := HG4.out.res.cell 2; have r3 := HG4.out.res.cell 3; have z0 := HG4.out.res.frozen 0; have z1 := HG4.out.res.frozen 1; have z2 := HG4.out.res.frozen 2; have z3 := HG4.out.res.frozen 3; simp only [List.getElem?_toArray, List.getElem?_cons_zero, List.getElem?_cons_succ] at c0 c1 c2 c3 r0 r1 r2 r3; have x1 := at_at HG4.out.rs; have x2 := why_at HG4.out.rs; clear hs hg))
              | (go_at_call 84; go_must ((with_reducible refine HBY.out.mono ?_); rintro e w1 ⟨rfl, hs, hg⟩; have HG1 := Lib.hid (HST.out w1 hs hg); have hh := HG1.out.h2; have hqq := HG1.out.hq; have n1 : ¬ w1.heap.size = w.heap.size := (by omega); have n2 : ¬ w.heap.size = w1.heap.size := (by omega); have n3 : ¬ w1.heap.size = q := (by omega); have n4 : ¬ q = w1.heap.size := (by omega); have c0 := HG1.out.box.cell 0; have c1 := HG1.out.box.cell 1; have c2 := HG1.out.box.cell 2; have c3 := HG1.out.box.cell 3; have f1 := HG1.out.box.frozen 1; have f2 := HG1.out.box.frozen 2; have f3 := HG1.out.box.frozen 3; have r0 := HG1.out.res.cell 0; have r1 := HG1.out.res.cell 1; have r2 := HG1.out.res.cell 2; have r3 := HG1.out.res.cell 3; have z0 := HG1.out.res.frozen 0; have z1 := HG1.out.res.frozen 1; have z2 := HG1.out.res.frozen 2; have z3 := HG1.out.res.frozen 3; simp only [List.getElem?_toArray, List.getElem?_cons_zero, List.getElem?_cons_succ] at c0 c1 c2 c3 r0 r1 r2 r3; have x1 := at_at HG1.out.rs; have x2 := why_at HG1.out.rs; clear hs hg hh hqq y1))
              | (go_at_call 60; go_must ((with_reducible refine (HC.out _).mono ?_); rintro e w2 ⟨rfl, hb⟩; clear c0 c1 c2 c3 f1 f2 f3 r0 r1 r2 r3 z0 z1 z2 z3 x1 x2; have HG2 := Lib.hid (HG1.out.below hb); have c0 := HG2.out.box.cell 0; have c1 := HG2.out.box.cell 1; have c2 := HG2.out.box.cell 2; have c3 := HG2.out.box.cell 3; have f1 := HG2.out.box.frozen 1; have f2 := HG2.out.box.frozen 2; have f3 := HG2.out.box.frozen 3; have r0 := HG2.out.res.cell 0; have r1 := HG2.out.res.cell 1; have r2 := HG2.out.res.cell 2; have r3 := HG2.out.res.cell 3; have z0 := HG2.out.res.frozen 0; have z1 := HG2.out.res.frozen 1; have z2 := HG2.out.res.frozen 2; have z3 := HG2.out.res.frozen 3; simp only [List.getElem?_toArray, List.getElem?_cons_zero, List.getElem?_cons_succ] at c0 c1 c2 c3 r0 r1 r2 r3; have x1 := at_at HG2.out.rs; have x2 := why_at HG2.out.rs; clear hb))
              | (go_at_call 61; go_must ((with_reducible refine (HI.out _).mono ?_); rintro e w3 ⟨rfl, hb⟩; clear c0 c1 c2 c3 f1 f2 f3 r0 r1 r2 r3 z0 z1 z2 z3 x1 x2; have HG3 := Lib.hid ((HG2.out.below hb).below (below_box w3 (.cells #[.int .i64 r1, .string s1, .int .i64 5, .string s2, .string s3, .bool fb] 107))); have c0 := HG3.out.box.cell 0; have c1 := HG3.out.box.cell 1; have c2 := HG3.out.box.cell 2; have c3 := HG3.out.box.cell 3; have f1 := HG3.out.box.frozen 1; have f2 := HG3.out.box.frozen 2; have f3 := HG3.out.box.frozen 3; have r0 := HG3.out.res.cell 0; have r1 := HG3.out.res.cell 1; have r2 := HG3.out.res.cell 2; have r3 := HG3.out.res.cell 3; have z0 := HG3.out.res.frozen 0; have z1 := HG3.out.res.frozen 1; have z2 := HG3.out.res.frozen 2; have z3 := HG3.out.res.frozen 3; simp only [List.getElem?_toArray, List.getElem?_cons_zero, List.getElem?_cons_succ] at c0 c1 c2 c3 r0 r1 r2 r3; have x1 := at_at HG3.out.rs; have x2 := why_at HG3.out.rs; clear hb)))
            obtain ⟨q4, hf⟩ := RGt.fin (HG5.out) (.int .u8 0) (.int .u64 0) (.int .u64 0) (.slice none 0 0) _ rfl
            have q0 := q4.cell 0
            have q1 := q4.cell 1
            have q2 := q4.cell 2
            have q3 := q4.cell 3
            simp only [List.getElem?_toArray, List.getElem?_cons_zero, List.getElem?_cons_succ] at q0 q1 q2 q3
            exact bodyPost_ret (v := .agg #[.int .u8 0, .int .u64 0, .int .u64 0, .slice none 0 0]) (by simp [results, Tryd.results82, go_sem, q0, q1, q2, q3]) rfl (rgets_no hf)
          | ok v1 k3 =>
            rw [Res.bind_ok]
            have HX1 := Lib.hid (fun W (h : Rs W q l (.at k2)) => show Calls Tryd.prog 131 #[.pointer (some ⟨q, 0, none⟩)] W fun e w' => e = .returned (.tuple #[]) ∧ Rs w' q l (.at k3) ∧ W.grownBy w' (some q) from by have := nought_ref h; rw [show (RSt.at k2).bind (noughtR l) = noughtR l k2 from rfl, hr1] at this; exact this)
            clear hr1
            go_enter Tryd.func82, Tryd.ntmps82
            go_wp2_with (first
              | (have tok := HG4; go_at_call 131; go_must ((with_reducible refine (HX1.out _ ((HG4.out.put 1 (.int .u64 v0) rfl)).rs).mono ?_); rintro e w5 ⟨rfl, hs, hg⟩; clear c0 c1 c2 c3 f1 f2 f3 r0 r1 r2 r3 z0 z1 z2 z3 x1 x2; have HG5 := Lib.hid (((HG4.out.put 1 (.int .u64 v0) rfl)).call hs hg); have c0 := HG5.out.box.cell 0; have c1 := HG5.out.box.cell 1; have c2 := HG5.out.box.cell 2; have c3 := HG5.out.box.cell 3; have f1 := HG5.out.box.frozen 1; have f2 := HG5.out.box.frozen 2; have f3 := HG5.out.box.frozen 3; have r0 := HG5.out.res.cell 0; have r1 := HG5.out.res.cell 1; have r2 := HG5.out.res.cell 2; have r3 := HG5.out.res.cell 3; have z0 := HG5.out.res.frozen 0; have z1 := HG5.out.res.frozen 1; have z2 := HG5.out.res.frozen 2; have z3 := HG5.out.res.frozen 3; simp only [List.getElem?_toArray, List.getElem?_cons_zero, List.getElem?_cons_succ] at c0 c1 c2 c3 r0 r1 r2 r3; have x1 := at_at HG5.out.rs; have x2 := why_at HG5.out.rs; clear hs hg))
              | (go_at_call 130; go_must ((with_reducible refine (HX0.out _ (HG3.out).rs).mono ?_); rintro e w4 ⟨rfl, hs, hg⟩; clear c0 c1 c2 c3 f1 f2 f3 r0 r1 r2 r3 z0 z1 z2 z3 x1 x2; have HG4 := Lib.hid ((HG3.out).call hs hg); have c0 := HG4.out.box.cell 0; have c1 := HG4.out.box.cell 1; have c2 := HG4.out.box.cell 2; have c3 := HG4.out.box.cell 3; have f1 := HG4.out.box.frozen 1; have f2 := HG4.out.box.frozen 2; have f3 := HG4.out.box.frozen 3; have r0 := HG4.out.res.cell 0; have r1 := HG4.out.res.cell 1; have r2 := HG4.out.res.cell 2; have r3 := HG4.out.res.cell 3; have z0 := HG4.out.res.frozen 0; have z1 := HG4.out.res.frozen 1; have z2 := HG4.out.res.frozen 2; have z3 := HG4.out.res.frozen 3; simp only [List.getElem?_toArray, List.getElem?_cons_zero, List.getElem?_cons_succ] at c0 c1 c2 c3 r0 r1 r2 r3; have x1 := at_at HG4.out.rs; have x2 := why_at HG4.out.rs; clear hs hg))
              | (go_at_call 84; go_must ((with_reducible refine HBY.out.mono ?_); rintro e w1 ⟨rfl, hs, hg⟩; have HG1 := Lib.hid (HST.out w1 hs hg); have hh := HG1.out.h2; have hqq := HG1.out.hq; have n1 : ¬ w1.heap.size = w.heap.size := (by omega); have n2 : ¬ w.heap.size = w1.heap.size := (by omega); have n3 : ¬ w1.heap.size = q := (by omega); have n4 : ¬ q = w1.heap.size := (by omega); have c0 := HG1.out.box.cell 0; have c1 := HG1.out.box.cell 1; have c2 := HG1.out.box.cell 2; have c3 := HG1.out.box.cell 3; have f1 := HG1.out.box.frozen 1; have f2 := HG1.out.box.frozen 2; have f3 := HG1.out.box.frozen 3; have r0 := HG1.out.res.cell 0; have r1 := HG1.out.res.cell 1; have r2 := HG1.out.res.cell 2; have r3 := HG1.out.res.cell 3; have z0 := HG1.out.res.frozen 0; have z1 := HG1.out.res.frozen 1; have z2 := HG1.out.res.frozen 2; have z3 := HG1.out.res.frozen 3; simp only [List.getElem?_toArray, List.getElem?_cons_zero, List.getElem?_cons_succ] at c0 c1 c2 c3 r0 r1 r2 r3; have x1 := at_at HG1.out.rs; have x2 := why_at HG1.out.rs; clear hs hg hh hqq y1))
              | (go_at_call 60; go_must ((with_reducible refine (HC.out _).mono ?_); rintro e w2 ⟨rfl, hb⟩; clear c0 c1 c2 c3 f1 f2 f3 r0 r1 r2 r3 z0 z1 z2 z3 x1 x2; have HG2 := Lib.hid (HG1.out.below hb); have c0 := HG2.out.box.cell 0; have c1 := HG2.out.box.cell 1; have c2 := HG2.out.box.cell 2; have c3 := HG2.out.box.cell 3; have f1 := HG2.out.box.frozen 1; have f2 := HG2.out.box.frozen 2; have f3 := HG2.out.box.frozen 3; have r0 := HG2.out.res.cell 0; have r1 := HG2.out.res.cell 1; have r2 := HG2.out.res.cell 2; have r3 := HG2.out.res.cell 3; have z0 := HG2.out.res.frozen 0; have z1 := HG2.out.res.frozen 1; have z2 := HG2.out.res.frozen 2; have z3 := HG2.out.res.frozen 3; simp only [List.getElem?_toArray, List.getElem?_cons_zero, List.getElem?_cons_succ] at c0 c1 c2 c3 r0 r1 r2 r3; have x1 := at_at HG2.out.rs; have x2 := why_at HG2.out.rs; clear hb))
              | (go_at_call 61; go_must ((with_reducible refine (HI.out _).mono ?_); rintro e w3 ⟨rfl, hb⟩; clear c0 c1 c2 c3 f1 f2 f3 r0 r1 r2 r3 z0 z1 z2 z3 x1 x2; have HG3 := Lib.hid ((HG2.out.below hb).below (below_box w3 (.cells #[.int .i64 r1, .string s1, .int .i64 5, .string s2, .string s3, .bool fb] 107))); have c0 := HG3.out.box.cell 0; have c1 := HG3.out.box.cell 1; have c2 := HG3.out.box.cell 2; have c3 := HG3.out.box.cell 3; have f1 := HG3.out.box.frozen 1; have f2 := HG3.out.box.frozen 2; have f3 := HG3.out.box.frozen 3; have r0 := HG3.out.res.cell 0; have r1 := HG3.out.res.cell 1; have r2 := HG3.out.res.cell 2; have r3 := HG3.out.res.cell 3; have z0 := HG3.out.res.frozen 0; have z1 := HG3.out.res.frozen 1; have z2 := HG3.out.res.frozen 2; have z3 := HG3.out.res.frozen 3; simp only [List.getElem?_toArray, List.getElem?_cons_zero, List.getElem?_cons_succ] at c0 c1 c2 c3 r0 r1 r2 r3; have x1 := at_at HG3.out.rs; have x2 := why_at HG3.out.rs; clear hb)))
            obtain ⟨q4, hf⟩ := RGt.fin (HG5.out) (.int .u8 c.toNat) (.int .u64 v0) (.int .u64 0) (.slice none 0 0) _ rfl
            have q0 := q4.cell 0
            have q1 := q4.cell 1
            have q2 := q4.cell 2
            have q3 := q4.cell 3
            simp only [List.getElem?_toArray, List.getElem?_cons_zero, List.getElem?_cons_succ] at q0 q1 q2 q3
            exact bodyPost_ret (v := insV (⟨c, v0, 0, []⟩ : I) none 0) (by simp [results, Tryd.results82, go_sem, q0, q1, q2, q3]) rfl (rgets_ok (i := (⟨c, v0, 0, []⟩ : I)) (HG5.out) hf)
      have d5 : ((m : Int) == 5) = false := by simp; omega
      by_cases m8 : m = 8
      · subst m8
        rw [show bodyR 8 c l k1 = (indexR l k1).bind fun a k1 => (indexR l k1).bind fun b k2 => .ok ⟨c, a, b, []⟩ k2 from by unfold bodyR; rw [if_neg (by omega), if_neg (by omega), if_neg (by omega), if_neg (by omega), if_pos rfl]]
        have HI := Lib.hid (show ∀ W, Calls Tryd.prog 61 #[.int .i64 c.toNat] W fun e w' => e = .returned (.tuple #[.agg #[.int .i64 r1, .string s1, .int .i64 8, .string s2, .string s3, .bool fb], .bool b]) ∧ Below W.heap.size W w' from HI.out)
        cases hr0 : indexR l k1 with
        | err ec ea =>
          rw [Res.bind_err]
          have HX0 := Lib.hid (fun W (h : Rs W q l (.at k1)) => show Calls Tryd.prog 130 #[.pointer (some ⟨q, 0, none⟩)] W fun e w' => e = .returned (.int .u32 0) ∧ Rs w' q l (.bad ec ea) ∧ W.grownBy w' (some q) from by have := index_ref h; rw [show (RSt.at k1).bind (indexR l) = indexR l k1 from rfl, hr0] at this; exact this)
          have dw : (ec != 0) = true := by have := (indexR_nz hr0); simpa using this
          have dw2 : (ec == 0) = false := by have := (indexR_nz hr0); simpa using this
          clear hr0
          have HX1 := Lib.hid (fun W (h : Rs W q l (.bad ec ea)) => show Calls Tryd.prog 130 #[.pointer (some ⟨q, 0, none⟩)] W fun e w' => e = .returned (.int .u32 0) ∧ Rs w' q l (.bad ec ea) ∧ W.grownBy w' (some q) from by have := index_ref h; exact this)
          go_enter Tryd.func82, Tryd.ntmps82
          go_wp2_with (first
            | (have tok := HG4; go_at_call 130; go_must ((with_reducible refine (HX1.out _ ((HG4.out.put 1 (.int .u64 0) rfl)).rs).mono ?_); rintro e w5 ⟨rfl, hs, hg⟩; clear c0 c1 c2 c3 f1 f2 f3 r0 r1 r2 r3 z0 z1 z2 z3 x1 x2; have HG5 := Lib.hid (((HG4.out.put 1 (.int .u64 0) rfl)).call hs hg); have c0 := HG5.out.box.cell 0; have c1 := HG5.out.box.cell 1; have c2 := HG5.out.box.cell 2; have c3 := HG5.out.box.cell 3; have f1 := HG5.out.box.frozen 1; have f2 := HG5.out.box.frozen 2; have f3 := HG5.out.box.frozen 3; have r0 := HG5.out.res.cell 0; have r1 := HG5.out.res.cell 1; have r2 := HG5.out.res.cell 2; have r3 := HG5.out.res.cell 3; have z0 := HG5.out.res.frozen 0; have z1 := HG5.out.res.frozen 1; have z2 := HG5.out.res.frozen 2; have z3 := HG5.out.res.frozen 3; simp only [List.getElem?_toArray, List.getElem?_cons_zero, List.getElem?_cons_succ] at c0 c1 c2 c3 r0 r1 r2 r3; obtain ⟨jat, x1⟩ := at_bad HG5.out.rs; have x2 := why_bad HG5.out.rs; clear hs hg))
            | (go_at_call 130; go_must ((with_reducible refine (HX0.out _ (HG3.out).rs).mono ?_); rintro e w4 ⟨rfl, hs, hg⟩; clear c0 c1 c2 c3 f1 f2 f3 r0 r1 r2 r3 z0 z1 z2 z3 x1 x2; have HG4 := Lib.hid ((HG3.out).call hs hg); have c0 := HG4.out.box.cell 0; have c1 := HG4.out.box.cell 1; have c2 := HG4.out.box.cell 2; have c3 := HG4.out.box.cell 3; have f1 := HG4.out.box.frozen 1; have f2 := HG4.out.box.frozen 2; have f3 := HG4.out.box.frozen 3; have r0 := HG4.out.res.cell 0; have r1 := HG4.out.res.cell 1; have r2 := HG4.out.res.cell 2; have r3 := HG4.out.res.cell 3; have z0 := HG4.out.res.frozen 0; have z1 := HG4.out.res.frozen 1; have z2 := HG4.out.res.frozen 2; have z3 := HG4.out.res.frozen 3; simp only [List.getElem?_toArray, List.getElem?_cons_zero, List.getElem?_cons_succ] at c0 c1 c2 c3 r0 r1 r2 r3; obtain ⟨jat, x1⟩ := at_bad HG4.out.rs; have x2 := why_bad HG4.out.rs; clear hs hg))
            | (go_at_call 84; go_must ((with_reducible refine HBY.out.mono ?_); rintro e w1 ⟨rfl, hs, hg⟩; have HG1 := Lib.hid (HST.out w1 hs hg); have hh := HG1.out.h2; have hqq := HG1.out.hq; have n1 : ¬ w1.heap.size = w.heap.size := (by omega); have n2 : ¬ w.heap.size = w1.heap.size := (by omega); have n3 : ¬ w1.heap.size = q := (by omega); have n4 : ¬ q = w1.heap.size := (by omega); have c0 := HG1.out.box.cell 0; have c1 := HG1.out.box.cell 1; have c2 := HG1.out.box.cell 2; have c3 := HG1.out.box.cell 3; have f1 := HG1.out.box.frozen 1; have f2 := HG1.out.box.frozen 2; have f3 := HG1.out.box.frozen 3; have r0 := HG1.out.res.cell 0; have r1 := HG1.out.res.cell 1; have r2 := HG1.out.res.cell 2; have r3 := HG1.out.res.cell 3; have z0 := HG1.out.res.frozen 0; have z1 := HG1.out.res.frozen 1; have z2 := HG1.out.res.frozen 2; have z3 := HG1.out.res.frozen 3; simp only [List.getElem?_toArray, List.getElem?_cons_zero, List.getElem?_cons_succ] at c0 c1 c2 c3 r0 r1 r2 r3; have x1 := at_at HG1.out.rs; have x2 := why_at HG1.out.rs; clear hs hg hh hqq y1))
            | (go_at_call 60; go_must ((with_reducible refine (HC.out _).mono ?_); rintro e w2 ⟨rfl, hb⟩; clear c0 c1 c2 c3 f1 f2 f3 r0 r1 r2 r3 z0 z1 z2 z3 x1 x2; have HG2 := Lib.hid (HG1.out.below hb); have c0 := HG2.out.box.cell 0; have c1 := HG2.out.box.cell 1; have c2 := HG2.out.box.cell 2; have c3 := HG2.out.box.cell 3; have f1 := HG2.out.box.frozen 1; have f2 := HG2.out.box.frozen 2; have f3 := HG2.out.box.frozen 3; have r0 := HG2.out.res.cell 0; have r1 := HG2.out.res.cell 1; have r2 := HG2.out.res.cell 2; have r3 := HG2.out.res.cell 3; have z0 := HG2.out.res.frozen 0; have z1 := HG2.out.res.frozen 1; have z2 := HG2.out.res.frozen 2; have z3 := HG2.out.res.frozen 3; simp only [List.getElem?_toArray, List.getElem?_cons_zero, List.getElem?_cons_succ] at c0 c1 c2 c3 r0 r1 r2 r3; have x1 := at_at HG2.out.rs; have x2 := why_at HG2.out.rs; clear hb))
            | (go_at_call 61; go_must ((with_reducible refine (HI.out _).mono ?_); rintro e w3 ⟨rfl, hb⟩; clear c0 c1 c2 c3 f1 f2 f3 r0 r1 r2 r3 z0 z1 z2 z3 x1 x2; have HG3 := Lib.hid ((HG2.out.below hb).below (below_box w3 (.cells #[.int .i64 r1, .string s1, .int .i64 8, .string s2, .string s3, .bool fb] 107))); have c0 := HG3.out.box.cell 0; have c1 := HG3.out.box.cell 1; have c2 := HG3.out.box.cell 2; have c3 := HG3.out.box.cell 3; have f1 := HG3.out.box.frozen 1; have f2 := HG3.out.box.frozen 2; have f3 := HG3.out.box.frozen 3; have r0 := HG3.out.res.cell 0; have r1 := HG3.out.res.cell 1; have r2 := HG3.out.res.cell 2; have r3 := HG3.out.res.cell 3; have z0 := HG3.out.res.frozen 0; have z1 := HG3.out.res.frozen 1; have z2 := HG3.out.res.frozen 2; have z3 := HG3.out.res.frozen 3; simp only [List.getElem?_toArray, List.getElem?_cons_zero, List.getElem?_cons_succ] at c0 c1 c2 c3 r0 r1 r2 r3; have x1 := at_at HG3.out.rs; have x2 := why_at HG3.out.rs; clear hb)))
          obtain ⟨q4, hf⟩ := RGt.fin ((HG5.out.put 2 (.int .u64 0) rfl)) (.int .u8 0) (.int .u64 0) (.int .u64 0) (.slice none 0 0) _ rfl
          have q0 := q4.cell 0
          have q1 := q4.cell 1
          have q2 := q4.cell 2
          have q3 := q4.cell 3
          simp only [List.getElem?_toArray, List.getElem?_cons_zero, List.getElem?_cons_succ] at q0 q1 q2 q3
          exact bodyPost_ret (v := .agg #[.int .u8 0, .int .u64 0, .int .u64 0, .slice none 0 0]) (by simp [results, Tryd.results82, go_sem, q0, q1, q2, q3]) rfl (rgets_no hf)
        | ok v0 k2 =>
          rw [Res.bind_ok]
          have HX0 := Lib.hid (fun W (h : Rs W q l (.at k1)) => show Calls Tryd.prog 130 #[.pointer (some ⟨q, 0, none⟩)] W fun e w' => e = .returned (.int .u32 v0) ∧ Rs w' q l (.at k2) ∧ W.grownBy w' (some q) from by have := index_ref h; rw [show (RSt.at k1).bind (indexR l) = indexR l k1 from rfl, hr0] at this; exact this)
          have hw0 : IntKind.u64.wrap v0 = v0 := wrap64u (indexR_ok hr0).2.1 (indexR_ok hr0).2.2
          clear hr0
          cases hr1 : indexR l k2 with
          | err ec ea =>
            rw [Res.bind_err]
            have HX1 := Lib.hid (fun W (h : Rs W q l (.at k2)) => show Calls Tryd.prog 130 #[.pointer (some ⟨q, 0, none⟩)] W fun e w' => e = .returned (.int .u32 0) ∧ Rs w' q l (.bad ec ea) ∧ W.grownBy w' (some q) from by have := index_ref h; rw [show (RSt.at k2).bind (indexR l) = indexR l k2 from rfl, hr1] at this; exact this)
            have dw : (ec != 0) = true := by have := (indexR_nz hr1); simpa using this
            have dw2 : (ec == 0) = false := by have := (indexR_nz hr1); simpa using this
            clear hr1
            go_enter Tryd.func82, Tryd.ntmps82
            go_wp2_with (first
              | (have tok := HG4; go_at_call 130; go_must ((with_reducible refine (HX1.out _ ((HG4.out.put 1 (.int .u64 v0) rfl)).rs).mono ?_); rintro e w5 ⟨rfl, hs, hg⟩; clear c0 c1 c2 c3 f1 f2 f3 r0 r1 r2 r3 z0 z1 z2 z3 x1 x2; have HG5 := Lib.hid (((HG4.out.put 1 (.int .u64 v0) rfl)).call hs hg); have c0 := HG5.out.box.cell 0; have c1 := HG5.out.box.cell 1; have c2 := HG5.out.box.cell 2; have c3 := HG5.out.box.cell 3; have f1 := HG5.out.box.frozen 1; have f2 := HG5.out.box.frozen 2; have f3 := HG5.out.box.frozen 3; have r0 := HG5.out.res.cell 0; have r1 := HG5.out.res.cell 1; have r2 := HG5.out.res.cell 2; have r3 := HG5.out.res.cell 3; have z0 := HG5.out.res.frozen 0; have z1 := HG5.out.res.frozen 1; have z2 := HG5.out.res.frozen 2; have z3 := HG5.out.res.frozen 3; simp only [List.getElem?_toArray, List.getElem?_cons_zero, List.getElem?_cons_succ] at c0 c1 c2 c3 r0 r1 r2 r3; obtain ⟨jat, x1⟩ := at_bad HG5.out.rs; have x2 := why_bad HG5.out.rs; clear hs hg))
              | (go_at_call 130; go_must ((with_reducible refine (HX0.out _ (HG3.out).rs).mono ?_); rintro e w4 ⟨rfl, hs, hg⟩; clear c0 c1 c2 c3 f1 f2 f3 r0 r1 r2 r3 z0 z1 z2 z3 x1 x2; have HG4 := Lib.hid ((HG3.out).call hs hg); have c0 := HG4.out.box.cell 0; have c1 := HG4.out.box.cell 1; have c2 := HG4.out.box.cell 2; have c3 := HG4.out.box.cell 3; have f1 := HG4.out.box.frozen 1; have f2 := HG4.out.box.frozen 2; have f3 := HG4.out.box.frozen 3; have r0 := HG4.out.res.cell 0; have r1 := HG4.out.res.cell 1; have r2 := HG4.out.res.cell 2; have r3 := HG4.out.res.cell 3; have z0 := HG4.out.res.frozen 0; have z1 := HG4.out.res.frozen 1; have z2 := HG4.out.res.frozen 2; have z3 := HG4.out.res.frozen 3; simp only [List.getElem?_toArray, List.getElem?_cons_zero, List.getElem?_cons_succ] at c0 c1 c2 c3 r0 r1 r2 r3; have x1 := at_at HG4.out.rs; have x2 := why_at HG4.out.rs; clear hs hg))
              | (go_at_call 84; go_must ((with_reducible refine HBY.out.mono ?_); rintro e w1 ⟨rfl, hs, hg⟩; have HG1 := Lib.hid (HST.out w1 hs hg); have hh := HG1.out.h2; have hqq := HG1.out.hq; have n1 : ¬ w1.heap.size = w.heap.size := (by omega); have n2 : ¬ w.heap.size = w1.heap.size := (by omega); have n3 : ¬ w1.heap.size = q := (by omega); have n4 : ¬ q = w1.heap.size := (by omega); have c0 := HG1.out.box.cell 0; have c1 := HG1.out.box.cell 1; have c2 := HG1.out.box.cell 2; have c3 := HG1.out.box.cell 3; have f1 := HG1.out.box.frozen 1; have f2 := HG1.out.box.frozen 2; have f3 := HG1.out.box.frozen 3; have r0 := HG1.out.res.cell 0; have r1 := HG1.out.res.cell 1; have r2 := HG1.out.res.cell 2; have r3 := HG1.out.res.cell 3; have z0 := HG1.out.res.frozen 0; have z1 := HG1.out.res.frozen 1; have z2 := HG1.out.res.frozen 2; have z3 := HG1.out.res.frozen 3; simp only [List.getElem?_toArray, List.getElem?_cons_zero, List.getElem?_cons_succ] at c0 c1 c2 c3 r0 r1 r2 r3; have x1 := at_at HG1.out.rs; have x2 := why_at HG1.out.rs; clear hs hg hh hqq y1))
              | (go_at_call 60; go_must ((with_reducible refine (HC.out _).mono ?_); rintro e w2 ⟨rfl, hb⟩; clear c0 c1 c2 c3 f1 f2 f3 r0 r1 r2 r3 z0 z1 z2 z3 x1 x2; have HG2 := Lib.hid (HG1.out.below hb); have c0 := HG2.out.box.cell 0; have c1 := HG2.out.box.cell 1; have c2 := HG2.out.box.cell 2; have c3 := HG2.out.box.cell 3; have f1 := HG2.out.box.frozen 1; have f2 := HG2.out.box.frozen 2; have f3 := HG2.out.box.frozen 3; have r0 := HG2.out.res.cell 0; have r1 := HG2.out.res.cell 1; have r2 := HG2.out.res.cell 2; have r3 := HG2.out.res.cell 3; have z0 := HG2.out.res.frozen 0; have z1 := HG2.out.res.frozen 1; have z2 := HG2.out.res.frozen 2; have z3 := HG2.out.res.frozen 3; simp only [List.getElem?_toArray, List.getElem?_cons_zero, List.getElem?_cons_succ] at c0 c1 c2 c3 r0 r1 r2 r3; have x1 := at_at HG2.out.rs; have x2 := why_at HG2.out.rs; clear hb))
              | (go_at_call 61; go_must ((with_reducible refine (HI.out _).mono ?_); rintro e w3 ⟨rfl, hb⟩; clear c0 c1 c2 c3 f1 f2 f3 r0 r1 r2 r3 z0 z1 z2 z3 x1 x2; have HG3 := Lib.hid ((HG2.out.below hb).below (below_box w3 (.cells #[.int .i64 r1, .string s1, .int .i64 8, .string s2, .string s3, .bool fb] 107))); have c0 := HG3.out.box.cell 0; have c1 := HG3.out.box.cell 1; have c2 := HG3.out.box.cell 2; have c3 := HG3.out.box.cell 3; have f1 := HG3.out.box.frozen 1; have f2 := HG3.out.box.frozen 2; have f3 := HG3.out.box.frozen 3; have r0 := HG3.out.res.cell 0; have r1 := HG3.out.res.cell 1; have r2 := HG3.out.res.cell 2; have r3 := HG3.out.res.cell 3; have z0 := HG3.out.res.frozen 0; have z1 := HG3.out.res.frozen 1; have z2 := HG3.out.res.frozen 2; have z3 := HG3.out.res.frozen 3; simp only [List.getElem?_toArray, List.getElem?_cons_zero, List.getElem?_cons_succ] at c0 c1 c2 c3 r0 r1 r2 r3; have x1 := at_at HG3.out.rs; have x2 := why_at HG3.out.rs; clear hb)))
            obtain ⟨q4, hf⟩ := RGt.fin ((HG5.out.put 2 (.int .u64 0) rfl)) (.int .u8 0) (.int .u64 0) (.int .u64 0) (.slice none 0 0) _ rfl
            have q0 := q4.cell 0
            have q1 := q4.cell 1
            have q2 := q4.cell 2
            have q3 := q4.cell 3
            simp only [List.getElem?_toArray, List.getElem?_cons_zero, List.getElem?_cons_succ] at q0 q1 q2 q3
            exact bodyPost_ret (v := .agg #[.int .u8 0, .int .u64 0, .int .u64 0, .slice none 0 0]) (by simp [results, Tryd.results82, go_sem, q0, q1, q2, q3]) rfl (rgets_no hf)
          | ok v1 k3 =>
            rw [Res.bind_ok]
            have HX1 := Lib.hid (fun W (h : Rs W q l (.at k2)) => show Calls Tryd.prog 130 #[.pointer (some ⟨q, 0, none⟩)] W fun e w' => e = .returned (.int .u32 v1) ∧ Rs w' q l (.at k3) ∧ W.grownBy w' (some q) from by have := index_ref h; rw [show (RSt.at k2).bind (indexR l) = indexR l k2 from rfl, hr1] at this; exact this)
            have hw1 : IntKind.u64.wrap v1 = v1 := wrap64u (indexR_ok hr1).2.1 (indexR_ok hr1).2.2
            clear hr1
            go_enter Tryd.func82, Tryd.ntmps82
            go_wp2_with (first
              | (have tok := HG4; go_at_call 130; go_must ((with_reducible refine (HX1.out _ ((HG4.out.put 1 (.int .u64 v0) rfl)).rs).mono ?_); rintro e w5 ⟨rfl, hs, hg⟩; clear c0 c1 c2 c3 f1 f2 f3 r0 r1 r2 r3 z0 z1 z2 z3 x1 x2; have HG5 := Lib.hid (((HG4.out.put 1 (.int .u64 v0) rfl)).call hs hg); have c0 := HG5.out.box.cell 0; have c1 := HG5.out.box.cell 1; have c2 := HG5.out.box.cell 2; have c3 := HG5.out.box.cell 3; have f1 := HG5.out.box.frozen 1; have f2 := HG5.out.box.frozen 2; have f3 := HG5.out.box.frozen 3; have r0 := HG5.out.res.cell 0; have r1 := HG5.out.res.cell 1; have r2 := HG5.out.res.cell 2; have r3 := HG5.out.res.cell 3; have z0 := HG5.out.res.frozen 0; have z1 := HG5.out.res.frozen 1; have z2 := HG5.out.res.frozen 2; have z3 := HG5.out.res.frozen 3; simp only [List.getElem?_toArray, List.getElem?_cons_zero, List.getElem?_cons_succ] at c0 c1 c2 c3 r0 r1 r2 r3; have x1 := at_at HG5.out.rs; have x2 := why_at HG5.out.rs; clear hs hg))
              | (go_at_call 130; go_must ((with_reducible refine (HX0.out _ (HG3.out).rs).mono ?_); rintro e w4 ⟨rfl, hs, hg⟩; clear c0 c1 c2 c3 f1 f2 f3 r0 r1 r2 r3 z0 z1 z2 z3 x1 x2; have HG4 := Lib.hid ((HG3.out).call hs hg); have c0 := HG4.out.box.cell 0; have c1 := HG4.out.box.cell 1; have c2 := HG4.out.box.cell 2; have c3 := HG4.out.box.cell 3; have f1 := HG4.out.box.frozen 1; have f2 := HG4.out.box.frozen 2; have f3 := HG4.out.box.frozen 3; have r0 := HG4.out.res.cell 0; have r1 := HG4.out.res.cell 1; have r2 := HG4.out.res.cell 2; have r3 := HG4.out.res.cell 3; have z0 := HG4.out.res.frozen 0; have z1 := HG4.out.res.frozen 1; have z2 := HG4.out.res.frozen 2; have z3 := HG4.out.res.frozen 3; simp only [List.getElem?_toArray, List.getElem?_cons_zero, List.getElem?_cons_succ] at c0 c1 c2 c3 r0 r1 r2 r3; have x1 := at_at HG4.out.rs; have x2 := why_at HG4.out.rs; clear hs hg))
              | (go_at_call 84; go_must ((with_reducible refine HBY.out.mono ?_); rintro e w1 ⟨rfl, hs, hg⟩; have HG1 := Lib.hid (HST.out w1 hs hg); have hh := HG1.out.h2; have hqq := HG1.out.hq; have n1 : ¬ w1.heap.size = w.heap.size := (by omega); have n2 : ¬ w.heap.size = w1.heap.size := (by omega); have n3 : ¬ w1.heap.size = q := (by omega); have n4 : ¬ q = w1.heap.size := (by omega); have c0 := HG1.out.box.cell 0; have c1 := HG1.out.box.cell 1; have c2 := HG1.out.box.cell 2; have c3 := HG1.out.box.cell 3; have f1 := HG1.out.box.frozen 1; have f2 := HG1.out.box.frozen 2; have f3 := HG1.out.box.frozen 3; have r0 := HG1.out.res.cell 0; have r1 := HG1.out.res.cell 1; have r2 := HG1.out.res.cell 2; have r3 := HG1.out.res.cell 3; have z0 := HG1.out.res.frozen 0; have z1 := HG1.out.res.frozen 1; have z2 := HG1.out.res.frozen 2; have z3 := HG1.out.res.frozen 3; simp only [List.getElem?_toArray, List.getElem?_cons_zero, List.getElem?_cons_succ] at c0 c1 c2 c3 r0 r1 r2 r3; have x1 := at_at HG1.out.rs; have x2 := why_at HG1.out.rs; clear hs hg hh hqq y1))
              | (go_at_call 60; go_must ((with_reducible refine (HC.out _).mono ?_); rintro e w2 ⟨rfl, hb⟩; clear c0 c1 c2 c3 f1 f2 f3 r0 r1 r2 r3 z0 z1 z2 z3 x1 x2; have HG2 := Lib.hid (HG1.out.below hb); have c0 := HG2.out.box.cell 0; have c1 := HG2.out.box.cell 1; have c2 := HG2.out.box.cell 2; have c3 := HG2.out.box.cell 3; have f1 := HG2.out.box.frozen 1; have f2 := HG2.out.box.frozen 2; have f3 := HG2.out.box.frozen 3; have r0 := HG2.out.res.cell 0; have r1 := HG2.out.res.cell 1; have r2 := HG2.out.res.cell 2; have r3 := HG2.out.res.cell 3; have z0 := HG2.out.res.frozen 0; have z1 := HG2.out.res.frozen 1; have z2 := HG2.out.res.frozen 2; have z3 := HG2.out.res.frozen 3; simp only [List.getElem?_toArray, List.getElem?_cons_zero, List.getElem?_cons_succ] at c0 c1 c2 c3 r0 r1 r2 r3; have x1 := at_at HG2.out.rs; have x2 := why_at HG2.out.rs; clear hb))
              | (go_at_call 61; go_must ((with_reducible refine (HI.out _).mono ?_); rintro e w3 ⟨rfl, hb⟩; clear c0 c1 c2 c3 f1 f2 f3 r0 r1 r2 r3 z0 z1 z2 z3 x1 x2; have HG3 := Lib.hid ((HG2.out.below hb).below (below_box w3 (.cells #[.int .i64 r1, .string s1, .int .i64 8, .string s2, .string s3, .bool fb] 107))); have c0 := HG3.out.box.cell 0; have c1 := HG3.out.box.cell 1; have c2 := HG3.out.box.cell 2; have c3 := HG3.out.box.cell 3; have f1 := HG3.out.box.frozen 1; have f2 := HG3.out.box.frozen 2; have f3 := HG3.out.box.frozen 3; have r0 := HG3.out.res.cell 0; have r1 := HG3.out.res.cell 1; have r2 := HG3.out.res.cell 2; have r3 := HG3.out.res.cell 3; have z0 := HG3.out.res.frozen 0; have z1 := HG3.out.res.frozen 1; have z2 := HG3.out.res.frozen 2; have z3 := HG3.out.res.frozen 3; simp only [List.getElem?_toArray, List.getElem?_cons_zero, List.getElem?_cons_succ] at c0 c1 c2 c3 r0 r1 r2 r3; have x1 := at_at HG3.out.rs; have x2 := why_at HG3.out.rs; clear hb)))
            obtain ⟨q4, hf⟩ := RGt.fin ((HG5.out.put 2 (.int .u64 v1) rfl)) (.int .u8 c.toNat) (.int .u64 v0) (.int .u64 v1) (.slice none 0 0) _ rfl
            have q0 := q4.cell 0
            have q1 := q4.cell 1
            have q2 := q4.cell 2
            have q3 := q4.cell 3
            simp only [List.getElem?_toArray, List.getElem?_cons_zero, List.getElem?_cons_succ] at q0 q1 q2 q3
            exact bodyPost_ret (v := insV (⟨c, v0, v1, []⟩ : I) none 0) (by simp [results, Tryd.results82, go_sem, q0, q1, q2, q3]) rfl (rgets_ok (i := (⟨c, v0, v1, []⟩ : I)) ((HG5.out.put 2 (.int .u64 v1) rfl)) hf)
      have d8 : ((m : Int) == 8) = false := by simp; omega
      by_cases m9 : m = 9
      · subst m9
        rw [show bodyR 9 c l k1 = (noughtR l k1).bind fun _ k1 => .ok ⟨c, 0, 0, []⟩ k1 from by unfold bodyR; rw [if_neg (by omega), if_neg (by omega), if_neg (by omega), if_neg (by omega), if_neg (by omega), if_pos rfl]]
        have HI := Lib.hid (show ∀ W, Calls Tryd.prog 61 #[.int .i64 c.toNat] W fun e w' => e = .returned (.tuple #[.agg #[.int .i64 r1, .string s1, .int .i64 9, .string s2, .string s3, .bool fb], .bool b]) ∧ Below W.heap.size W w' from HI.out)
        cases hr0 : noughtR l k1 with
        | err ec ea =>
          rw [Res.bind_err]
          have HX0 := Lib.hid (fun W (h : Rs W q l (.at k1)) => show Calls Tryd.prog 131 #[.pointer (some ⟨q, 0, none⟩)] W fun e w' => e = .returned (.tuple #[]) ∧ Rs w' q l (.bad ec ea) ∧ W.grownBy w' (some q) from by have := nought_ref h; rw [show (RSt.at k1).bind (noughtR l) = noughtR l k1 from rfl, hr0] at this; exact this)
          have dw : (ec != 0) = true := by have := (noughtR_nz hr0); simpa using this
          have dw2 : (ec == 0) = false := by have := (noughtR_nz hr0); simpa using this
          clear hr0
          go_enter Tryd.func82, Tryd.ntmps82
          go_wp2_with (first
            | (go_at_call 131; go_must ((with_reducible refine (HX0.out _ (HG3.out).rs).mono ?_); rintro e w4 ⟨rfl, hs, hg⟩; clear c0 c1 c2 c3 f1 f2 f3 r0 r1 r2 r3 z0 z1 z2 z3 x1 x2; have HG4 := Lib.hid ((HG3.out).call hs hg); have c0 := HG4.out.box.cell 0; have c1 := HG4.out.box.cell 1; have c2 := HG4.out.box.cell 2; have c3 := HG4.out.box.cell 3; have f1 := HG4.out.box.frozen 1; have f2 := HG4.out.box.frozen 2; have f3 := HG4.out.box.frozen 3; have r0 := HG4.out.res.cell 0; have r1 := HG4.out.res.cell 1; have r2 := HG4.out.res.cell 2; have r3 := HG4.out.res.cell 3; have z0 := HG4.out.res.frozen 0; have z1 := HG4.out.res.frozen 1; have z2 := HG4.out.res.frozen 2; have z3 := HG4.out.res.frozen 3; simp only [List.getElem?_toArray, List.getElem?_cons_zero, List.getElem?_cons_succ] at c0 c1 c2 c3 r0 r1 r2 r3; obtain ⟨jat, x1⟩ := at_bad HG4.out.rs; have x2 := why_bad HG4.out.rs; clear hs hg))
            | (go_at_call 84; go_must ((with_reducible refine HBY.out.mono ?_); rintro e w1 ⟨rfl, hs, hg⟩; have HG1 := Lib.hid (HST.out w1 hs hg); have hh := HG1.out.h2; have hqq := HG1.out.hq; have n1 : ¬ w1.heap.size = w.heap.size := (by omega); have n2 : ¬ w.heap.size = w1.heap.size := (by omega); have n3 : ¬ w1.heap.size = q := (by omega); have n4 : ¬ q = w1.heap.size := (by omega); have c0 := HG1.out.box.cell 0; have c1 := HG1.out.box.cell 1; have c2 := HG1.out.box.cell 2; have c3 := HG1.out.box.cell 3; have f1 := HG1.out.box.frozen 1; have f2 := HG1.out.box.frozen 2; have f3 := HG1.out.box.frozen 3; have r0 := HG1.out.res.cell 0; have r1 := HG1.out.res.cell 1; have r2 := HG1.out.res.cell 2; have r3 := HG1.out.res.cell 3; have z0 := HG1.out.res.frozen 0; have z1 := HG1.out.res.frozen 1; have z2 := HG1.out.res.frozen 2; have z3 := HG1.out.res.frozen 3; simp only [List.getElem?_toArray, List.getElem?_cons_zero, List.getElem?_cons_succ] at c0 c1 c2 c3 r0 r1 r2 r3; have x1 := at_at HG1.out.rs; have x2 := why_at HG1.out.rs; clear hs hg hh hqq y1))
            | (go_at_call 60; go_must ((with_reducible refine (HC.out _).mono ?_); rintro e w2 ⟨rfl, hb⟩; clear c0 c1 c2 c3 f1 f2 f3 r0 r1 r2 r3 z0 z1 z2 z3 x1 x2; have HG2 := Lib.hid (HG1.out.below hb); have c0 := HG2.out.box.cell 0; have c1 := HG2.out.box.cell 1; have c2 := HG2.out.box.cell 2; have c3 := HG2.out.box.cell 3; have f1 := HG2.out.box.frozen 1; have f2 := HG2.out.box.frozen 2; have f3 := HG2.out.box.frozen 3; have r0 := HG2.out.res.cell 0; have r1 := HG2.out.res.cell 1; have r2 := HG2.out.res.cell 2; have r3 := HG2.out.res.cell 3; have z0 := HG2.out.res.frozen 0; have z1 := HG2.out.res.frozen 1; have z2 := HG2.out.res.frozen 2; have z3 := HG2.out.res.frozen 3; simp only [List.getElem?_toArray, List.getElem?_cons_zero, List.getElem?_cons_succ] at c0 c1 c2 c3 r0 r1 r2 r3; have x1 := at_at HG2.out.rs; have x2 := why_at HG2.out.rs; clear hb))
            | (go_at_call 61; go_must ((with_reducible refine (HI.out _).mono ?_); rintro e w3 ⟨rfl, hb⟩; clear c0 c1 c2 c3 f1 f2 f3 r0 r1 r2 r3 z0 z1 z2 z3 x1 x2; have HG3 := Lib.hid ((HG2.out.below hb).below (below_box w3 (.cells #[.int .i64 r1, .string s1, .int .i64 9, .string s2, .string s3, .bool fb] 107))); have c0 := HG3.out.box.cell 0; have c1 := HG3.out.box.cell 1; have c2 := HG3.out.box.cell 2; have c3 := HG3.out.box.cell 3; have f1 := HG3.out.box.frozen 1; have f2 := HG3.out.box.frozen 2; have f3 := HG3.out.box.frozen 3; have r0 := HG3.out.res.cell 0; have r1 := HG3.out.res.cell 1; have r2 := HG3.out.res.cell 2; have r3 := HG3.out.res.cell 3; have z0 := HG3.out.res.frozen 0; have z1 := HG3.out.res.frozen 1; have z2 := HG3.out.res.frozen 2; have z3 := HG3.out.res.frozen 3; simp only [List.getElem?_toArray, List.getElem?_cons_zero, List.getElem?_cons_succ] at c0 c1 c2 c3 r0 r1 r2 r3; have x1 := at_at HG3.out.rs; have x2 := why_at HG3.out.rs; clear hb)))
          obtain ⟨q4, hf⟩ := RGt.fin (HG4.out) (.int .u8 0) (.int .u64 0) (.int .u64 0) (.slice none 0 0) _ rfl
          have q0 := q4.cell 0
          have q1 := q4.cell 1
          have q2 := q4.cell 2
          have q3 := q4.cell 3
          simp only [List.getElem?_toArray, List.getElem?_cons_zero, List.getElem?_cons_succ] at q0 q1 q2 q3
          exact bodyPost_ret (v := .agg #[.int .u8 0, .int .u64 0, .int .u64 0, .slice none 0 0]) (by simp [results, Tryd.results82, go_sem, q0, q1, q2, q3]) rfl (rgets_no hf)
        | ok v0 k2 =>
          rw [Res.bind_ok]
          have HX0 := Lib.hid (fun W (h : Rs W q l (.at k1)) => show Calls Tryd.prog 131 #[.pointer (some ⟨q, 0, none⟩)] W fun e w' => e = .returned (.tuple #[]) ∧ Rs w' q l (.at k2) ∧ W.grownBy w' (some q) from by have := nought_ref h; rw [show (RSt.at k1).bind (noughtR l) = noughtR l k1 from rfl, hr0] at this; exact this)
          clear hr0
          go_enter Tryd.func82, Tryd.ntmps82
          go_wp2_with (first
            | (go_at_call 131; go_must ((with_reducible refine (HX0.out _ (HG3.out).rs).mono ?_); rintro e w4 ⟨rfl, hs, hg⟩; clear c0 c1 c2 c3 f1 f2 f3 r0 r1 r2 r3 z0 z1 z2 z3 x1 x2; have HG4 := Lib.hid ((HG3.out).call hs hg); have c0 := HG4.out.box.cell 0; have c1 := HG4.out.box.cell 1; have c2 := HG4.out.box.cell 2; have c3 := HG4.out.box.cell 3; have f1 := HG4.out.box.frozen 1; have f2 := HG4.out.box.frozen 2; have f3 := HG4.out.box.frozen 3; have r0 := HG4.out.res.cell 0; have r1 := HG4.out.res.cell 1; have r2 := HG4.out.res.cell 2; have r3 := HG4.out.res.cell 3; have z0 := HG4.out.res.frozen 0; have z1 := HG4.out.res.frozen 1; have z2 := HG4.out.res.frozen 2; have z3 := HG4.out.res.frozen 3; simp only [List.getElem?_toArray, List.getElem?_cons_zero, List.getElem?_cons_succ] at c0 c1 c2 c3 r0 r1 r2 r3; have x1 := at_at HG4.out.rs; have x2 := why_at HG4.out.rs; clear hs hg))
            | (go_at_call 84; go_must ((with_reducible refine HBY.out.mono ?_); rintro e w1 ⟨rfl, hs, hg⟩; have HG1 := Lib.hid (HST.out w1 hs hg); have hh := HG1.out.h2; have hqq := HG1.out.hq; have n1 : ¬ w1.heap.size = w.heap.size := (by omega); have n2 : ¬ w.heap.size = w1.heap.size := (by omega); have n3 : ¬ w1.heap.size = q := (by omega); have n4 : ¬ q = w1.heap.size := (by omega); have c0 := HG1.out.box.cell 0; have c1 := HG1.out.box.cell 1; have c2 := HG1.out.box.cell 2; have c3 := HG1.out.box.cell 3; have f1 := HG1.out.box.frozen 1; have f2 := HG1.out.box.frozen 2; have f3 := HG1.out.box.frozen 3; have r0 := HG1.out.res.cell 0; have r1 := HG1.out.res.cell 1; have r2 := HG1.out.res.cell 2; have r3 := HG1.out.res.cell 3; have z0 := HG1.out.res.frozen 0; have z1 := HG1.out.res.frozen 1; have z2 := HG1.out.res.frozen 2; have z3 := HG1.out.res.frozen 3; simp only [List.getElem?_toArray, List.getElem?_cons_zero, List.getElem?_cons_succ] at c0 c1 c2 c3 r0 r1 r2 r3; have x1 := at_at HG1.out.rs; have x2 := why_at HG1.out.rs; clear hs hg hh hqq y1))
            | (go_at_call 60; go_must ((with_reducible refine (HC.out _).mono ?_); rintro e w2 ⟨rfl, hb⟩; clear c0 c1 c2 c3 f1 f2 f3 r0 r1 r2 r3 z0 z1 z2 z3 x1 x2; have HG2 := Lib.hid (HG1.out.below hb); have c0 := HG2.out.box.cell 0; have c1 := HG2.out.box.cell 1; have c2 := HG2.out.box.cell 2; have c3 := HG2.out.box.cell 3; have f1 := HG2.out.box.frozen 1; have f2 := HG2.out.box.frozen 2; have f3 := HG2.out.box.frozen 3; have r0 := HG2.out.res.cell 0; have r1 := HG2.out.res.cell 1; have r2 := HG2.out.res.cell 2; have r3 := HG2.out.res.cell 3; have z0 := HG2.out.res.frozen 0; have z1 := HG2.out.res.frozen 1; have z2 := HG2.out.res.frozen 2; have z3 := HG2.out.res.frozen 3; simp only [List.getElem?_toArray, List.getElem?_cons_zero, List.getElem?_cons_succ] at c0 c1 c2 c3 r0 r1 r2 r3; have x1 := at_at HG2.out.rs; have x2 := why_at HG2.out.rs; clear hb))
            | (go_at_call 61; go_must ((with_reducible refine (HI.out _).mono ?_); rintro e w3 ⟨rfl, hb⟩; clear c0 c1 c2 c3 f1 f2 f3 r0 r1 r2 r3 z0 z1 z2 z3 x1 x2; have HG3 := Lib.hid ((HG2.out.below hb).below (below_box w3 (.cells #[.int .i64 r1, .string s1, .int .i64 9, .string s2, .string s3, .bool fb] 107))); have c0 := HG3.out.box.cell 0; have c1 := HG3.out.box.cell 1; have c2 := HG3.out.box.cell 2; have c3 := HG3.out.box.cell 3; have f1 := HG3.out.box.frozen 1; have f2 := HG3.out.box.frozen 2; have f3 := HG3.out.box.frozen 3; have r0 := HG3.out.res.cell 0; have r1 := HG3.out.res.cell 1; have r2 := HG3.out.res.cell 2; have r3 := HG3.out.res.cell 3; have z0 := HG3.out.res.frozen 0; have z1 := HG3.out.res.frozen 1; have z2 := HG3.out.res.frozen 2; have z3 := HG3.out.res.frozen 3; simp only [List.getElem?_toArray, List.getElem?_cons_zero, List.getElem?_cons_succ] at c0 c1 c2 c3 r0 r1 r2 r3; have x1 := at_at HG3.out.rs; have x2 := why_at HG3.out.rs; clear hb)))
          obtain ⟨q4, hf⟩ := RGt.fin (HG4.out) (.int .u8 c.toNat) (.int .u64 0) (.int .u64 0) (.slice none 0 0) _ rfl
          have q0 := q4.cell 0
          have q1 := q4.cell 1
          have q2 := q4.cell 2
          have q3 := q4.cell 3
          simp only [List.getElem?_toArray, List.getElem?_cons_zero, List.getElem?_cons_succ] at q0 q1 q2 q3
          exact bodyPost_ret (v := insV (⟨c, 0, 0, []⟩ : I) none 0) (by simp [results, Tryd.results82, go_sem, q0, q1, q2, q3]) rfl (rgets_ok (i := (⟨c, 0, 0, []⟩ : I)) (HG4.out) hf)
      have d9 : ((m : Int) == 9) = false := by simp; omega
      by_cases m10 : m = 10
      · subst m10
        rw [show bodyR 10 c l k1 = (intR l k1 32).bind fun v k1 => .ok ⟨c, v % 4294967296, 0, []⟩ k1 from by unfold bodyR; rw [if_neg (by omega), if_neg (by omega), if_neg (by omega), if_neg (by omega), if_neg (by omega), if_neg (by omega), if_pos rfl]]
        have HI := Lib.hid (show ∀ W, Calls Tryd.prog 61 #[.int .i64 c.toNat] W fun e w' => e = .returned (.tuple #[.agg #[.int .i64 r1, .string s1, .int .i64 10, .string s2, .string s3, .bool fb], .bool b]) ∧ Below W.heap.size W w' from HI.out)
        cases hr0 : intR l k1 32 with
        | err ec ea =>
          rw [Res.bind_err]
          have HX0 := Lib.hid (fun W (h : Rs W q l (.at k1)) => show Calls Tryd.prog 132 #[.pointer (some ⟨q, 0, none⟩), .int .i64 32, .bool true] W fun e w' => e = .returned (.int .u64 0) ∧ Rs w' q l (.bad ec ea) ∧ W.grownBy w' (some q) from by have := numS_ref h 32 (by omega) (by omega); rw [show (RSt.at k1).bind (fun k => intR l k 32) = intR l k1 32 from rfl, hr0] at this; exact this)
          have dw : (ec != 0) = true := by have := (intR_nz hr0); simpa using this
          have dw2 : (ec == 0) = false := by have := (intR_nz hr0); simpa using this
          clear hr0
          have hrem : Int.tmod 0 4294967296 = 0 := rfl
          go_enter Tryd.func82, Tryd.ntmps82
          go_wp2_with (first
            | (go_at_call 132; go_must ((with_reducible refine (HX0.out _ (HG3.out).rs).mono ?_); rintro e w4 ⟨rfl, hs, hg⟩; clear c0 c1 c2 c3 f1 f2 f3 r0 r1 r2 r3 z0 z1 z2 z3 x1 x2; have HG4 := Lib.hid ((HG3.out).call hs hg); have c0 := HG4.out.box.cell 0; have c1 := HG4.out.box.cell 1; have c2 := HG4.out.box.cell 2; have c3 := HG4.out.box.cell 3; have f1 := HG4.out.box.frozen 1; have f2 := HG4.out.box.frozen 2; have f3 := HG4.out.box.frozen 3; have r0 := HG4.out.res.cell 0; have r1 := HG4.out.res.cell 1; have r2 := HG4.out.res.cell 2; have r3 := HG4.out.res.cell 3; have z0 := HG4.out.res.frozen 0; have z1 := HG4.out.res.frozen 1; have z2 := HG4.out.res.frozen 2; have z3 := HG4.out.res.frozen 3; simp only [List.getElem?_toArray, List.getElem?_cons_zero, List.getElem?_cons_succ] at c0 c1 c2 c3 r0 r1 r2 r3; obtain ⟨jat, x1⟩ := at_bad HG4.out.rs; have x2 := why_bad HG4.out.rs; clear hs hg))
            | (go_at_call 84; go_must ((with_reducible refine HBY.out.mono ?_); rintro e w1 ⟨rfl, hs, hg⟩; have HG1 := Lib.hid (HST.out w1 hs hg); have hh := HG1.out.h2; have hqq := HG1.out.hq; have n1 : ¬ w1.heap.size = w.heap.size := (by omega); have n2 : ¬ w.heap.size = w1.heap.size := (by omega); have n3 : ¬ w1.heap.size = q := (by omega); have n4 : ¬ q = w1.heap.size := (by omega); have c0 := HG1.out.box.cell 0; have c1 := HG1.out.box.cell 1; have c2 := HG1.out.box.cell 2; have c3 := HG1.out.box.cell 3; have f1 := HG1.out.box.frozen 1; have f2 := HG1.out.box.frozen 2; have f3 := HG1.out.box.frozen 3; have r0 := HG1.out.res.cell 0; have r1 := HG1.out.res.cell 1; have r2 := HG1.out.res.cell 2; have r3 := HG1.out.res.cell 3; have z0 := HG1.out.res.frozen 0; have z1 := HG1.out.res.frozen 1; have z2 := HG1.out.res.frozen 2; have z3 := HG1.out.res.frozen 3; simp only [List.getElem?_toArray, List.getElem?_cons_zero, List.getElem?_cons_succ] at c0 c1 c2 c3 r0 r1 r2 r3; have x1 := at_at HG1.out.rs; have x2 := why_at HG1.out.rs; clear hs hg hh hqq y1))
            | (go_at_call 60; go_must ((with_reducible refine (HC.out _).mono ?_); rintro e w2 ⟨rfl, hb⟩; clear c0 c1 c2 c3 f1 f2 f3 r0 r1 r2 r3 z0 z1 z2 z3 x1 x2; have HG2 := Lib.hid (HG1.out.below hb); have c0 := HG2.out.box.cell 0; have c1 := HG2.out.box.cell 1; have c2 := HG2.out.box.cell 2; have c3 := HG2.out.box.cell 3; have f1 := HG2.out.box.frozen 1; have f2 := HG2.out.box.frozen 2; have f3 := HG2.out.box.frozen 3; have r0 := HG2.out.res.cell 0; have r1 := HG2.out.res.cell 1; have r2 := HG2.out.res.cell 2; have r3 := HG2.out.res.cell 3; have z0 := HG2.out.res.frozen 0; have z1 := HG2.out.res.frozen 1; have z2 := HG2.out.res.frozen 2; have z3 := HG2.out.res.frozen 3; simp only [List.getElem?_toArray, List.getElem?_cons_zero, List.getElem?_cons_succ] at c0 c1 c2 c3 r0 r1 r2 r3; have x1 := at_at HG2.out.rs; have x2 := why_at HG2.out.rs; clear hb))
            | (go_at_call 61; go_must ((with_reducible refine (HI.out _).mono ?_); rintro e w3 ⟨rfl, hb⟩; clear c0 c1 c2 c3 f1 f2 f3 r0 r1 r2 r3 z0 z1 z2 z3 x1 x2; have HG3 := Lib.hid ((HG2.out.below hb).below (below_box w3 (.cells #[.int .i64 r1, .string s1, .int .i64 10, .string s2, .string s3, .bool fb] 107))); have c0 := HG3.out.box.cell 0; have c1 := HG3.out.box.cell 1; have c2 := HG3.out.box.cell 2; have c3 := HG3.out.box.cell 3; have f1 := HG3.out.box.frozen 1; have f2 := HG3.out.box.frozen 2; have f3 := HG3.out.box.frozen 3; have r0 := HG3.out.res.cell 0; have r1 := HG3.out.res.cell 1; have r2 := HG3.out.res.cell 2; have r3 := HG3.out.res.cell 3; have z0 := HG3.out.res.frozen 0; have z1 := HG3.out.res.frozen 1; have z2 := HG3.out.res.frozen 2; have z3 := HG3.out.res.frozen 3; simp only [List.getElem?_toArray, List.getElem?_cons_zero, List.getElem?_cons_succ] at c0 c1 c2 c3 r0 r1 r2 r3; have x1 := at_at HG3.out.rs; have x2 := why_at HG3.out.rs; clear hb)))
          obtain ⟨q4, hf⟩ := RGt.fin ((HG4.out.put 1 (.int .u64 0) rfl)) (.int .u8 0) (.int .u64 0) (.int .u64 0) (.slice none 0 0) _ rfl
          have q0 := q4.cell 0
          have q1 := q4.cell 1
          have q2 := q4.cell 2
          have q3 := q4.cell 3
          simp only [List.getElem?_toArray, List.getElem?_cons_zero, List.getElem?_cons_succ] at q0 q1 q2 q3
          exact bodyPost_ret (v := .agg #[.int .u8 0, .int .u64 0, .int .u64 0, .slice none 0 0]) (by simp [results, Tryd.results82, go_sem, q0, q1, q2, q3]) rfl (rgets_no hf)
        | ok v0 k2 =>
          rw [Res.bind_ok]
          obtain ⟨x, hx⟩ : ∃ x, x = v0 % 2 ^ 64 := ⟨_, rfl⟩
          obtain ⟨y, hy⟩ : ∃ y, y = v0 % 4294967296 := ⟨_, rfl⟩
          rw [← hy]
          have hx64 : x = v0 % 18446744073709551616 := hx
          have hrem : Int.tmod x 4294967296 = y := by rw [Int.tmod_eq_emod_of_nonneg (by omega)]; omega
          have hrem2 : x % 4294967296 = y := by omega
          have HX0 := Lib.hid (fun W (h : Rs W q l (.at k1)) => show Calls Tryd.prog 132 #[.pointer (some ⟨q, 0, none⟩), .int .i64 32, .bool true] W fun e w' => e = .returned (.int .u64 x) ∧ Rs w' q l (.at k2) ∧ W.grownBy w' (some q) from by have := numS_ref h 32 (by omega) (by omega); rw [show (RSt.at k1).bind (fun k => intR l k 32) = intR l k1 32 from rfl, hr0] at this; rw [hx]; exact this)
          clear hx64 hx hy
          clear hr0
          go_enter Tryd.func82, Tryd.ntmps82
          go_wp2_with (first
            | (go_at_call 132; go_must ((with_reducible refine (HX0.out _ (HG3.out).rs).mono ?_); rintro e w4 ⟨rfl, hs, hg⟩; clear c0 c1 c2 c3 f1 f2 f3 r0 r1 r2 r3 z0 z1 z2 z3 x1 x2; have HG4 := Lib.hid ((HG3.out).call hs hg); have c0 := HG4.out.box.cell 0; have c1 := HG4.out.box.cell 1; have c2 := HG4.out.box.cell 2; have c3 := HG4.out.box.cell 3; have f1 := HG4.out.box.frozen 1; have f2 := HG4.out.box.frozen 2; have f3 := HG4.out.box.frozen 3; have r0 := HG4.out.res.cell 0; have r1 := HG4.out.res.cell 1; have r2 := HG4.out.res.cell 2; have r3 := HG4.out.res.cell 3; have z0 := HG4.out.res.frozen 0; have z1 := HG4.out.res.frozen 1; have z2 := HG4.out.res.frozen 2; have z3 := HG4.out.res.frozen 3; simp only [List.getElem?_toArray, List.getElem?_cons_zero, List.getElem?_cons_succ] at c0 c1 c2 c3 r0 r1 r2 r3; have x1 := at_at HG4.out.rs; have x2 := why_at HG4.out.rs; clear hs hg))
            | (go_at_call 84; go_must ((with_reducible refine HBY.out.mono ?_); rintro e w1 ⟨rfl, hs, hg⟩; have HG1 := Lib.hid (HST.out w1 hs hg); have hh := HG1.out.h2; have hqq := HG1.out.hq; have n1 : ¬ w1.heap.size = w.heap.size := (by omega); have n2 : ¬ w.heap.size = w1.heap.size := (by omega); have n3 : ¬ w1.heap.size = q := (by omega); have n4 : ¬ q = w1.heap.size := (by omega); have c0 := HG1.out.box.cell 0; have c1 := HG1.out.box.cell 1; have c2 := HG1.out.box.cell 2; have c3 := HG1.out.box.cell 3; have f1 := HG1.out.box.frozen 1; have f2 := HG1.out.box.frozen 2; have f3 := HG1.out.box.frozen 3; have r0 := HG1.out.res.cell 0; have r1 := HG1.out.res.cell 1; have r2 := HG1.out.res.cell 2; have r3 := HG1.out.res.cell 3; have z0 := HG1.out.res.frozen 0; have z1 := HG1.out.res.frozen 1; have z2 := HG1.out.res.frozen 2; have z3 := HG1.out.res.frozen 3; simp only [List.getElem?_toArray, List.getElem?_cons_zero, List.getElem?_cons_succ] at c0 c1 c2 c3 r0 r1 r2 r3; have x1 := at_at HG1.out.rs; have x2 := why_at HG1.out.rs; clear hs hg hh hqq y1))
            | (go_at_call 60; go_must ((with_reducible refine (HC.out _).mono ?_); rintro e w2 ⟨rfl, hb⟩; clear c0 c1 c2 c3 f1 f2 f3 r0 r1 r2 r3 z0 z1 z2 z3 x1 x2; have HG2 := Lib.hid (HG1.out.below hb); have c0 := HG2.out.box.cell 0; have c1 := HG2.out.box.cell 1; have c2 := HG2.out.box.cell 2; have c3 := HG2.out.box.cell 3; have f1 := HG2.out.box.frozen 1; have f2 := HG2.out.box.frozen 2; have f3 := HG2.out.box.frozen 3; have r0 := HG2.out.res.cell 0; have r1 := HG2.out.res.cell 1; have r2 := HG2.out.res.cell 2; have r3 := HG2.out.res.cell 3; have z0 := HG2.out.res.frozen 0; have z1 := HG2.out.res.frozen 1; have z2 := HG2.out.res.frozen 2; have z3 := HG2.out.res.frozen 3; simp only [List.getElem?_toArray, List.getElem?_cons_zero, List.getElem?_cons_succ] at c0 c1 c2 c3 r0 r1 r2 r3; have x1 := at_at HG2.out.rs; have x2 := why_at HG2.out.rs; clear hb))
            | (go_at_call 61; go_must ((with_reducible refine (HI.out _).mono ?_); rintro e w3 ⟨rfl, hb⟩; clear c0 c1 c2 c3 f1 f2 f3 r0 r1 r2 r3 z0 z1 z2 z3 x1 x2; have HG3 := Lib.hid ((HG2.out.below hb).below (below_box w3 (.cells #[.int .i64 r1, .string s1, .int .i64 10, .string s2, .string s3, .bool fb] 107))); have c0 := HG3.out.box.cell 0; have c1 := HG3.out.box.cell 1; have c2 := HG3.out.box.cell 2; have c3 := HG3.out.box.cell 3; have f1 := HG3.out.box.frozen 1; have f2 := HG3.out.box.frozen 2; have f3 := HG3.out.box.frozen 3; have r0 := HG3.out.res.cell 0; have r1 := HG3.out.res.cell 1; have r2 := HG3.out.res.cell 2; have r3 := HG3.out.res.cell 3; have z0 := HG3.out.res.frozen 0; have z1 := HG3.out.res.frozen 1; have z2 := HG3.out.res.frozen 2; have z3 := HG3.out.res.frozen 3; simp only [List.getElem?_toArray, List.getElem?_cons_zero, List.getElem?_cons_succ] at c0 c1 c2 c3 r0 r1 r2 r3; have x1 := at_at HG3.out.rs; have x2 := why_at HG3.out.rs; clear hb)))
          obtain ⟨q4, hf⟩ := RGt.fin ((HG4.out.put 1 (.int .u64 y) rfl)) (.int .u8 c.toNat) (.int .u64 y) (.int .u64 0) (.slice none 0 0) _ rfl
          have q0 := q4.cell 0
          have q1 := q4.cell 1
          have q2 := q4.cell 2
          have q3 := q4.cell 3
          simp only [List.getElem?_toArray, List.getElem?_cons_zero, List.getElem?_cons_succ] at q0 q1 q2 q3
          exact bodyPost_ret (v := insV (⟨c, y, 0, []⟩ : I) none 0) (by simp [results, Tryd.results82, go_sem, q0, q1, q2, q3]) rfl (rgets_ok (i := (⟨c, y, 0, []⟩ : I)) ((HG4.out.put 1 (.int .u64 y) rfl)) hf)
      have d10 : ((m : Int) == 10) = false := by simp; omega
      by_cases m11 : m = 11
      · subst m11
        rw [show bodyR 11 c l k1 = (intR l k1 64).bind fun v k1 => .ok ⟨c, v % 18446744073709551616, 0, []⟩ k1 from by unfold bodyR; rw [if_neg (by omega), if_neg (by omega), if_neg (by omega), if_neg (by omega), if_neg (by omega), if_neg (by omega), if_neg (by omega), if_pos rfl]]
        have HI := Lib.hid (show ∀ W, Calls Tryd.prog 61 #[.int .i64 c.toNat] W fun e w' => e = .returned (.tuple #[.agg #[.int .i64 r1, .string s1, .int .i64 11, .string s2, .string s3, .bool fb], .bool b]) ∧ Below W.heap.size W w' from HI.out)
        cases hr0 : intR l k1 64 with
        | err ec ea =>
          rw [Res.bind_err]
          have HX0 := Lib.hid (fun W (h : Rs W q l (.at k1)) => show Calls Tryd.prog 132 #[.pointer (some ⟨q, 0, none⟩), .int .i64 64, .bool true] W fun e w' => e = .returned (.int .u64 0) ∧ Rs w' q l (.bad ec ea) ∧ W.grownBy w' (some q) from by have := numS_ref h 64 (by omega) (by omega); rw [show (RSt.at k1).bind (fun k => intR l k 64) = intR l k1 64 from rfl, hr0] at this; exact this)
          have dw : (ec != 0) = true := by have := (intR_nz hr0); simpa using this
          have dw2 : (ec == 0) = false := by have := (intR_nz hr0); simpa using this
          clear hr0
          go_enter Tryd.func82, Tryd.ntmps82
          go_wp2_with (first
            | (go_at_call 132; go_must ((with_reducible refine (HX0.out _ (HG3.out).rs).mono ?_); rintro e w4 ⟨rfl, hs, hg⟩; clear c0 c1 c2 c3 f1 f2 f3 r0 r1 r2 r3 z0 z1 z2 z3 x1 x2; have HG4 := Lib.hid ((HG3.out).call hs hg); have c0 := HG4.out.box.cell 0; have c1 := HG4.out.box.cell 1; have c2 := HG4.out.box.cell 2; have c3 := HG4.out.box.cell 3; have f1 := HG4.out.box.frozen 1; have f2 := HG4.out.box.frozen 2; have f3 := HG4.out.box.frozen 3; have r0 := HG4.out.res.cell 0; have r1 := HG4.out.res.cell 1; have r2 := HG4.out.res.cell 2; have r3 := HG4.out.res.cell 3; have z0 := HG4.out.res.frozen 0; have z1 := HG4.out.res.frozen 1; have z2 := HG4.out.res.frozen 2; have z3 := HG4.out.res.frozen 3; simp only [List.getElem?_toArray, List.getElem?_cons_zero, List.getElem?_cons_succ] at c0 c1 c2 c3 r0 r1 r2 r3; obtain ⟨jat, x1⟩ := at_bad HG4.out.rs; have x2 := why_bad HG4.out.rs; clear hs hg))
            | (go_at_call 84; go_must ((with_reducible refine HBY.out.mono ?_); rintro e w1 ⟨rfl, hs, hg⟩; have HG1 := Lib.hid (HST.out w1 hs hg); have hh := HG1.out.h2; have hqq := HG1.out.hq; have n1 : ¬ w1.heap.size = w.heap.size := (by omega); have n2 : ¬ w.heap.size = w1.heap.size := (by omega); have n3 : ¬ w1.heap.size = q := (by omega); have n4 : ¬ q = w1.heap.size := (by omega); have c0 := HG1.out.box.cell 0; have c1 := HG1.out.box.cell 1; have c2 := HG1.out.box.cell 2; have c3 := HG1.out.box.cell 3; have f1 := HG1.out.box.frozen 1; have f2 := HG1.out.box.frozen 2; have f3 := HG1.out.box.frozen 3; have r0 := HG1.out.res.cell 0; have r1 := HG1.out.res.cell 1; have r2 := HG1.out.res.cell 2; have r3 := HG1.out.res.cell 3; have z0 := HG1.out.res.frozen 0; have z1 := HG1.out.res.frozen 1; have z2 := HG1.out.res.frozen 2; have z3 := HG1.out.res.frozen 3; simp only [List.getElem?_toArray, List.getElem?_cons_zero, List.getElem?_cons_succ] at c0 c1 c2 c3 r0 r1 r2 r3; have x1 := at_at HG1.out.rs; have x2 := why_at HG1.out.rs; clear hs hg hh hqq y1))
            | (go_at_call 60; go_must ((with_reducible refine (HC.out _).mono ?_); rintro e w2 ⟨rfl, hb⟩; clear c0 c1 c2 c3 f1 f2 f3 r0 r1 r2 r3 z0 z1 z2 z3 x1 x2; have HG2 := Lib.hid (HG1.out.below hb); have c0 := HG2.out.box.cell 0; have c1 := HG2.out.box.cell 1; have c2 := HG2.out.box.cell 2; have c3 := HG2.out.box.cell 3; have f1 := HG2.out.box.frozen 1; have f2 := HG2.out.box.frozen 2; have f3 := HG2.out.box.frozen 3; have r0 := HG2.out.res.cell 0; have r1 := HG2.out.res.cell 1; have r2 := HG2.out.res.cell 2; have r3 := HG2.out.res.cell 3; have z0 := HG2.out.res.frozen 0; have z1 := HG2.out.res.frozen 1; have z2 := HG2.out.res.frozen 2; have z3 := HG2.out.res.frozen 3; simp only [List.getElem?_toArray, List.getElem?_cons_zero, List.getElem?_cons_succ] at c0 c1 c2 c3 r0 r1 r2 r3; have x1 := at_at HG2.out.rs; have x2 := why_at HG2.out.rs; clear hb))
            | (go_at_call 61; go_must ((with_reducible refine (HI.out _).mono ?_); rintro e w3 ⟨rfl, hb⟩; clear c0 c1 c2 c3 f1 f2 f3 r0 r1 r2 r3 z0 z1 z2 z3 x1 x2; have HG3 := Lib.hid ((HG2.out.below hb).below (below_box w3 (.cells #[.int .i64 r1, .string s1, .int .i64 11, .string s2, .string s3, .bool fb] 107))); have c0 := HG3.out.box.cell 0; have c1 := HG3.out.box.cell 1; have c2 := HG3.out.box.cell 2; have c3 := HG3.out.box.cell 3; have f1 := HG3.out.box.frozen 1; have f2 := HG3.out.box.frozen 2; have f3 := HG3.out.box.frozen 3; have r0 := HG3.out.res.cell 0; have r1 := HG3.out.res.cell 1; have r2 := HG3.out.res.cell 2; have r3 := HG3.out.res.cell 3; have z0 := HG3.out.res.frozen 0; have z1 := HG3.out.res.frozen 1; have z2 := HG3.out.res.frozen 2; have z3 := HG3.out.res.frozen 3; simp only [List.getElem?_toArray, List.getElem?_cons_zero, List.getElem?_cons_succ] at c0 c1 c2 c3 r0 r1 r2 r3; have x1 := at_at HG3.out.rs; have x2 := why_at HG3.out.rs; clear hb)))
          obtain ⟨q4, hf⟩ := RGt.fin ((HG4.out.put 1 (.int .u64 0) rfl)) (.int .u8 0) (.int .u64 0) (.int .u64 0) (.slice none 0 0) _ rfl
          have q0 := q4.cell 0
          have q1 := q4.cell 1
          have q2 := q4.cell 2
          have q3 := q4.cell 3
          simp only [List.getElem?_toArray, List.getElem?_cons_zero, List.getElem?_cons_succ] at q0 q1 q2 q3
          exact bodyPost_ret (v := .agg #[.int .u8 0, .int .u64 0, .int .u64 0, .slice none 0 0]) (by simp [results, Tryd.results82, go_sem, q0, q1, q2, q3]) rfl (rgets_no hf)
        | ok v0 k2 =>
          rw [Res.bind_ok]
          obtain ⟨x, hx⟩ : ∃ x, x = v0 % 18446744073709551616 := ⟨_, rfl⟩
          rw [← hx]
          have HX0 := Lib.hid (fun W (h : Rs W q l (.at k1)) => show Calls Tryd.prog 132 #[.pointer (some ⟨q, 0, none⟩), .int .i64 64, .bool true] W fun e w' => e = .returned (.int .u64 x) ∧ Rs w' q l (.at k2) ∧ W.grownBy w' (some q) from by have := numS_ref h 64 (by omega) (by omega); rw [show (RSt.at k1).bind (fun k => intR l k 64) = intR l k1 64 from rfl, hr0] at this; rw [hx]; exact this)
          clear hx
          clear hr0
          go_enter Tryd.func82, Tryd.ntmps82
          go_wp2_with (first
            | (go_at_call 132; go_must ((with_reducible refine (HX0.out _ (HG3.out).rs).mono ?_); rintro e w4 ⟨rfl, hs, hg⟩; clear c0 c1 c2 c3 f1 f2 f3 r0 r1 r2 r3 z0 z1 z2 z3 x1 x2; have HG4 := Lib.hid ((HG3.out).call hs hg); have c0 := HG4.out.box.cell 0; have c1 := HG4.out.box.cell 1; have c2 := HG4.out.box.cell 2; have c3 := HG4.out.box.cell 3; have f1 := HG4.out.box.frozen 1; have f2 := HG4.out.box.frozen 2; have f3 := HG4.out.box.frozen 3; have r0 := HG4.out.res.cell 0; have r1 := HG4.out.res.cell 1; have r2 := HG4.out.res.cell 2; have r3 := HG4.out.res.cell 3; have z0 := HG4.out.res.frozen 0; have z1 := HG4.out.res.frozen 1; have z2 := HG4.out.res.frozen 2; have z3 := HG4.out.res.frozen 3; simp only [List.getElem?_toArray, List.getElem?_cons_zero, List.getElem?_cons_succ] at c0 c1 c2 c3 r0 r1 r2 r3; have x1 := at_at HG4.out.rs; have x2 := why_at HG4.out.rs; clear hs hg))
            | (go_at_call 84; go_must ((with_reducible refine HBY.out.mono ?_); rintro e w1 ⟨rfl, hs, hg⟩; have HG1 := Lib.hid (HST.out w1 hs hg); have hh := HG1.out.h2; have hqq := HG1.out.hq; have n1 : ¬ w1.heap.size = w.heap.size := (by omega); have n2 : ¬ w.heap.size = w1.heap.size := (by omega); have n3 : ¬ w1.heap.size = q := (by omega); have n4 : ¬ q = w1.heap.size := (by omega); have c0 := HG1.out.box.cell 0; have c1 := HG1.out.box.cell 1; have c2 := HG1.out.box.cell 2; have c3 := HG1.out.box.cell 3; have f1 := HG1.out.box.frozen 1; have f2 := HG1.out.box.frozen 2; have f3 := HG1.out.box.frozen 3; have r0 := HG1.out.res.cell 0; have r1 := HG1.out.res.cell 1; have r2 := HG1.out.res.cell 2; have r3 := HG1.out.res.cell 3; have z0 := HG1.out.res.frozen 0; have z1 := HG1.out.res.frozen 1; have z2 := HG1.out.res.frozen 2; have z3 := HG1.out.res.frozen 3; simp only [List.getElem?_toArray, List.getElem?_cons_zero, List.getElem?_cons_succ] at c0 c1 c2 c3 r0 r1 r2 r3; have x1 := at_at HG1.out.rs; have x2 := why_at HG1.out.rs; clear hs hg hh hqq y1))
            | (go_at_call 60; go_must ((with_reducible refine (HC.out _).mono ?_); rintro e w2 ⟨rfl, hb⟩; clear c0 c1 c2 c3 f1 f2 f3 r0 r1 r2 r3 z0 z1 z2 z3 x1 x2; have HG2 := Lib.hid (HG1.out.below hb); have c0 := HG2.out.box.cell 0; have c1 := HG2.out.box.cell 1; have c2 := HG2.out.box.cell 2; have c3 := HG2.out.box.cell 3; have f1 := HG2.out.box.frozen 1; have f2 := HG2.out.box.frozen 2; have f3 := HG2.out.box.frozen 3; have r0 := HG2.out.res.cell 0; have r1 := HG2.out.res.cell 1; have r2 := HG2.out.res.cell 2; have r3 := HG2.out.res.cell 3; have z0 := HG2.out.res.frozen 0; have z1 := HG2.out.res.frozen 1; have z2 := HG2.out.res.frozen 2; have z3 := HG2.out.res.frozen 3; simp only [List.getElem?_toArray, List.getElem?_cons_zero, List.getElem?_cons_succ] at c0 c1 c2 c3 r0 r1 r2 r3; have x1 := at_at HG2.out.rs; have x2 := why_at HG2.out.rs; clear hb))
            | (go_at_call 61; go_must ((with_reducible refine (HI.out _).mono ?_); rintro e w3 ⟨rfl, hb⟩; clear c0 c1 c2 c3 f1 f2 f3 r0 r1 r2 r3 z0 z1 z2 z3 x1 x2; have HG3 := Lib.hid ((HG2.out.below hb).below (below_box w3 (.cells #[.int .i64 r1, .string s1, .int .i64 11, .string s2, .string s3, .bool fb] 107))); have c0 := HG3.out.box.cell 0; have c1 := HG3.out.box.cell 1; have c2 := HG3.out.box.cell 2; have c3 := HG3.out.box.cell 3; have f1 := HG3.out.box.frozen 1; have f2 := HG3.out.box.frozen 2; have f3 := HG3.out.box.frozen 3; have r0 := HG3.out.res.cell 0; have r1 := HG3.out.res.cell 1; have r2 := HG3.out.res.cell 2; have r3 := HG3.out.res.cell 3; have z0 := HG3.out.res.frozen 0; have z1 := HG3.out.res.frozen 1; have z2 := HG3.out.res.frozen 2; have z3 := HG3.out.res.frozen 3; simp only [List.getElem?_toArray, List.getElem?_cons_zero, List.getElem?_cons_succ] at c0 c1 c2 c3 r0 r1 r2 r3; have x1 := at_at HG3.out.rs; have x2 := why_at HG3.out.rs; clear hb)))
          obtain ⟨q4, hf⟩ := RGt.fin ((HG4.out.put 1 (.int .u64 x) rfl)) (.int .u8 c.toNat) (.int .u64 x) (.int .u64 0) (.slice none 0 0) _ rfl
          have q0 := q4.cell 0
          have q1 := q4.cell 1
          have q2 := q4.cell 2
          have q3 := q4.cell 3
          simp only [List.getElem?_toArray, List.getElem?_cons_zero, List.getElem?_cons_succ] at q0 q1 q2 q3
          exact bodyPost_ret (v := insV (⟨c, x, 0, []⟩ : I) none 0) (by simp [results, Tryd.results82, go_sem, q0, q1, q2, q3]) rfl (rgets_ok (i := (⟨c, x, 0, []⟩ : I)) ((HG4.out.put 1 (.int .u64 x) rfl)) hf)
      have d11 : ((m : Int) == 11) = false := by simp; omega
      rw [show bodyR m c l k1 = (indexR l k1).bind fun a k1 => .ok ⟨c, a, 0, []⟩ k1 from by unfold bodyR; rw [if_neg m0, if_neg m1, if_neg m3, if_neg m5, if_neg m8, if_neg m9, if_neg m10, if_neg m11]]
      cases hr0 : indexR l k1 with
      | err ec ea =>
        rw [Res.bind_err]
        have HX0 := Lib.hid (fun W (h : Rs W q l (.at k1)) => show Calls Tryd.prog 130 #[.pointer (some ⟨q, 0, none⟩)] W fun e w' => e = .returned (.int .u32 0) ∧ Rs w' q l (.bad ec ea) ∧ W.grownBy w' (some q) from by have := index_ref h; rw [show (RSt.at k1).bind (indexR l) = indexR l k1 from rfl, hr0] at this; exact this)
        have dw : (ec != 0) = true := by have := (indexR_nz hr0); simpa using this
        have dw2 : (ec == 0) = false := by have := (indexR_nz hr0); simpa using this
        clear hr0
        go_enter Tryd.func82, Tryd.ntmps82
        go_wp2_with (first
          | (go_at_call 130; go_must ((with_reducible refine (HX0.out _ (HG3.out).rs).mono ?_); rintro e w4 ⟨rfl, hs, hg⟩; clear c0 c1 c2 c3 f1 f2 f3 r0 r1 r2 r3 z0 z1 z2 z3 x1 x2; have HG4 := Lib.hid ((HG3.out).call hs hg); have c0 := HG4.out.box.cell 0; have c1 := HG4.out.box.cell 1; have c2 := HG4.out.box.cell 2; have c3 := HG4.out.box.cell 3; have f1 := HG4.out.box.frozen 1; have f2 := HG4.out.box.frozen 2; have f3 := HG4.out.box.frozen 3; have r0 := HG4.out.res.cell 0; have r1 := HG4.out.res.cell 1; have r2 := HG4.out.res.cell 2; have r3 := HG4.out.res.cell 3; have z0 := HG4.out.res.frozen 0; have z1 := HG4.out.res.frozen 1; have z2 := HG4.out.res.frozen 2; have z3 := HG4.out.res.frozen 3; simp only [List.getElem?_toArray, List.getElem?_cons_zero, List.getElem?_cons_succ] at c0 c1 c2 c3 r0 r1 r2 r3; obtain ⟨jat, x1⟩ := at_bad HG4.out.rs; have x2 := why_bad HG4.out.rs; clear hs hg))
          | (go_at_call 84; go_must ((with_reducible refine HBY.out.mono ?_); rintro e w1 ⟨rfl, hs, hg⟩; have HG1 := Lib.hid (HST.out w1 hs hg); have hh := HG1.out.h2; have hqq := HG1.out.hq; have n1 : ¬ w1.heap.size = w.heap.size := (by omega); have n2 : ¬ w.heap.size = w1.heap.size := (by omega); have n3 : ¬ w1.heap.size = q := (by omega); have n4 : ¬ q = w1.heap.size := (by omega); have c0 := HG1.out.box.cell 0; have c1 := HG1.out.box.cell 1; have c2 := HG1.out.box.cell 2; have c3 := HG1.out.box.cell 3; have f1 := HG1.out.box.frozen 1; have f2 := HG1.out.box.frozen 2; have f3 := HG1.out.box.frozen 3; have r0 := HG1.out.res.cell 0; have r1 := HG1.out.res.cell 1; have r2 := HG1.out.res.cell 2; have r3 := HG1.out.res.cell 3; have z0 := HG1.out.res.frozen 0; have z1 := HG1.out.res.frozen 1; have z2 := HG1.out.res.frozen 2; have z3 := HG1.out.res.frozen 3; simp only [List.getElem?_toArray, List.getElem?_cons_zero, List.getElem?_cons_succ] at c0 c1 c2 c3 r0 r1 r2 r3; have x1 := at_at HG1.out.rs; have x2 := why_at HG1.out.rs; clear hs hg hh hqq y1))
          | (go_at_call 60; go_must ((with_reducible refine (HC.out _).mono ?_); rintro e w2 ⟨rfl, hb⟩; clear c0 c1 c2 c3 f1 f2 f3 r0 r1 r2 r3 z0 z1 z2 z3 x1 x2; have HG2 := Lib.hid (HG1.out.below hb); have c0 := HG2.out.box.cell 0; have c1 := HG2.out.box.cell 1; have c2 := HG2.out.box.cell 2; have c3 := HG2.out.box.cell 3; have f1 := HG2.out.box.frozen 1; have f2 := HG2.out.box.frozen 2; have f3 := HG2.out.box.frozen 3; have r0 := HG2.out.res.cell 0; have r1 := HG2.out.res.cell 1; have r2 := HG2.out.res.cell 2; have r3 := HG2.out.res.cell 3; have z0 := HG2.out.res.frozen 0; have z1 := HG2.out.res.frozen 1; have z2 := HG2.out.res.frozen 2; have z3 := HG2.out.res.frozen 3; simp only [List.getElem?_toArray, List.getElem?_cons_zero, List.getElem?_cons_succ] at c0 c1 c2 c3 r0 r1 r2 r3; have x1 := at_at HG2.out.rs; have x2 := why_at HG2.out.rs; clear hb))
          | (go_at_call 61; go_must ((with_reducible refine (HI.out _).mono ?_); rintro e w3 ⟨rfl, hb⟩; clear c0 c1 c2 c3 f1 f2 f3 r0 r1 r2 r3 z0 z1 z2 z3 x1 x2; have HG3 := Lib.hid ((HG2.out.below hb).below (below_box w3 (.cells #[.int .i64 r1, .string s1, .int .i64 m, .string s2, .string s3, .bool fb] 107))); have c0 := HG3.out.box.cell 0; have c1 := HG3.out.box.cell 1; have c2 := HG3.out.box.cell 2; have c3 := HG3.out.box.cell 3; have f1 := HG3.out.box.frozen 1; have f2 := HG3.out.box.frozen 2; have f3 := HG3.out.box.frozen 3; have r0 := HG3.out.res.cell 0; have r1 := HG3.out.res.cell 1; have r2 := HG3.out.res.cell 2; have r3 := HG3.out.res.cell 3; have z0 := HG3.out.res.frozen 0; have z1 := HG3.out.res.frozen 1; have z2 := HG3.out.res.frozen 2; have z3 := HG3.out.res.frozen 3; simp only [List.getElem?_toArray, List.getElem?_cons_zero, List.getElem?_cons_succ] at c0 c1 c2 c3 r0 r1 r2 r3; have x1 := at_at HG3.out.rs; have x2 := why_at HG3.out.rs; clear hb)))
        obtain ⟨q4, hf⟩ := RGt.fin ((HG4.out.put 1 (.int .u64 0) rfl)) (.int .u8 0) (.int .u64 0) (.int .u64 0) (.slice none 0 0) _ rfl
        have q0 := q4.cell 0
        have q1 := q4.cell 1
        have q2 := q4.cell 2
        have q3 := q4.cell 3
        simp only [List.getElem?_toArray, List.getElem?_cons_zero, List.getElem?_cons_succ] at q0 q1 q2 q3
        exact bodyPost_ret (v := .agg #[.int .u8 0, .int .u64 0, .int .u64 0, .slice none 0 0]) (by simp [results, Tryd.results82, go_sem, q0, q1, q2, q3]) rfl (rgets_no hf)
      | ok v0 k2 =>
        rw [Res.bind_ok]
        have HX0 := Lib.hid (fun W (h : Rs W q l (.at k1)) => show Calls Tryd.prog 130 #[.pointer (some ⟨q, 0, none⟩)] W fun e w' => e = .returned (.int .u32 v0) ∧ Rs w' q l (.at k2) ∧ W.grownBy w' (some q) from by have := index_ref h; rw [show (RSt.at k1).bind (indexR l) = indexR l k1 from rfl, hr0] at this; exact this)
        have hw0 : IntKind.u64.wrap v0 = v0 := wrap64u (indexR_ok hr0).2.1 (indexR_ok hr0).2.2
        clear hr0
        go_enter Tryd.func82, Tryd.ntmps82
        go_wp2_with (first
          | (go_at_call 130; go_must ((with_reducible refine (HX0.out _ (HG3.out).rs).mono ?_); rintro e w4 ⟨rfl, hs, hg⟩; clear c0 c1 c2 c3 f1 f2 f3 r0 r1 r2 r3 z0 z1 z2 z3 x1 x2; have HG4 := Lib.hid ((HG3.out).call hs hg); have c0 := HG4.out.box.cell 0; have c1 := HG4.out.box.cell 1; have c2 := HG4.out.box.cell 2; have c3 := HG4.out.box.cell 3; have f1 := HG4.out.box.frozen 1; have f2 := HG4.out.box.frozen 2; have f3 := HG4.out.box.frozen 3; have r0 := HG4.out.res.cell 0; have r1 := HG4.out.res.cell 1; have r2 := HG4.out.res.cell 2; have r3 := HG4.out.res.cell 3; have z0 := HG4.out.res.frozen 0; have z1 := HG4.out.res.frozen 1; have z2 := HG4.out.res.frozen 2; have z3 := HG4.out.res.frozen 3; simp only [List.getElem?_toArray, List.getElem?_cons_zero, List.getElem?_cons_succ] at c0 c1 c2 c3 r0 r1 r2 r3; have x1 := at_at HG4.out.rs; have x2 := why_at HG4.out.rs; clear hs hg))
          | (go_at_call 84; go_must ((with_reducible refine HBY.out.mono ?_); rintro e w1 ⟨rfl, hs, hg⟩; have HG1 := Lib.hid (HST.out w1 hs hg); have hh := HG1.out.h2; have hqq := HG1.out.hq; have n1 : ¬ w1.heap.size = w.heap.size := (by omega); have n2 : ¬ w.heap.size = w1.heap.size := (by omega); have n3 : ¬ w1.heap.size = q := (by omega); have n4 : ¬ q = w1.heap.size := (by omega); have c0 := HG1.out.box.cell 0; have c1 := HG1.out.box.cell 1; have c2 := HG1.out.box.cell 2; have c3 := HG1.out.box.cell 3; have f1 := HG1.out.box.frozen 1; have f2 := HG1.out.box.frozen 2; have f3 := HG1.out.box.frozen 3; have r0 := HG1.out.res.cell 0; have r1 := HG1.out.res.cell 1; have r2 := HG1.out.res.cell 2; have r3 := HG1.out.res.cell 3; have z0 := HG1.out.res.frozen 0; have z1 := HG1.out.res.frozen 1; have z2 := HG1.out.res.frozen 2; have z3 := HG1.out.res.frozen 3; simp only [List.getElem?_toArray, List.getElem?_cons_zero, List.getElem?_cons_succ] at c0 c1 c2 c3 r0 r1 r2 r3; have x1 := at_at HG1.out.rs; have x2 := why_at HG1.out.rs; clear hs hg hh hqq y1))
          | (go_at_call 60; go_must ((with_reducible refine (HC.out _).mono ?_); rintro e w2 ⟨rfl, hb⟩; clear c0 c1 c2 c3 f1 f2 f3 r0 r1 r2 r3 z0 z1 z2 z3 x1 x2; have HG2 := Lib.hid (HG1.out.below hb); have c0 := HG2.out.box.cell 0; have c1 := HG2.out.box.cell 1; have c2 := HG2.out.box.cell 2; have c3 := HG2.out.box.cell 3; have f1 := HG2.out.box.frozen 1; have f2 := HG2.out.box.frozen 2; have f3 := HG2.out.box.frozen 3; have r0 := HG2.out.res.cell 0; have r1 := HG2.out.res.cell 1; have r2 := HG2.out.res.cell 2; have r3 := HG2.out.res.cell 3; have z0 := HG2.out.res.frozen 0; have z1 := HG2.out.res.frozen 1; have z2 := HG2.out.res.frozen 2; have z3 := HG2.out.res.frozen 3; simp only [List.getElem?_toArray, List.getElem?_cons_zero, List.getElem?_cons_succ] at c0 c1 c2 c3 r0 r1 r2 r3; have x1 := at_at HG2.out.rs; have x2 := why_at HG2.out.rs; clear hb))
          | (go_at_call 61; go_must ((with_reducible refine (HI.out _).mono ?_); rintro e w3 ⟨rfl, hb⟩; clear c0 c1 c2 c3 f1 f2 f3 r0 r1 r2 r3 z0 z1 z2 z3 x1 x2; have HG3 := Lib.hid ((HG2.out.below hb).below (below_box w3 (.cells #[.int .i64 r1, .string s1, .int .i64 m, .string s2, .string s3, .bool fb] 107))); have c0 := HG3.out.box.cell 0; have c1 := HG3.out.box.cell 1; have c2 := HG3.out.box.cell 2; have c3 := HG3.out.box.cell 3; have f1 := HG3.out.box.frozen 1; have f2 := HG3.out.box.frozen 2; have f3 := HG3.out.box.frozen 3; have r0 := HG3.out.res.cell 0; have r1 := HG3.out.res.cell 1; have r2 := HG3.out.res.cell 2; have r3 := HG3.out.res.cell 3; have z0 := HG3.out.res.frozen 0; have z1 := HG3.out.res.frozen 1; have z2 := HG3.out.res.frozen 2; have z3 := HG3.out.res.frozen 3; simp only [List.getElem?_toArray, List.getElem?_cons_zero, List.getElem?_cons_succ] at c0 c1 c2 c3 r0 r1 r2 r3; have x1 := at_at HG3.out.rs; have x2 := why_at HG3.out.rs; clear hb)))
        obtain ⟨q4, hf⟩ := RGt.fin ((HG4.out.put 1 (.int .u64 v0) rfl)) (.int .u8 c.toNat) (.int .u64 v0) (.int .u64 0) (.slice none 0 0) _ rfl
        have q0 := q4.cell 0
        have q1 := q4.cell 1
        have q2 := q4.cell 2
        have q3 := q4.cell 3
        simp only [List.getElem?_toArray, List.getElem?_cons_zero, List.getElem?_cons_succ] at q0 q1 q2 q3
        exact bodyPost_ret (v := insV (⟨c, v0, 0, []⟩ : I) none 0) (by simp [results, Tryd.results82, go_sem, q0, q1, q2, q3]) rfl (rgets_ok (i := (⟨c, v0, 0, []⟩ : I)) ((HG4.out.put 1 (.int .u64 v0) rfl)) hf)
    · rw [if_neg hc0, Res.bind_err]
      obtain ⟨z, hz⟩ : ∃ z : Nat, z = checkR c.toNat := ⟨_, rfl⟩
      rw [← hz] at hc0 ⊢
      have HC : Hid (∀ W, Calls Tryd.prog 60 #[.int .i64 c.toNat] W fun e w' => e = .returned (.int .i64 z) ∧ Below W.heap.size W w') := fun W => by
        have := refCheck_any c.toNat W hn
        rw [← check_same hn, ← hz] at this
        exact this
      have hz0 : (z : Int) ≠ 0 := by omega
      have dz : ((z : Int) != 0) = true := by simpa using hc0
      have dz2 : ((z : Int) == 0) = false := by simpa using hc0
      have HF := Lib.hid (fun W (h : Rs W q l (.at k1)) => show Calls Tryd.prog 83 #[.pointer (some ⟨q, 0, none⟩), .int .i64 z, .int .i64 k] W fun e w' => e = .returned (.tuple #[]) ∧ Rs w' q l (.bad z k) ∧ W.grownBy w' (some q) from fail_ref h z k hz0)
      clear hz hc0 hz0 hn
      go_enter Tryd.func82, Tryd.ntmps82
      go_wp2_with (first
        | (have tok := HG2; go_at_call 60; go_must ((with_reducible refine (HC.out _).mono ?_); rintro e w3 ⟨rfl, hb⟩; clear c0 c1 c2 c3 f1 f2 f3 r0 r1 r2 r3 z0 z1 z2 z3 x1 x2; have HG3 := Lib.hid (HG2.out.below hb); have c0 := HG3.out.box.cell 0; have c1 := HG3.out.box.cell 1; have c2 := HG3.out.box.cell 2; have c3 := HG3.out.box.cell 3; have f1 := HG3.out.box.frozen 1; have f2 := HG3.out.box.frozen 2; have f3 := HG3.out.box.frozen 3; have r0 := HG3.out.res.cell 0; have r1 := HG3.out.res.cell 1; have r2 := HG3.out.res.cell 2; have r3 := HG3.out.res.cell 3; have z0 := HG3.out.res.frozen 0; have z1 := HG3.out.res.frozen 1; have z2 := HG3.out.res.frozen 2; have z3 := HG3.out.res.frozen 3; simp only [List.getElem?_toArray, List.getElem?_cons_zero, List.getElem?_cons_succ] at c0 c1 c2 c3 r0 r1 r2 r3; have x1 := at_at HG3.out.rs; have x2 := why_at HG3.out.rs; clear hb))
        | (go_at_call 83; go_must ((with_reducible refine (HF.out _ HG3.out.rs).mono ?_); rintro e w4 ⟨rfl, hs, hg⟩; clear c0 c1 c2 c3 f1 f2 f3 r0 r1 r2 r3 z0 z1 z2 z3 x1 x2; have HG4 := Lib.hid (HG3.out.call hs hg); have c0 := HG4.out.box.cell 0; have c1 := HG4.out.box.cell 1; have c2 := HG4.out.box.cell 2; have c3 := HG4.out.box.cell 3; have f1 := HG4.out.box.frozen 1; have f2 := HG4.out.box.frozen 2; have f3 := HG4.out.box.frozen 3; have r0 := HG4.out.res.cell 0; have r1 := HG4.out.res.cell 1; have r2 := HG4.out.res.cell 2; have r3 := HG4.out.res.cell 3; have z0 := HG4.out.res.frozen 0; have z1 := HG4.out.res.frozen 1; have z2 := HG4.out.res.frozen 2; have z3 := HG4.out.res.frozen 3; simp only [List.getElem?_toArray, List.getElem?_cons_zero, List.getElem?_cons_succ] at c0 c1 c2 c3 r0 r1 r2 r3; obtain ⟨jat, x1⟩ := at_bad HG4.out.rs; have x2 := why_bad HG4.out.rs; clear hs hg))
        | (go_at_call 84; go_must ((with_reducible refine HBY.out.mono ?_); rintro e w1 ⟨rfl, hs, hg⟩; have HG1 := Lib.hid (HST.out w1 hs hg); have hh := HG1.out.h2; have hqq := HG1.out.hq; have n1 : ¬ w1.heap.size = w.heap.size := (by omega); have n2 : ¬ w.heap.size = w1.heap.size := (by omega); have n3 : ¬ w1.heap.size = q := (by omega); have n4 : ¬ q = w1.heap.size := (by omega); have c0 := HG1.out.box.cell 0; have c1 := HG1.out.box.cell 1; have c2 := HG1.out.box.cell 2; have c3 := HG1.out.box.cell 3; have f1 := HG1.out.box.frozen 1; have f2 := HG1.out.box.frozen 2; have f3 := HG1.out.box.frozen 3; have r0 := HG1.out.res.cell 0; have r1 := HG1.out.res.cell 1; have r2 := HG1.out.res.cell 2; have r3 := HG1.out.res.cell 3; have z0 := HG1.out.res.frozen 0; have z1 := HG1.out.res.frozen 1; have z2 := HG1.out.res.frozen 2; have z3 := HG1.out.res.frozen 3; simp only [List.getElem?_toArray, List.getElem?_cons_zero, List.getElem?_cons_succ] at c0 c1 c2 c3 r0 r1 r2 r3; have x1 := at_at HG1.out.rs; have x2 := why_at HG1.out.rs; clear hs hg hh hqq y1))
        | (go_at_call 60; go_must ((with_reducible refine (HC.out _).mono ?_); rintro e w2 ⟨rfl, hb⟩; clear c0 c1 c2 c3 f1 f2 f3 r0 r1 r2 r3 z0 z1 z2 z3 x1 x2; have HG2 := Lib.hid (HG1.out.below hb); have c0 := HG2.out.box.cell 0; have c1 := HG2.out.box.cell 1; have c2 := HG2.out.box.cell 2; have c3 := HG2.out.box.cell 3; have f1 := HG2.out.box.frozen 1; have f2 := HG2.out.box.frozen 2; have f3 := HG2.out.box.frozen 3; have r0 := HG2.out.res.cell 0; have r1 := HG2.out.res.cell 1; have r2 := HG2.out.res.cell 2; have r3 := HG2.out.res.cell 3; have z0 := HG2.out.res.frozen 0; have z1 := HG2.out.res.frozen 1; have z2 := HG2.out.res.frozen 2; have z3 := HG2.out.res.frozen 3; simp only [List.getElem?_toArray, List.getElem?_cons_zero, List.getElem?_cons_succ] at c0 c1 c2 c3 r0 r1 r2 r3; have x1 := at_at HG2.out.rs; have x2 := why_at HG2.out.rs; clear hb)))
      obtain ⟨q4, hf⟩ := RGt.fin (HG4.out) (.int .u8 0) (.int .u64 0) (.int .u64 0) (.slice none 0 0) _ rfl
      have q0 := q4.cell 0
      have q1 := q4.cell 1
      have q2 := q4.cell 2
      have q3 := q4.cell 3
      simp only [List.getElem?_toArray, List.getElem?_cons_zero, List.getElem?_cons_succ] at q0 q1 q2 q3
      exact bodyPost_ret (v := .agg #[.int .u8 0, .int .u64 0, .int .u64 0, .slice none 0 0]) (by simp [results, Tryd.results82, go_sem, q0, q1, q2, q3]) rfl (rgets_no hf)
end Go.Proofs.YtebgmfjgapmpfaaDoor
