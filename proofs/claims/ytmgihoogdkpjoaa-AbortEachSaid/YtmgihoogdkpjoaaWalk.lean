/- The walk of the law's own run. -/
import Derived.Test.YtmgihoogdkpjoaaDo
import Derived.StillTailTactics
namespace Go.Proofs.Ytmgihoogdkpjoaa
open Go.RowKit

/-- The relation of the loop, but for the counter's slot. -/
def Mid (l : List St) (w : World) (pb : Nat) (m0 : Int) (k : Nat) (wr : World) : Prop :=
  ∃ m : Int, 0 ≤ m ∧ m + (runS (l.drop k)).1 = m0 + (runS l).1 ∧ (runS (l.drop k)).2 = (runS l).2 ∧ m ≤ m0 + 1000 * k ∧ w.grownBy wr (some pb) ∧ Whole wr pb 3 #[.int .i64 m]

set_option maxRecDepth 100000 in
set_option maxHeartbeats 1000000 in
theorem run_step (N : Nat) (ih : RunSpec N) (A : Option Addr) (len cap B : Nat) (l : List St) (w : World) (pb : Nat) (m0 : Int) (hN : l.length ≤ N) (hr : Reads w B A l) (hB : B ≤ w.heap.size) (hA : ∀ a, A = some a → a.block ≠ pb) (hl : l.length = len) (hc : l.length ≤ cap) (hm : cap ≤ maxLen) (h40 : l.length ≤ 40) (hg : Good l)
    (hw : Whole w pb 3 #[.int .i64 m0]) (hm0 : 0 ≤ m0) (hm1 : m0 + 1000 * l.length ≤ 1000000) : Calls Try.prog 11 #[.slice A len cap, .pointer (some ⟨pb, 0, none⟩)] w (RunsTo l pb m0 w) := by
  subst hl
  have hm2 := hm
  unfold maxLen at hm2
  have HM := Lib.hid hm
  have IH := Lib.hid ih
  have HG := Lib.hid hg
  have HR := Lib.hid hr
  have HA := Lib.hid hA
  have HW := Lib.hid hw
  have hpb := hw.lt
  have hb := runS_bounds _ l (Nat.le_refl _) hg
  have hb1 := hb.1
  have hb2 := hb.2.1
  clear hm ih hg hr hA hw hb
  go_enter Try.func11, Try.ntmps11
  go_wp2
  go_loopw [4] (fun i wr => ∃ (k : Nat), k ≤ l.length + 1 ∧ i = .int .i64 k ∧ Mid l (w.alloc (.cells #[.pointer (some ⟨pb, 0, none⟩)] 32)) pb m0 k wr) (fun i _ => l.length + 1 - (intOf i).toNat)
  case atStart => exact ⟨0, by omega, rfl, m0, hm0, by simp, by simp, by simp, gb_refl _ _, HW.out.alloc _⟩
  case round =>
    obtain ⟨k, hk, rfl, m, hmm, hsum, heq, hge, hgr, hwr⟩ := hrel
    have hb' := runS_bounds _ (l.drop k) (Nat.le_refl _) (HG.out.drop k)
    have hm3 : m ≤ 1000000 := by omega
    have hbox := (Whole.made w 32 #[.pointer (some ⟨pb, 0, none⟩)]).grown hgr (by simp only [ne_eq, Option.some.injEq]; omega)
    have hsz : w.heap.size + 1 ≤ wr.heap.size := by have := hgr.size; simpa using this
    have HS := Lib.hid hsum
    have HE := Lib.hid heq
    have HGR := Lib.hid hgr
    have HWR := Lib.hid hwr
    have HBX := Lib.hid hbox
    clear hsum heq hb' hgr hwr hbox
    by_cases hlt : k < l.length
    · have hrd : Reads wr B A l := HR.out.same fun p hp hA2 => World.cell?_of_block (by
        have e1 := HGR.out.block p.block (by simp; omega) (by
          intro e
          simp only [Option.some.injEq] at e
          obtain ⟨b, off, hAe, _⟩ := HR.out k hlt
          exact HA.out _ hAe (by rw [← e]; exact (hA2 b off hAe).symm))
        rw [e1, Below.heap_alloc _ _ _ (by omega)])
      obtain ⟨b, off, rfl, hbB, s, hs, c0, c1, c2⟩ := hrd k hlt
      have H2 := Lib.hid hs
      have HRD := Lib.hid hrd
      have x0 := HBX.out.cell 0
      simp at x0
      have p0 := HWR.out.cell 0
      simp at p0
      have f0 := HWR.out.frozen 0
      clear hs hrd
      by_cases k0 : s.k = 0
      · have T0 : (s.k == 0) = true := by simpa using k0
        have K := Lib.hid k0
        clear k0
        go_wp2
        go_roundw
        case rel =>
          refine ⟨k + 1, by omega, by go_num, m + 1, by omega, ?_, ?_, by simp; omega, gb_put (p := ⟨pb, 0, none⟩) HGR.out (.inl rfl) _, by simpa using HWR.out.put 0 (.int .i64 (m + 1))⟩
          · have h1 := runS_at0 H2.out K.out; have h2 := HS.out; omega
          · have h1 := runS_at0 H2.out K.out; rw [← h1.2]; exact HE.out
        case measure => simp [intOf]; omega
      · have T0 : (s.k == 0) = false := by simpa using k0
        have K0 := Lib.hid k0
        clear k0
        by_cases k1 : s.k = 1
        · have T1 : (s.k == 1) = true := by simpa using k1
          have K := Lib.hid k1
          clear k1
          have e1 := runS_at1 H2.out K0.out K.out
          have sg := HG.out s (List.mem_of_getElem? H2.out)
          have f1 : m = m0 + (runS l).1 := by have := HS.out; omega
          have f2 : (runS l).2 = (s.c, s.a) := by rw [← HE.out]; exact e1.2
          have hG := gb_trans (World.grownBy_alloc w (.cells #[.pointer (some ⟨pb, 0, none⟩)] 32) (some pb)) HGR.out
          have F : Hid (RunsTo l pb m0 w (.panicked (stopP s.c s.a)) wr.drew) := ⟨.inr ⟨by rw [f2]; show ¬ s.c = 0; omega, by rw [f2]⟩, gb_drew hG, by rw [← f1]; exact HWR.out.drew⟩
          clear e1 f1 f2 hG sg
          go_wp2_with fail
          go_still_tail 10, (by kernel_rfl)
          change wpList _ _ _ _ _ wr.drew
          go_wp2_with (go_at_call 25; refine (now_any _ _ _).mono ?_; rintro e w' ⟨rfl, rfl⟩)
          exact ⟨rfl, F.out⟩
        · have T1 : (s.k == 1) = false := by simpa using k1
          have K1 := Lib.hid k1
          clear k1
          obtain ⟨E, hE⟩ : ∃ E, E = k + 1 + endFrom (l.drop (k + 1)) 0 := ⟨_, rfl⟩
          obtain ⟨pl, ple1, ple2⟩ := part_length hlt hE
          have HEE := Lib.hid hE
          have HPL := Lib.hid pl
          clear hE pl
          obtain ⟨rn, hrn⟩ : ∃ rn, rn = (runS (part l k E)).1 := ⟨_, rfl⟩
          obtain ⟨rc, hrc⟩ : ∃ rc, rc = (runS (part l k E)).2.1 := ⟨_, rfl⟩
          obtain ⟨ra, hra⟩ : ∃ ra, ra = (runS (part l k E)).2.2 := ⟨_, rfl⟩
          have pb0 := runS_bounds _ (part l k E) (Nat.le_refl _) (HG.out.part k E)
          rw [HPL.out, ← hrn, ← hrc, ← hra] at pb0
          obtain ⟨pb1, pb2, pb3, pb4, pb5, pb6, pb7⟩ := pb0
          have sga := HG.out s (List.mem_of_getElem? H2.out)
          have sg1 := sga.2.2.1
          have sg2 := sga.2.2.2
          clear sga
          have hbp : b ≠ pb := HA.out _ rfl
          have hBr : B ≤ wr.heap.size := by omega
          have HOUT : Hid (∀ (A : Option Addr) (c2 : Nat), Reads wr B A (part l k E) → (∀ a, A = some a → a.block ≠ pb) → E - (k + 1) ≤ c2 → c2 ≤ cap →
              Calls Try.prog 9 #[.func (.func 30) #[] #[.pointer (some ⟨wr.heap.size, 0, none⟩), .pointer (some ⟨w.heap.size, 0, none⟩)]] (wr.alloc (.cells #[.slice A (E - (k + 1)) c2] 22)) fun e w' =>
                e = .returned (.agg #[.int .i64 rc, .int .i64 ra]) ∧ wr.grownBy w' (some pb) ∧ Whole w' pb 3 #[.int .i64 (m + rn)]) := by
            intro A c2 h1 h2 h3 h4
            refine (out_part IH.out (B := B) (l := part l k E) (m0 := m) (by rw [HPL.out]; omega) (h1.same fun p hp _ => World.cell?_alloc_lt wr _ p (by omega)) (by simp; omega) h2 HPL.out (by rw [HPL.out]; exact h3) (by have := HM.out; omega) (by rw [HPL.out]; omega) (HG.out.part k E) (HWR.out.alloc _) (by omega) (by rw [HPL.out]; omega) (Whole.made wr _ _) (HBX.out.alloc _)).mono ?_
            rintro e w' ⟨he, hg, hw⟩
            exact ⟨by rw [hrc, hra]; exact he, gb_trans (World.grownBy_alloc wr _ _) hg, by rw [hrn]; exact hw⟩
          have HIN : Hid (∀ (A : Option Addr) (c2 : Nat), Reads wr B A (part l k E) → (∀ a, A = some a → a.block ≠ pb) → E - (k + 1) ≤ c2 → c2 ≤ cap →
              Calls Try.prog 23 #[.int .i64 s.a, .func (.func 31) #[] #[.pointer (some ⟨wr.heap.size, 0, none⟩), .pointer (some ⟨w.heap.size, 0, none⟩)]] (wr.alloc (.cells #[.slice A (E - (k + 1)) c2] 22)) fun e w' =>
                Ended rc (if rc = 0 then 0 else ra + s.a) e ∧ wr.grownBy w' (some pb) ∧ Whole w' pb 3 #[.int .i64 (m + rn)]) := by
            intro A c2 h1 h2 h3 h4
            refine (within_part IH.out (B := B) (l := part l k E) (m0 := m) (by rw [HPL.out]; omega) (h1.same fun p hp _ => World.cell?_alloc_lt wr _ p (by omega)) (by simp; omega) h2 HPL.out (by rw [HPL.out]; exact h3) (by have := HM.out; omega) (by rw [HPL.out]; omega) (HG.out.part k E) (HWR.out.alloc _) (by omega) (by rw [HPL.out]; omega) (Whole.made wr _ _) (HBX.out.alloc _) (by omega) (by omega)).mono ?_
            rintro e w' ⟨he, hg, hw⟩
            exact ⟨by rw [hrc, hra]; exact he, gb_trans (World.grownBy_alloc wr _ _) hg, by rw [hrn]; exact hw⟩
          have HCUT := Lib.hid (HRD.out.cut hc (k + 1) (E - (k + 1)))
          have HBL : Hid (∀ a, (if cap = k + 1 then some (⟨b, off, none⟩ : Addr) else some ⟨b, off + (k + 1) * 3, none⟩) = some a → a.block ≠ pb) := by
            intro a ha
            split at ha <;> (simp only [Option.some.injEq] at ha; subst ha; exact hbp)
          have PB7 := Lib.hid pb7
          have HRN := Lib.hid hrn
          have HRC := Lib.hid hrc
          have HRA := Lib.hid hra
          clear hrn hrc hra pb7
          have hmf : ∀ (fn : Fn) (first cap : Array Value) (w : World), (Instr.makeFunc fn first cap).run Try.prog w = .ok (.func fn first cap) w := fun _ _ _ _ => rfl
          by_cases k2 : s.k = 2
          · have T2 : (s.k == 2) = true := by simpa using k2
            have K := Lib.hid k2
            clear k2
            by_cases rc0 : rc = 0
            · have ra0 := PB7.out rc0
              have CS := runS_at2 (E := E) H2.out K0.out K1.out K.out HEE.out
              rw [← HRN.out, ← HRC.out, if_pos rc0] at CS
              have HCS := Lib.hid CS
              clear CS
              subst rc0 ra0
              go_wp2_with (first | (go_at_call 26; refine (end_at (l := l) (n := k + 1) (E := E) HRD.out rfl (by omega) (by omega) HEE.out hc HM.out).mono ?_; rintro e w' ⟨rfl, rfl⟩) | (go_at_call 9; go_must (refine (HOUT.out _ _ HCUT.out HBL.out (by omega) (by omega)).mono ?_; rintro e w2 ⟨rfl, hg2, hw2⟩; have hx2 := (HBX.out.grown hg2 (by simp only [ne_eq, Option.some.injEq]; omega)).cell 0; have hp2 := hw2.cell 0; have hf2 := hw2.frozen 0; have HG2 := Lib.hid hg2; have HW2 := Lib.hid hw2; simp at hx2 hp2; clear hg2 hw2)))
              go_roundw
              case rel =>
                refine ⟨E + 1, by omega, by go_num, m + rn, by omega, ?_, ?_, by simp; omega, gb_trans HGR.out HG2.out, HW2.out⟩
                · have h2 := HS.out; have h1 := HCS.out.1; omega
                · have h1 := HCS.out.2; rw [← h1]; exact HE.out
              case measure => simp [intOf]; omega
            · have CS := runS_at2 (E := E) H2.out K0.out K1.out K.out HEE.out
              rw [← HRN.out, ← HRC.out, if_neg rc0] at CS
              have HCS := Lib.hid CS
              clear CS
              have R0 : (rc == 0) = false := by simpa using rc0
              have hne : ∀ w : World, (binOp BinOp.neq 29 (.agg #[.int .i64 rc, .int .i64 ra]) (.agg #[.int .i64 0, .int .i64 0])).run Try.prog w = .ok (.bool true) w := by
                intro w
                simp [go_sem, R0]
              have RC := Lib.hid rc0
              clear rc0
              go_wp2_with (first | (go_at_call 26; refine (end_at (l := l) (n := k + 1) (E := E) HRD.out rfl (by omega) (by omega) HEE.out hc HM.out).mono ?_; rintro e w' ⟨rfl, rfl⟩) | (go_at_call 9; go_must (refine (HOUT.out _ _ HCUT.out HBL.out (by omega) (by omega)).mono ?_; rintro e w2 ⟨rfl, hg2, hw2⟩; have hx2 := (HBX.out.grown hg2 (by simp only [ne_eq, Option.some.injEq]; omega)).cell 0; have hp2 := hw2.cell 0; have hf2 := hw2.frozen 0; have HG2 := Lib.hid hg2; have HW2 := Lib.hid hw2; simp at hx2 hp2; clear hg2 hw2)))
              go_roundw
              case rel =>
                refine ⟨E + 1, by omega, by go_num, m + rn + 1000, by omega, ?_, ?_, by simp; omega, gb_put (p := ⟨pb, 0, none⟩) (gb_trans HGR.out HG2.out) (.inl rfl) _, by simpa using HW2.out.put 0 (.int .i64 (m + rn + 1000))⟩
                · have h2 := HS.out; have h1 := HCS.out.1; omega
                · have h1 := HCS.out.2; rw [← h1]; exact HE.out
              case measure => simp [intOf]; omega
          · have T2 : (s.k == 2) = false := by simpa using k2
            have K2 := Lib.hid k2
            clear k2
            by_cases k3 : s.k = 3
            · have T3 : (s.k == 3) = true := by simpa using k3
              have K := Lib.hid k3
              clear k3
              have CS := runS_at3 (E := E) H2.out K0.out K1.out K2.out K.out HEE.out
              rw [← HRN.out, ← HRC.out, ← HRA.out] at CS
              have hG := gb_trans (World.grownBy_alloc w (.cells #[.pointer (some ⟨pb, 0, none⟩)] 32) (some pb)) HGR.out
              have HF : Hid (∀ w2, ¬ rc = 0 → wr.grownBy w2 (some pb) → Whole w2 pb 3 #[.int .i64 (m + rn)] → RunsTo l pb m0 w (.panicked (stopP rc (if rc = 0 then 0 else ra + s.a))) w2) := by
                intro w2 rc0 hg2 hw2
                have e1 := CS.2 rc0
                have f1 : m + rn = m0 + (runS l).1 := by have := HS.out; omega
                have f2 : (runS l).2 = (rc, ra + s.a) := by rw [← HE.out]; exact e1.2
                exact ⟨.inr ⟨by rw [f2]; exact rc0, by rw [f2, if_neg rc0]⟩, gb_trans hG hg2, by rw [← f1]; exact hw2⟩
              have HCS := Lib.hid CS
              have c2' : ∀ o, (wr.alloc o).cell? ⟨b, off + k * 3 + 2, none⟩ = some (.int .i64 s.a) := fun o => (World.cell?_alloc_lt wr o _ (by show b < _; omega)).trans c2
              clear CS hG
              go_wp2_with (first | (go_at_call 26; refine (end_at (l := l) (n := k + 1) (E := E) HRD.out rfl (by omega) (by omega) HEE.out hc HM.out).mono ?_; rintro e w' ⟨rfl, rfl⟩) | (go_at_call 23; go_must (refine (HIN.out _ _ HCUT.out HBL.out (by omega) (by omega)).mono ?_; rintro e w2 ⟨he, hg2, hw2⟩; rcases he with ⟨rc0, _, rfl⟩ | ⟨rc0, rfl⟩; rotate_left; exact ⟨rfl, HF.out _ rc0 hg2 hw2⟩; have HCS2 := Lib.hid (HCS.out.1 rc0); have HG2 := Lib.hid hg2; have HW2 := Lib.hid hw2; clear hg2 hw2 rc0)))
              go_roundw
              case rel =>
                refine ⟨E + 1, by omega, by go_num, m + rn, by omega, ?_, ?_, by simp; omega, gb_trans HGR.out HG2.out, HW2.out⟩
                · have h2 := HS.out; have h1 := HCS2.out.1; omega
                · have h1 := HCS2.out.2; rw [← h1]; exact HE.out
              case measure => simp [intOf]; omega
            · have T3 : (s.k == 3) = false := by simpa using k3
              have K := Lib.hid k3
              clear k3
              have HCS := Lib.hid (runS_at4 H2.out K0.out K1.out K2.out K.out)
              go_wp2
              go_roundw
              case rel => exact ⟨k + 1, by omega, by go_num, m, by omega, by have h2 := HS.out; rw [← HCS.out]; exact h2, by rw [← HCS.out]; exact HE.out, by simp; omega, HGR.out, HWR.out⟩
              case measure => simp [intOf]; omega
    · have hge2 : l.length ≤ k := by omega
      clear hlt
      have e1 : l.drop k = [] := List.drop_eq_nil_of_le hge2
      have f1 : m = m0 + (runS l).1 := by have := HS.out; rw [e1] at this; simpa [runS_nil] using this
      have f2 : (runS l).2 = (0, 0) := by rw [← HE.out, e1]; rfl
      have hG := gb_trans (World.grownBy_alloc w (.cells #[.pointer (some ⟨pb, 0, none⟩)] 32) (some pb)) HGR.out
      have F : Hid (RunsTo l pb m0 w (.returned (.tuple #[])) wr) := ⟨.inl ⟨by rw [f2], by rw [f2], rfl⟩, hG, by rw [← f1]; exact HWR.out⟩
      clear e1 f1 f2 hG
      go_wp2
      go_end0
      exact F.out

theorem run_any : ∀ N, RunSpec N := by
  intro N
  induction N with
  | zero => exact fun _ _ _ _ _ _ _ _ h => absurd h (Nat.not_lt_zero _)
  | succ N ih => exact fun A len cap B l w pb m0 hN hr hB hA hl hc hm h40 hg hw h0 h1 => run_step N ih A len cap B l w pb m0 (by omega) hr hB hA hl hc hm h40 hg hw h0 h1
end Go.Proofs.Ytmgihoogdkpjoaa
