/- The contract of the reference's Run: it answers runS. -/
import Derived.Test.YtmgihoogdkpjoaaEnd
import Derived.Deep.DeepMust
namespace Go.Proofs.Ytmgihoogdkpjoaa
open Go.RowKit

/-- What Run hands back, in whatever order it reads. -/
def RunPost (l : List St) (w : World) (e : Ending) (w' : World) : Prop :=
  e = .returned (.tuple #[.int .i64 (runS l).1, .int .i64 (runS l).2.1, .int .i64 (runS l).2.2]) ∧ ∃ m, w' = w.drewN m

set_option maxRecDepth 100000 in
set_option maxHeartbeats 1000000 in
theorem refRun_step (N : Nat) (ih : ∀ (A : Option Addr) (len cap B : Nat) (l : List St) (w : World), l.length < N → Reads w B A l → l.length = len → l.length ≤ cap → cap ≤ maxLen → l.length ≤ 40 → Good l → Calls Try.prog 8 #[.slice A len cap] w (RunPost l w))
    (A : Option Addr) (len cap B : Nat) (l : List St) (w : World) (hN : l.length ≤ N) (hr : Reads w B A l) (hl : l.length = len) (hc : l.length ≤ cap) (hm : cap ≤ maxLen) (h40 : l.length ≤ 40) (hg : Good l) :
    Calls Try.prog 8 #[.slice A len cap] w (RunPost l w) := by
  subst hl
  have hm2 := hm
  unfold maxLen at hm2
  have HM := Lib.hid hm
  have IH := Lib.hid ih
  have HG := Lib.hid hg
  have HR := Lib.hid hr
  clear hm ih hg hr
  go_enter Try.func8, Try.ntmps8
  go_wp2
  go_loopw [5, 6] (fun v i wr => ∃ (k : Nat) (m : Int) (x : Nat), k ≤ l.length + 1 ∧ i = .int .i64 k ∧ v = .int .i64 m ∧ 0 ≤ m ∧ m + (runS (l.drop k)).1 = (runS l).1 ∧ (runS (l.drop k)).2 = (runS l).2 ∧ wr = w.drewN x) (fun _ i _ => l.length + 1 - (intOf i).toNat)
  case atStart => exact ⟨0, 0, 0, by omega, rfl, rfl, by omega, by simp, by simp, rfl⟩
  case round =>
    obtain ⟨k, m, x, hk, rfl, rfl, hm0, hsum, heq, rfl⟩ := hrel
    have hb := runS_bounds _ l (Nat.le_refl _) HG.out
    have hb' := runS_bounds _ (l.drop k) (Nat.le_refl _) (HG.out.drop k)
    have hm1 : m ≤ 40000 := by omega
    have HS := Lib.hid hsum
    have HE := Lib.hid heq
    clear hsum heq hb hb'
    by_cases hlt : k < l.length
    · obtain ⟨b, off, rfl, hbB, s, hs, c0, c1, c2⟩ := HR.out k hlt
      have H2 := Lib.hid hs
      clear hs
      by_cases k0 : s.k = 0
      · have T0 : (s.k == 0) = true := by simpa using k0
        have K := Lib.hid k0
        clear k0
        go_wp2
        go_roundw
        case rel => exact ⟨k + 1, m + 1, x, by omega, by go_num, rfl, by omega, by have h1 := runS_at0 H2.out K.out; have h2 := HS.out; omega, by have h1 := runS_at0 H2.out K.out; rw [← h1.2]; exact HE.out, rfl⟩
        case measure => simp [intOf]; omega
      · have T0 : (s.k == 0) = false := by simpa using k0
        have K0 := Lib.hid k0
        clear k0
        by_cases k1 : s.k = 1
        · have T1 : (s.k == 1) = true := by simpa using k1
          have K := Lib.hid k1
          clear k1
          have e1 := runS_at1 H2.out K0.out K.out
          have f1 : m = (runS l).1 := by have := HS.out; omega
          have f2 : (runS l).2 = (s.c, s.a) := by rw [← HE.out]; exact e1.2
          have F : Hid (Ending.returned (.tuple #[.int .i64 m, .int .i64 s.c, .int .i64 s.a]) = .returned (.tuple #[.int .i64 (runS l).1, .int .i64 (runS l).2.1, .int .i64 (runS l).2.2])) := by rw [f1, f2]; rfl
          clear e1 f1 f2
          go_wp2
          go_quiet (fail)
          go_wp2
          go_ret3
          exact ⟨F.out, drew_again _ _ _⟩
        · have T1 : (s.k == 1) = false := by simpa using k1
          have K1 := Lib.hid k1
          clear k1
          obtain ⟨E, hE⟩ : ∃ E, E = k + 1 + endFrom (l.drop (k + 1)) 0 := ⟨_, rfl⟩
          obtain ⟨pl, ple1, ple2⟩ := part_length hlt hE
          have HEE := Lib.hid hE
          have HPL := Lib.hid pl
          clear hE pl
          obtain ⟨rn, hrn⟩ : ∃ rn, rn = (runS (part l k E)).1 := ⟨_, rfl⟩
          obtain ⟨rc, hrc⟩ : ∃ rc, rc = (runS (part l k E)).2.1 := ⟨_, rfl⟩
          obtain ⟨ra, hra⟩ : ∃ ra, ra = (runS (part l k E)).2.2 := ⟨_, rfl⟩
          have pb := runS_bounds _ (part l k E) (Nat.le_refl _) (HG.out.part k E)
          rw [HPL.out, ← hrn, ← hrc, ← hra] at pb
          obtain ⟨pb1, pb2, pb3, pb4, pb5, pb6, pb7⟩ := pb
          have CR : ∀ (A : Option Addr) (c2 : Nat), Reads w B A (part l k E) → E - (k + 1) ≤ c2 → c2 ≤ cap → Calls Try.prog 8 #[.slice A (E - (k + 1)) c2] (w.drewN x) fun e w' => e = .returned (.tuple #[.int .i64 rn, .int .i64 rc, .int .i64 ra]) ∧ ∃ y, w' = w.drewN y := by
            intro A c2 h1 h2 h3
            refine (IH.out A (E - (k + 1)) c2 B (part l k E) (w.drewN x) (by rw [HPL.out]; omega) (h1.drewN x) HPL.out (by rw [HPL.out]; exact h2) (by have := HM.out; omega) (by rw [HPL.out]; omega) (HG.out.part k E)).mono ?_
            rintro e w' ⟨he, y, rfl⟩
            exact ⟨by rw [hrn, hrc, hra]; exact he, drew_again _ _ _⟩
          have HCR := Lib.hid CR
          have HCUT := Lib.hid (HR.out.cut hc (k + 1) (E - (k + 1)))
          clear CR
          have PB7 := Lib.hid pb7
          have HRN := Lib.hid hrn
          have HRC := Lib.hid hrc
          have HRA := Lib.hid hra
          clear hrn hrc hra pb7
          have sga := HG.out s (List.mem_of_getElem? H2.out)
          have sg1 := sga.2.2.1
          have sg2 := sga.2.2.2
          clear sga
          by_cases k2 : s.k = 2
          · have T2 : (s.k == 2) = true := by simpa using k2
            have K := Lib.hid k2
            clear k2
            have T3 : (s.k == 3) = false := by have := K.out; simp; omega
            by_cases rc0 : rc = 0
            · have R0 : (rc == 0) = true := by simpa using rc0
              have RC := Lib.hid rc0
              clear rc0
              have CS := runS_at2 (E := E) H2.out K0.out K1.out K.out HEE.out
              rw [← HRN.out, ← HRC.out, if_pos RC.out] at CS
              have HCS := Lib.hid CS
              clear CS
              go_wp2_with (first | (go_at_call 26; refine (end_at (l := l) (n := k + 1) (E := E) (HR.out.drewN _) rfl (by omega) (by omega) HEE.out hc HM.out).mono ?_; rintro e w' ⟨rfl, rfl⟩) | (go_at_call 8; go_must (refine (HCR.out _ _ HCUT.out (by omega) (by omega)).mono ?_; rintro e w' ⟨rfl, y, rfl⟩)))
              go_roundw
              case rel => exact ⟨E + 1, m + rn, y, by omega, by go_num, rfl, by omega, by have h2 := HS.out; have h1 := HCS.out.1; omega, by have h1 := HCS.out.2; rw [← h1]; exact HE.out, rfl⟩
              case measure => simp [intOf]; omega
            · have R0 : (rc == 0) = false := by simpa using rc0
              have RC := Lib.hid rc0
              clear rc0
              have CS := runS_at2 (E := E) H2.out K0.out K1.out K.out HEE.out
              rw [← HRN.out, ← HRC.out, if_neg RC.out] at CS
              have HCS := Lib.hid CS
              clear CS
              go_wp2_with (first | (go_at_call 26; refine (end_at (l := l) (n := k + 1) (E := E) (HR.out.drewN _) rfl (by omega) (by omega) HEE.out hc HM.out).mono ?_; rintro e w' ⟨rfl, rfl⟩) | (go_at_call 8; go_must (refine (HCR.out _ _ HCUT.out (by omega) (by omega)).mono ?_; rintro e w' ⟨rfl, y, rfl⟩)))
              go_roundw
              case rel => exact ⟨E + 1, m + rn + 1000, y, by omega, by go_num, by go_num, by omega, by have h2 := HS.out; have h1 := HCS.out.1; omega, by have h1 := HCS.out.2; rw [← h1]; exact HE.out, rfl⟩
              case measure => simp [intOf]; omega
          · have T2 : (s.k == 2) = false := by simpa using k2
            have K2 := Lib.hid k2
            clear k2
            by_cases k3 : s.k = 3
            · have T3 : (s.k == 3) = true := by simpa using k3
              have K := Lib.hid k3
              clear k3
              have CS := runS_at3 (E := E) H2.out K0.out K1.out K2.out K.out HEE.out
              rw [← HRN.out, ← HRC.out, ← HRA.out] at CS
              by_cases rc0 : rc = 0
              · have R0 : (rc == 0) = true := by simpa using rc0
                have HCS := Lib.hid (CS.1 rc0)
                clear rc0 CS
                go_wp2_with (first | (go_at_call 26; refine (end_at (l := l) (n := k + 1) (E := E) (HR.out.drewN _) rfl (by omega) (by omega) HEE.out hc HM.out).mono ?_; rintro e w' ⟨rfl, rfl⟩) | (go_at_call 8; go_must (refine (HCR.out _ _ HCUT.out (by omega) (by omega)).mono ?_; rintro e w' ⟨rfl, y, rfl⟩)))
                go_roundw
                case rel => exact ⟨E + 1, m + rn, y, by omega, by go_num, rfl, by omega, by have h2 := HS.out; have h1 := HCS.out.1; omega, by have h1 := HCS.out.2; rw [← h1]; exact HE.out, rfl⟩
                case measure => simp [intOf]; omega
              · have R0 : (rc == 0) = false := by simpa using rc0
                have R1 : (rc != 0) = true := by simpa using rc0
                have e1 := CS.2 rc0
                have f1 : m + rn = (runS l).1 := by have := HS.out; omega
                have f2 : (runS l).2 = (rc, ra + s.a) := by rw [← HE.out]; exact e1.2
                have F : Hid (Ending.returned (.tuple #[.int .i64 (m + rn), .int .i64 rc, .int .i64 (ra + s.a)]) = .returned (.tuple #[.int .i64 (runS l).1, .int .i64 (runS l).2.1, .int .i64 (runS l).2.2])) := by rw [f1, f2]; rfl
                clear rc0 CS e1 f1 f2
                go_wp2_with (first | (go_at_call 26; refine (end_at (l := l) (n := k + 1) (E := E) (HR.out.drewN _) rfl (by omega) (by omega) HEE.out hc HM.out).mono ?_; rintro e w' ⟨rfl, rfl⟩) | (go_at_call 8; go_must (refine (HCR.out _ _ HCUT.out (by omega) (by omega)).mono ?_; rintro e w' ⟨rfl, y, rfl⟩)))
                all_goals
                  go_quiet (fail)
                  go_wp2
                  go_ret3
                  exact ⟨F.out, drew_again _ _ _⟩
            · have T3 : (s.k == 3) = false := by simpa using k3
              have K := Lib.hid k3
              clear k3
              have HCS := Lib.hid (runS_at4 H2.out K0.out K1.out K2.out K.out)
              go_wp2
              go_roundw
              case rel => exact ⟨k + 1, m, x, by omega, by go_num, rfl, by omega, by have h2 := HS.out; rw [← HCS.out]; exact h2, by rw [← HCS.out]; exact HE.out, rfl⟩
              case measure => simp [intOf]; omega
    · have hge : l.length ≤ k := by omega
      clear hlt
      have e1 : l.drop k = [] := List.drop_eq_nil_of_le hge
      have f1 : m = (runS l).1 := by have := HS.out; rw [e1] at this; simpa [runS_nil] using this
      have f2 : (runS l).2 = (0, 0) := by rw [← HE.out, e1]; rfl
      have F : Hid (Ending.returned (.tuple #[.int .i64 m, .int .i64 0, .int .i64 0]) = .returned (.tuple #[.int .i64 (runS l).1, .int .i64 (runS l).2.1, .int .i64 (runS l).2.2])) := by rw [f1, f2]; rfl
      clear e1 f1 f2
      go_wp2
      go_ret3
      exact ⟨F.out, _, rfl⟩

theorem refRun_any : ∀ (N : Nat) (A : Option Addr) (len cap B : Nat) (l : List St) (w : World), l.length ≤ N → Reads w B A l → l.length = len → l.length ≤ cap → cap ≤ maxLen → l.length ≤ 40 → Good l → Calls Try.prog 8 #[.slice A len cap] w (RunPost l w) := by
  intro N
  induction N with
  | zero => exact fun A len cap B l w hN hr hl hc hm h40 hg => refRun_step 0 (fun _ _ _ _ _ _ h => absurd h (Nat.not_lt_zero _)) A len cap B l w hN hr hl hc hm h40 hg
  | succ N ih => exact fun A len cap B l w hN hr hl hc hm h40 hg => refRun_step (N + 1) (fun A len cap B l w h => ih A len cap B l w (by omega)) A len cap B l w hN hr hl hc hm h40 hg
end Go.Proofs.Ytmgihoogdkpjoaa
