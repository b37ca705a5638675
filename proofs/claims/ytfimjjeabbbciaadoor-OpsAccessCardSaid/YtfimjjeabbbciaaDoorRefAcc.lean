/- The reference's Access. -/
import Derived.Test.YtfimjjeabbbciaaDoorRefs2
import Derived.Test.YtfimjjeabbbciaaDoorFind
namespace Go.Proofs.YtfimjjeabbbciaaDoor
open Go.RowKit

/-- What Access hands back. -/
def refAccV (o : Option (Nat × Bool × Bool × Bool)) : Value := match o with
  | some (n, l, w, g) => .tuple #[.int .i64 (n : Int), .bool l, .bool w, .bool g, .bool true]
  | none => .tuple #[.int .i64 0, .bool false, .bool false, .bool false, .bool false]
def AccessPost (o : Option (Nat × Bool × Bool × Bool)) (w : World) (e : Ending) (w' : World) : Prop := e = .returned (refAccV o) ∧ Below w.heap.size w w'
/-- The names of accesses are at least three bytes long, and short. -/
theorem acc_bd : ∀ n, n < 256 → (match refR n with | some r => decide (r.imm = 8 → 3 ≤ r.name.length ∧ r.name.length ≤ 100 ∧ r.takes.length ≤ 2) | none => true) = true := by decide +kernel
theorem results_tmp5 {P : Program} {fn : Func} {t u v x y : Tmp} (h : fn.results = #[.tmp t, .tmp u, .tmp v, .tmp x, .tmp y]) (tmps : Array Value) (w : World) :
    (results fn tmps).run P w = .ok (.tuple #[tmps.getD t undef, tmps.getD u undef, tmps.getD v undef, tmps.getD x undef, tmps.getD y undef]) w := by
  simp [results, h]
set_option maxRecDepth 100000 in
theorem refAcc_none (n : Nat) (w : World) (hn : n ≤ 255) (h : refR n = none) : Calls Tryd.prog 16 #[.int .i64 n] w (AccessPost (refAcc n) w) := by
  have HE := Lib.hid (show refAcc n = none by unfold refAcc; rw [h])
  have HR := Lib.hid (fun W => by have := ref_any n W hn; rw [h] at this; exact this)
  clear h
  go_enter Tryd.func16, Tryd.ntmps16
  go_wp2_with (go_at_call 7; go_must (refine (HR.out _).mono ?_; rintro e w2 ⟨rfl, hb2⟩; have HB2 := Lib.hid hb2; have hz2 := hb2.size; clear hb2))
  refine bodyPost_ret (results_tmp5 rfl _ _) rfl ?_
  exact ⟨by rw [HE.out]; rfl, HB2.out.alloc hz2 _⟩
set_option maxRecDepth 100000 in
theorem refAcc_other (n : Nat) (w : World) (hn : n ≤ 255) (r : RowR) (h : refR n = some r) (hi : r.imm ≠ 8) : Calls Tryd.prog 16 #[.int .i64 n] w (AccessPost (refAcc n) w) := by
  have HE := Lib.hid (show refAcc n = none by unfold refAcc; rw [h]; exact if_neg hi)
  have HR := Lib.hid (fun W => by have := ref_any n W hn; rw [h] at this; exact this)
  have h8 : ((r.imm : Int) != 8) = true := by simp; omega
  clear h hi
  go_enter Tryd.func16, Tryd.ntmps16
  go_wp2_with (go_at_call 7; go_must (refine (HR.out _).mono ?_; rintro e w2 ⟨rfl, hb2⟩; have HB2 := Lib.hid hb2; have hz2 := hb2.size; clear hb2))
  refine bodyPost_ret (results_tmp5 rfl _ _) rfl ?_
  exact ⟨by rw [HE.out]; rfl, HB2.out.alloc hz2 _⟩
theorem ext_two (s : List UInt8) (k : Nat) : ((S s).extract k (k + 2)).toList = (s.drop k).take 2 := by
  rw [S_extract, S_toList, show k + 2 - k = 2 by omega]
theorem long_eq (s : List UInt8) : accLong s = (((S s).extract 0 3).toList == [105, 54, 52]) := by
  rw [S_extract, S_toList]
  rfl
theorem step_lo {s : List UInt8} {m k : Nat} (h : k < 3) : accStep s m k = m := if_pos h
theorem step_8 {s : List UInt8} {m k : Nat} (h : ¬ k < 3) (hk : k < s.length) (hc : s[k] = 56) : accStep s m k = 1 := by
  unfold accStep
  rw [if_neg h, if_pos (by rw [List.getD, List.getElem?_eq_getElem hk]; exact hc)]
theorem step_16 {s : List UInt8} {m k : Nat} (h : ¬ k < 3) (hk : k < s.length) (hc : s[k] ≠ 56) (h1 : (((S s).extract k (k + 2)).toList == [49, 54]) = true) : accStep s m k = 2 := by
  rw [ext_two] at h1
  unfold accStep
  rw [if_neg h, if_neg (by rw [List.getD, List.getElem?_eq_getElem hk]; exact hc), if_pos (by simpa using h1)]
theorem step_32 {s : List UInt8} {m k : Nat} (h : ¬ k < 3) (hk : k < s.length) (hc : s[k] ≠ 56) (h1 : (((S s).extract k (k + 2)).toList == [49, 54]) = false) (h2 : (((S s).extract k (k + 2)).toList == [51, 50]) = true) : accStep s m k = 4 := by
  rw [ext_two] at h1 h2
  unfold accStep
  rw [if_neg h, if_neg (by rw [List.getD, List.getElem?_eq_getElem hk]; exact hc), if_neg (by simpa using h1), if_pos (by simpa using h2)]
theorem step_no {s : List UInt8} {m k : Nat} (h : ¬ k < 3) (hk : k < s.length) (hc : s[k] ≠ 56) (h1 : (((S s).extract k (k + 2)).toList == [49, 54]) = false) (h2 : (((S s).extract k (k + 2)).toList == [51, 50]) = false) : accStep s m k = m := by
  rw [ext_two] at h1 h2
  unfold accStep
  rw [if_neg h, if_neg (by rw [List.getD, List.getElem?_eq_getElem hk]; exact hc), if_neg (by simpa using h1), if_neg (by simpa using h2)]
/-- What the loop has found behind k rounds. -/
def accTo (s : List UInt8) (k : Nat) : Nat := (List.range k).foldl (accStep s) (if accLong s = true then 8 else 4)
theorem accTo_succ (s : List UInt8) (k : Nat) : accTo s (k + 1) = accStep s (accTo s k) k := by
  unfold accTo
  rw [List.range_succ, List.foldl_append]
  rfl
theorem byte_is {s : List UInt8} {k : Nat} (h : k < (S s).size) (h' : k < s.length) (c : UInt8) : ((((S s)[k]'h).toNat : Int) == (c.toNat : Int)) = (s[k] == c) := by
  rw [S_get s k h, Bool.eq_iff_iff]
  simp only [beq_iff_eq]
  constructor
  · intro e
    exact u8_ext (by exact_mod_cast e)
  · intro e; rw [e]
theorem acc_ret {n : Nat} {r : RowR} {l : Bool} {b : Nat} (h : refAcc n = some (accBytes r.name, accLong r.name, decide (r.takes.length = 2), r.name.drop (r.name.length - 2) == [95, 115])) (hl : accLong r.name = l) (hb : accBytes r.name = b) :
    Ending.returned (.tuple #[.int .i64 (b : Int), .bool l, .bool (((S r.takes).size : Int) == 2), .bool (((S r.name).extract ((S r.name).size - 2) (S r.name).size).toList == [95, 115]), .bool true]) = .returned (refAccV (refAcc n)) := by
  rw [h, hl, hb]
  have e1 : ((((S r.takes).size : Nat) : Int) == 2) = decide (r.takes.length = 2) := by
    rw [S_size, Bool.eq_iff_iff]
    simp only [beq_iff_eq, decide_eq_true_eq]
    omega
  have e2 : ((S r.name).extract ((S r.name).size - 2) (S r.name).size).toList = r.name.drop (r.name.length - 2) := by
    rw [S_extract, S_toList, S_size, List.take_of_length_le (by simp)]
  rw [e1, e2]
  rfl
theorem accBytes_8 {s : List UInt8} (h : (S s).size - 1 < s.length) (hc : s[(S s).size - 1] = 56) : accBytes s = 1 := by
  unfold accBytes
  refine if_pos ?_
  rw [List.getD, List.getElem?_eq_getElem (by rw [S_size] at h; exact h)]
  simp only [S_size] at hc
  exact hc
theorem accBytes_no {s : List UInt8} {k m : Nat} (h : (S s).size - 1 < s.length) (hc : s[(S s).size - 1] ≠ 56) (hk : k = (S s).size - 1) (hm : m = accTo s k) : accBytes s = m := by
  unfold accBytes
  rw [hm, hk, S_size]
  refine if_neg ?_
  rw [List.getD, List.getElem?_eq_getElem (by rw [S_size] at h; exact h)]
  simp only [S_size] at hc
  exact hc
set_option maxHeartbeats 1000000 in
set_option maxRecDepth 100000 in
theorem refAcc_yes (n : Nat) (w : World) (hn : n ≤ 255) (r : RowR) (h : refR n = some r) (hi : r.imm = 8) (h3 : 3 ≤ r.name.length) (h4 : r.name.length ≤ 100) (h5 : r.takes.length ≤ 2) : Calls Tryd.prog 16 #[.int .i64 n] w (AccessPost (refAcc n) w) := by
  have HE := Lib.hid (show refAcc n = some (accBytes r.name, accLong r.name, decide (r.takes.length = 2), r.name.drop (r.name.length - 2) == [95, 115]) by unfold refAcc; rw [h]; exact if_pos hi)
  have HR := Lib.hid (fun W => by have := ref_any n W hn; rw [h] at this; exact this)
  have h8 : ((r.imm : Int) != 8) = false := by simp; omega
  have z1 : (S r.name).size ≤ 100 := by rw [S_size]; exact h4
  have z2 : 3 ≤ (S r.name).size := by rw [S_size]; exact h3
  have z3 : (S r.takes).size ≤ 2 := by rw [S_size]; exact h5
  have HS := Lib.hid (S_size r.name)
  have HT := Lib.hid (S_size r.takes)
  clear h hi h3 h4 h5
  rcases Bool.eq_false_or_eq_true (((S r.name).extract 0 3).toList == [105, 54, 52]) with hL | hL
  all_goals
    have HL := Lib.hid ((long_eq r.name).trans hL)
    go_enter Tryd.func16, Tryd.ntmps16
    go_wp2_with (go_at_call 7; go_must (refine (HR.out _).mono ?_; rintro e w2 ⟨rfl, hb2⟩; have HB2 := Lib.hid hb2; have hz2 := hb2.size; clear hb2))
    go_loop [10, 11] (fun nv i => ∃ k m : Nat, k + 1 ≤ (S r.name).size ∧ i = .int .i64 k ∧ nv = .int .i64 m ∧ Hid (m = accTo r.name k)) (fun _ i => (S r.name).size - (intOf i).toNat)
    case atStart => first | exact ⟨0, 8, by omega, rfl, rfl, Lib.hid (by unfold accTo; rw [HL.out]; rfl)⟩ | exact ⟨0, 4, by omega, rfl, rfl, Lib.hid (by unfold accTo; rw [HL.out]; rfl)⟩
    case round =>
      obtain ⟨k, m, hk, rfl, rfl, HM⟩ := hrel
      by_cases hlt : k + 1 < (S r.name).size
      · have hlt0 : k < (S r.name).size := by omega
        have hl : k < r.name.length := by rw [← HS.out]; exact hlt0
        by_cases h3 : k < 3
        · go_wp2
          go_round
          case rel => exact ⟨k + 1, m, by omega, by go_num, rfl, Lib.hid (by rw [accTo_succ, step_lo h3, HM.out])⟩
          case measure => simp [intOf]; omega
        · have hq := byte_is hlt0 hl 56
          by_cases hc : r.name[k] = 56
          · have hq1 : ((((S r.name)[k]'hlt0).toNat : Int) == 56) = true := hq.trans (by rw [hc]; rfl)
            have HC := Lib.hid hc
            clear hc hq
            go_wp2
            go_round
            case rel => exact ⟨k + 1, 1, by omega, by go_num, rfl, Lib.hid (by rw [accTo_succ, step_8 h3 hl HC.out])⟩
            case measure => simp [intOf]; omega
          · have hq1 : ((((S r.name)[k]'hlt0).toNat : Int) == 56) = false := hq.trans (by simpa using hc)
            have HC := Lib.hid hc
            clear hc hq
            have hsl : ∀ wx, (Instr.slice 9 (.string (S r.name)) (some (.int .i64 (k : Int))) (some (.int .i64 ((k : Int) + 2))) none).run Tryd.prog wx = .ok (.string ((S r.name).extract k (k + 2))) wx := fun wx => by
              have := run_slice_string (P := Tryd.prog) wx 9 (S r.name) .i64 .i64 (k : Int) ((k : Int) + 2) Tryd.underlying9 (by omega) (by omega) (by omega)
              rwa [show ((k : Int)).toNat = k by omega, show ((k : Int) + 2).toNat = k + 2 by omega] at this
            rcases Bool.eq_false_or_eq_true (((S r.name).extract k (k + 2)).toList == [49, 54]) with t1 | t1
            · have HT1 := Lib.hid t1
              go_wp2
              go_round
              case rel => exact ⟨k + 1, 2, by omega, by go_num, rfl, Lib.hid (by rw [accTo_succ, step_16 h3 hl HC.out HT1.out])⟩
              case measure => simp [intOf]; omega
            · have HT1 := Lib.hid t1
              rcases Bool.eq_false_or_eq_true (((S r.name).extract k (k + 2)).toList == [51, 50]) with t2 | t2
              · have HT2 := Lib.hid t2
                go_wp2
                go_round
                case rel => exact ⟨k + 1, 4, by omega, by go_num, rfl, Lib.hid (by rw [accTo_succ, step_32 h3 hl HC.out HT1.out HT2.out])⟩
                case measure => simp [intOf]; omega
              · have HT2 := Lib.hid t2
                go_wp2
                go_round
                case rel => exact ⟨k + 1, m, by omega, by go_num, rfl, Lib.hid (by rw [accTo_succ, step_no h3 hl HC.out HT1.out HT2.out, HM.out])⟩
                case measure => simp [intOf]; omega
      · have HK := Lib.hid (show k = (S r.name).size - 1 by omega)
        have hlast : (S r.name).size - 1 < (S r.name).size := by omega
        have hl : (S r.name).size - 1 < r.name.length := by rw [← HS.out]; exact hlast
        have hq := byte_is hlast hl 56
        have hw1 : IntKind.i64.wrap (((S r.name).size : Int) - 2) = ((S r.name).size : Int) - 2 := IntWalk.i64_in _ (by omega)
        have b1 : 0 ≤ ((S r.name).size : Int) - 2 := by omega
        have b2 : ((S r.name).size : Int) - 2 ≤ ((S r.name).size : Int) := by omega
        by_cases hc : r.name[(S r.name).size - 1]'hl = 56
        · have hq1 : ((((S r.name)[(S r.name).size - 1]'hlast).toNat : Int) == 56) = true := hq.trans (by rw [hc]; rfl)
          have HC := Lib.hid hc
          clear hc hq
          go_wp2
          go_quiet (fail)
          go_wp2
          refine bodyPost_ret (results_tmp5 rfl _ _) rfl ?_
          exact ⟨acc_ret (b := 1) HE.out HL.out (accBytes_8 hl HC.out), below_drewN (HB2.out.alloc hz2 _) _⟩
        · have hq1 : ((((S r.name)[(S r.name).size - 1]'hlast).toNat : Int) == 56) = false := hq.trans (by simpa using hc)
          have HC := Lib.hid hc
          clear hc hq
          go_wp2
          go_quiet (fail)
          go_wp2
          refine bodyPost_ret (results_tmp5 rfl _ _) rfl ?_
          exact ⟨acc_ret HE.out HL.out (accBytes_no hl HC.out HK.out HM.out), below_drewN (HB2.out.alloc hz2 _) _⟩
theorem refAccess_any (n : Nat) (w : World) (hn : n ≤ 255) : Calls Tryd.prog 16 #[.int .i64 n] w (AccessPost (refAcc n) w) := by
  cases h : refR n with
  | none => exact refAcc_none n w hn h
  | some r =>
    by_cases hi : r.imm = 8
    · have := acc_bd n (by omega)
      rw [h] at this
      have := of_decide_eq_true this hi
      exact refAcc_yes n w hn r h hi this.1 this.2.1 this.2.2
    · exact refAcc_other n w hn r h hi
end Go.Proofs.YtfimjjeabbbciaaDoor

