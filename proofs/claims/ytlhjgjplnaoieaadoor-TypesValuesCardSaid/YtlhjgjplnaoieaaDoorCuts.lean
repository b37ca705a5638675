/- types.Cut, Zero; creelref04.Cut; types.EncodeGlobal, creelref04.EncodeGlobal. -/
import Derived.Test.YtlhjgjplnaoieaaDoorLEnc
import Derived.Test.YtlhjgjplnaoieaaDoorHeld
namespace Go.Proofs.YtlhjgjplnaoieaaDoor
open Go.RowKit

/-- A value, by its type and number. -/
abbrev vv (t n : Int) : Value := .agg #[.int .u8 t, .int .u64 n]
def cutZ (t n : Int) : Int := if t = 127 then n % 4294967296 else n
def rightB (t n : Int) : Bool := decide (valueZ t = 0) && decide (cutZ t n = n)
theorem and_low (n : Int) (h0 : 0 ≤ n) (h1 : n ≤ 18446744073709551615) : bits .and .u64 n 4294967295 = n % 4294967296 := by
  have e1 : (BitVec.ofInt 64 n).toNat = n.toNat := by
    rw [BitVec.toNat_ofInt]
    show (n % 18446744073709551616).toNat = _
    rw [Int.emod_eq_of_lt h0 (by omega)]
  have e2 : (BitVec.ofInt 64 4294967295).toNat = 2 ^ 32 - 1 := by decide
  show IntKind.u64.wrap ((BitVec.ofInt 64 n &&& BitVec.ofInt 64 4294967295).toNat : Nat) = _
  rw [BitVec.toNat_and, e1, e2, Nat.and_two_pow_sub_one_eq_mod]
  simp only [IntKind.wrap, IntKind.bits, IntKind.signed]
  simp
  omega

theorem below_two (w : World) (o o' : Obj) : Below w.heap.size w ((w.alloc o).alloc o') := (below_box w o).alloc (by simp) _
theorem cut_any (t n : Int) (w : World) (n0 : 0 ≤ n) (n1 : n ≤ 18446744073709551615) : Calls Tryd.prog 26 #[vv t n] w fun e w' => e = .returned (vv t (cutZ t n)) ∧ Below w.heap.size w w' := by
  by_cases h : t = 127
  · subst h
    have ha := and_low n n0 n1
    have he : cutZ 127 n = n % 4294967296 := rfl
    rw [he]
    clear he
    go_enter Tryd.func26, Tryd.ntmps26
    go_wp2
    exact bodyPost_ret (v := vv 127 (n % 4294967296)) (by simp [results, Tryd.results26, go_sem]) rfl ⟨rfl, below_two _ _ _⟩
  · have hb : (t == 127) = false := by simpa using h
    have he : cutZ t n = n := by unfold cutZ; rw [if_neg h]
    rw [he]
    clear he h
    go_enter Tryd.func26, Tryd.ntmps26
    go_wp2
    exact bodyPost_ret (v := vv t n) (by simp [results, Tryd.results26, go_sem]) rfl ⟨rfl, below_two _ _ _⟩
theorem refCut_any (t n : Int) (w : World) (n0 : 0 ≤ n) (n1 : n ≤ 18446744073709551615) : Calls Tryd.prog 25 #[vv t n] w fun e w' => e = .returned (vv t (cutZ t n)) ∧ Below w.heap.size w w' := by
  by_cases h : t = 127
  · subst h
    have he : cutZ 127 n = n % 4294967296 := rfl
    rw [he]
    clear he
    go_enter Tryd.func25, Tryd.ntmps25
    go_wp2
    exact bodyPost_ret (v := vv 127 (n % 4294967296)) (by simp [results, Tryd.results25, go_sem]) rfl ⟨rfl, below_two _ _ _⟩
  · have hb : (t == 127) = false := by simpa using h
    have he : cutZ t n = n := by unfold cutZ; rw [if_neg h]
    rw [he]
    clear he h
    go_enter Tryd.func25, Tryd.ntmps25
    go_wp2
    exact bodyPost_ret (v := vv t n) (by simp [results, Tryd.results25, go_sem]) rfl ⟨rfl, below_two _ _ _⟩
theorem zero_any (t : Int) (w : World) : Calls Tryd.prog 28 #[.int .u8 t] w fun e w' => e = .returned (vv t 0) ∧ Below w.heap.size w w' := by
  go_enter Tryd.func28, Tryd.ntmps28
  go_wp2
  exact bodyPost_ret (v := vv t 0) (by simp [results, Tryd.results28, go_sem]) rfl ⟨rfl, below_box _ _⟩

/-- A global's type, by value. -/
abbrev gv (t : Int) (m : Bool) : Value := .agg #[.int .u8 t, .bool m]
theorem two_of {w W W' : World} {u v : Value} {t : TypeId} (h : Boxed w (.cells #[u, v] t) W ∧ W.cell? ⟨w.heap.size, 0, none⟩ = some u ∧ W.cell? ⟨w.heap.size, 1, none⟩ = some v) (hb : Below W.heap.size W W') :
    Boxed w (.cells #[u, v] t) W' ∧ W'.cell? ⟨w.heap.size, 0, none⟩ = some u ∧ W'.cell? ⟨w.heap.size, 1, none⟩ = some v := ⟨h.1.on hb, (h.1.on hb).row 0, (h.1.on hb).row 1⟩
theorem encG_new (w : World) (t : Int) (m : Bool) (h0 : 0 ≤ t) (h1 : t ≤ 255) (B H : Nat) (hH : w.heap.size = H) (hb : B ≤ H) :
    Row (w.alloc (.cells #[.int .u8 t, .int .u8 (if m then 1 else 0)] 5)) B (.slice (some ⟨H, 0, none⟩) 2 2) (encG t m) := by
  have h := Row.made w (encG t m) B H hH hb (by simp [encG])
  rw [nums_encG t m h0 h1] at h
  exact h
set_option maxHeartbeats 1000000 in
theorem encG_any (t : Int) (m : Bool) (w : World) (h0 : 0 ≤ t) (h1 : t ≤ 255) : Calls Tryd.prog 31 #[gv t m] w (BytesL (encG t m) w) := by
  have FL := Lib.hid (fun w => flag_any m w)
  obtain ⟨f, hf⟩ : ∃ f : Int, f = if m then 1 else 0 := ⟨_, rfl⟩
  have RA := Lib.hid (fun w' B H hH hb => encG_new w' t m h0 h1 B H hH hb)
  rw [← hf] at RA FL
  clear hf
  go_enter Tryd.func31, Tryd.ntmps31
  go_wp2
  go_region_held3 (fun W => Boxed w (.cells #[.int .u8 t, .bool m] 51) W ∧ W.cell? ⟨w.heap.size, 0, none⟩ = some (.int .u8 t) ∧ W.cell? ⟨w.heap.size, 1, none⟩ = some (.bool m))
    (first | assumption | (exact ⟨Boxed.start _ _, (Boxed.start _ _).row 0, (Boxed.start _ _).row 1⟩) | (exact two_of (by assumption) (below_box _ _)))
    (first | (go_at_call 37; ((with_reducible refine (FL.out _).mono ?_); rintro e w' ⟨rfl, rfl⟩)))
  go_wp2
  go_ret
  exact ⟨_, rfl, Row.drew (RA.out (w.alloc _) w.heap.size (w.heap.size + 1) (by simp) (by omega)), (below_two _ _ _).drew⟩
theorem encG_str (w : World) (t : Int) (m : Bool) (h0 : 0 ≤ t) (h1 : t ≤ 255) (H : Nat) (hH : w.heap.size = H) :
    ∀ dst, Tryd.prog.underlying dst = some .string → (convert 33 dst (.slice (some ⟨H, 0, none⟩) 2 2)).run Tryd.prog (w.alloc (.cells #[.int .u8 t, .int .u8 (if m then 1 else 0)] 5)) = .ok (.string (S (encG t m))) (w.alloc (.cells #[.int .u8 t, .int .u8 (if m then 1 else 0)] 5)) := by
  obtain ⟨A, c, e, hs⟩ := (encG_new w t m h0 h1 H H hH (Nat.le_refl _)).str
  injection e with e1 e2 e3
  subst e1; subst e3
  exact hs
theorem refEncG_any (t : Int) (m : Bool) (w : World) (h0 : 0 ≤ t) (h1 : t ≤ 255) : Calls Tryd.prog 32 #[gv t m] w fun e w' => e = .returned (.string (S (encG t m))) ∧ Below w.heap.size w w' := by
  cases m
  · have hs := encG_str (w.alloc (.cells #[.int .u8 t, .bool false] 51)) t false h0 h1 (w.heap.size + 1) (by simp)
    simp only [Bool.false_eq_true, if_false] at hs
    go_enter Tryd.func32, Tryd.ntmps32
    go_wp2
    go_ret
    exact ⟨rfl, below_two _ _ _⟩
  · have hs := encG_str (w.alloc (.cells #[.int .u8 t, .bool true] 51)) t true h0 h1 (w.heap.size + 1) (by simp)
    simp only [if_true] at hs
    go_enter Tryd.func32, Tryd.ntmps32
    go_wp2
    go_ret
    exact ⟨rfl, below_two _ _ _⟩
end Go.Proofs.YtlhjgjplnaoieaaDoor
