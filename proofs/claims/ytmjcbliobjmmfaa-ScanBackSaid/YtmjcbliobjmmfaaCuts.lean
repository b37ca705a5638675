/- types.Cut, Zero; creelref04.Cut; types.EncodeGlobal, creelref04.EncodeGlobal. -/
import Derived.Test.YtmjcbliobjmmfaaLEnc
import Derived.Test.YtmjcbliobjmmfaaHeld
namespace Go.Proofs.Ytmjcbliobjmmfaa
open Go.RowKit

/-- A value, by its type and number. -/
abbrev vv (t n : Int) : Value := .agg #[.int .u8 t, .int .u64 n]
def cutZ (t n : Int) : Int := if t = 127 then n % 4294967296 else n
def rightB (t n : Int) : Bool := decide (valueZ t = 0) && decide (cutZ t n = n)
theorem and_low (n : Int) (h0 : 0 ≤ n) (h1 : n ≤ 18446744073709551615) : bits .and .u64 n 4294967295 = n % 4294967296 := by
  have e1 : (BitVec.ofInt 64 n).toNat = n.toNat := by
    rw [BitVec.toNat_ofInt]
    show (n % 18446744073709551616).toNat = _
    rw [Int.emod_eq_of_lt h0 (by omega)]
  have e2 : (BitVec.ofInt 64 4294967295).toNat = 2 ^ 32 - 1 := by decide
  show IntKind.u64.wrap ((BitVec.ofInt 64 n &&& BitVec.ofInt 64 4294967295).toNat : Nat) = _
  rw [BitVec.toNat_and, e1, e2, Nat.and_two_pow_sub_one_eq_mod]
  simp only [IntKind.wrap, IntKind.bits, IntKind.signed]
  simp
  omega

theorem below_two (w : World) (o o' : Obj) : Below w.heap.size w ((w.alloc o).alloc o') := (below_box w o).alloc (by simp) _
/-- A global's type, by value. -/
abbrev gv (t : Int) (m : Bool) : Value := .agg #[.int .u8 t, .bool m]
theorem two_of {w W W' : World} {u v : Value} {t : TypeId} (h : Boxed w (.cells #[u, v] t) W ∧ W.cell? ⟨w.heap.size, 0, none⟩ = some u ∧ W.cell? ⟨w.heap.size, 1, none⟩ = some v) (hb : Below W.heap.size W W') :
    Boxed w (.cells #[u, v] t) W' ∧ W'.cell? ⟨w.heap.size, 0, none⟩ = some u ∧ W'.cell? ⟨w.heap.size, 1, none⟩ = some v := ⟨h.1.on hb, (h.1.on hb).row 0, (h.1.on hb).row 1⟩
theorem encG_new (w : World) (t : Int) (m : Bool) (h0 : 0 ≤ t) (h1 : t ≤ 255) (B H : Nat) (hH : w.heap.size = H) (hb : B ≤ H) :
    Row (w.alloc (.cells #[.int .u8 t, .int .u8 (if m then 1 else 0)] 5)) B (.slice (some ⟨H, 0, none⟩) 2 2) (encG t m) := by
  have h := Row.made w (encG t m) B H hH hb (by simp [encG])
  rw [nums_encG t m h0 h1] at h
  exact h
theorem encG_str (w : World) (t : Int) (m : Bool) (h0 : 0 ≤ t) (h1 : t ≤ 255) (H : Nat) (hH : w.heap.size = H) :
    ∀ dst, Try.prog.underlying dst = some .string → (convert 32 dst (.slice (some ⟨H, 0, none⟩) 2 2)).run Try.prog (w.alloc (.cells #[.int .u8 t, .int .u8 (if m then 1 else 0)] 5)) = .ok (.string (S (encG t m))) (w.alloc (.cells #[.int .u8 t, .int .u8 (if m then 1 else 0)] 5)) := by
  obtain ⟨A, c, e, hs⟩ := (encG_new w t m h0 h1 H H hH (Nat.le_refl _)).str
  injection e with e1 e2 e3
  subst e1; subst e3
  exact hs
theorem refEncG_any (t : Int) (m : Bool) (w : World) (h0 : 0 ≤ t) (h1 : t ≤ 255) : Calls Try.prog 9 #[gv t m] w fun e w' => e = .returned (.string (S (encG t m))) ∧ Below w.heap.size w w' := by
  cases m
  · have hs := encG_str (w.alloc (.cells #[.int .u8 t, .bool false] 28)) t false h0 h1 (w.heap.size + 1) (by simp)
    simp only [Bool.false_eq_true, if_false] at hs
    go_enter Try.func9, Try.ntmps9
    go_wp2
    go_ret
    exact ⟨rfl, below_two _ _ _⟩
  · have hs := encG_str (w.alloc (.cells #[.int .u8 t, .bool true] 28)) t true h0 h1 (w.heap.size + 1) (by simp)
    simp only [if_true] at hs
    go_enter Try.func9, Try.ntmps9
    go_wp2
    go_ret
    exact ⟨rfl, below_two _ _ _⟩
end Go.Proofs.Ytmjcbliobjmmfaa

