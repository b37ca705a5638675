/- creelref04.EncodeFunc. -/
import Derived.Test.YtmjcbliobjmmfaaEnc
namespace Go.Proofs.Ytmjcbliobjmmfaa
open Go.RowKit

theorem cat_enc (x p y r : List UInt8) : Ending.returned (.string ({ data := #[96] } ++ S x ++ S p ++ S y ++ S r)) = .returned (.string (S ([96] ++ x ++ p ++ y ++ r))) := by
  rw [show ({ data := #[96] } : ByteArray) = S [96] from rfl, S_append, S_append, S_append, S_append]

set_option maxHeartbeats 1000000 in
theorem refEnc_any (p r : List UInt8) (w : World) (hp : p.length ≤ 100000) (hr : r.length ≤ 100000) : Calls Try.prog 7 #[ftV p r] w fun e w' => e = .returned (.string (S (encL p r))) ∧ Below w.heap.size w w' := by
  unfold ftV
  have sp := S_size p
  have sr := S_size r
  have N1 := Lib.hid (fun w => count_any ((S p).size : Int) w (by omega) (by omega))
  have N2 := Lib.hid (fun w => count_any ((S r).size : Int) w (by omega) (by omega))
  have m1 := lebL_len ((S p).size : Int) (by omega)
  have m2 := lebL_len ((S r).size : Int) (by omega)
  have he : encL p r = [96] ++ lebL ((S p).size : Int) ++ p ++ lebL ((S r).size : Int) ++ r := by unfold encL; rw [sp, sr]
  generalize lebL ((S p).size : Int) = x at *
  generalize lebL ((S r).size : Int) = y at *
  have HE := Lib.hid he
  have sx := S_size x
  have sy := S_size y
  have q1 : ¬ 9223372036854775807 < 1 + (S x).size := by omega
  have q2 : ¬ 9223372036854775807 < 1 + (S x).size + (S p).size := by omega
  have q3 : ¬ 9223372036854775807 < 1 + (S x).size + (S p).size + (S y).size := by omega
  have q4 : ¬ 9223372036854775807 < 1 + (S x).size + (S p).size + (S y).size + (S r).size := by omega
  clear he sp sr sx sy
  go_enter Try.func7, Try.ntmps7
  go_wp2
  go_region_held3 (fun w' => Boxed w (.cells #[.string (S p), .string (S r)] 23) w' ∧ w'.cell? ⟨w.heap.size, 0, none⟩ = some (.string (S p)) ∧ w'.cell? ⟨w.heap.size, 1, none⟩ = some (.string (S r))) (first | assumption | (exact ⟨Boxed.start _ _, (Boxed.start _ _).row 0, (Boxed.start _ _).row 1⟩))
    (first | (go_at_call 24; first | ((with_reducible refine (held_two N1.out ‹_›).mono ?_); rintro e w1 ⟨rfl, hk1⟩) | ((with_reducible refine (held_two N2.out ‹_›).mono ?_); rintro e w2 ⟨rfl, hk2⟩)))
  go_wp2
  go_ret
  exact ⟨by rw [HE.out]; exact cat_enc x p y r, hk2.1.end⟩
end Go.Proofs.Ytmjcbliobjmmfaa

