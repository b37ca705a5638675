/- types.number, EncodeFunc, creelref04.Count, EncodeFunc. -/
import Derived.Test.YtmjcbliobjmmfaaRText
import Derived.Test.YtmjcbliobjmmfaaLebs
namespace Go.Proofs.Ytmjcbliobjmmfaa
open Go.RowKit

theorem count_any (n : Int) (w : World) (h0 : 0 ≤ n) (h1 : n ≤ 9223372036854775807) : Calls Try.prog 24 #[.int .i64 n] w fun e w' => e = .returned (.string (S (lebL n))) ∧ Below w.heap.size w w' := by
  have HU := Lib.hid (fun w => refUintL n w h0 (by omega))
  have hlen := lebL_len n (by omega)
  go_enter Try.func24, Try.ntmps24
  go_wp2_with (go_at_call 38; go_must ((with_reducible refine (HU.out _).mono ?_); intro e w1 h; obtain ⟨A, c, rfl, hl, hb⟩ := h; have hstr := str_lies' hl (by omega) c; have HB := Lib.hid hb; clear hl hb))
  go_ret
  exact ⟨rfl, HB.out⟩

/-- A function's type's bytes. -/
noncomputable def encL (p r : List UInt8) : List UInt8 := [96] ++ lebL p.length ++ p ++ lebL r.length ++ r

end Go.Proofs.Ytmjcbliobjmmfaa

