/- types.number, EncodeFunc, creelref04.Count, EncodeFunc. -/
import Derived.Test.YtlhjgjplnaoieaaDoorRText
import Derived.Test.YtlhjgjplnaoieaaDoorLebs
namespace Go.Proofs.YtlhjgjplnaoieaaDoor
open Go.RowKit

theorem number_any (n : Int) (w : World) (h0 : 0 ≤ n) (h1 : n ≤ 9223372036854775807) : Calls Tryd.prog 33 #[.int .i64 n] w (Leb (lebL n) w) := by
  have HU := Lib.hid (fun w => uintL n w h0 (by omega))
  go_enter Tryd.func33, Tryd.ntmps33
  go_wp2_with (go_at_call 38; go_must ((with_reducible refine (HU.out _).mono ?_); intro e w1 h; have H := Lib.hid h; obtain ⟨A, c, rfl, -⟩ := h))
  go_ret
  exact H.out
theorem count_any (n : Int) (w : World) (h0 : 0 ≤ n) (h1 : n ≤ 9223372036854775807) : Calls Tryd.prog 34 #[.int .i64 n] w fun e w' => e = .returned (.string (S (lebL n))) ∧ Below w.heap.size w w' := by
  have HU := Lib.hid (fun w => refUintL n w h0 (by omega))
  have hlen := lebL_len n (by omega)
  go_enter Tryd.func34, Tryd.ntmps34
  go_wp2_with (go_at_call 39; go_must ((with_reducible refine (HU.out _).mono ?_); intro e w1 h; obtain ⟨A, c, rfl, hl, hb⟩ := h; have hstr := str_lies' hl (by omega) c; have HB := Lib.hid hb; clear hl hb))
  go_ret
  exact ⟨rfl, HB.out⟩

/-- A function's type's bytes. -/
noncomputable def encL (p r : List UInt8) : List UInt8 := [96] ++ lebL p.length ++ p ++ lebL r.length ++ r

set_option maxHeartbeats 1000000 in
theorem enc_any (p r : List UInt8) (w : World) (hp : p.length ≤ 100000) (hr : r.length ≤ 100000) : Calls Tryd.prog 14 #[ftV p r] w (BytesL (encL p r) w) := by
  unfold ftV
  have sp := S_size p
  have sr := S_size r
  have N1 := Lib.hid (fun w => number_any ((S p).size : Int) w (by omega) (by omega))
  have N2 := Lib.hid (fun w => number_any ((S r).size : Int) w (by omega) (by omega))
  have m1 := lebL_len ((S p).size : Int) (by omega)
  have m2 := lebL_len ((S r).size : Int) (by omega)
  have he : encL p r = [96] ++ lebL ((S p).size : Int) ++ p ++ lebL ((S r).size : Int) ++ r := by unfold encL; rw [sp, sr]
  generalize lebL ((S p).size : Int) = x at *
  generalize lebL ((S r).size : Int) = y at *
  have HE := Lib.hid he
  have HSP := Lib.hid sp
  have HSR := Lib.hid sr
  clear he sp sr
  have K0 : Boxed w (.cells #[.string (S p), .string (S r)] 23) (w.alloc (.cells #[.string (S p), .string (S r)] 23)) := Below.refl _ _
  have HK0 := Lib.hid (Below.alloc K0 (by simp) (.cells #[.int .u8 96] 5))
  have HR0 := Lib.hid (Row.made (w.alloc (.cells #[.string (S p), .string (S r)] 23)) [96] (w.heap.size + 1) (w.heap.size + 1) (by simp) (by simp) (by simp))
  clear K0
  go_enter Tryd.func14, Tryd.ntmps14
  go_wp2_with (first
    | (at_builtin; (refine row_str rfl _ _ rfl (w.heap.size + 1) _ _ rfl HR5.out r rfl (by simp; omega) (by have := HK5.out.size; simp at this; omega) ?_; intro v6 w6 hr6 hb6; have HK6 := Lib.hid (Below.trans HK5.out hb6); have HR6 := Lib.hid hr6; clear hr6 hb6))
    | (at_builtin; (refine row_lies rfl _ _ rfl (w.heap.size + 1) _ _ rfl (HR3.out.later HB4.out) _ _ _ _ y rfl rfl HL4.out (by omega) (by simp; omega) (by have := HK4.out.size; simp at this; omega) ?_; intro v5 w5 hr5 hb5; have HK5 := Lib.hid (Below.trans HK4.out hb5); have c5 := Boxed.row HK5.out 1; have HR5 := Lib.hid hr5; clear hr5 hb5))
    | (go_at_call 33; ((with_reducible refine (N2.out _).mono ?_); intro e w4 h; obtain ⟨A4, k4, rfl, hl4, hb4⟩ := h; have HK4 := Lib.hid (Boxed.on HK3.out hb4); have c4 := Boxed.row HK4.out 1; have HL4 := Lib.hid hl4; have HB4 := Lib.hid hb4; clear hl4 hb4))
    | (at_builtin; (refine row_str rfl _ _ rfl (w.heap.size + 1) _ _ rfl HR2.out p rfl (by simp; omega) (by have := HK2.out.size; simp at this; omega) ?_; intro v3 w3 hr3 hb3; have HK3 := Lib.hid (Below.trans HK2.out hb3); have c3 := Boxed.row HK3.out 1; have HR3 := Lib.hid hr3; clear hr3 hb3))
    | (at_builtin; (refine row_lies rfl _ _ rfl (w.heap.size + 1) _ _ rfl (HR0.out.later HB1.out) _ _ _ _ x rfl rfl HL1.out (by omega) (by simp; omega) (by have := HK1.out.size; simp at this; omega) ?_; intro v2 w2 hr2 hb2; have HK2 := Lib.hid (Below.trans HK1.out hb2); have c2 := Boxed.row HK2.out 0; have HR2 := Lib.hid hr2; clear hr2 hb2))
    | (go_at_call 33; ((with_reducible refine (N1.out _).mono ?_); intro e w1 h; obtain ⟨A1, k1, rfl, hl1, hb1⟩ := h; have HK1 := Lib.hid (Boxed.on HK0.out hb1); have c1 := Boxed.row HK1.out 0; have HL1 := Lib.hid hl1; have HB1 := Lib.hid hb1; clear hl1 hb1)))
  go_ret
  exact ⟨_, rfl, by rw [HE.out]; exact Row.mono HR6.out (by omega), Boxed.end HK6.out⟩
end Go.Proofs.YtlhjgjplnaoieaaDoor
