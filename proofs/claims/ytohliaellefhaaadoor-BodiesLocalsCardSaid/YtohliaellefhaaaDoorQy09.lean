/- instr.Put. -/
import Derived.Test.YtohliaellefhaaaDoorQy08
import Derived.Test.YtohliaellefhaaaDoorQy01
import Derived.Test.YtohliaellefhaaaDoorQy02
import Derived.Test.YtohliaellefhaaaDoorQy04
import Derived.Test.YtohliaellefhaaaDoorQy05
import Derived.Test.YtohliaellefhaaaDoorShelf
import Derived.Lib.SlBuf
import Derived.Lib.MakeNoZero
import Derived.Deep.RegionLaw
import Derived.Deep.DeepMust
namespace Go.Proofs.YtohliaellefhaaaDoor
open Go.RowKit
set_option linter.unusedVariables false
set_option maxRecDepth 100000

/-- A row of the call's own lies; where it lies nowhere it has no room. -/
theorem Row.liesN {w : World} {base : Nat} {v : Value} {xs : List UInt8} (h : Row w base v xs) : ∃ A c, v = .slice A xs.length c ∧ Lies w w.heap.size A (cells (nums xs)) ∧ (A = none → c = 0) ∧ xs.length ≤ c ∧ c ≤ maxLen := by
  have h' := h
  obtain ⟨h1, h2⟩ := h
  obtain ⟨A, c, e, h3, h4, h5, _⟩ := lies_own h'
  refine ⟨A, c, e, h5, fun hA => ?_, h3, h4⟩
  rcases h2 with ⟨e2, _⟩ | ⟨g, cap, cur, e2, _⟩
  · rw [e] at e2
    injection e2
  · rw [e] at e2
    injection e2 with e2
    rw [hA] at e2
    cases e2
/-- What Put hands back. -/
def PutPost (i : I) (w : World) (e : Ending) (w' : World) : Prop :=
  ∃ v, e = .returned (.tuple #[v, .int .i64 (rightZ i)]) ∧ Row w' w.heap.size v (if rightZ i = 0 then putL i else []) ∧ Below w.heap.size w w'
theorem put_no {i : I} {w w' : World} (h : rightZ i ≠ 0) (hb : Below w.heap.size w w') : PutPost i w (.returned (.tuple #[.slice none 0 0, .int .i64 (rightZ i)])) w' :=
  ⟨_, rfl, by rw [if_neg h]; exact Row.nil _ _, hb⟩
theorem immL_len {i : I} (h : i.Ok) (hr : rightZ i = 0) : (immL i).length ≤ 200000 := by
  obtain ⟨a0, a1, b0, b1, hl0⟩ := h
  obtain ⟨_, _, h10, _, _⟩ := right_zero hr
  have k1 := lebL_len i.a (by omega)
  have k2 := lebL_len i.b (by omega)
  have k3 := lebL_len (i.l.length : Int) (by omega)
  have k4 := labsL_take_len i.l hl0 i.l.length h10
  rw [List.take_length] at k4
  have k5 := sebL_len (s32 i.a) (by unfold s32; omega) (by unfold s32; omega)
  have k6 := sebL_len (s64 i.a) (by unfold s64; omega) (by unfold s64; omega)
  unfold immL immB labL
  repeat' split
  all_goals (try simp only [List.length_append, List.length_cons, List.length_nil])
  all_goals omega
theorem nums_one (c : UInt8) : cells (nums [c]) = [.int .u8 c.toNat] := rfl
theorem catenate {W : World} {op : UInt8} {g g1 : Nat} {A1 : Option Addr} {c1 : Nat} {l2 : List UInt8} (hg : Whole W g 36 #[.slice (some ⟨g1, 0, none⟩) 1 1, .slice A1 l2.length c1])
    (h1 : Whole W g1 5 #[.int .u8 op.toNat]) (h2 : Lies W W.heap.size A1 (cells (nums l2))) (hA : A1 = none → c1 = 0) (n2 : l2.length ≤ 200000) :
    Calls Tryd.prog 21 #[.slice (some ⟨g, 0, none⟩) 2 2] W (BytesL (op :: l2) W) := by
  refine concat_any (l1 := [op]) (c1 := 1) hg ?_ h2 hA (by simp) (by simp; omega)
  intro j v hv
  rw [nums_one] at hv
  refine ⟨g1, 0, rfl, h1.lt, ?_⟩
  rw [h1.cell]
  simpa using hv

theorem put_yes {i : I} {w w' : World} {x : List UInt8} {v : Value} (h : rightZ i = 0) (hp : putL i = i.op :: x) (hr : Row w' w.heap.size v (i.op :: x)) (hb : Below w.heap.size w w') : PutPost i w (.returned (.tuple #[v, .int .i64 0])) w' :=
  ⟨v, by rw [h], by rw [if_pos h, hp]; exact hr, hb⟩
theorem size_box (w : World) (o : Obj) : (w.alloc o).heap.size = w.heap.size + 1 := by simp
theorem lies_box {w : World} {A : Option Addr} {vs : List Value} (h : Lies w w.heap.size A vs) (o : Obj) : Lies (w.alloc o) (w.alloc o).heap.size A vs :=
  (h.below (below_box w o) (Nat.le_refl _)).more (below_box w o).size
theorem cat2 {W : World} {op : UInt8} {g1 H : Nat} {A2 : Option Addr} {k2 : Nat} {x : List UInt8} (hH : W.heap.size = H) (h1 : Whole W g1 5 #[.int .u8 op.toNat]) (hl : Lies W W.heap.size A2 (cells (nums x))) (hA : A2 = none → k2 = 0) (hn : x.length ≤ 200000) :
    Calls Tryd.prog 21 #[.slice (some ⟨H, 0, none⟩) 2 2] (W.alloc (.cells #[.slice (some ⟨g1, 0, none⟩) 1 1, .slice A2 x.length k2] 36)) (BytesL (op :: x) (W.alloc (.cells #[.slice (some ⟨g1, 0, none⟩) 1 1, .slice A2 x.length k2] 36))) := by
  subst hH
  exact catenate (op := op) (Whole.made _ _ _) (h1.alloc _) (lies_box hl _) hA hn
section
variable {w W W' : World} {i : I} {A : Option Addr} {c : Nat}
theorem held5 (h : BoxI w W i A c) : BoxI w W i A c ∧ W.cell? ⟨w.heap.size, 0, none⟩ = some (.int .u8 i.op.toNat) ∧ W.cell? ⟨w.heap.size, 1, none⟩ = some (.int .u64 i.a) ∧ W.cell? ⟨w.heap.size, 2, none⟩ = some (.int .u64 i.b) ∧ W.cell? ⟨w.heap.size, 3, none⟩ = some (.slice A i.l.length c) :=
  ⟨h, h.c0, h.c1, h.c2, h.c3⟩
theorem held_on (h : BoxI w W i A c ∧ W.cell? ⟨w.heap.size, 0, none⟩ = some (.int .u8 i.op.toNat) ∧ W.cell? ⟨w.heap.size, 1, none⟩ = some (.int .u64 i.a) ∧ W.cell? ⟨w.heap.size, 2, none⟩ = some (.int .u64 i.b) ∧ W.cell? ⟨w.heap.size, 3, none⟩ = some (.slice A i.l.length c)) (hb : Below W.heap.size W W') : BoxI w W' i A c ∧ W'.cell? ⟨w.heap.size, 0, none⟩ = some (.int .u8 i.op.toNat) ∧ W'.cell? ⟨w.heap.size, 1, none⟩ = some (.int .u64 i.a) ∧ W'.cell? ⟨w.heap.size, 2, none⟩ = some (.int .u64 i.b) ∧ W'.cell? ⟨w.heap.size, 3, none⟩ = some (.slice A i.l.length c) := held5 (h.1.on hb)
theorem held_bel (h : BoxI w W i A c ∧ W.cell? ⟨w.heap.size, 0, none⟩ = some (.int .u8 i.op.toNat) ∧ W.cell? ⟨w.heap.size, 1, none⟩ = some (.int .u64 i.a) ∧ W.cell? ⟨w.heap.size, 2, none⟩ = some (.int .u64 i.b) ∧ W.cell? ⟨w.heap.size, 3, none⟩ = some (.slice A i.l.length c)) : Below w.heap.size w W := h.1.2
end
set_option maxHeartbeats 1000000 in
theorem put_any (i : I) (A : Option Addr) (c : Nat) (w : World) (h : i.Ok) (hT : Tabs w) (hl : Lies w w.heap.size A (cells32 i.l)) (hl63 : (i.l.length : Int) ≤ 9223372036854775807) :
    Calls Tryd.prog 51 #[insV i A c] w (PutPost i w) := by
  have HB := Lib.hid (BoxI.start w i A c)
  have HT1 := Lib.hid (hT.below HB.out.2)
  have HR := Lib.hid (right_any i A c (w.alloc (.cells (insC i A c) 58)) h HT1.out hl63)
  by_cases hr : rightZ i = 0
  · have HIM := Lib.hid (fun W (hb : Below w.heap.size w W) => imm_bytes i A c W h (hT.below hb) hr ((hl.below hb (Nat.le_refl _)).more hb.size))
    have hlen := immL_len h hr
    have HP := Lib.hid (show putL i = i.op :: immL i from rfl)
    have HZ := Lib.hid hr
    rw [hr] at HR
    generalize immL i = x at *
    clear h hT hl hr
    go_enter Tryd.func51, Tryd.ntmps51
    go_wp2_with (go_at_call 67; go_must ((with_reducible refine HR.out.mono ?_); rintro e w1 ⟨rfl, hb1⟩; have HB1 := Lib.hid (HB.out.on hb1); have c0 := HB1.out.c0; have c1 := HB1.out.c1; have c2 := HB1.out.c2; have c3 := HB1.out.c3; clear hb1))
    clear c0 c1 c2 c3
    go_region_held3 (fun W => BoxI w W i A c ∧ W.cell? ⟨w.heap.size, 0, none⟩ = some (.int .u8 i.op.toNat) ∧ W.cell? ⟨w.heap.size, 1, none⟩ = some (.int .u64 i.a) ∧ W.cell? ⟨w.heap.size, 2, none⟩ = some (.int .u64 i.b) ∧ W.cell? ⟨w.heap.size, 3, none⟩ = some (.slice A i.l.length c))
      (first | assumption | exact held5 (HB1.out.drewN 1) | exact held5 ((HB1.out.on (below_box _ _)).drewN 1) | exact held_on HK2.out (below_box _ _) | exact held_on (held_on HK2.out (below_box _ _)) (below_box _ _) | exact held_on HK4.out (below_box _ _))
      (first
        | (go_at_call 68; ((with_reducible refine (HIM.out _ (held_bel ‹_›)).mono ?_); intro e w2 h; obtain ⟨v2, rfl, hr2, hb2⟩ := h; obtain ⟨A2, k2, rfl, hl2, hA2, _⟩ := hr2.liesN; have hk2 := held_on ‹_› hb2; have HL2 := Lib.hid hl2; have HA2 := Lib.hid hA2; have HB2 := Lib.hid hb2; have HK2 := Lib.hid hk2; clear hl2 hA2 hr2 hb2))
        | (go_at_call 21; first
            | ((with_reducible refine (cat2 (op := i.op) (g1 := w1.heap.size) (W := w2) rfl ((Whole.made w1 5 #[.int .u8 i.op.toNat]).drew.below HB2.out) HL2.out HA2.out hlen).mono ?_); intro e w4 h; obtain ⟨v4, rfl, hr4, hb4⟩ := h; have hk4 := held_on (held_on HK2.out (below_box _ _)) hb4; have HR4 := Lib.hid hr4; have HK4 := Lib.hid hk4; have hz4 := HK2.out.1.2.size; clear hr4 hb4)
            | ((with_reducible refine (cat2 (op := i.op) (g1 := w2.heap.size) (W := w2.alloc (.cells #[.int .u8 i.op.toNat] 5)) (size_box _ _) (Whole.made w2 5 #[.int .u8 i.op.toNat]) (lies_box HL2.out _) HA2.out hlen).mono ?_); intro e w4 h; obtain ⟨v4, rfl, hr4, hb4⟩ := h; have hk4 := held_on (held_on (held_on HK2.out (below_box _ _)) (below_box _ _)) hb4; have HR4 := Lib.hid hr4; have HK4 := Lib.hid hk4; have hz4 := HK2.out.1.2.size; clear hr4 hb4)))
    all_goals
      go_wp2
      go_ret2
      exact put_yes HZ.out HP.out (HR4.out.mono (by simp; omega)) HK4.out.1.2
  · have HZ := Lib.hid hr
    have dz : (rightZ i != 0) = true := by simpa using hr
    generalize hz : rightZ i = z at *
    clear h hT hl hr HT1
    go_enter Tryd.func51, Tryd.ntmps51
    go_wp2_with (go_at_call 67; go_must ((with_reducible refine HR.out.mono ?_); rintro e w1 ⟨rfl, hb1⟩; have HB1 := Lib.hid (HB.out.on hb1); clear hb1))
    subst hz
    go_ret2
    exact put_no HZ.out HB1.out.2
end Go.Proofs.YtohliaellefhaaaDoor

/- Few laws that every layer wants: strings of bytes that lie somewhere, boxes, fields; wire.Size. -/
namespace Go.Proofs.YtohliaellefhaaaDoor
open Go.RowKit
set_option linter.unusedVariables false
set_option maxRecDepth 100000

theorem be_of {a : Nat} {b : Int} {c : Bool} (h : decide ((a : Int) = b) = c) : ((a : Int) == b) = c := by rw [← h]; rfl
theorem nb_of {a : Nat} {b : Int} {c : Bool} (h : decide ((a : Int) ≠ b) = c) : ((a : Int) != b) = c := by rw [← h]; by_cases e : (a : Int) = b <;> simp [bne, e]
theorem zb_of {a : Int} {c : Bool} (h : decide (a ≠ 0) = c) : (a != 0) = c := by rw [← h]; by_cases e : a = 0 <;> simp [bne, e]
theorem i8_of {a b : UInt8} (h : (a.toNat : Int) = b.toNat) : a = b := UInt8.toNat_inj.1 (by omega)
theorem i32_of {a b : UInt32} (h : (a.toNat : Int) = b.toNat) : a = b := UInt32.toNat_inj.1 (by omega)
theorem S_beqM (a b : List UInt8) : ((S a).toList == (S b).toList) = decide (a = b) := by rw [S_toList, S_toList]; by_cases h : a = b <;> simp [h]
theorem ret_pair {v : Value} {a b : Int} (h : a = b) : Ending.returned (.tuple #[v, .int .i64 a]) = .returned (.tuple #[v, .int .i64 b]) := by rw [h]
theorem u32_le (a : UInt32) : (a.toNat : Int) ≤ 4294967295 := by have := a.toNat_lt; omega
theorem u8_le (a : UInt8) : (a.toNat : Int) ≤ 255 := by have := a.toNat_lt; omega
theorem below_new {w w1 w2 : World} {q : Nat} (h : Below w.heap.size w w1) (hg : w1.grownBy w2 (some q)) (hq : w.heap.size ≤ q) : Below w.heap.size w w2 :=
  Below.grown h hg h.size (fun g e => by injection e with e; omega)
/-- A block of bytes that reads as it was made, marked or not. -/
theorem lies_made (w : World) (xs : List UInt8) (fz : Nat × Nat) : Lies (w.alloc (.cells (cells (nums xs)).toArray 5 fz)) (w.heap.size + 1) (some ⟨w.heap.size, 0, none⟩) (cells (nums xs)) := fun i v hv => by
  refine ⟨w.heap.size, 0, rfl, by omega, ?_⟩
  rw [Nat.zero_add, cell_of_row _ w.heap.size i _ _ fz (heap_alloc_new w _)]
  simpa using hv
theorem made_2 (w : World) (o : Obj) (t : TypeId) (cs : Array Value) : Whole ((w.alloc o).alloc (.cells cs t)) (w.heap.size + 1) t cs := by
  have h := Whole.made (w.alloc o) t cs
  rwa [size_box] at h
/-- string(b) of whatever lies. -/
theorem str_any {w : World} {B : Nat} {A : Option Addr} {o : List UInt8} (h : Lies w B A (cells (nums o))) (c : Nat) :
    ∀ dst, Tryd.prog.underlying dst = some .string → (convert 36 dst (.slice A o.length c)).run Tryd.prog w = .ok (.string (S o)) w := by
  by_cases h0 : 0 < (nums o).length
  · have := str_lies h h0 c Tryd.underlying36 Tryd.underlying5
    rw [strOfNums_nums, nums_length] at this
    exact this
  · have ho : o = [] := List.eq_nil_of_length_eq_zero (by rw [nums_length] at h0; omega)
    subst ho
    intro dst hd
    rw [run_convert_bytes_string w _ dst 5 _ _ c Tryd.underlying36 Tryd.underlying5 hd]
    have e : S [] = ByteArray.empty := rfl
    rw [e]
    cases A <;> simp [Conv.bytesToString, loadCells]
    all_goals rfl
/-- Bytes that lie somewhere in this world; whose slice is nil only without room. -/
structure Pc (A : Option Addr) (c : Nat) (l : List UInt8) (w : World) : Prop where
  lies : Lies w w.heap.size A (cells (nums l))
  nil : A = none → c = 0
theorem Pc.below {A : Option Addr} {c : Nat} {l : List UInt8} {w w' : World} (h : Pc A c l w) (hb : Below w.heap.size w w') : Pc A c l w' := ⟨(h.lies.below hb (Nat.le_refl _)).more hb.size, h.nil⟩
theorem Pc.from {A : Option Addr} {c : Nat} {l : List UInt8} {w w' : World} {B : Nat} (h : Lies w B A (cells (nums l))) (hn : A = none → c = 0) (hB : B ≤ w.heap.size) (hb : Below w.heap.size w w') : Pc A c l w' := ⟨(h.below hb hB).more (Nat.le_trans hB hb.size), hn⟩
theorem Row.pc {w : World} {B : Nat} {v : Value} {xs : List UInt8} (h : Row w B v xs) : ∃ A c, v = .slice A xs.length c ∧ Pc A c xs w := by
  have h' := h
  obtain ⟨h1, h2⟩ := h
  obtain ⟨A, c, e, h3, h4, h5, _⟩ := lies_own h'
  refine ⟨A, c, e, h5, fun hA => ?_⟩
  rcases h2 with ⟨e2, _⟩ | ⟨g, cap, cur, e2, _⟩
  · rw [e] at e2
    injection e2
  · rw [e, hA] at e2
    injection e2 with e3
    cases e3
theorem Pc.room {A : Option Addr} {c : Nat} {l : List UInt8} {w : World} (h : Pc A c l w) : A = none → c = 0 := h.nil
end Go.Proofs.YtohliaellefhaaaDoor

/- bytes.Repeat of one byte. A block of bytes of the call's own, cell by cell. -/
namespace Go.Proofs.YtohliaellefhaaaDoor
open Go.RowKit
set_option linter.unusedVariables false
set_option maxRecDepth 100000

/-- At block g n bytes have room, none of them marked; the first of them are these. -/
structure Buff (w : World) (g n : Nat) (xs : List UInt8) : Prop where
  some' : ∀ j, j < n → ∃ v, w.cell? ⟨g, j, none⟩ = some v
  open' : ∀ j, j < n → w.frozen? ⟨g, j, none⟩ = false
  read : ∀ j v, (cells (nums xs))[j]? = some v → w.cell? ⟨g, j, none⟩ = some v
  room : xs.length ≤ n
theorem bytes_one {xs : List UInt8} : ∀ v ∈ cells (nums xs), v.oneCell' = true := fun v hv => by
  unfold cells at hv
  obtain ⟨c, _, rfl⟩ := List.mem_map.1 hv
  rfl
theorem cnl (xs : List UInt8) : (cells (nums xs)).length = xs.length := by rw [cells_length, nums_length]
theorem gb_setCells (g : Nat) : ∀ (vs : List Value) (o : Nat) {w0 w : World}, w0.grownBy w (some g) → w0.grownBy (w.setCells g o vs) (some g)
  | [], _, _, _, h => h
  | v :: r, o, _, _, h => gb_setCells g r (o + 1) (gb_put (p := ⟨g, o, none⟩) h (.inl rfl) v)
section
variable {w w' : World} {g n : Nat} {xs ys : List UInt8}
theorem Buff.drew (h : Buff w g n xs) : Buff w.drew g n xs := ⟨h.some', h.open', h.read, h.room⟩
theorem Buff.lies (h : Buff w g n xs) (hg : g < w.heap.size) : Lies w w.heap.size (some ⟨g, 0, none⟩) (cells (nums xs)) := fun i v hv => ⟨g, 0, rfl, hg, by rw [Nat.zero_add]; exact h.read i v hv⟩
theorem Buff.grown (h : Buff w g n xs) {row : Option Nat} (hg : w.grownBy w' row) (hlt : g < w.heap.size) (hr : some g ≠ row) : Buff w' g n xs := by
  have hh := hg.block g hlt hr
  have hc : ∀ j, w'.cell? ⟨g, j, none⟩ = w.cell? ⟨g, j, none⟩ := fun j => World.cell?_of_block (a := ⟨g, j, none⟩) hh
  have hf : ∀ j, w'.frozen? ⟨g, j, none⟩ = w.frozen? ⟨g, j, none⟩ := fun j => World.frozen?_of_block (a := ⟨g, j, none⟩) hh
  exact ⟨fun j hj => by rw [hc]; exact h.some' j hj, fun j hj => by rw [hf]; exact h.open' j hj, fun j v hv => by rw [hc]; exact h.read j v hv, h.room⟩
/-- Bytes are laid behind. -/
theorem Buff.more (h : Buff w g n xs) (hr : xs.length + ys.length ≤ n) : Buff (w.setCells g xs.length (cells (nums ys))) g n (xs ++ ys) := by
  have hex : ∀ j, j < (cells (nums ys)).length → (w.cell? ⟨g, xs.length + j, none⟩).isSome = true := fun j hj => by
    rw [cnl] at hj
    obtain ⟨v, hv⟩ := h.some' (xs.length + j) (by omega)
    rw [hv]; rfl
  have hin := World.cell?_setCells_in g (cells (nums ys)) xs.length w hex
  have hout := World.cell?_setCells_out g (cells (nums ys)) xs.length w
  have eapp : cells (nums (xs ++ ys)) = cells (nums xs) ++ cells (nums ys) := by rw [nums_append]; unfold cells; rw [List.map_append]
  refine ⟨fun j hj => ?_, fun j hj => by rw [World.frozen?_setCells]; exact h.open' j hj, fun j v hv => ?_, by rw [List.length_append]; exact hr⟩
  · rcases Nat.lt_or_ge j xs.length with h1 | h1
    · rw [hout ⟨g, j, none⟩ (fun _ _ => .inl h1)]; exact h.some' j hj
    · rcases Nat.lt_or_ge j (xs.length + ys.length) with h2 | h2
      · have h3 := hin (j - xs.length) (by rw [cnl]; omega)
        rw [show xs.length + (j - xs.length) = j by omega] at h3
        exact ⟨_, h3⟩
      · rw [hout ⟨g, j, none⟩ (fun _ _ => .inr (by rw [cnl]; exact h2))]; exact h.some' j hj
  · rw [eapp] at hv
    rcases Nat.lt_or_ge j xs.length with h1 | h1
    · rw [List.getElem?_append_left (by rw [cnl]; exact h1)] at hv
      rw [hout ⟨g, j, none⟩ (fun _ _ => .inl h1)]
      exact h.read j v hv
    · rw [List.getElem?_append_right (by rw [cnl]; exact h1), cnl] at hv
      obtain ⟨h2, h3⟩ := List.getElem?_eq_some_iff.1 hv
      have h4 := hin (j - xs.length) h2
      rw [show xs.length + (j - xs.length) = j by omega, h3] at h4
      exact h4
/-- copy of bytes that lie somewhere. -/
theorem Buff.copied (h : Buff w g n xs) {a : Addr} {dLen dCap sLen sCap : Nat} (hs : ∀ j v, (cells (nums ys))[j]? = some v → w.cell? (a.add j) = some v) (hr : xs.length + ys.length ≤ n) (hm : ys.length = Nat.min sLen dLen) (ty : TypeId) :
    (Builtin.copy_ #[36, 36] ty #[.slice (some ⟨g, xs.length, none⟩) dLen dCap, .slice (some a) sLen sCap]).run Tryd.prog w = .ok (goInt ys.length) (w.setCells g xs.length (cells (nums ys))) := by
  have := run_copy_cells (P := Tryd.prog) w 36 36 ty 5 g xs.length dLen dCap a sLen sCap (cells (nums ys)) Tryd.underlying36 (by kernel_rfl) (by rw [cnl]; exact hm) hs
    (fun j hj => by rw [cnl] at hj; obtain ⟨v, hv⟩ := h.some' (xs.length + j) (by omega); rw [hv]; rfl) (fun j hj => by rw [cnl] at hj; exact h.open' _ (by omega)) bytes_one
  rw [cnl] at this
  exact this
end
/-- A new block of bytes, whatever they are. -/
theorem make_call (n : Nat) (hn : n ≤ 100000) (w : World) : ∃ cs : Array Value, (callFunc 37 #[.int .i64 (n : Int)]).run Tryd.prog w = .ok (.value (.slice (some ⟨w.heap.size, 0, none⟩) n cs.size)) ((w.alloc (.cells cs 5)).drewN 2) ∧ n ≤ cs.size ∧ cs.size ≤ maxLen := by
  obtain ⟨cs, hrun, hle, hmax⟩ := Lib.run_makeNoZero (P := Tryd.prog) w #[3] 36 5 Tryd.underlying36 n (by omega)
  refine ⟨cs, ?_, hle, hmax (by unfold maxLen; omega)⟩
  rw [run_callFunc_extern Tryd.func37 (by kernel_rfl) (by kernel_rfl) (by kernel_rfl) (e := Extern.BytealgMakeNoZero.makeNoZero #[3] #[36]) (by kernel_rfl), hrun]
  rfl
theorem made_buff (w : World) (cs : Array Value) (n q : Nat) (h : n ≤ cs.size) : Buff ((w.alloc (.cells cs 5)).drewN q) w.heap.size n [] := by
  have hw : Whole ((w.alloc (.cells cs 5)).drewN q) w.heap.size 5 cs := Whole.made w 5 cs
  exact ⟨fun j hj => ⟨_, (hw.cell j).trans (Array.getElem?_eq_getElem (by omega))⟩, fun j _ => hw.frozen j, fun j v hv => by simp [cells, nums] at hv, Nat.zero_le _⟩
/-- A step of copy in a region that draws. -/
theorem step_copyB {w : World} {ops : Array Oper} {o : Oper} {a : Act} {K : Act → World → Prop} {Q : Exit → Act → World → Prop} {E : Prop} (hgd : o.guard = none) (d s : Operand) (ho : o.op = .call { callee := .builtin .copy, args := #[d, s], argTypes := #[36, 36] })
    (v u : Value) (hd : a.eval d = v) (hs : a.eval s = u) {v' : Value} {w' : World} (hr : ∀ ty, (Builtin.copy_ #[36, 36] ty #[v, u]).run Tryd.prog w = .ok v' w') (h : K (a.put o.dst v') w') :
    if Region.wanted o (yielded ops a.tmps) = true then Oper.wp Tryd.prog o a w K Q else E := by
  have hw : Region.wanted o (yielded ops a.tmps) = true := by simp [Region.wanted, hgd]
  rw [if_pos hw]
  exact Lib.wp_copy_run w d s 36 36 ho v u hd hs (hr _) h
/-- The two cuts of the block. -/
theorem cut_from (W : World) (g n k : Nat) (hk : k < n) : (Instr.slice 36 (.slice (some ⟨g, 0, none⟩) n n) (some (.int .i64 (k : Int))) none none).run Tryd.prog W = .ok (.slice (some ⟨g, k, none⟩) (n - k) (n - k)) W := by
  rw [Lib.run_slice_tailV W 36 5 Tryd.underlying36 Tryd.sizeOf5 g n k (by omega)]
  unfold Lib.tailV
  rw [if_neg (by omega)]
theorem cut_to (W : World) (g n k c : Nat) (hk : k ≤ c) (h0 : 0 < c) : (Instr.slice 36 (.slice (some ⟨g, 0, none⟩) n c) none (some (.int .i64 (k : Int))) none).run Tryd.prog W = .ok (.slice (some ⟨g, 0, none⟩) k c) W := by
  have ht : Tryd.prog.underlying 36 = some (.slice (Tryd.prog.elem 36)) := by simp [Program.elem, Tryd.underlying36]
  have he : Tryd.prog.elem 36 = 5 := by simp [Program.elem, Tryd.underlying36]
  rw [run_slice_h W 36 _ n c ht .i64 (k : Int) (by omega) (by omega), he, Tryd.sizeOf5]
  have hc : ¬ c = 0 := by omega
  simp [Result.andThen, sliced, hc, Addr.add]
theorem cut_all (W : World) (g n c : Nat) (hn : n ≤ c) (h0 : 0 < n) : (Instr.slice 36 (.slice (some ⟨g, 0, none⟩) n c) none (some (.int .i64 (n : Int))) (some (.int .i64 (n : Int)))).run Tryd.prog W = .ok (.slice (some ⟨g, 0, none⟩) n n) W := by
  have ht : Tryd.prog.underlying 36 = some (.slice (Tryd.prog.elem 36)) := by simp [Program.elem, Tryd.underlying36]
  have he : Tryd.prog.elem 36 = 5 := by simp [Program.elem, Tryd.underlying36]
  rw [run_slice_hm W 36 _ n c ht .i64 .i64 (n : Int) (n : Int) (by omega) (by omega) (by omega), he, Tryd.sizeOf5]
  have hc : ¬ n = 0 := by omega
  simp [Result.andThen, sliced, hc, Addr.add]
theorem mul_one' (n : Nat) (hn : n ≤ 100000) (W : World) : Calls Tryd.prog 36 #[.int .u64 1, .int .u64 n] W fun e w' => e = .returned (.tuple #[.int .u64 0, .int .u64 n]) ∧ W = w' := by
  refine (Tryd.bits_Mul 1 n (by omega) (by omega) W).mono ?_
  rintro e w' ⟨rfl, rfl⟩
  rw [Nat.one_mul, Nat.div_eq_of_lt (by omega), Nat.mod_eq_of_lt (by omega)]
  exact ⟨rfl, rfl⟩
set_option maxHeartbeats 4000000 in
theorem rep_any {w : World} {g0 n : Nat} {t : UInt8} (h0 : w.cell? ⟨g0, 0, none⟩ = some (.int .u8 t.toNat)) (hn : n ≤ 1000) :
    Calls Tryd.prog 19 #[.slice (some ⟨g0, 0, none⟩) 1 1, .int .i64 n] w fun e w' => ∃ g c, e = .returned (.slice (some ⟨g, 0, none⟩) n c) ∧ Pc (some ⟨g, 0, none⟩) c (List.replicate n t) w' ∧ Below w.heap.size w w' := by
  by_cases hz : n = 0
  · subst hz
    clear h0 hn
    go_enter Tryd.func19, Tryd.ntmps19
    go_wp2
    go_ret
    exact ⟨w.heap.size, 0, rfl, ⟨fun i v hv => by simp [cells, nums] at hv, fun e => by cases e⟩, below_box w _⟩
  · have d1 : ((n : Int) == 0) = false := by simp; omega
    have d2 : decide ((n : Int) < 0) = false := decide_eq_false (by omega)
    have d3 : decide ((9223372036854775807 : Int) < (n : Int)) = false := decide_eq_false (by omega)
    have d4 : decide ((8192 : Int) < (n : Int)) = false := decide_eq_false (by omega)
    have wn : IntKind.u64.wrap (n : Int) = n := by simp [IntKind.wrap, IntKind.bits, IntKind.signed]; omega
    have wi : IntKind.i64.wrap (n : Int) = n := by rw [IntKind.wrap_i64]; omega
    have HM := Lib.hid (fun W => mul_one' n (by omega) W)
    obtain ⟨cs, hcall, hcs, hcm⟩ := make_call n (by omega) w
    have hb0 := made_buff w cs n 2 hcs
    have hbel : Below w.heap.size w ((w.alloc (.cells cs 5)).drewN 2) := below_drewN (below_box w _) 2
    have hlt : w.heap.size < ((w.alloc (.cells cs 5)).drewN 2).heap.size := (show Whole ((w.alloc (.cells cs 5)).drewN 2) w.heap.size 5 cs from Whole.made w 5 cs).lt
    have hca := cut_all ((w.alloc (.cells cs 5)).drewN 2) w.heap.size n cs.size hcs (by omega)
    have hg0 : ((w.alloc (.cells cs 5)).drewN 2).cell? ⟨g0, 0, none⟩ = some (.int .u8 t.toNat) := (hbel.cell (p := ⟨g0, 0, none⟩) (block_lt_of_cell h0)).trans h0
    generalize (w.alloc (.cells cs 5)).drewN 2 = W1 at *
    have hcp := Buff.copied (ys := [t]) (dLen := n) (dCap := n) (sLen := 1) (sCap := 1) (a := ⟨g0, 0, none⟩) hb0 (fun j v hv => by
      match j, hv with
      | 0, hv => injection hv with hv; rw [← hv]; exact hg0
      | j + 1, hv => simp [cells, nums] at hv) (by simp; omega) (by show 1 = min 1 n; omega)
    have hb1 := hb0.more (ys := [t]) (by simp; omega)
    have hbel1 := Below.grown hbel (gb_setCells w.heap.size (cells (nums [t])) ([] : List UInt8).length (gb_refl W1 _)) hbel.size (fun g e => by injection e with e; omega)
    have hlt1 : w.heap.size < (W1.setCells w.heap.size ([] : List UInt8).length (cells (nums [t]))).heap.size := Nat.lt_of_lt_of_le hlt (gb_setCells w.heap.size (cells (nums [t])) ([] : List UInt8).length (gb_refl W1 (some w.heap.size))).size
    have HCP := Lib.hid hcp
    generalize W1.setCells w.heap.size ([] : List UInt8).length (cells (nums [t])) = W2 at *
    rw [List.nil_append] at hb1
    have HB1 := Lib.hid hb1
    have HBEL := Lib.hid hbel1
    have HLT := Lib.hid hlt1
    clear hb0 hbel hlt hg0 hcp hb1 hbel1 hlt1 h0 hcm
    go_enter Tryd.func19, Tryd.ntmps19
    go_wp2_with (first
      | (go_at_call 36; go_must ((with_reducible refine (HM.out _).mono ?_); rintro e w' ⟨rfl, rfl⟩))
      | (refine Lib.wpList_copy_run _ rfl _ _ 36 36 rfl _ _ rfl rfl (HCP.out _) ?_))
    clear hcall hca
    go_loopw [10] (fun v wr => ∃ k : Nat, 1 ≤ k ∧ k ≤ n ∧ v = .int .i64 k ∧ Buff wr w.heap.size n (List.replicate k t) ∧ Below w.heap.size w wr ∧ w.heap.size < wr.heap.size) (fun v _ => n - (intOf v).toNat)
    case atStart => exact ⟨1, Nat.le_refl _, by omega, rfl, HB1.out, HBEL.out, HLT.out⟩
    case round =>
      obtain ⟨k, hk1, hkn, rfl, hb, hbe, hl⟩ := hrel
      by_cases hlt : k < n
      · have d5 : min (k : Int) (n : Int) = k := by omega
        obtain ⟨m, hm⟩ : ∃ m, m = min k (n - k) := ⟨_, rfl⟩
        have hm0 : 1 ≤ m ∧ k + m ≤ n ∧ m ≤ k := by rw [hm]; omega
        have hc1 := fun W => cut_from W w.heap.size n k hlt
        have hc2 := fun W => cut_to W w.heap.size n k n hkn (by omega)
        have hrep : List.replicate k t ++ List.replicate m t = List.replicate (k + m) t := by rw [List.replicate_append_replicate]
        have HR := Lib.hid hrep
        have ws : IntKind.i64.wrap ((k : Int) + (m : Int)) = (k : Int) + (m : Int) := by rw [IntKind.wrap_i64]; omega
        have HCC := Lib.hid (fun W (h : Buff W w.heap.size n (List.replicate k t)) ty => show (Builtin.copy_ #[36, 36] ty #[.slice (some ⟨w.heap.size, k, none⟩) (n - k) (n - k), .slice (some ⟨w.heap.size, 0, none⟩) k n]).run Tryd.prog W = .ok (.int .i64 m) (W.setCells w.heap.size k (cells (nums (List.replicate m t)))) from by
          have := Buff.copied (ys := List.replicate m t) (dLen := n - k) (dCap := n - k) (sLen := k) (sCap := n) (a := ⟨w.heap.size, 0, none⟩) h (fun j v hv => by
            have hj := (List.getElem?_eq_some_iff.1 hv).1
            rw [cnl, List.length_replicate] at hj
            have hz : (⟨w.heap.size, 0, none⟩ : Addr).add j = ⟨w.heap.size, j, none⟩ := by rw [Go.WideShapes.add_plain, Nat.zero_add]
            rw [hz]
            refine h.read j v ?_
            rw [← hv]
            unfold cells nums
            simp only [List.map_replicate, List.getElem?_replicate]
            rw [if_pos (by omega), if_pos (by omega)]) (by rw [List.length_replicate, List.length_replicate]; omega) (by rw [List.length_replicate]; exact hm) ty
          rw [List.length_replicate, List.length_replicate] at this
          exact this)
        have HB := Lib.hid hb
        have HBE := Lib.hid hbe
        have hM := hm
        clear hb hbe hm hrep hM
        go_wp2
        go_region_law (refine step_copyB rfl (.tmp 70) (.tmp 73) rfl (.slice (some ⟨w.heap.size, k, none⟩) (n - k) (n - k)) (.slice (some ⟨w.heap.size, 0, none⟩) k n) (by simp [Act.eval, Act.put]) (by simp [Act.eval, Act.put]) (HCC.out _ HB.out.drew) ?_)
        simp only [List.getElem_toArray, List.getElem_cons_zero, List.getElem_cons_succ, Act.put, List.setIfInBounds_toArray, List.set_cons_zero, List.set_cons_succ]
        go_wp2
        go_roundw
        case rel => exact ⟨k + m, by omega, by omega, by go_num, by rw [← HR.out]; have := HB.out.drew.more (ys := List.replicate m t) (by rw [List.length_replicate, List.length_replicate]; omega); rw [List.length_replicate] at this; exact this, Below.grown HBE.out.drew (gb_setCells w.heap.size _ k (gb_refl _ _)) (by exact Nat.le_of_lt hl) (fun g e => by injection e with e; omega), Nat.lt_of_lt_of_le hl (gb_setCells w.heap.size _ k (gb_refl wr.drew (some w.heap.size))).size⟩
        case measure => simp [intOf]; omega
      · obtain rfl : k = n := by omega
        have HB := Lib.hid hb
        have HBE := Lib.hid hbe
        clear hb hbe
        go_wp2
        go_ret
        exact ⟨_, _, rfl, ⟨HB.out.lies hl, fun e => by cases e⟩, HBE.out⟩
end Go.Proofs.YtohliaellefhaaaDoor

/- How far a body has come: nest's add, turn, close. -/
namespace Go.Proofs.YtohliaellefhaaaDoor
open Go.RowKit
set_option linter.unusedVariables false
set_option maxRecDepth 100000

/-- Are the opcodes the rest of a body in which these blocks are open? -/
def shapeGo : List UInt8 → List UInt8 → Bool
  | st, [] => false
  | st, op :: r =>
    if immR op.toNat = 1 then shapeGo (st ++ [op]) r
    else if op = 5 then (if st.getLast? = some 4 then shapeGo (st.dropLast ++ [5]) r else false)
    else if op = 11 then (if st = [] then r.isEmpty else shapeGo st.dropLast r)
    else shapeGo st r
/-- One more: the open blocks, and is it the end of all? -/
def addZ (st : List UInt8) (op : UInt8) : Option (List UInt8 × Bool) :=
  if immR op.toNat = 1 then some (st ++ [op], false)
  else if op = 5 then (if st.getLast? = some 4 then some (st.dropLast ++ [5], false) else none)
  else if op = 11 then (if st = [] then some (st, true) else some (st.dropLast, false))
  else some (st, false)
theorem shape_add (st : List UInt8) (op : UInt8) (r : List UInt8) : shapeGo st (op :: r) = match addZ st op with
    | none => false
    | some (st', false) => shapeGo st' r
    | some (st', true) => r.isEmpty := by
  unfold addZ
  show (if immR op.toNat = 1 then _ else _) = _
  by_cases h1 : immR op.toNat = 1
  · rw [if_pos h1, if_pos h1]
  · rw [if_neg h1, if_neg h1]
    by_cases h2 : op = 5
    · rw [if_pos h2, if_pos h2]
      by_cases h3 : st.getLast? = some 4
      · rw [if_pos h3, if_pos h3]
      · rw [if_neg h3, if_neg h3]
    · rw [if_neg h2, if_neg h2]
      by_cases h3 : op = 11
      · rw [if_pos h3, if_pos h3]
        by_cases h4 : st = []
        · rw [if_pos h4, if_pos h4]
        · rw [if_neg h4, if_neg h4]
      · rw [if_neg h3, if_neg h3]
theorem Row.cut {w : World} {base : Nat} {A : Option Addr} {n c : Nat} {xs : List UInt8} (h : Row w base (.slice A n c) xs) (hne : xs ≠ []) : ∃ g, A = some ⟨g, 0, none⟩ ∧ n = xs.length ∧ base ≤ g ∧ g < w.heap.size ∧ Row w base (.slice A (n - 1) c) xs.dropLast ∧ xs.length ≤ c ∧ c ≤ maxLen := by
  obtain ⟨h1, h2⟩ := h
  rcases h2 with ⟨e, e2⟩ | ⟨g, cap, cur, e, hb, hg, hc, hm, hs, ht⟩
  · exact absurd (List.eq_nil_of_length_eq_zero e2) hne
  · injection e with e1 e2 e3
    subst e1; subst e2; subst e3
    have hl : 0 < xs.length := List.length_pos_iff.2 hne
    refine ⟨g, rfl, rfl, hb, (Array.getElem?_eq_some_iff.1 hg).1, ⟨by rw [cells_length, nums_length]; omega, .inr ⟨g, c, cur, by rw [List.length_dropLast], hb, hg, by rw [List.length_dropLast]; omega, hm, hs, ?_⟩⟩, hc, hm⟩
    rw [List.length_dropLast]
    have : cur.toList.take ((xs.length - 1) * 1) = (cur.toList.take (xs.length * 1)).take (xs.length - 1) := by rw [List.take_take]; congr 1; omega
    rw [this, ht]
    unfold cells nums
    rw [← List.map_take, ← List.map_take, List.dropLast_eq_take]
theorem Row.last {w : World} {base : Nat} {g c : Nat} {xs : List UInt8} (h : Row w base (.slice (some ⟨g, 0, none⟩) xs.length c) xs) {x : UInt8} (hx : xs.getLast? = some x) : w.cell? ⟨g, xs.length - 1, none⟩ = some (.int .u8 x.toNat) ∧ w.frozen? ⟨g, xs.length - 1, none⟩ = false ∧
    ∀ y : UInt8, Row (w.setCell ⟨g, xs.length - 1, none⟩ (.int .u8 y.toNat)) base (.slice (some ⟨g, 0, none⟩) xs.length c) (xs.dropLast ++ [y]) ∧ w.grownBy (w.setCell ⟨g, xs.length - 1, none⟩ (.int .u8 y.toNat)) (some g) := by
  have hne : xs ≠ [] := fun e => by rw [e] at hx; cases hx
  have hl : 0 < xs.length := List.length_pos_iff.2 hne
  have hxi : xs[xs.length - 1]? = some x := by rw [← hx, List.getLast?_eq_getElem?]
  obtain ⟨A, c', e, hli, _⟩ := h.liesN
  injection e with e1 e2 e3
  subst e1
  obtain ⟨b, off, e4, _, hc⟩ := hli (xs.length - 1) (.int .u8 x.toNat) (by unfold cells nums; rw [List.map_map, List.getElem?_map, hxi]; rfl)
  injection e4 with e4
  injection e4 with e5 e6
  subst e5; subst e6
  rw [Nat.zero_add] at hc
  have hfr : w.frozen? ⟨g, xs.length - 1, none⟩ = false := by
    rcases h.2 with ⟨e, _⟩ | ⟨g', cap, cur, e, hb, hg, _⟩
    · cases e
    · injection e with e1 _ _
      injection e1 with e1
      injection e1 with e1
      subst e1
      exact frozen_of_row w _ _ cur _ hg
  refine ⟨hc, hfr, fun y => ?_⟩
  obtain ⟨h1, h2⟩ := World.ownsRow.stored h (xs.length - 1) (.int .u8 y.toNat)
  refine ⟨?_, h2⟩
  have e : (cells (nums xs)).set (xs.length - 1) (.int .u8 y.toNat) = cells (nums (xs.dropLast ++ [y])) := by
    have hd : xs = xs.dropLast ++ [x] := by
      obtain ⟨ys, rfl⟩ := List.getLast?_eq_some_iff.1 hx
      simp
    conv => lhs; rw [hd]
    unfold cells nums
    rw [List.map_append, List.map_append, List.map_append, List.map_append]
    rw [List.set_append_right _ _ (by simp)]
    simp
  unfold Row
  rw [← e]
  have hl2 : (xs.dropLast ++ [y]).length = xs.length := by simp; omega
  rw [hl2]
  exact h1
/-- What add leaves: nest's two cells, the row of open blocks. -/
def Added (nb base : Nat) (v : Value) (st : List UInt8) (en : Bool) (W : World) (e : Ending) (W' : World) : Prop :=
  e = .returned (.bool true) ∧ ∃ v' Wm, Whole W' nb 111 #[v', .bool en] ∧ Row W' base v' st ∧ W.grownBy Wm v.ownBlock ∧ Wm.grownBy W' (some nb)
theorem Row.apart {w : World} {base n nb : Nat} {a : Addr} {c : Nat} {xs : List UInt8} {t : TypeId} {cs : Array Value} (h : Row w base (.slice (some a) n c) xs) (hw : Whole w nb t cs) (hne : t ≠ 5) : nb ≠ a.block := by
  rcases h.2 with ⟨e, _⟩ | ⟨g, cap, cur, e, hb, hg, _⟩
  · cases e
  · injection e with e1 _ _
    injection e1 with e1
    subst e1
    exact hw.apart (show Whole w g 5 cur from hg) hne
section
variable {W : World} {nb base : Nat} {v : Value} {st : List UInt8}
theorem turn_no (hn : Whole W nb 111 #[v, .bool false]) (hr : Row W base v st) (hs : st.length ≤ 100000) (hno : st.getLast? ≠ some 4) :
    Calls Tryd.prog 76 #[.pointer (some ⟨nb, 0, none⟩)] W fun e W' => e = .returned (.bool false) ∧ W = W' := by
  obtain ⟨A, c, rfl, _⟩ := hr.liesN
  have c0 := hn.cell 0
  simp only [List.getElem?_toArray, List.getElem?_cons_zero] at c0
  by_cases h0 : st = []
  · subst h0
    clear hn hr
    go_enter Tryd.func76, Tryd.ntmps76
    go_wp2
    go_ret
    exact ⟨rfl, rfl⟩
  · obtain ⟨g, rfl, _, hbg, hglt, hcut, hc1, hc2⟩ := hr.cut h0
    obtain ⟨x, hx⟩ : ∃ x, st.getLast? = some x := by cases h : st.getLast? with
      | none => exact absurd (List.getLast?_eq_none_iff.1 h) h0
      | some x => exact ⟨x, rfl⟩
    obtain ⟨hcell, hfr, hset⟩ := hr.last hx
    have h4 : x ≠ 4 := fun e => hno (by rw [hx, e])
    have d4 : ((x.toNat : Int) != 4) = true := by
      have : x.toNat ≠ (4 : UInt8).toNat := fun e => h4 (UInt8.toNat_inj.1 e)
      have e4 : (4 : UInt8).toNat = 4 := rfl
      rw [e4] at this
      simp
      omega
    obtain ⟨n, hnn⟩ : ∃ n, st.length = n + 1 := ⟨st.length - 1, by have := List.length_pos_iff.2 h0; omega⟩
    rw [hnn] at c0 hcell hfr hs hc1
    rw [Nat.add_sub_cancel] at hcell hfr
    have e1 : ((n + 1 : Nat) : Int) - 1 = n := by omega
    clear hset hn hr hx hcut hnn hno
    unfold maxLen at hc2
    go_enter Tryd.func76, Tryd.ntmps76
    go_wp2
    go_ret
    exact ⟨rfl, rfl⟩
theorem turn_yes (hn : Whole W nb 111 #[v, .bool false]) (hr : Row W base v st) (hs : st.length ≤ 100000) (hx : st.getLast? = some 4) :
    Calls Tryd.prog 76 #[.pointer (some ⟨nb, 0, none⟩)] W (Added nb base v (st.dropLast ++ [5]) false W) := by
  obtain ⟨A, c, rfl, _⟩ := hr.liesN
  have c0 := hn.cell 0
  simp only [List.getElem?_toArray, List.getElem?_cons_zero] at c0
  have h0 : st ≠ [] := fun e => by rw [e] at hx; cases hx
  obtain ⟨g, rfl, _, hbg, hglt, hcut, hc1, hc2⟩ := hr.cut h0
  obtain ⟨hcell, hfr, hset⟩ := hr.last hx
  have HAP := Lib.hid (hr.apart hn (by decide))
  obtain ⟨n, hnn⟩ : ∃ n, st.length = n + 1 := ⟨st.length - 1, by have := List.length_pos_iff.2 h0; omega⟩
  rw [hnn] at c0 hcell hfr hs hc1 hset ⊢
  rw [Nat.add_sub_cancel] at hcell hfr hset
  have e1 : ((n + 1 : Nat) : Int) - 1 = n := by omega
  have e4 : ((4 : UInt8).toNat : Int) = 4 := rfl
  rw [e4] at hcell
  have HS := Lib.hid (hset 5)
  have HN := Lib.hid hn
  rw [hnn] at HN
  clear hset hn hr hx hcut hnn h0
  unfold maxLen at hc2
  go_enter Tryd.func76, Tryd.ntmps76
  go_wp2
  go_ret
  exact ⟨rfl, _, _, HN.out.far HAP.out _, HS.out.1, HS.out.2, gb_refl _ _⟩
end
end Go.Proofs.YtohliaellefhaaaDoor
