/- slices.Equal of labels; instr.Same; the reference's Same. -/
import Derived.Test.YtebgmfjgapmpfaaDoorQg06
import Derived.RegionTactic
import Derived.Test.YtebgmfjgapmpfaaDoorQg07
namespace Go.Proofs.YtebgmfjgapmpfaaDoor
open Go.RowKit
set_option linter.unusedVariables false
set_option maxRecDepth 100000

def LiesL (w : World) (A : Option Addr) (l : List Int) : Prop := Lies w w.heap.size A (cells32 l)
theorem LiesL.below {w w' : World} {A : Option Addr} {l : List Int} (h : LiesL w A l) (hb : Below w.heap.size w w') : LiesL w' A l := (Lies.below h hb (Nat.le_refl _)).more hb.size
theorem LiesL.at {w : World} {A : Option Addr} {l : List Int} (h : LiesL w A l) {i : Nat} {d : Int} (hd : l[i]? = some d) : ∃ b off, A = some ⟨b, off, none⟩ ∧ b < w.heap.size ∧ w.cell? ⟨b, off + i, none⟩ = some (.int .u32 d) := by
  obtain ⟨b, off, e, hb, hc⟩ := h i _ (cells32_get hd)
  exact ⟨b, off, e, hb, hc⟩
/-- The first k of two lists are the same. -/
def Eqs (a b : List Int) (k : Nat) : Prop := ∀ j, j < k → a[j]? = b[j]?
theorem Eqs.all {a b : List Int} {n : Nat} (h : Eqs a b n) (ha : a.length = n) (hb : b.length = n) : a = b := by
  apply List.ext_getElem?
  intro j
  rcases Nat.lt_or_ge j n with g | g
  · exact h j g
  · rw [List.getElem?_eq_none (by omega), List.getElem?_eq_none (by omega)]
def BoolPost (p : Bool) (w : World) (e : Ending) (w' : World) : Prop := e = .returned (.bool p) ∧ Below w.heap.size w w'
set_option maxHeartbeats 800000 in
theorem equal_any {w : World} {A B : Option Addr} {c d : Nat} {a b : List Int} (ha : LiesL w A a) (hb : LiesL w B b) (na : a.length ≤ 100000) (nb : b.length ≤ 100000) :
    Calls Tryd.prog 68 #[.slice A a.length c, .slice B b.length d] w fun e w' => e = .returned (.bool (decide (a = b))) ∧ ∃ q, w' = w.drewN q := by
  obtain ⟨n, hn⟩ : ∃ n, n = a.length := ⟨_, rfl⟩
  obtain ⟨m, hm⟩ : ∃ m, m = b.length := ⟨_, rfl⟩
  rw [← hn] at na ⊢
  rw [← hm] at nb ⊢
  by_cases hnm : n = m
  · subst hnm
    have HA := Lib.hid ha
    have HB := Lib.hid hb
    have HN := Lib.hid hn
    have HM := Lib.hid hm
    clear ha hb hn hm
    go_enter Tryd.func68, Tryd.ntmps68
    go_wp2
    go_loopw [13] (fun s wr => ∃ k q : Nat, k ≤ n ∧ s = .int .i64 k ∧ wr = w.drewN q ∧ Eqs a b k) (fun s _ => n - (intOf s).toNat)
    case atStart => exact ⟨0, 0, Nat.zero_le _, rfl, rfl, fun j hj => absurd hj (Nat.not_lt_zero _)⟩
    case round =>
      obtain ⟨k, q, hk, rfl, rfl, heq⟩ := hrel
      by_cases hlt : k < n
      · obtain ⟨x, hx⟩ : ∃ x, a[k]? = some x := ⟨_, List.getElem?_eq_getElem (by rw [← HN.out]; exact hlt)⟩
        obtain ⟨y, hy⟩ : ∃ y, b[k]? = some y := ⟨_, List.getElem?_eq_getElem (by rw [← HM.out]; exact hlt)⟩
        obtain ⟨b1, o1, rfl, _, g1⟩ := HA.out.at hx
        obtain ⟨b2, o2, rfl, _, g2⟩ := HB.out.at hy
        have HE := Lib.hid heq
        have HX := Lib.hid hx
        have HY := Lib.hid hy
        clear heq hx hy
        by_cases hxy : x = y
        · have HXY := Lib.hid hxy
          have hc : (x != y) = false := by simpa using hxy
          clear hxy
          go_wp2_with fail
          go_region
          go_wp2
          go_roundw
          case measure => simp [intOf]; omega
          case rel =>
            refine ⟨k + 1, q + 1, by omega, by go_num, rfl, fun j hj => ?_⟩
            by_cases e : j = k
            · subst e
              rw [HX.out, HY.out, HXY.out]
            · exact HE.out j (by omega)
        · have HXY := Lib.hid hxy
          have hc : (x != y) = true := by simpa using hxy
          clear hxy
          go_wp2_with fail
          go_region
          go_wp2
          go_ret
          refine ⟨ret_bool ?_, q + 1, rfl⟩
          have : ¬ a = b := fun e => HXY.out (by have h1 := HX.out; have h2 := HY.out; rw [e, h2] at h1; injection h1 with h1; exact h1.symm)
          rw [decide_eq_false this]
      · obtain rfl : k = n := by omega
        have hab := heq.all HN.out.symm HM.out.symm
        clear heq
        go_wp2
        go_ret
        exact ⟨ret_bool (by rw [decide_eq_true hab]), q, rfl⟩
  · have hc : ((n : Int) != m) = true := by simp; omega
    have HE := Lib.hid (show decide (a = b) = false from decide_eq_false (fun e => hnm (by rw [hn, hm, e])))
    clear hnm hn hm
    go_enter Tryd.func68, Tryd.ntmps68
    go_wp2
    go_ret
    exact ⟨ret_bool HE.out.symm, 0, rfl⟩

/-- Are two instructions the same? -/
def sameZ (i k : I) : Bool := decide (i.op = k.op) && decide (i.a = k.a) && decide (i.b = k.b) && decide (i.l = k.l)
theorem below_twoI (w : World) (i k : I) (A B : Option Addr) (c d : Nat) : Below w.heap.size w ((w.alloc (.cells (insC i A c) 25)).alloc (.cells (insC k B d) 25)) := (below_box w _).alloc (by simp) _
theorem same_no {i k : I} {w W : World} (h : ¬ (i.op = k.op ∧ i.a = k.a ∧ i.b = k.b ∧ i.l = k.l)) (hb : Below w.heap.size w W) : BoolPost (sameZ i k) w (.returned (.bool false)) W := by
  refine ⟨ret_bool ?_, hb⟩
  unfold sameZ
  by_cases h1 : i.op = k.op
  · by_cases h2 : i.a = k.a
    · by_cases h3 : i.b = k.b
      · have h4 : ¬ i.l = k.l := fun e => h ⟨h1, h2, h3, e⟩
        simp [h4]
      · simp [h3]
    · simp [h2]
  · simp [h1]
theorem op_ne {a b : UInt8} (h : a ≠ b) : ((a.toNat : Int) == b.toNat) = false := by
  simp
  intro e
  exact h (UInt8.toNat_inj.1 (by omega))
theorem op_eq (a : UInt8) : ((a.toNat : Int) == a.toNat) = true := by simp
set_option maxHeartbeats 1000000 in
theorem same_any {w : World} {A B : Option Addr} {c d : Nat} {i k : I} (ha : LiesL w A i.l) (hb : LiesL w B k.l) (na : i.l.length ≤ 100000) (nb : k.l.length ≤ 100000) :
    Calls Tryd.prog 14 #[insV i A c, insV k B d] w (BoolPost (sameZ i k) w) := by
  have HB2 := Lib.hid (below_twoI w i k A B c d)
  have HEQ := Lib.hid (equal_any (c := c) (d := d) (ha.below HB2.out) (hb.below HB2.out) na nb)
  clear ha hb
  by_cases h1 : i.op = k.op
  · have d1 : ((i.op.toNat : Int) == k.op.toNat) = true := by rw [h1]; exact op_eq _
    by_cases h2 : i.a = k.a
    · have d2 : (i.a == k.a) = true := by simpa using h2
      by_cases h3 : i.b = k.b
      · have d3 : (i.b == k.b) = true := by simpa using h3
        have HE := Lib.hid (show sameZ i k = decide (i.l = k.l) by unfold sameZ; simp [h1, h2, h3])
        clear h1 h2 h3
        go_enter Tryd.func14, Tryd.ntmps14
        go_wp2_with (go_at_call 68; go_must ((with_reducible refine HEQ.out.mono ?_); rintro e w' ⟨rfl, q, rfl⟩))
        go_ret
        exact ⟨ret_bool HE.out.symm, below_drewN HB2.out _⟩
      · have d3 : (i.b == k.b) = false := by simpa using h3
        have HNO := Lib.hid (fun W hb => same_no (i := i) (k := k) (w := w) (W := W) (fun h => h3 h.2.2.1) hb)
        clear h1 h2 h3
        go_enter Tryd.func14, Tryd.ntmps14
        go_wp2
        go_ret
        exact HNO.out _ HB2.out
    · have d2 : (i.a == k.a) = false := by simpa using h2
      have HNO := Lib.hid (fun W hb => same_no (i := i) (k := k) (w := w) (W := W) (fun h => h2 h.2.1) hb)
      clear h1 h2
      go_enter Tryd.func14, Tryd.ntmps14
      go_wp2
      go_ret
      exact HNO.out _ HB2.out
  · have d1 := op_ne h1
    have HNO := Lib.hid (fun W hb => same_no (i := i) (k := k) (w := w) (W := W) (fun h => h1 h.1) hb)
    clear h1
    go_enter Tryd.func14, Tryd.ntmps14
    go_wp2
    go_ret
    exact HNO.out _ HB2.out
set_option maxHeartbeats 2000000 in
theorem refSame_any {w : World} {A B : Option Addr} {c d : Nat} {i k : I} (ha : LiesL w A i.l) (hb : LiesL w B k.l) (na : i.l.length ≤ 100000) (nb : k.l.length ≤ 100000) :
    Calls Tryd.prog 15 #[insV i A c, insV k B d] w (BoolPost (sameZ i k) w) := by
  have HB2 := Lib.hid (below_twoI w i k A B c d)
  have HA := Lib.hid (ha.below HB2.out)
  have HB := Lib.hid (hb.below HB2.out)
  clear ha hb
  by_cases h1 : i.op = k.op
  · have d1 : ((i.op.toNat : Int) != k.op.toNat) = false := by rw [h1]; simp
    by_cases h2 : i.a = k.a
    · have d2 : (i.a != k.a) = false := by simpa using h2
      by_cases h3 : i.b = k.b
      · have d3 : (i.b != k.b) = false := by simpa using h3
        have HE := Lib.hid (show sameZ i k = decide (i.l = k.l) by unfold sameZ; simp [h1, h2, h3])
        by_cases h4 : i.l.length = k.l.length
        · have d4 : ((i.l.length : Int) != k.l.length) = false := by rw [h4]; simp
          have HL := Lib.hid h4
          clear h1 h2 h3 h4
          go_enter Tryd.func15, Tryd.ntmps15
          go_wp2
          generalize hW : ((w.alloc (.cells (insC i A c) 25)).alloc (.cells (insC k B d) 25)) = W at *
          have x3 : W.cell? ⟨w.heap.size, 3, none⟩ = some (.slice A i.l.length c) := by rw [← hW]; exact ((Whole.made w 25 (insC i A c)).alloc _).cell 3
          have y3 : W.cell? ⟨w.heap.size + 1, 3, none⟩ = some (.slice B k.l.length d) := by
            rw [← hW]
            have := Whole.made (w.alloc (.cells (insC i A c) 25)) 25 (insC k B d)
            rw [size_box] at this
            exact this.cell 3
          clear hW
          go_loopw [5] (fun s wr => ∃ j q : Nat, j ≤ i.l.length ∧ s = .int .i64 j ∧ wr = W.drewN q ∧ Eqs i.l k.l j) (fun s _ => i.l.length - (intOf s).toNat)
          case atStart => exact ⟨0, 0, Nat.zero_le _, rfl, rfl, fun j hj => absurd hj (Nat.not_lt_zero _)⟩
          case round =>
            obtain ⟨j, q, hj, rfl, rfl, heq⟩ := hrel
            by_cases hlt : j < i.l.length
            · obtain ⟨x, hx⟩ : ∃ x, i.l[j]? = some x := ⟨_, List.getElem?_eq_getElem hlt⟩
              obtain ⟨y, hy⟩ : ∃ y, k.l[j]? = some y := ⟨_, List.getElem?_eq_getElem (by rw [← HL.out]; exact hlt)⟩
              obtain ⟨b1, o1, rfl, _, g1⟩ := HA.out.at hx
              obtain ⟨b2, o2, rfl, _, g2⟩ := HB.out.at hy
              have hlt2 : j < k.l.length := by rw [← HL.out]; exact hlt
              have HE2 := Lib.hid heq
              have HX := Lib.hid hx
              have HY := Lib.hid hy
              clear heq hx hy
              by_cases hxy : x = y
              · have HXY := Lib.hid hxy
                have hc : (x != y) = false := by simpa using hxy
                clear hxy
                go_wp2_with fail
                go_region
                go_wp2
                go_roundw
                case measure => simp [intOf]; omega
                case rel =>
                  refine ⟨j + 1, q + 1, by omega, by go_num, rfl, fun u hu => ?_⟩
                  by_cases e : u = j
                  · subst e
                    rw [HX.out, HY.out, HXY.out]
                  · exact HE2.out u (by omega)
              · have HXY := Lib.hid hxy
                have hc : (x != y) = true := by simpa using hxy
                clear hxy
                go_wp2_with fail
                go_region
                go_wp2
                go_ret
                refine ⟨ret_bool ?_, below_drewN HB2.out _⟩
                have : ¬ i.l = k.l := fun e => HXY.out (by have h1 := HX.out; have h2 := HY.out; rw [e, h2] at h1; injection h1 with h1; exact h1.symm)
                rw [HE.out, decide_eq_false this]
            · have hjj : j = i.l.length := by omega
              subst hjj
              have hab : i.l = k.l := heq.all rfl HL.out.symm
              clear heq
              go_wp2
              go_ret
              exact ⟨ret_bool (by rw [HE.out, decide_eq_true hab]), below_drewN HB2.out _⟩
        · have d4 : ((i.l.length : Int) != k.l.length) = true := by simp; omega
          have HNO := Lib.hid (fun W hb => same_no (i := i) (k := k) (w := w) (W := W) (fun h => h4 (by rw [h.2.2.2])) hb)
          clear h1 h2 h3 h4
          go_enter Tryd.func15, Tryd.ntmps15
          go_wp2
          go_ret
          exact HNO.out _ HB2.out
      · have d3 : (i.b != k.b) = true := by simpa using h3
        have HNO := Lib.hid (fun W hb => same_no (i := i) (k := k) (w := w) (W := W) (fun h => h3 h.2.2.1) hb)
        clear h1 h2 h3
        go_enter Tryd.func15, Tryd.ntmps15
        go_wp2
        go_ret
        exact HNO.out _ HB2.out
    · have d2 : (i.a != k.a) = true := by simpa using h2
      have HNO := Lib.hid (fun W hb => same_no (i := i) (k := k) (w := w) (W := W) (fun h => h2 h.2.1) hb)
      clear h1 h2
      go_enter Tryd.func15, Tryd.ntmps15
      go_wp2
      go_ret
      exact HNO.out _ HB2.out
  · have d1 : ((i.op.toNat : Int) != k.op.toNat) = true := by have := op_ne h1; simp at this ⊢; exact this
    have HNO := Lib.hid (fun W hb => same_no (i := i) (k := k) (w := w) (W := W) (fun h => h1 h.1) hb)
    clear h1
    go_enter Tryd.func15, Tryd.ntmps15
    go_wp2
    go_ret
    exact HNO.out _ HB2.out
end Go.Proofs.YtebgmfjgapmpfaaDoor

/- The reference's num, signed, Put. (By gen/genRefPut.py.) -/
namespace Go.Proofs.YtebgmfjgapmpfaaDoor
open Go.RowKit
set_option linter.unusedVariables false
set_option maxRecDepth 100000

def StrPost (l : List UInt8) (w : World) (e : Ending) (w' : World) : Prop := e = .returned (.string (S l)) ∧ Below w.heap.size w w'
theorem num_any (x : Int) (w : World) (h0 : 0 ≤ x) (h1 : x ≤ 18446744073709551615) : Calls Tryd.prog 71 #[.int .u64 x] w (StrPost (lebL x) w) := by
  have U := Lib.hid (fun W => refUintL x W h0 h1)
  have hl := (lebL_len x h1).1
  generalize lebL x = l at *
  go_enter Tryd.func71, Tryd.ntmps71
  go_wp2_with (go_at_call 117; go_must ((with_reducible refine (U.out _).mono ?_); intro e w1 h; obtain ⟨A, k, rfl, hl1, hb⟩ := h; have hs := str_lies' hl1 hl k; have HB := Lib.hid hb; clear hb hl1))
  go_ret
  exact ⟨rfl, HB.out⟩
theorem conv1 {W : World} {op : UInt8} {H : Nat} (hH : W.heap.size = H) : (convert 26 9 (.slice (some ⟨H, 0, none⟩) 1 1)).run Tryd.prog (W.alloc (.cells #[.int .u8 op.toNat] 5)) = .ok (.string (S [op])) (W.alloc (.cells #[.int .u8 op.toNat] 5)) := by
  obtain ⟨A, c, e, h⟩ := (Row.made W [op] 0 H hH (Nat.zero_le _) (by simp)).str
  injection e with e1 _ e2
  subst e1; subst e2
  exact h 9 Tryd.underlying9
theorem conv2 {W : World} {op H : Nat} (hH : W.heap.size = H) (x : Int) (h0 : 0 ≤ x) (h1 : x ≤ 255) : (convert 26 9 (.slice (some ⟨H, 0, none⟩) 1 1)).run Tryd.prog (W.alloc (.cells #[.int .u8 x] 5)) = .ok (.string (S [UInt8.ofNat x.toNat])) (W.alloc (.cells #[.int .u8 x] 5)) := by
  have := conv1 (op := UInt8.ofNat x.toNat) hH
  rwa [u8_of h0 h1] at this

theorem signed32_any (x : Int) (w : World) (h0 : 0 ≤ x) (h1 : x ≤ 18446744073709551615) : Calls Tryd.prog 72 #[.int .u64 x, .int .u64 32] w (StrPost (sebL (s32 x)) w) := by
  have hs : -9223372036854775808 ≤ s32 x ∧ s32 x ≤ 9223372036854775807 := by unfold s32; omega
  have U := Lib.hid (fun W => refIntL (s32 x) W hs.1 hs.2)
  have hl := (sebL_len (s32 x) hs.1 hs.2).1
  have hz : wrap64 (IntKind.u64.wrap (x * 4294967296)) / 4294967296 = s32 x := by unfold s32 wrap64; simp only [IntKind.wrap, IntKind.bits, IntKind.signed]; simp; omega
  generalize s32 x = z at *
  generalize sebL z = l at *
  go_enter Tryd.func72, Tryd.ntmps72
  go_wp2_with (go_at_call 118; go_must ((with_reducible refine (U.out _).mono ?_); intro e w1 h; obtain ⟨A, k, rfl, hl1, hb⟩ := h; have hs2 := str_lies' hl1 hl k; have HB := Lib.hid hb; clear hb hl1))
  go_ret
  exact ⟨rfl, HB.out⟩

theorem signed64_any (x : Int) (w : World) (h0 : 0 ≤ x) (h1 : x ≤ 18446744073709551615) : Calls Tryd.prog 72 #[.int .u64 x, .int .u64 64] w (StrPost (sebL (s64 x)) w) := by
  have hs : -9223372036854775808 ≤ s64 x ∧ s64 x ≤ 9223372036854775807 := by unfold s64; omega
  have U := Lib.hid (fun W => refIntL (s64 x) W hs.1 hs.2)
  have hl := (sebL_len (s64 x) hs.1 hs.2).1
  have hz : wrap64 x = s64 x := by unfold s64 wrap64; omega
  generalize s64 x = z at *
  generalize sebL z = l at *
  go_enter Tryd.func72, Tryd.ntmps72
  go_wp2_with (go_at_call 118; go_must ((with_reducible refine (U.out _).mono ?_); intro e w1 h; obtain ⟨A, k, rfl, hl1, hb⟩ := h; have hs2 := str_lies' hl1 hl k; have HB := Lib.hid hb; clear hb hl1))
  go_ret
  exact ⟨rfl, HB.out⟩

section
variable {w W W' : World} {i : I} {A : Option Addr} {c : Nat}
theorem BoxI.on3 (h : BoxI w W i A c) {O O' : Obj} (hb : Below ((W.alloc O).alloc O').heap.size ((W.alloc O).alloc O') W') : BoxI w W' i A c := ((h.on (below_box W O)).on (below_box _ O')).on hb
theorem BoxI.two3 (h : BoxI w W i A c) (O O' : Obj) : BoxI w ((W.alloc O).alloc O') i A c := (h.on (below_box W O)).on (below_box _ O')
theorem BoxI.three (h : BoxI w W i A c) : BoxI w W i A c ∧ W.cell? ⟨w.heap.size, 1, none⟩ = some (.int .u64 i.a) ∧ W.cell? ⟨w.heap.size, 2, none⟩ = some (.int .u64 i.b) := ⟨h, h.c1, h.c2⟩
theorem held_num {K : Nat} {args : Array Value} {l : List UInt8} (hN : ∀ W, Calls Tryd.prog K args W (StrPost l W)) (h : BoxI w W i A c ∧ W.cell? ⟨w.heap.size, 1, none⟩ = some (.int .u64 i.a) ∧ W.cell? ⟨w.heap.size, 2, none⟩ = some (.int .u64 i.b)) :
    Calls Tryd.prog K args W fun e w' => e = .returned (.string (S l)) ∧ BoxI w w' i A c ∧ w'.cell? ⟨w.heap.size, 1, none⟩ = some (.int .u64 i.a) ∧ w'.cell? ⟨w.heap.size, 2, none⟩ = some (.int .u64 i.b) :=
  (hN W).mono fun _ _ ⟨h1, h2⟩ => ⟨h1, BoxI.three (h.1.on h2)⟩
end
theorem str_put {i : I} {l : List UInt8} {s : ByteArray} {w W : World} (hp : putL i = l) (hs : s = S l) (hb : Below w.heap.size w W) : StrPost (putL i) w (.returned (.string s)) W := ⟨by rw [hs, hp], hb⟩
set_option maxHeartbeats 3000000 in
theorem refPut_any (i : I) (A : Option Addr) (c : Nat) (w : World) (h : i.Ok) (hr : rightZ i = 0) (hl : Lies w w.heap.size A (cells32 i.l)) :
    Calls Tryd.prog 17 #[insV i A c] w (StrPost (putL i) w) := by
  have hn := i.n_le
  have HT := Lib.hid (immL_len h hr)
  obtain ⟨a0, a1, b0, b1, hl0⟩ := h
  have hwb : IntKind.i64.wrap (i.op.toNat : Int) = i.op.toNat := by rw [IntKind.wrap_i64]; have := i.op.toNat_lt; omega
  obtain ⟨hc0, _, h10, _, hz0⟩ := right_zero hr
  obtain ⟨hz1, hz2, hz3⟩ := nums_zero hz0 a0
  have HL0 := Lib.hid hl0
  have HB := Lib.hid (BoxI.start w i A c)
  have HL := Lib.hid hl
  obtain ⟨m, hm⟩ : ∃ m, m = immR i.n := ⟨_, rfl⟩
  obtain ⟨r, hr2⟩ : ∃ r, r = refR i.n := ⟨_, rfl⟩
  have him : (r.getD row0).imm = m := by rw [hr2, hm]; exact (imm_same hn hc0).2
  have HI : Hid (∀ W, Calls Tryd.prog 61 #[.int .i64 i.op.toNat] W (RefPost r W)) := fun W => by rw [hr2]; exact ref_any i.n W hn
  have HIM := Lib.hid (show putL i = [i.op] ++ immB m i by unfold putL immL; rw [hm]; rfl)
  rw [← hm] at hz1 hz2 hz3
  have HZ1 := Lib.hid hz1
  have HZ2 := Lib.hid hz2
  have HZ3 := Lib.hid hz3
  have NA := Lib.hid (fun W => num_any i.a W a0 a1)
  have NB := Lib.hid (fun W => num_any i.b W b0 b1)
  have NL := Lib.hid (fun W => num_any (i.l.length : Int) W (by omega) (by omega))
  have ka := lebL_len i.a (by omega)
  have kb := lebL_len i.b (by omega)
  have kl := lebL_len (i.l.length : Int) (by omega)
  have wl : IntKind.u64.wrap (i.l.length : Int) = i.l.length := by simp [IntKind.wrap, IntKind.bits, IntKind.signed]; omega
  obtain ⟨xa, hxa⟩ : ∃ x, x = lebL i.a := ⟨_, rfl⟩
  obtain ⟨xb, hxb⟩ : ∃ x, x = lebL i.b := ⟨_, rfl⟩
  obtain ⟨xl, hxl⟩ : ∃ x, x = lebL (i.l.length : Int) := ⟨_, rfl⟩
  rw [← hxa] at NA ka
  rw [← hxb] at NB kb
  rw [← hxl] at NL kl
  have sa := S_size xa
  have sb := S_size xb
  have sl := S_size xl
  obtain ⟨o, ho⟩ : ∃ o, o = [i.op] := ⟨_, rfl⟩
  have so : (S o).size = 1 := by rw [S_size, ho]; rfl
  have HC1 := Lib.hid (fun (W : World) (H : Nat) (hH : W.heap.size = H) => (by rw [ho]; exact conv1 hH : (convert 26 9 (.slice (some ⟨H, 0, none⟩) 1 1)).run Tryd.prog (W.alloc (.cells #[.int .u8 i.op.toNat] 5)) = .ok (.string (S o)) (W.alloc (.cells #[.int .u8 i.op.toNat] 5))))
  have HO := Lib.hid ho
  have HXA := Lib.hid hxa
  have HXB := Lib.hid hxb
  have HXL := Lib.hid hxl
  generalize (r.getD row0).op = r1 at *
  clear hl hr hc0 hz0 hr2 hm hz1 hz2 hz3 hl0 hxa hxb hxl ho
  have below2 : ∀ W : World, Below w.heap.size w W → ∀ O O', Below w.heap.size w ((W.alloc O).alloc O') := fun W hb O O' => (hb.alloc hb.size _).alloc (Nat.le_trans hb.size (below_box _ _).size) _
  have HB3f := Lib.hid below2
  clear below2
  by_cases m0 : m = 0
  · subst m0
    have HE := Lib.hid (show putL i = o ++ ([]) by rw [HIM.out, HO.out]; unfold immB; rw [if_pos rfl])
    go_enter Tryd.func17, Tryd.ntmps17
    go_wp2_with (first
      | (go_at_call 61; go_must ((with_reducible refine (HI.out _).mono ?_); rintro e w2 ⟨rfl, hb⟩; have HB2 := Lib.hid (HB.out.on hb); have hlt := HB2.out.lt; have c0 := HB2.out.c0; have c1 := HB2.out.c1; have c2 := HB2.out.c2; have c3 := HB2.out.c3; have hcv := fun O => HC1.out (w2.alloc O) (w2.heap.size + 1) (size_box _ _); clear hb)))
    go_ret
    exact str_put HE.out (by simp) (HB3f.out _ HB2.out.2 _ _)
  have d0 : ((m : Int) == 0) = false := by simp; omega
  by_cases m1 : m = 1
  · subst m1
    have HE := Lib.hid (show putL i = o ++ ([UInt8.ofNat i.a.toNat]) by rw [HIM.out, HO.out]; unfold immB; rw [if_neg (by omega), if_pos rfl])
    have ha := (HZ1.out rfl).1
    have hw : IntKind.u8.wrap i.a = i.a := by simp [IntKind.wrap, IntKind.bits, IntKind.signed]; omega
    obtain ⟨y, hy⟩ : ∃ y, y = [UInt8.ofNat i.a.toNat] := ⟨_, rfl⟩
    have sy : (S y).size = 1 := by rw [S_size, hy]; rfl
    have HC2 := Lib.hid (fun (W : World) (H : Nat) (hH : W.heap.size = H) => (by rw [hy]; exact conv2 (op := 0) hH i.a a0 ha : (convert 26 9 (.slice (some ⟨H, 0, none⟩) 1 1)).run Tryd.prog (W.alloc (.cells #[.int .u8 i.a] 5)) = .ok (.string (S y)) (W.alloc (.cells #[.int .u8 i.a] 5))))
    rw [← hy] at HE
    have q : (S o).size + (S y).size ≤ 9223372036854775807 := by omega
    clear hy
    go_enter Tryd.func17, Tryd.ntmps17
    go_wp2_with (go_at_call 61; go_must ((with_reducible refine (HI.out _).mono ?_); rintro e w2 ⟨rfl, hb⟩; have HB2 := Lib.hid (HB.out.on hb); have hlt := HB2.out.lt; have c0 := HB2.out.c0; have c1 := HB2.out.c1; have c2 := HB2.out.c2; have c3 := HB2.out.c3; have hcv := fun O => HC1.out (w2.alloc O) (w2.heap.size + 1) (size_box _ _); have hcv2 := fun O O' => HC2.out ((w2.alloc O).alloc O') (w2.heap.size + 1 + 1) (by rw [size_box, size_box]); clear hb))
    go_ret
    exact str_put HE.out (by rw [S_append]) ((HB3f.out _ HB2.out.2 _ _).alloc (by have := HB2.out.2.size; rw [size_box, size_box]; omega) _)
  have d1 : ((m : Int) == 1) = false := by simp; omega
  by_cases m3 : m = 3
  · subst m3
    have HE := Lib.hid (show putL i = o ++ (labL i.l ++ xa) by rw [HIM.out, HXA.out, HO.out]; unfold immB; rw [if_neg (by omega), if_neg (by omega), if_pos rfl])
    have q1 : (S o).size + (S xl).size ≤ 9223372036854775807 := by omega
    go_enter Tryd.func17, Tryd.ntmps17
    go_wp2_with (first
      | (go_at_call 61; go_must ((with_reducible refine (HI.out _).mono ?_); rintro e w2 ⟨rfl, hb⟩; have HB2 := Lib.hid (HB.out.on hb); have hlt := HB2.out.lt; have c0 := HB2.out.c0; have c1 := HB2.out.c1; have c2 := HB2.out.c2; have c3 := HB2.out.c3; have hcv := fun O => HC1.out (w2.alloc O) (w2.heap.size + 1) (size_box _ _); clear hb))
      | (go_at_call 71; go_must ((with_reducible refine (NL.out _).mono ?_); rintro e w3 ⟨rfl, hb⟩; have HB3 := Lib.hid (HB2.out.on3 hb); clear hb)))
    rw [S_append]
    obtain ⟨t0, ht0⟩ : ∃ t, t = o ++ xl := ⟨_, rfl⟩
    rw [← ht0]
    have HT0 := Lib.hid ht0
    clear ht0
    go_loopw [5, 6] (fun s j wr => ∃ k : Nat, k ≤ i.l.length ∧ j = .int .i64 k ∧ s = .string (S (t0 ++ labsL (i.l.take k))) ∧ BoxI w wr i A c) (fun _ j _ => i.l.length - (intOf j).toNat)
    case atStart => exact ⟨0, Nat.zero_le _, rfl, by simp [labsL], HB3.out⟩
    case round =>
      obtain ⟨k, hk, rfl, rfl, hbx⟩ := hrel
      have d3 := hbx.c3
      have d1 := hbx.c1
      have HBX := Lib.hid hbx
      have hlen : (t0 ++ labsL (i.l.take k)).length ≤ 200000 := by rw [List.length_append, HT0.out, List.length_append, HO.out]; have := labsL_take_len i.l HL0.out k h10; simp; omega
      by_cases hlt : k < i.l.length
      · obtain ⟨d, hd⟩ : ∃ d, i.l[k]? = some d := ⟨_, List.getElem?_eq_getElem hlt⟩
        obtain ⟨b, off, rfl, hbl, hcell⟩ := HL.out k _ (cells32_get hd)
        have hcell2 := (hbx.2.cell (p := ⟨b, off + k, none⟩) hbl).trans hcell
        have hdb := HL0.out d (List.mem_of_getElem? hd)
        have wd : IntKind.u64.wrap d = d := by simp [IntKind.wrap, IntKind.bits, IntKind.signed]; omega
        have ND := Lib.hid (fun W => num_any d W hdb.1 (by omega))
        have m2 := lebL_len d (by omega)
        have HS := Lib.hid (labsL_snoc hd)
        obtain ⟨y, hy⟩ : ∃ y, y = lebL d := ⟨_, rfl⟩
        rw [← hy] at ND m2 HS
        obtain ⟨t, ht⟩ : ∃ t, t = t0 ++ labsL (i.l.take k) := ⟨_, rfl⟩
        rw [← ht] at hlen ⊢
        have HTT := Lib.hid ht
        have st := S_size t
        have sy := S_size y
        have q : (S t).size + (S y).size ≤ 9223372036854775807 := by omega
        clear hcell hd hy ht hbx
        go_wp2_with (go_at_call 71; go_must ((with_reducible refine (ND.out _).mono ?_); rintro e w4 ⟨rfl, hb⟩; have HB4 := Lib.hid (HBX.out.on hb); clear hb))
        go_roundw
        case rel => exact ⟨k + 1, by omega, by go_num, by rw [S_append, HS.out, ← List.append_assoc, ← HTT.out], HB4.out⟩
        case measure => simp [intOf]; omega
      · obtain rfl : k = i.l.length := by omega
        obtain ⟨t, ht⟩ : ∃ t, t = t0 ++ labsL (i.l.take i.l.length) := ⟨_, rfl⟩
        rw [← ht] at hlen ⊢
        have HTT := Lib.hid (show t = o ++ labL i.l by rw [ht, HT0.out, List.take_of_length_le (Nat.le_refl _)]; unfold labL; rw [List.append_assoc, HXL.out])
        have st := S_size t
        have q : (S t).size + (S xa).size ≤ 9223372036854775807 := by omega
        clear ht hbx
        go_wp2_with (go_at_call 71; go_must ((with_reducible refine (NA.out _).mono ?_); rintro e w4 ⟨rfl, hb⟩; have HB4 := Lib.hid (HBX.out.on hb); clear hb))
        go_ret
        exact str_put HE.out (by rw [S_append, HTT.out, List.append_assoc]) HB4.out.2
  have d3 : ((m : Int) == 3) = false := by simp; omega
  by_cases m5 : m = 5
  · subst m5
    have HE := Lib.hid (show putL i = o ++ (xa ++ [0]) by rw [HIM.out, HXA.out, HO.out]; unfold immB; rw [if_neg (by omega), if_neg (by omega), if_neg (by omega), if_pos rfl])
    have q1 : (S o).size + (S xa).size ≤ 9223372036854775807 := by omega
    have q2 : (S o).size + (S xa).size + 1 ≤ 9223372036854775807 := by omega
    go_enter Tryd.func17, Tryd.ntmps17
    go_wp2_with (first
      | (go_at_call 61; go_must ((with_reducible refine (HI.out _).mono ?_); rintro e w2 ⟨rfl, hb⟩; have HB2 := Lib.hid (HB.out.on hb); have hlt := HB2.out.lt; have c0 := HB2.out.c0; have c1 := HB2.out.c1; have c2 := HB2.out.c2; have c3 := HB2.out.c3; have hcv := fun O => HC1.out (w2.alloc O) (w2.heap.size + 1) (size_box _ _); clear hb))
      | (go_at_call 71; go_must ((with_reducible refine (NA.out _).mono ?_); rintro e w3 ⟨rfl, hb⟩; have HB3 := Lib.hid hb; clear hb)))
    go_ret
    exact str_put HE.out (by rw [show ({ data := #[0] } : ByteArray) = S [0] from rfl, S_append, S_append, List.append_assoc]) ((HB3f.out _ HB2.out.2 _ _).trans (HB3.out.mono (HB3f.out _ HB2.out.2 _ _).size))
  have d5 : ((m : Int) == 5) = false := by simp; omega
  by_cases m8 : m = 8
  · subst m8
    have HE := Lib.hid (show putL i = o ++ (xa ++ xb) by rw [HIM.out, HXA.out, HXB.out, HO.out]; unfold immB; rw [if_neg (by omega), if_neg (by omega), if_neg (by omega), if_neg (by omega), if_pos rfl])
    have q1 : (S o).size + (S xa).size ≤ 9223372036854775807 := by omega
    have q2 : (S o).size + (S xa).size + (S xb).size ≤ 9223372036854775807 := by omega
    have q3 : ¬ 9223372036854775807 < (S o).size + (S xa).size := by omega
    have q4 : ¬ 9223372036854775807 < (S o).size + (S xa).size + (S xb).size := by omega
    go_enter Tryd.func17, Tryd.ntmps17
    go_wp2_with (first
      | (go_at_call 61; go_must ((with_reducible refine (HI.out _).mono ?_); rintro e w2 ⟨rfl, hb⟩; have HB2 := Lib.hid (HB.out.on hb); have hlt := HB2.out.lt; have c0 := HB2.out.c0; have c1 := HB2.out.c1; have c2 := HB2.out.c2; have c3 := HB2.out.c3; have hcv := fun O => HC1.out (w2.alloc O) (w2.heap.size + 1) (size_box _ _); clear hb)))
    clear q1 q2 so sa sb sl
    have HS0 := Lib.hid (HB2.out.two3)
    go_region_held3 (fun W => BoxI w W i A c ∧ W.cell? ⟨w.heap.size, 1, none⟩ = some (.int .u64 i.a) ∧ W.cell? ⟨w.heap.size, 2, none⟩ = some (.int .u64 i.b))
      (first | assumption | exact BoxI.three (HS0.out _ _) | exact BoxI.three ((HS0.out _ _).drewN 1))
      (first | (go_at_call 71; first | ((with_reducible refine (held_num NA.out ‹_›).mono ?_); rintro e w3 ⟨rfl, hk3⟩) | ((with_reducible refine (held_num NB.out ‹_›).mono ?_); rintro e w4 ⟨rfl, hk4⟩)))
    go_wp2
    go_ret
    exact str_put HE.out (by rw [S_append, S_append, List.append_assoc]) (BoxI.bel hk4.1)
  have d8 : ((m : Int) == 8) = false := by simp; omega
  by_cases m9 : m = 9
  · subst m9
    have HE := Lib.hid (show putL i = o ++ ([0]) by rw [HIM.out, HO.out]; unfold immB; rw [if_neg (by omega), if_neg (by omega), if_neg (by omega), if_neg (by omega), if_neg (by omega), if_pos rfl])
    have q1 : (S o).size + 1 ≤ 9223372036854775807 := by omega
    go_enter Tryd.func17, Tryd.ntmps17
    go_wp2_with (first
      | (go_at_call 61; go_must ((with_reducible refine (HI.out _).mono ?_); rintro e w2 ⟨rfl, hb⟩; have HB2 := Lib.hid (HB.out.on hb); have hlt := HB2.out.lt; have c0 := HB2.out.c0; have c1 := HB2.out.c1; have c2 := HB2.out.c2; have c3 := HB2.out.c3; have hcv := fun O => HC1.out (w2.alloc O) (w2.heap.size + 1) (size_box _ _); clear hb)))
    go_ret
    exact str_put HE.out (by rw [show ({ data := #[0] } : ByteArray) = S [0] from rfl, S_append]) (HB3f.out _ HB2.out.2 _ _)
  have d9 : ((m : Int) == 9) = false := by simp; omega
  by_cases m10 : m = 10
  · subst m10
    have HE := Lib.hid (show putL i = o ++ (sebL (s32 i.a)) by rw [HIM.out, HO.out]; unfold immB; rw [if_neg (by omega), if_neg (by omega), if_neg (by omega), if_neg (by omega), if_neg (by omega), if_neg (by omega), if_pos rfl])
    have hs : -9223372036854775808 ≤ s32 i.a ∧ s32 i.a ≤ 9223372036854775807 := by unfold s32; omega
    have kz := sebL_len (s32 i.a) hs.1 hs.2
    have NZ := Lib.hid (fun W => signed32_any i.a W a0 a1)
    generalize sebL (s32 i.a) = z at *
    have sz := S_size z
    have q1 : (S o).size + (S z).size ≤ 9223372036854775807 := by omega
    go_enter Tryd.func17, Tryd.ntmps17
    go_wp2_with (first
      | (go_at_call 61; go_must ((with_reducible refine (HI.out _).mono ?_); rintro e w2 ⟨rfl, hb⟩; have HB2 := Lib.hid (HB.out.on hb); have hlt := HB2.out.lt; have c0 := HB2.out.c0; have c1 := HB2.out.c1; have c2 := HB2.out.c2; have c3 := HB2.out.c3; have hcv := fun O => HC1.out (w2.alloc O) (w2.heap.size + 1) (size_box _ _); clear hb))
      | (go_at_call 72; go_must ((with_reducible refine (NZ.out _).mono ?_); rintro e w3 ⟨rfl, hb⟩; have HB3 := Lib.hid hb; clear hb)))
    go_ret
    exact str_put HE.out (by rw [S_append]) ((HB3f.out _ HB2.out.2 _ _).trans (HB3.out.mono (HB3f.out _ HB2.out.2 _ _).size))
  have d10 : ((m : Int) == 10) = false := by simp; omega
  by_cases m11 : m = 11
  · subst m11
    have HE := Lib.hid (show putL i = o ++ (sebL (s64 i.a)) by rw [HIM.out, HO.out]; unfold immB; rw [if_neg (by omega), if_neg (by omega), if_neg (by omega), if_neg (by omega), if_neg (by omega), if_neg (by omega), if_neg (by omega), if_pos rfl])
    have hs : -9223372036854775808 ≤ s64 i.a ∧ s64 i.a ≤ 9223372036854775807 := by unfold s64; omega
    have kz := sebL_len (s64 i.a) hs.1 hs.2
    have NZ := Lib.hid (fun W => signed64_any i.a W a0 a1)
    generalize sebL (s64 i.a) = z at *
    have sz := S_size z
    have q1 : (S o).size + (S z).size ≤ 9223372036854775807 := by omega
    go_enter Tryd.func17, Tryd.ntmps17
    go_wp2_with (first
      | (go_at_call 61; go_must ((with_reducible refine (HI.out _).mono ?_); rintro e w2 ⟨rfl, hb⟩; have HB2 := Lib.hid (HB.out.on hb); have hlt := HB2.out.lt; have c0 := HB2.out.c0; have c1 := HB2.out.c1; have c2 := HB2.out.c2; have c3 := HB2.out.c3; have hcv := fun O => HC1.out (w2.alloc O) (w2.heap.size + 1) (size_box _ _); clear hb))
      | (go_at_call 72; go_must ((with_reducible refine (NZ.out _).mono ?_); rintro e w3 ⟨rfl, hb⟩; have HB3 := Lib.hid hb; clear hb)))
    go_ret
    exact str_put HE.out (by rw [S_append]) ((HB3f.out _ HB2.out.2 _ _).trans (HB3.out.mono (HB3f.out _ HB2.out.2 _ _).size))
  have d11 : ((m : Int) == 11) = false := by simp; omega
  have HE := Lib.hid (show putL i = o ++ xa by rw [HIM.out, HXA.out, HO.out]; unfold immB; rw [if_neg m0, if_neg m1, if_neg m3, if_neg m5, if_neg m8, if_neg m9, if_neg m10, if_neg m11])
  have q1 : (S o).size + (S xa).size ≤ 9223372036854775807 := by omega
  clear HIM
  go_enter Tryd.func17, Tryd.ntmps17
  go_wp2_with (first
    | (go_at_call 61; go_must ((with_reducible refine (HI.out _).mono ?_); rintro e w2 ⟨rfl, hb⟩; have HB2 := Lib.hid (HB.out.on hb); have hlt := HB2.out.lt; have c0 := HB2.out.c0; have c1 := HB2.out.c1; have c2 := HB2.out.c2; have c3 := HB2.out.c3; have hcv := fun O => HC1.out (w2.alloc O) (w2.heap.size + 1) (size_box _ _); clear hb))
    | (go_at_call 71; go_must ((with_reducible refine (NA.out _).mono ?_); rintro e w3 ⟨rfl, hb⟩; have HB3 := Lib.hid hb; clear hb)))
  go_ret
  exact str_put HE.out (by rw [S_append]) ((HB3f.out _ HB2.out.2 _ _).trans (HB3.out.mono (HB3f.out _ HB2.out.2 _ _).size))
end Go.Proofs.YtebgmfjgapmpfaaDoor

/- The reference's Right. (By gen/genRefRight.py.) -/
namespace Go.Proofs.YtebgmfjgapmpfaaDoor
open Go.RowKit
set_option linter.unusedVariables false
set_option maxRecDepth 100000

theorem nums_low {m : Nat} {a b : Int} (hm : m ≠ 1 ∧ m ≠ 0 ∧ m ≠ 9) (h : (a ≤ 4294967295 ∧ b ≤ 4294967295) ∨ m = 11) : numsZ m a b = 0 := by
  unfold numsZ
  rw [if_neg hm.1, if_neg (by omega)]
  by_cases m11 : m = 11
  · rw [if_pos m11]
  · rw [if_neg m11, if_pos (by omega)]
theorem nums_high {m : Nat} {a b : Int} (hm : m ≠ 1 ∧ m ≠ 0 ∧ m ≠ 9 ∧ m ≠ 11) (h : ¬ (a ≤ 4294967295 ∧ b ≤ 4294967295)) : numsZ m a b = 1 := by
  unfold numsZ
  rw [if_neg hm.1, if_neg (by omega), if_neg (by omega), if_neg h]
theorem block_same {a : Int} (h : a ≠ 64) (h2 : a ≤ 256) : blockZ a = valueZ a := by
  unfold blockZ
  rw [if_neg h]
  by_cases h3 : 255 < a
  · obtain rfl : a = 256 := by omega
    rfl
  · rw [if_neg h3]
theorem refR_end {w W : World} {i : I} {A : Option Addr} {c : Nat} (h : BoxI w W i A c) {o : Obj} : Below w.heap.size w (W.alloc o) := h.2.alloc h.2.size _
set_option maxHeartbeats 1000000 in
theorem refRight_any (i : I) (A : Option Addr) (c : Nat) (w : World) (h : i.Ok) (hl : (i.l.length : Int) ≤ 9223372036854775807) :
    Calls Tryd.prog 11 #[insV i A c] w (IntPost (rightZ i) w) := by
  have hn := i.n_le
  obtain ⟨a0, a1, b0, b1, _⟩ := h
  have hwb : IntKind.i64.wrap (i.op.toNat : Int) = i.op.toNat := by rw [IntKind.wrap_i64]; have := i.op.toNat_lt; omega
  have HB := Lib.hid (BoxI.start w i A c)
  obtain ⟨k, hk⟩ : ∃ k, k = checkR i.n := ⟨_, rfl⟩
  have HC : Hid (∀ W, Calls Tryd.prog 60 #[.int .i64 i.op.toNat] W fun e w' => e = .returned (.int .i64 (k : Nat)) ∧ Below W.heap.size W w') := fun W => by rw [hk, check_same hn]; exact refCheck_any i.n W hn
  by_cases k0 : k = 0
  · subst k0
    obtain ⟨m, hm⟩ : ∃ m, m = immR i.n := ⟨_, rfl⟩
    obtain ⟨r, hr⟩ : ∃ r, r = refR i.n := ⟨_, rfl⟩
    have him : (r.getD row0).imm = m := by rw [hr, hm]; exact (imm_same hn hk.symm).2
    have HI : Hid (∀ W, Calls Tryd.prog 61 #[.int .i64 i.op.toNat] W (RefPost r W)) := fun W => by rw [hr]; exact ref_any i.n W hn
    have HR := Lib.hid (show rightZ i = if 0 < i.l.length ∧ m ≠ 3 then 1 else if 10000 < i.l.length then 29 else if i.b ≠ 0 ∧ m ≠ 8 then 1 else numsZ m i.a i.b by unfold rightZ; rw [← hk, ← hm]; rfl)
    generalize (r.getD row0).op = r1 at *
    clear hr hm hk
    by_cases hl0 : 0 < i.l.length
    · have dl : decide (0 < (i.l.length : Int)) = true := decide_eq_true (by omega)
      by_cases m3 : m = 3
      · subst m3
        by_cases hl1 : 10000 < i.l.length
        · have dl1 : decide (10000 < (i.l.length : Int)) = true := decide_eq_true (by omega)
          have HE := Lib.hid (show rightZ i = 29 by rw [HR.out]; rw [if_neg (by omega), if_pos hl1])
          go_enter Tryd.func11, Tryd.ntmps11
          go_wp2_with (first
            | (go_at_call 60; go_must ((with_reducible refine (HC.out _).mono ?_); rintro e w1 ⟨rfl, hb⟩; have HB1 := Lib.hid (HB.out.on hb); have c1 := HB1.out.c0; clear hb))
            | (go_at_call 61; go_must ((with_reducible refine (HI.out _).mono ?_); rintro e w2 ⟨rfl, hb⟩; have HB2 := Lib.hid (HB1.out.on hb); have hlt := HB2.out.lt; have c2 := HB2.out.c1; have c3 := HB2.out.c2; have c4 := HB2.out.c3; clear hb))
            | (go_at_call 62; go_must ((with_reducible refine (refValue_any _ _).mono ?_); rintro e w' ⟨rfl, rfl⟩)))
          go_ret
          exact ret_below HE.out.symm (refR_end HB2.out)
        · have dl1 : decide (10000 < (i.l.length : Int)) = false := decide_eq_false (by omega)
          by_cases hb0 : i.b = 0
          · have db : (i.b != 0) = false := by simp [hb0]
            by_cases ha : i.a ≤ 4294967295
            · have da : decide (i.a < 4294967296) = true := decide_eq_true (by omega)
              have dbb : decide (i.b < 4294967296) = true := decide_eq_true (by omega)
              have HE := Lib.hid (show rightZ i = 0 by rw [HR.out]; rw [if_neg (by omega), if_neg hl1, if_neg (by omega)]; exact nums_low (by omega) (.inl ⟨ha, by omega⟩))
              clear hb0
              go_enter Tryd.func11, Tryd.ntmps11
              go_wp2_with (first
                | (go_at_call 60; go_must ((with_reducible refine (HC.out _).mono ?_); rintro e w1 ⟨rfl, hb⟩; have HB1 := Lib.hid (HB.out.on hb); have c1 := HB1.out.c0; clear hb))
                | (go_at_call 61; go_must ((with_reducible refine (HI.out _).mono ?_); rintro e w2 ⟨rfl, hb⟩; have HB2 := Lib.hid (HB1.out.on hb); have hlt := HB2.out.lt; have c2 := HB2.out.c1; have c3 := HB2.out.c2; have c4 := HB2.out.c3; clear hb))
                | (go_at_call 62; go_must ((with_reducible refine (refValue_any _ _).mono ?_); rintro e w' ⟨rfl, rfl⟩)))
              go_ret
              exact ret_below HE.out.symm (refR_end HB2.out)
            · have da : decide (i.a < 4294967296) = false := decide_eq_false (by omega)
              have HE := Lib.hid (show rightZ i = 1 by rw [HR.out]; rw [if_neg (by omega), if_neg hl1, if_neg (by omega)]; exact nums_high (by omega) (by omega))
              clear hb0
              go_enter Tryd.func11, Tryd.ntmps11
              go_wp2_with (first
                | (go_at_call 60; go_must ((with_reducible refine (HC.out _).mono ?_); rintro e w1 ⟨rfl, hb⟩; have HB1 := Lib.hid (HB.out.on hb); have c1 := HB1.out.c0; clear hb))
                | (go_at_call 61; go_must ((with_reducible refine (HI.out _).mono ?_); rintro e w2 ⟨rfl, hb⟩; have HB2 := Lib.hid (HB1.out.on hb); have hlt := HB2.out.lt; have c2 := HB2.out.c1; have c3 := HB2.out.c2; have c4 := HB2.out.c3; clear hb))
                | (go_at_call 62; go_must ((with_reducible refine (refValue_any _ _).mono ?_); rintro e w' ⟨rfl, rfl⟩)))
              go_ret
              exact ret_below HE.out.symm (refR_end HB2.out)
          · have db : (i.b != 0) = true := by simpa using hb0
            have d8 : ((3 : Int) != 8) = true := by decide
            have HE := Lib.hid (show rightZ i = 1 by rw [HR.out]; rw [if_neg (by omega), if_neg hl1, if_pos (by omega)])
            go_enter Tryd.func11, Tryd.ntmps11
            go_wp2_with (first
              | (go_at_call 60; go_must ((with_reducible refine (HC.out _).mono ?_); rintro e w1 ⟨rfl, hb⟩; have HB1 := Lib.hid (HB.out.on hb); have c1 := HB1.out.c0; clear hb))
              | (go_at_call 61; go_must ((with_reducible refine (HI.out _).mono ?_); rintro e w2 ⟨rfl, hb⟩; have HB2 := Lib.hid (HB1.out.on hb); have hlt := HB2.out.lt; have c2 := HB2.out.c1; have c3 := HB2.out.c2; have c4 := HB2.out.c3; clear hb))
              | (go_at_call 62; go_must ((with_reducible refine (refValue_any _ _).mono ?_); rintro e w' ⟨rfl, rfl⟩)))
            go_ret
            exact ret_below HE.out.symm (refR_end HB2.out)
      · have d3 : ((m : Int) != 3) = true := by simp; omega
        have HE := Lib.hid (show rightZ i = 1 by rw [HR.out]; rw [if_pos ⟨hl0, m3⟩])
        go_enter Tryd.func11, Tryd.ntmps11
        go_wp2_with (first
          | (go_at_call 60; go_must ((with_reducible refine (HC.out _).mono ?_); rintro e w1 ⟨rfl, hb⟩; have HB1 := Lib.hid (HB.out.on hb); have c1 := HB1.out.c0; clear hb))
          | (go_at_call 61; go_must ((with_reducible refine (HI.out _).mono ?_); rintro e w2 ⟨rfl, hb⟩; have HB2 := Lib.hid (HB1.out.on hb); have hlt := HB2.out.lt; have c2 := HB2.out.c1; have c3 := HB2.out.c2; have c4 := HB2.out.c3; clear hb))
          | (go_at_call 62; go_must ((with_reducible refine (refValue_any _ _).mono ?_); rintro e w' ⟨rfl, rfl⟩)))
        go_ret
        exact ret_below HE.out.symm (refR_end HB2.out)
    · have dl : decide (0 < (i.l.length : Int)) = false := decide_eq_false (by omega)
      have dl1 : decide (10000 < (i.l.length : Int)) = false := decide_eq_false (by omega)
      by_cases hb0 : i.b = 0
      · have db : (i.b != 0) = false := by simp [hb0]
        have dbb : decide (i.b < 4294967296) = true := decide_eq_true (by omega)
        by_cases m0 : m = 0 ∨ m = 9
        · rcases m0 with m0 | m0
          · subst m0
            by_cases hz : i.a = 0
            · have dz : (i.a == 0) = true := by simpa using hz
              have da : decide (i.a < 4294967296) = true := decide_eq_true (by omega)
              have HE := Lib.hid (show rightZ i = 0 by rw [HR.out]; rw [if_neg (by omega), if_neg (by omega), if_neg (by omega)]; unfold numsZ; rw [if_neg (by omega), if_pos (by omega), if_pos hz])
              clear hz hb0
              go_enter Tryd.func11, Tryd.ntmps11
              go_wp2_with (first
                | (go_at_call 60; go_must ((with_reducible refine (HC.out _).mono ?_); rintro e w1 ⟨rfl, hb⟩; have HB1 := Lib.hid (HB.out.on hb); have c1 := HB1.out.c0; clear hb))
                | (go_at_call 61; go_must ((with_reducible refine (HI.out _).mono ?_); rintro e w2 ⟨rfl, hb⟩; have HB2 := Lib.hid (HB1.out.on hb); have hlt := HB2.out.lt; have c2 := HB2.out.c1; have c3 := HB2.out.c2; have c4 := HB2.out.c3; clear hb))
                | (go_at_call 62; go_must ((with_reducible refine (refValue_any _ _).mono ?_); rintro e w' ⟨rfl, rfl⟩)))
              go_ret
              exact ret_below HE.out.symm (refR_end HB2.out)
            · have dz : (i.a == 0) = false := by simpa using hz
              rcases Int.lt_or_le i.a 4294967296 with ha | ha
              · have da : decide (i.a < 4294967296) = true := decide_eq_true (by omega)
                have HE := Lib.hid (show rightZ i = 1 by rw [HR.out]; rw [if_neg (by omega), if_neg (by omega), if_neg (by omega)]; unfold numsZ; rw [if_neg (by omega), if_pos (by omega), if_neg hz])
                clear hb0
                go_enter Tryd.func11, Tryd.ntmps11
                go_wp2_with (first
                  | (go_at_call 60; go_must ((with_reducible refine (HC.out _).mono ?_); rintro e w1 ⟨rfl, hb⟩; have HB1 := Lib.hid (HB.out.on hb); have c1 := HB1.out.c0; clear hb))
                  | (go_at_call 61; go_must ((with_reducible refine (HI.out _).mono ?_); rintro e w2 ⟨rfl, hb⟩; have HB2 := Lib.hid (HB1.out.on hb); have hlt := HB2.out.lt; have c2 := HB2.out.c1; have c3 := HB2.out.c2; have c4 := HB2.out.c3; clear hb))
                  | (go_at_call 62; go_must ((with_reducible refine (refValue_any _ _).mono ?_); rintro e w' ⟨rfl, rfl⟩)))
                go_ret
                exact ret_below HE.out.symm (refR_end HB2.out)
              · have da : decide (i.a < 4294967296) = false := decide_eq_false (by omega)
                have HE := Lib.hid (show rightZ i = 1 by rw [HR.out]; rw [if_neg (by omega), if_neg (by omega), if_neg (by omega)]; unfold numsZ; rw [if_neg (by omega), if_pos (by omega), if_neg hz])
                clear hb0
                go_enter Tryd.func11, Tryd.ntmps11
                go_wp2_with (first
                  | (go_at_call 60; go_must ((with_reducible refine (HC.out _).mono ?_); rintro e w1 ⟨rfl, hb⟩; have HB1 := Lib.hid (HB.out.on hb); have c1 := HB1.out.c0; clear hb))
                  | (go_at_call 61; go_must ((with_reducible refine (HI.out _).mono ?_); rintro e w2 ⟨rfl, hb⟩; have HB2 := Lib.hid (HB1.out.on hb); have hlt := HB2.out.lt; have c2 := HB2.out.c1; have c3 := HB2.out.c2; have c4 := HB2.out.c3; clear hb))
                  | (go_at_call 62; go_must ((with_reducible refine (refValue_any _ _).mono ?_); rintro e w' ⟨rfl, rfl⟩)))
                go_ret
                exact ret_below HE.out.symm (refR_end HB2.out)
          · subst m0
            by_cases hz : i.a = 0
            · have dz : (i.a == 0) = true := by simpa using hz
              have da : decide (i.a < 4294967296) = true := decide_eq_true (by omega)
              have HE := Lib.hid (show rightZ i = 0 by rw [HR.out]; rw [if_neg (by omega), if_neg (by omega), if_neg (by omega)]; unfold numsZ; rw [if_neg (by omega), if_pos (by omega), if_pos hz])
              clear hz hb0
              go_enter Tryd.func11, Tryd.ntmps11
              go_wp2_with (first
                | (go_at_call 60; go_must ((with_reducible refine (HC.out _).mono ?_); rintro e w1 ⟨rfl, hb⟩; have HB1 := Lib.hid (HB.out.on hb); have c1 := HB1.out.c0; clear hb))
                | (go_at_call 61; go_must ((with_reducible refine (HI.out _).mono ?_); rintro e w2 ⟨rfl, hb⟩; have HB2 := Lib.hid (HB1.out.on hb); have hlt := HB2.out.lt; have c2 := HB2.out.c1; have c3 := HB2.out.c2; have c4 := HB2.out.c3; clear hb))
                | (go_at_call 62; go_must ((with_reducible refine (refValue_any _ _).mono ?_); rintro e w' ⟨rfl, rfl⟩)))
              go_ret
              exact ret_below HE.out.symm (refR_end HB2.out)
            · have dz : (i.a == 0) = false := by simpa using hz
              rcases Int.lt_or_le i.a 4294967296 with ha | ha
              · have da : decide (i.a < 4294967296) = true := decide_eq_true (by omega)
                have HE := Lib.hid (show rightZ i = 1 by rw [HR.out]; rw [if_neg (by omega), if_neg (by omega), if_neg (by omega)]; unfold numsZ; rw [if_neg (by omega), if_pos (by omega), if_neg hz])
                clear hb0
                go_enter Tryd.func11, Tryd.ntmps11
                go_wp2_with (first
                  | (go_at_call 60; go_must ((with_reducible refine (HC.out _).mono ?_); rintro e w1 ⟨rfl, hb⟩; have HB1 := Lib.hid (HB.out.on hb); have c1 := HB1.out.c0; clear hb))
                  | (go_at_call 61; go_must ((with_reducible refine (HI.out _).mono ?_); rintro e w2 ⟨rfl, hb⟩; have HB2 := Lib.hid (HB1.out.on hb); have hlt := HB2.out.lt; have c2 := HB2.out.c1; have c3 := HB2.out.c2; have c4 := HB2.out.c3; clear hb))
                  | (go_at_call 62; go_must ((with_reducible refine (refValue_any _ _).mono ?_); rintro e w' ⟨rfl, rfl⟩)))
                go_ret
                exact ret_below HE.out.symm (refR_end HB2.out)
              · have da : decide (i.a < 4294967296) = false := decide_eq_false (by omega)
                have HE := Lib.hid (show rightZ i = 1 by rw [HR.out]; rw [if_neg (by omega), if_neg (by omega), if_neg (by omega)]; unfold numsZ; rw [if_neg (by omega), if_pos (by omega), if_neg hz])
                clear hb0
                go_enter Tryd.func11, Tryd.ntmps11
                go_wp2_with (first
                  | (go_at_call 60; go_must ((with_reducible refine (HC.out _).mono ?_); rintro e w1 ⟨rfl, hb⟩; have HB1 := Lib.hid (HB.out.on hb); have c1 := HB1.out.c0; clear hb))
                  | (go_at_call 61; go_must ((with_reducible refine (HI.out _).mono ?_); rintro e w2 ⟨rfl, hb⟩; have HB2 := Lib.hid (HB1.out.on hb); have hlt := HB2.out.lt; have c2 := HB2.out.c1; have c3 := HB2.out.c2; have c4 := HB2.out.c3; clear hb))
                  | (go_at_call 62; go_must ((with_reducible refine (refValue_any _ _).mono ?_); rintro e w' ⟨rfl, rfl⟩)))
                go_ret
                exact ret_below HE.out.symm (refR_end HB2.out)
        · have d0 : ((m : Int) == 0) = false := by simp; omega
          have d9 : ((m : Int) == 9) = false := by simp; omega
          by_cases m1 : m = 1
          · subst m1
            by_cases h64 : i.a = 64
            · have dz : (i.a == 64) = true := by simpa using h64
              have da : decide (i.a < 4294967296) = true := decide_eq_true (by omega)
              have HE := Lib.hid (show rightZ i = 0 by rw [HR.out]; rw [if_neg (by omega), if_neg (by omega), if_neg (by omega)]; unfold numsZ blockZ; rw [if_pos rfl, if_pos h64])
              clear h64 hb0
              go_enter Tryd.func11, Tryd.ntmps11
              go_wp2_with (first
                | (go_at_call 60; go_must ((with_reducible refine (HC.out _).mono ?_); rintro e w1 ⟨rfl, hb⟩; have HB1 := Lib.hid (HB.out.on hb); have c1 := HB1.out.c0; clear hb))
                | (go_at_call 61; go_must ((with_reducible refine (HI.out _).mono ?_); rintro e w2 ⟨rfl, hb⟩; have HB2 := Lib.hid (HB1.out.on hb); have hlt := HB2.out.lt; have c2 := HB2.out.c1; have c3 := HB2.out.c2; have c4 := HB2.out.c3; clear hb))
                | (go_at_call 62; go_must ((with_reducible refine (refValue_any _ _).mono ?_); rintro e w' ⟨rfl, rfl⟩)))
              go_ret
              exact ret_below HE.out.symm (refR_end HB2.out)
            · have dz : (i.a == 64) = false := by simpa using h64
              by_cases h256 : i.a ≤ 256
              · have da : decide (i.a < 4294967296) = true := decide_eq_true (by omega)
                have hmin : min i.a 256 = i.a := by omega
                have hw : IntKind.i64.wrap i.a = i.a := by rw [IntKind.wrap_i64]; omega
                have HE := Lib.hid (show rightZ i = valueZ i.a by rw [HR.out]; rw [if_neg (by omega), if_neg (by omega), if_neg (by omega)]; unfold numsZ; rw [if_pos rfl]; exact block_same h64 h256)
                clear hb0
                go_enter Tryd.func11, Tryd.ntmps11
                go_wp2_with (first
                  | (go_at_call 60; go_must ((with_reducible refine (HC.out _).mono ?_); rintro e w1 ⟨rfl, hb⟩; have HB1 := Lib.hid (HB.out.on hb); have c1 := HB1.out.c0; clear hb))
                  | (go_at_call 61; go_must ((with_reducible refine (HI.out _).mono ?_); rintro e w2 ⟨rfl, hb⟩; have HB2 := Lib.hid (HB1.out.on hb); have hlt := HB2.out.lt; have c2 := HB2.out.c1; have c3 := HB2.out.c2; have c4 := HB2.out.c3; clear hb))
                  | (go_at_call 62; go_must ((with_reducible refine (refValue_any _ _).mono ?_); rintro e w' ⟨rfl, rfl⟩)))
                go_ret
                exact ret_below HE.out.symm (refR_end HB2.out)
              · have hmin : min i.a 256 = 256 := by omega
                have hv : valueZ 256 = 7 := rfl
                rcases Int.lt_or_le i.a 4294967296 with ha | ha
                · have da : decide (i.a < 4294967296) = true := decide_eq_true (by omega)
                  have HE := Lib.hid (show rightZ i = 7 by rw [HR.out]; rw [if_neg (by omega), if_neg (by omega), if_neg (by omega)]; unfold numsZ blockZ; rw [if_pos rfl, if_neg h64, if_pos (by omega)])
                  clear hb0
                  go_enter Tryd.func11, Tryd.ntmps11
                  go_wp2_with (first
                    | (go_at_call 60; go_must ((with_reducible refine (HC.out _).mono ?_); rintro e w1 ⟨rfl, hb⟩; have HB1 := Lib.hid (HB.out.on hb); have c1 := HB1.out.c0; clear hb))
                    | (go_at_call 61; go_must ((with_reducible refine (HI.out _).mono ?_); rintro e w2 ⟨rfl, hb⟩; have HB2 := Lib.hid (HB1.out.on hb); have hlt := HB2.out.lt; have c2 := HB2.out.c1; have c3 := HB2.out.c2; have c4 := HB2.out.c3; clear hb))
                    | (go_at_call 62; go_must ((with_reducible refine (refValue_any _ _).mono ?_); rintro e w' ⟨rfl, rfl⟩)))
                  go_ret
                  exact ret_below HE.out.symm (refR_end HB2.out)
                · have da : decide (i.a < 4294967296) = false := decide_eq_false (by omega)
                  have HE := Lib.hid (show rightZ i = 7 by rw [HR.out]; rw [if_neg (by omega), if_neg (by omega), if_neg (by omega)]; unfold numsZ blockZ; rw [if_pos rfl, if_neg h64, if_pos (by omega)])
                  clear hb0
                  go_enter Tryd.func11, Tryd.ntmps11
                  go_wp2_with (first
                    | (go_at_call 60; go_must ((with_reducible refine (HC.out _).mono ?_); rintro e w1 ⟨rfl, hb⟩; have HB1 := Lib.hid (HB.out.on hb); have c1 := HB1.out.c0; clear hb))
                    | (go_at_call 61; go_must ((with_reducible refine (HI.out _).mono ?_); rintro e w2 ⟨rfl, hb⟩; have HB2 := Lib.hid (HB1.out.on hb); have hlt := HB2.out.lt; have c2 := HB2.out.c1; have c3 := HB2.out.c2; have c4 := HB2.out.c3; clear hb))
                    | (go_at_call 62; go_must ((with_reducible refine (refValue_any _ _).mono ?_); rintro e w' ⟨rfl, rfl⟩)))
                  go_ret
                  exact ret_below HE.out.symm (refR_end HB2.out)
          · have d1 : ((m : Int) == 1) = false := by simp; omega
            by_cases m11 : m = 11
            · subst m11
              rcases Int.lt_or_le i.a 4294967296 with ha | ha
              · have da : decide (i.a < 4294967296) = true := decide_eq_true (by omega)
                have HE := Lib.hid (show rightZ i = 0 by rw [HR.out]; rw [if_neg (by omega), if_neg (by omega), if_neg (by omega)]; unfold numsZ; rw [if_neg (by omega), if_neg (by omega), if_pos rfl])
                clear hb0
                go_enter Tryd.func11, Tryd.ntmps11
                go_wp2_with (first
                  | (go_at_call 60; go_must ((with_reducible refine (HC.out _).mono ?_); rintro e w1 ⟨rfl, hb⟩; have HB1 := Lib.hid (HB.out.on hb); have c1 := HB1.out.c0; clear hb))
                  | (go_at_call 61; go_must ((with_reducible refine (HI.out _).mono ?_); rintro e w2 ⟨rfl, hb⟩; have HB2 := Lib.hid (HB1.out.on hb); have hlt := HB2.out.lt; have c2 := HB2.out.c1; have c3 := HB2.out.c2; have c4 := HB2.out.c3; clear hb))
                  | (go_at_call 62; go_must ((with_reducible refine (refValue_any _ _).mono ?_); rintro e w' ⟨rfl, rfl⟩)))
                go_ret
                exact ret_below HE.out.symm (refR_end HB2.out)
              · have da : decide (i.a < 4294967296) = false := decide_eq_false (by omega)
                have HE := Lib.hid (show rightZ i = 0 by rw [HR.out]; rw [if_neg (by omega), if_neg (by omega), if_neg (by omega)]; unfold numsZ; rw [if_neg (by omega), if_neg (by omega), if_pos rfl])
                clear hb0
                go_enter Tryd.func11, Tryd.ntmps11
                go_wp2_with (first
                  | (go_at_call 60; go_must ((with_reducible refine (HC.out _).mono ?_); rintro e w1 ⟨rfl, hb⟩; have HB1 := Lib.hid (HB.out.on hb); have c1 := HB1.out.c0; clear hb))
                  | (go_at_call 61; go_must ((with_reducible refine (HI.out _).mono ?_); rintro e w2 ⟨rfl, hb⟩; have HB2 := Lib.hid (HB1.out.on hb); have hlt := HB2.out.lt; have c2 := HB2.out.c1; have c3 := HB2.out.c2; have c4 := HB2.out.c3; clear hb))
                  | (go_at_call 62; go_must ((with_reducible refine (refValue_any _ _).mono ?_); rintro e w' ⟨rfl, rfl⟩)))
                go_ret
                exact ret_below HE.out.symm (refR_end HB2.out)
            · have d11 : ((m : Int) == 11) = false := by simp; omega
              by_cases ha : i.a ≤ 4294967295
              · have da : decide (i.a < 4294967296) = true := decide_eq_true (by omega)
                have dbb : decide (i.b < 4294967296) = true := decide_eq_true (by omega)
                have HE := Lib.hid (show rightZ i = 0 by rw [HR.out]; rw [if_neg (by omega), if_neg (by omega), if_neg (by omega)]; exact nums_low (by omega) (.inl ⟨ha, by omega⟩))
                clear hb0
                go_enter Tryd.func11, Tryd.ntmps11
                go_wp2_with (first
                  | (go_at_call 60; go_must ((with_reducible refine (HC.out _).mono ?_); rintro e w1 ⟨rfl, hb⟩; have HB1 := Lib.hid (HB.out.on hb); have c1 := HB1.out.c0; clear hb))
                  | (go_at_call 61; go_must ((with_reducible refine (HI.out _).mono ?_); rintro e w2 ⟨rfl, hb⟩; have HB2 := Lib.hid (HB1.out.on hb); have hlt := HB2.out.lt; have c2 := HB2.out.c1; have c3 := HB2.out.c2; have c4 := HB2.out.c3; clear hb))
                  | (go_at_call 62; go_must ((with_reducible refine (refValue_any _ _).mono ?_); rintro e w' ⟨rfl, rfl⟩)))
                go_ret
                exact ret_below HE.out.symm (refR_end HB2.out)
              · have da : decide (i.a < 4294967296) = false := decide_eq_false (by omega)
                have HE := Lib.hid (show rightZ i = 1 by rw [HR.out]; rw [if_neg (by omega), if_neg (by omega), if_neg (by omega)]; exact nums_high (by omega) (by omega))
                clear hb0
                go_enter Tryd.func11, Tryd.ntmps11
                go_wp2_with (first
                  | (go_at_call 60; go_must ((with_reducible refine (HC.out _).mono ?_); rintro e w1 ⟨rfl, hb⟩; have HB1 := Lib.hid (HB.out.on hb); have c1 := HB1.out.c0; clear hb))
                  | (go_at_call 61; go_must ((with_reducible refine (HI.out _).mono ?_); rintro e w2 ⟨rfl, hb⟩; have HB2 := Lib.hid (HB1.out.on hb); have hlt := HB2.out.lt; have c2 := HB2.out.c1; have c3 := HB2.out.c2; have c4 := HB2.out.c3; clear hb))
                  | (go_at_call 62; go_must ((with_reducible refine (refValue_any _ _).mono ?_); rintro e w' ⟨rfl, rfl⟩)))
                go_ret
                exact ret_below HE.out.symm (refR_end HB2.out)
      · have db : (i.b != 0) = true := by simpa using hb0
        by_cases m8 : m = 8
        · subst m8
          by_cases ha : i.a ≤ 4294967295
          · have da : decide (i.a < 4294967296) = true := decide_eq_true (by omega)
            by_cases hbb : i.b ≤ 4294967295
            · have dbb : decide (i.b < 4294967296) = true := decide_eq_true (by omega)
              have HE := Lib.hid (show rightZ i = 0 by rw [HR.out]; rw [if_neg (by omega), if_neg (by omega), if_neg (by omega)]; exact nums_low (by omega) (.inl ⟨ha, hbb⟩))
              go_enter Tryd.func11, Tryd.ntmps11
              go_wp2_with (first
                | (go_at_call 60; go_must ((with_reducible refine (HC.out _).mono ?_); rintro e w1 ⟨rfl, hb⟩; have HB1 := Lib.hid (HB.out.on hb); have c1 := HB1.out.c0; clear hb))
                | (go_at_call 61; go_must ((with_reducible refine (HI.out _).mono ?_); rintro e w2 ⟨rfl, hb⟩; have HB2 := Lib.hid (HB1.out.on hb); have hlt := HB2.out.lt; have c2 := HB2.out.c1; have c3 := HB2.out.c2; have c4 := HB2.out.c3; clear hb))
                | (go_at_call 62; go_must ((with_reducible refine (refValue_any _ _).mono ?_); rintro e w' ⟨rfl, rfl⟩)))
              go_ret
              exact ret_below HE.out.symm (refR_end HB2.out)
            · have dbb : decide (i.b < 4294967296) = false := decide_eq_false (by omega)
              have HE := Lib.hid (show rightZ i = 1 by rw [HR.out]; rw [if_neg (by omega), if_neg (by omega), if_neg (by omega)]; exact nums_high (by omega) (by omega))
              go_enter Tryd.func11, Tryd.ntmps11
              go_wp2_with (first
                | (go_at_call 60; go_must ((with_reducible refine (HC.out _).mono ?_); rintro e w1 ⟨rfl, hb⟩; have HB1 := Lib.hid (HB.out.on hb); have c1 := HB1.out.c0; clear hb))
                | (go_at_call 61; go_must ((with_reducible refine (HI.out _).mono ?_); rintro e w2 ⟨rfl, hb⟩; have HB2 := Lib.hid (HB1.out.on hb); have hlt := HB2.out.lt; have c2 := HB2.out.c1; have c3 := HB2.out.c2; have c4 := HB2.out.c3; clear hb))
                | (go_at_call 62; go_must ((with_reducible refine (refValue_any _ _).mono ?_); rintro e w' ⟨rfl, rfl⟩)))
              go_ret
              exact ret_below HE.out.symm (refR_end HB2.out)
          · have da : decide (i.a < 4294967296) = false := decide_eq_false (by omega)
            have HE := Lib.hid (show rightZ i = 1 by rw [HR.out]; rw [if_neg (by omega), if_neg (by omega), if_neg (by omega)]; exact nums_high (by omega) (by omega))
            go_enter Tryd.func11, Tryd.ntmps11
            go_wp2_with (first
              | (go_at_call 60; go_must ((with_reducible refine (HC.out _).mono ?_); rintro e w1 ⟨rfl, hb⟩; have HB1 := Lib.hid (HB.out.on hb); have c1 := HB1.out.c0; clear hb))
              | (go_at_call 61; go_must ((with_reducible refine (HI.out _).mono ?_); rintro e w2 ⟨rfl, hb⟩; have HB2 := Lib.hid (HB1.out.on hb); have hlt := HB2.out.lt; have c2 := HB2.out.c1; have c3 := HB2.out.c2; have c4 := HB2.out.c3; clear hb))
              | (go_at_call 62; go_must ((with_reducible refine (refValue_any _ _).mono ?_); rintro e w' ⟨rfl, rfl⟩)))
            go_ret
            exact ret_below HE.out.symm (refR_end HB2.out)
        · have d8 : ((m : Int) != 8) = true := by simp; omega
          have HE := Lib.hid (show rightZ i = 1 by rw [HR.out]; rw [if_neg (by omega), if_neg (by omega), if_pos ⟨hb0, m8⟩])
          go_enter Tryd.func11, Tryd.ntmps11
          go_wp2_with (first
            | (go_at_call 60; go_must ((with_reducible refine (HC.out _).mono ?_); rintro e w1 ⟨rfl, hb⟩; have HB1 := Lib.hid (HB.out.on hb); have c1 := HB1.out.c0; clear hb))
            | (go_at_call 61; go_must ((with_reducible refine (HI.out _).mono ?_); rintro e w2 ⟨rfl, hb⟩; have HB2 := Lib.hid (HB1.out.on hb); have hlt := HB2.out.lt; have c2 := HB2.out.c1; have c3 := HB2.out.c2; have c4 := HB2.out.c3; clear hb))
            | (go_at_call 62; go_must ((with_reducible refine (refValue_any _ _).mono ?_); rintro e w' ⟨rfl, rfl⟩)))
          go_ret
          exact ret_below HE.out.symm (refR_end HB2.out)
  · have HE := Lib.hid (show rightZ i = k by unfold rightZ; rw [← hk, if_pos k0])
    have dk : ((k : Int) != 0) = true := by simp; omega
    clear hk
    go_enter Tryd.func11, Tryd.ntmps11
    go_wp2_with (go_at_call 60; go_must ((with_reducible refine (HC.out _).mono ?_); rintro e w1 ⟨rfl, hb⟩; have HB1 := Lib.hid (HB.out.on hb); clear hb))
    go_ret
    exact ret_below HE.out.symm HB1.out.2
end Go.Proofs.YtebgmfjgapmpfaaDoor

/- Parse; awake; the walk of InstrPuts. -/
namespace Go.Proofs.YtebgmfjgapmpfaaDoor
open Go.RowKit
set_option linter.unusedVariables false
set_option maxRecDepth 100000

set_option maxHeartbeats 1000000 in
theorem parse2_ok {w : World} {A : Option Addr} {cap : Nat} {l r : List UInt8} {i : I} (hT : Tabs w) (h : i.Ok) (hr : rightZ i = 0) (hl : Lies w w.heap.size A (cells (nums l))) (hc : l.length ≤ 1000000) (hd : l = putL i ++ r) :
    Calls Tryd.prog 16 #[.slice A l.length cap] w (Parsed i (putL i).length w) := by
  obtain ⟨w0, hw0⟩ : ∃ w0, w0 = (w.alloc (.cells #[.int .u8 0, .int .u64 0, .int .u64 0, .slice none 0 0] 25)).alloc (.cells #[.int .i64 0, .int .i64 0] 35) := ⟨_, rfl⟩
  have hsz : w0.heap.size = w.heap.size + 2 := by rw [hw0]; simp
  have hb0 : Below w.heap.size w w0 := by rw [hw0]; exact (below_box w _).alloc (by simp) _
  have b4 : Whole w0 w.heap.size 25 #[.int .u8 0, .int .u64 0, .int .u64 0, .slice none 0 0] := by rw [hw0]; exact (Whole.made w _ _).alloc _
  have b6 : Whole w0 (w.heap.size + 1) 35 #[.int .i64 0, .int .i64 0] := by
    rw [hw0]; have := Whole.made (w.alloc (.cells #[.int .u8 0, .int .u64 0, .int .u64 0, .slice none 0 0] 25)) 35 #[.int .i64 0, .int .i64 0]
    rw [size_box] at this
    exact this
  have HP := Lib.hid (parse_ok (cap := cap) (hT.below hb0) h hr ((hl.below hb0 (Nat.le_refl _)).more hb0.size) hc hd)
  rw [hw0] at HP
  have HB4 := Lib.hid b4
  have HB6 := Lib.hid b6
  have HB0 := Lib.hid hb0
  have HW0 := Lib.hid hw0
  clear hT h hr hl hd b4 b6 hb0 hw0
  obtain ⟨n, hn⟩ : ∃ n, n = (putL i).length := ⟨_, rfl⟩
  rw [← hn] at HP ⊢
  clear hn
  go_enter Tryd.func16, Tryd.ntmps16
  go_wp2_with (go_at_call 69; go_must ((with_reducible refine HP.out.mono ?_); rw [← HW0.out]; intro e w1 hq; obtain ⟨A2, c2, rfl, hla, hb, hfar⟩ := hq; have h4 := HB4.out.below hb; have h6 := HB6.out.below hb; have r0 := h4.cell 0; have r1 := h4.cell 1; have r2 := h4.cell 2; have r3 := h4.cell 3; have z0 := h4.frozen 0; have z1 := h4.frozen 1; have z2 := h4.frozen 2; have z3 := h4.frozen 3; have s0 := h6.cell 0; have s1 := h6.cell 1; have y0 := h6.frozen 0; have y1 := h6.frozen 1; simp only [List.getElem?_toArray, List.getElem?_cons_zero, List.getElem?_cons_succ] at r0 r1 r2 r3 s0 s1; have H4 := Lib.hid h4; have H6 := Lib.hid h6; have HLA := Lib.hid hla; have HB := Lib.hid hb; have HF := Lib.hid hfar; clear h4 h6 hla hb hfar))
  obtain ⟨p1, g1⟩ := put4 (u0 := .int .u8 i.op.toNat) (u1 := .int .u64 i.a) (u2 := .int .u64 i.b) (u3 := .slice A2 i.l.length c2) H4.out
  obtain ⟨p2, g2⟩ := put2 (u0 := .int .i64 0) (u1 := .int .i64 0) (H6.out.grown g1 (by simp only [ne_eq, Option.some.injEq]; omega))
  have p3 := p1.grown g2 (by simp only [ne_eq, Option.some.injEq]; omega)
  have q0 := p3.cell 0
  have q1 := p3.cell 1
  have q2 := p3.cell 2
  have q3 := p3.cell 3
  have q4 := p2.cell 0
  have q5 := p2.cell 1
  simp only [List.getElem?_toArray, List.getElem?_cons_zero, List.getElem?_cons_succ] at q0 q1 q2 q3 q4 q5
  have hz := HB.out.size
  have hz1 := g1.size
  have hb1 : Below w.heap.size w w1 := HB0.out.trans (HB.out.mono (by omega))
  have hb2 := Below.grown hb1 g1 (by omega) (fun g e => by injection e with e; omega)
  have hb3 := Below.grown hb2 g2 (by omega) (fun g e => by injection e with e; omega)
  have hsz0 : w0.heap.size = w.heap.size + 2 := hsz
  refine bodyPost_ret (v := .tuple #[insV i A2 c2, .int .i64 n, .agg #[.int .i64 0, .int .i64 0]]) (by simp [results, Tryd.results16, go_sem, q0, q1, q2, q3, q4, q5]) rfl ⟨A2, c2, rfl, ?_, hb3, fun a ha => by have := HF.out a ha; omega⟩
  exact (HLA.out.keep g1 (fun a ha => by have := HF.out a ha; omega)).keep g2 (fun a ha => by have := HF.out a ha; omega)

/-- The chapter's example. -/
def iEg : I := ⟨65, 4294967295, 0, []⟩
theorem iEg_ok : iEg.Ok := ⟨by decide, by decide, by decide, by decide, fun c h => by cases h⟩
theorem iEg_right : rightZ iEg = 0 := by decide +kernel
theorem iEg_imm : immR iEg.n = 10 := by decide +kernel
theorem iEg_put : putL iEg = [65, 127] := by
  have hm : sebN (-1) = 1 := (sebN_least (-1) (by omega) (by omega)).unique ⟨Nat.le_refl _, by unfold fitS; decide, fun m a b => by omega⟩
  have hs : s32 iEg.a = -1 := by decide +kernel
  unfold putL immL immB
  rw [iEg_imm, hs]
  show [65] ++ sebL (-1) = _
  unfold sebL
  rw [hm]
  rfl
theorem awake_any (w : World) (hT : Tabs w) : Calls Tryd.prog 10 #[] w fun e w' => e = .returned (.bool true) ∧ Below w.heap.size w w' := by
  have hp := put_any iEg none 0 w iEg_ok hT (fun j v hv => by simp [cells32, iEg] at hv) (by decide)
  obtain ⟨l, hl⟩ : ∃ l : List UInt8, l = [65, 127] := ⟨_, rfl⟩
  have HP := Lib.hid (show Calls Tryd.prog 12 #[.agg #[.int .u8 65, .int .u64 4294967295, .int .u64 0, .slice none 0 0]] w fun e w' => ∃ v, e = .returned (.tuple #[v, .int .i64 0]) ∧ Row w' w.heap.size v l ∧ Below w.heap.size w w' from hp.mono fun e w' ⟨v, h1, h2, h3⟩ => ⟨v, by rw [iEg_right] at h1; exact h1, by rw [if_pos iEg_right, iEg_put] at h2; rw [hl]; exact h2, h3⟩)
  have hcmp : ((S l).toList == [65, 127]) = true := by rw [S_toList, hl]; rfl
  clear hl
  clear hp hT
  go_enter Tryd.func10, Tryd.ntmps10
  go_wp2_with (go_at_call 12; go_must ((with_reducible refine HP.out.mono ?_); intro e w1 h; obtain ⟨v, rfl, hr, hb⟩ := h; obtain ⟨A, c, rfl, hcv⟩ := hr.str; have hcv2 := hcv 9 Tryd.underlying9; have HB := Lib.hid hb; clear hb hr hcv))
  go_ret
  exact ⟨rfl, HB.out⟩

/-- What the law keeps of its input: both boxes, both rows of labels, the bytes behind; the tables. -/
structure LSt (w : World) (i k : I) (A B : Option Addr) (c d : Nat) (M : Option Addr) (ms : List UInt8) (W : World) : Prop where
  tb : Tabs W
  bel : Below w.heap.size w W
  bi : Whole W w.heap.size 25 (insC i A c)
  bk : Whole W (w.heap.size + 1) 25 (insC k B d)
  li : LiesL W A i.l
  lk : LiesL W B k.l
  lm : Lies W W.heap.size M (cells (nums ms))
section
variable {w W W' : World} {i k : I} {A B M : Option Addr} {c d : Nat} {ms : List UInt8}
theorem LSt.on (h : LSt w i k A B c d M ms W) (hb : Below W.heap.size W W') : LSt w i k A B c d M ms W' :=
  ⟨h.tb.below hb, h.bel.trans (hb.mono h.bel.size), h.bi.below hb, h.bk.below hb, h.li.below hb, h.lk.below hb, (h.lm.below hb (Nat.le_refl _)).more hb.size⟩
theorem LSt.start (hT : Tabs w) (hi : LiesL w A i.l) (hk : LiesL w B k.l) (hm : Lies w w.heap.size M (cells (nums ms))) :
    LSt w i k A B c d M ms ((w.alloc (.cells (insC i A c) 25)).alloc (.cells (insC k B d) 25)) := by
  have hb : Below w.heap.size w ((w.alloc (.cells (insC i A c) 25)).alloc (.cells (insC k B d) 25)) := below_twoI w i k A B c d
  have h2 := Whole.made (w.alloc (.cells (insC i A c) 25)) 25 (insC k B d)
  rw [size_box] at h2
  exact ⟨hT.below hb, hb, (Whole.made w _ _).alloc _, h2, hi.below hb, hk.below hb, (hm.below hb (Nat.le_refl _)).more hb.size⟩
/-- .. and what they read as. -/
abbrev Eight (w : World) (i k : I) (A B : Option Addr) (c d : Nat) (W : World) : Prop :=
  (W.cell? ⟨w.heap.size, 0, none⟩ = some (.int .u8 i.op.toNat) ∧ W.cell? ⟨w.heap.size, 1, none⟩ = some (.int .u64 i.a) ∧ W.cell? ⟨w.heap.size, 2, none⟩ = some (.int .u64 i.b) ∧ W.cell? ⟨w.heap.size, 3, none⟩ = some (.slice A i.l.length c)) ∧
  (W.cell? ⟨w.heap.size + 1, 0, none⟩ = some (.int .u8 k.op.toNat) ∧ W.cell? ⟨w.heap.size + 1, 1, none⟩ = some (.int .u64 k.a) ∧ W.cell? ⟨w.heap.size + 1, 2, none⟩ = some (.int .u64 k.b) ∧ W.cell? ⟨w.heap.size + 1, 3, none⟩ = some (.slice B k.l.length d))
theorem LSt.eight (h : LSt w i k A B c d M ms W) : Eight w i k A B c d W := ⟨⟨h.bi.cell 0, h.bi.cell 1, h.bi.cell 2, h.bi.cell 3⟩, ⟨h.bk.cell 0, h.bk.cell 1, h.bk.cell 2, h.bk.cell 3⟩⟩
/-- .. and the bytes that Put made. -/
structure LSb (w : World) (i k : I) (A B : Option Addr) (c d : Nat) (M : Option Addr) (ms : List UInt8) (v : Value) (xs : List UInt8) (W : World) : Prop where
  a : LSt w i k A B c d M ms W
  r : Row W w.heap.size v xs
theorem LSb.on {v : Value} {xs : List UInt8} (h : LSb w i k A B c d M ms v xs W) (hb : Below W.heap.size W W') : LSb w i k A B c d M ms v xs W' := ⟨h.1.on hb, h.2.later hb⟩
theorem LSb.lb {Ab : Option Addr} {cb : Nat} {xs : List UInt8} (h : LSb w i k A B c d M ms (.slice Ab xs.length cb) xs W) : Lies W W.heap.size Ab (cells (nums xs)) := by
  obtain ⟨A', c', e, hl, _⟩ := h.r.liesN
  injection e with e1 e2 e3
  subst e1
  exact hl
theorem LSb.on8 {v : Value} {xs : List UInt8} (h : LSb w i k A B c d M ms v xs W) (hb : Below W.heap.size W W') : LSb w i k A B c d M ms v xs W' ∧ Eight w i k A B c d W' := ⟨h.on hb, (h.on hb).1.eight⟩
theorem LSb.drew8 {v : Value} {xs : List UInt8} (h : LSb w i k A B c d M ms v xs W) : LSb w i k A B c d M ms v xs W.drew ∧ Eight w i k A B c d W.drew := h.on8 (Below.refl _ _).drew
/-- At the law's end: what was read, too. -/
structure LEnd (w : World) (i k : I) (A B : Option Addr) (c d : Nat) (M : Option Addr) (ms : List UInt8) (v : Value) (xs : List UInt8) (g : Nat) (A2 : Option Addr) (c2 : Nat) (W : World) : Prop where
  b : LSb w i k A B c d M ms v xs W
  x : Whole W g 25 (insC i A2 c2)
  s : Whole W (g + 1) 35 #[.int .i64 0, .int .i64 0]
  l : LiesL W A2 i.l
theorem LEnd.on {v : Value} {xs : List UInt8} {g : Nat} {A2 : Option Addr} {c2 : Nat} (h : LEnd w i k A B c d M ms v xs g A2 c2 W) (hb : Below W.heap.size W W') : LEnd w i k A B c d M ms v xs g A2 c2 W' := ⟨h.b.on hb, h.x.below hb, h.s.below hb, h.l.below hb⟩
/-- .. and the cells. -/
abbrev Nine (w : World) (i : I) (A : Option Addr) (c : Nat) (Ab : Option Addr) (cb : Nat) (xs : List UInt8) (g : Nat) (A2 : Option Addr) (c2 : Nat) (W : World) : Prop :=
  (W.cell? ⟨w.heap.size, 0, none⟩ = some (.int .u8 i.op.toNat) ∧ W.cell? ⟨w.heap.size, 1, none⟩ = some (.int .u64 i.a) ∧ W.cell? ⟨w.heap.size, 2, none⟩ = some (.int .u64 i.b) ∧ W.cell? ⟨w.heap.size, 3, none⟩ = some (.slice A i.l.length c)) ∧
  (W.cell? ⟨g, 0, none⟩ = some (.int .u8 i.op.toNat) ∧ W.cell? ⟨g, 1, none⟩ = some (.int .u64 i.a) ∧ W.cell? ⟨g, 2, none⟩ = some (.int .u64 i.b) ∧ W.cell? ⟨g, 3, none⟩ = some (.slice A2 i.l.length c2)) ∧
  W.cell? ⟨g + 1, 0, none⟩ = some (.int .i64 0) ∧ (convert 26 9 (.slice Ab xs.length cb)).run Tryd.prog W = .ok (.string (S xs)) W
theorem LEnd.nine {Ab : Option Addr} {cb : Nat} {xs : List UInt8} {g : Nat} {A2 : Option Addr} {c2 : Nat} (h : LEnd w i k A B c d M ms (.slice Ab xs.length cb) xs g A2 c2 W) : LEnd w i k A B c d M ms (.slice Ab xs.length cb) xs g A2 c2 W ∧ Nine w i A c Ab cb xs g A2 c2 W := by
  obtain ⟨A', c', e, hc⟩ := h.b.2.str
  injection e with e1 e2 e3
  subst e1; subst e3
  exact ⟨h, ⟨h.b.1.bi.cell 0, h.b.1.bi.cell 1, h.b.1.bi.cell 2, h.b.1.bi.cell 3⟩, ⟨h.x.cell 0, h.x.cell 1, h.x.cell 2, h.x.cell 3⟩, h.s.cell 0, hc 9 Tryd.underlying9⟩
end
theorem LEnd.of {w : World} {i k : I} {A B M : Option Addr} {c d : Nat} {ms : List UInt8} {v : Value} {xs : List UInt8} {A2 : Option Addr} {c2 : Nat} {W : World} (h : LSb w i k A B c d M ms v xs W) (hl : LiesL W A2 i.l) :
    LEnd w i k A B c d M ms v xs W.heap.size A2 c2 ((W.alloc (.cells (insC i A2 c2) 25)).alloc (.cells #[.int .i64 0, .int .i64 0] 35)) := by
  have h2 := Whole.made (W.alloc (.cells (insC i A2 c2) 25)) 35 #[.int .i64 0, .int .i64 0]
  rw [size_box] at h2
  exact ⟨(h.on (below_box W _)).on (below_box _ _), (Whole.made W _ _).alloc _, h2, (hl.below (below_box W _)).below (below_box _ _)⟩
theorem sameZ_self (i : I) : sameZ i i = true := by unfold sameZ; simp

set_option maxHeartbeats 3000000 in
theorem law_any {w : World} {i k : I} {A B M : Option Addr} {c d cm : Nat} {ms : List UInt8} (hT : Tabs w) (oi : i.Ok) (ok : k.Ok) (hi : LiesL w A i.l) (hk : LiesL w B k.l) (hm : Lies w w.heap.size M (cells (nums ms))) (hM : M = none → cm = 0)
    (ni : (i.l.length : Int) ≤ 9223372036854775807) (nk : (k.l.length : Int) ≤ 9223372036854775807) (nm : (ms.length : Int) ≤ 9223372036854775807) :
    Calls Tryd.prog 3 #[insV i A c, insV k B d, .slice M ms.length cm] w (BoolPost true w) := by
  have h0 : LSt w i k A B c d M ms ((w.alloc (.cells (insC i A c) 25)).alloc (.cells (insC k B d) 25)) := .start hT hi hk hm
  have HAW := Lib.hid (awake_any _ h0.tb)
  have H0 := Lib.hid h0
  clear h0 hT hi hk hm
  by_cases g1 : 200 < i.l.length
  · have t1 : decide (200 < (i.l.length : Int)) = true := decide_eq_true (by omega)
    go_enter Tryd.func3, Tryd.ntmps3
    go_wp2_with (go_at_call 10; go_must ((with_reducible refine HAW.out.mono ?_); rintro e w1 ⟨rfl, hb⟩; have H1 := Lib.hid (H0.out.on hb); obtain ⟨⟨c0, c1, c2, c3⟩, ⟨k0, k1, k2, k3⟩⟩ := H1.out.eight; clear hb))
    go_ret
    exact ⟨rfl, H1.out.bel⟩
  have t1 : decide (200 < (i.l.length : Int)) = false := decide_eq_false (by omega)
  by_cases g2 : 200 < k.l.length
  · have t2 : decide (200 < (k.l.length : Int)) = true := decide_eq_true (by omega)
    go_enter Tryd.func3, Tryd.ntmps3
    go_wp2_with (go_at_call 10; go_must ((with_reducible refine HAW.out.mono ?_); rintro e w1 ⟨rfl, hb⟩; have H1 := Lib.hid (H0.out.on hb); obtain ⟨⟨c0, c1, c2, c3⟩, ⟨k0, k1, k2, k3⟩⟩ := H1.out.eight; clear hb))
    go_ret
    exact ⟨rfl, H1.out.bel⟩
  have t2 : decide (200 < (k.l.length : Int)) = false := decide_eq_false (by omega)
  by_cases g3 : 100 < ms.length
  · have t3 : decide (100 < (ms.length : Int)) = true := decide_eq_true (by omega)
    go_enter Tryd.func3, Tryd.ntmps3
    go_wp2_with (go_at_call 10; go_must ((with_reducible refine HAW.out.mono ?_); rintro e w1 ⟨rfl, hb⟩; have H1 := Lib.hid (H0.out.on hb); obtain ⟨⟨c0, c1, c2, c3⟩, ⟨k0, k1, k2, k3⟩⟩ := H1.out.eight; clear hb))
    go_ret
    exact ⟨rfl, H1.out.bel⟩
  have t3 : decide (100 < (ms.length : Int)) = false := decide_eq_false (by omega)
  have HRR := Lib.hid (fun W => refRight_any i A c W oi ni)
  have HPR := Lib.hid (fun W (h : Tabs W) => right_any i A c W oi h ni)
  have HPU := Lib.hid (fun W (h : Tabs W) (hl : LiesL W A i.l) => put_any i A c W oi h hl ni)
  have HS1 := Lib.hid (fun W (h1 : LiesL W A i.l) (h2 : LiesL W B k.l) => same_any (c := c) (d := d) h1 h2 (by omega) (by omega))
  have HS2 := Lib.hid (fun W (h1 : LiesL W A i.l) (h2 : LiesL W B k.l) => refSame_any (c := c) (d := d) h1 h2 (by omega) (by omega))
  obtain ⟨sz, hsz⟩ : ∃ sz, sz = sameZ i k := ⟨_, rfl⟩
  rw [← hsz] at HS1 HS2
  clear hsz
  by_cases hz : rightZ i = 0
  · have hlen : 0 < (putL i).length := by unfold putL; simp
    have hlen2 : (putL i).length ≤ 200001 := by have := immL_len oi hz; unfold putL; rw [List.length_cons]; omega
    have HPA := Lib.hid (fun W (A' : Option Addr) (c' : Nat) (h1 : Tabs W) (h2 : Lies W W.heap.size A' (cells (nums (putL i ++ ms)))) => parse2_ok (cap := c') h1 oi hz h2 (by rw [List.length_append]; omega) rfl)
    have HRP := Lib.hid (fun W (hl : LiesL W A i.l) => refPut_any i A c W oi hz hl)
    have HS3 := Lib.hid (fun W (A2 : Option Addr) (c2 : Nat) (h1 : LiesL W A2 i.l) (h2 : LiesL W A i.l) => (by have := refSame_any (c := c2) (d := c) (i := i) (k := i) h1 h2 (by omega) (by omega); rw [sameZ_self] at this; exact this))
    have HPU2 := Lib.hid (fun W (h : Tabs W) (hl : LiesL W A i.l) => show Calls Tryd.prog 12 #[insV i A c] W fun e w' => ∃ v, e = .returned (.tuple #[v, .int .i64 0]) ∧ Row w' W.heap.size v (putL i) ∧ Below W.heap.size W w' from (HPU.out W h hl).mono fun e w' ⟨v, h1, h2, h3⟩ => ⟨v, by rw [hz] at h1; exact h1, by rw [if_pos hz] at h2; exact h2, h3⟩)
    rw [hz] at HRR HPR
    obtain ⟨xs, hxs⟩ : ∃ xs, xs = putL i := ⟨_, rfl⟩
    rw [← hxs] at hlen hlen2 HPA HRP HPU2
    have HXA := Lib.hid (show xs.length + ms.length ≤ 1000000 by omega)
    obtain ⟨ys, hys⟩ : ∃ ys, ys = xs ++ ms := ⟨_, rfl⟩
    rw [← hys] at HPA
    have HYS := Lib.hid hys
    clear hys
    clear hz hxs g1 g2 g3 HPU
    go_enter Tryd.func3, Tryd.ntmps3
    go_wp2_with (first
      | (go_at_call 10; go_must ((with_reducible refine HAW.out.mono ?_); rintro e w1 ⟨rfl, hb⟩; have H1 := Lib.hid (H0.out.on hb); obtain ⟨⟨c0, c1, c2, c3⟩, ⟨k0, k1, k2, k3⟩⟩ := H1.out.eight; clear hb))
      | (go_at_call 11; go_must ((with_reducible refine (HRR.out _).mono ?_); rintro e w2 ⟨rfl, hb⟩; clear c0 c1 c2 c3 k0 k1 k2 k3; have H2 := Lib.hid (H1.out.on hb); obtain ⟨⟨c0, c1, c2, c3⟩, ⟨k0, k1, k2, k3⟩⟩ := H2.out.eight; clear hb))
      | (go_at_call 12; go_must ((with_reducible refine (HPU2.out _ H2.out.tb H2.out.li).mono ?_); intro e w3 hq; obtain ⟨v, rfl, hr, hb⟩ := hq; clear c0 c1 c2 c3 k0 k1 k2 k3; obtain ⟨Ab, cb, rfl, _, _⟩ := hr.liesN; have H3 := Lib.hid (show LSb w i k A B c d M ms (.slice Ab xs.length cb) xs w3 from ⟨H2.out.on hb, hr.mono H2.out.bel.size⟩); clear hb hr)))
    refine wp_region_noPanic ?_
    refine wp_region_held_drew (S := fun W => LSb w i k A B c d M ms (.slice Ab xs.length cb) xs W ∧ Eight w i k A B c d W) (by kernel_rfl) H3.out.drew8 (fun hHeld => ?_)
    (refine heldTake (i := 0) (oi := { dst := some 37, op := Op.load 25 (Operand.tmp 3), type := 25, pos := "law.go:29", after := #[], guard := none }) (v := ?_) rfl (by kernel_rfl) (by kernel_rfl) (by kernel_rfl) (by assumption) ?_ ?_; rotate_left; focus (refine .inl ⟨by kernel_rfl, ?_⟩; intro w hSw; (try dsimp only at hSw); go_simp; (try with_reducible rfl)); (try simp only [Act.put, List.setIfInBounds_toArray, List.set_cons_zero, List.set_cons_succ]))
    (refine heldTake (i := 2) (oi := { dst := some 39, op := Op.move (Operand.tmp 7), type := 3, pos := "law.go:29", after := #[], guard := none }) (v := ?_) rfl (by kernel_rfl) (by kernel_rfl) (by kernel_rfl) (by assumption) ?_ ?_; rotate_left; focus (refine .inl ⟨by kernel_rfl, ?_⟩; intro w hSw; (try dsimp only at hSw); go_simp; (try with_reducible rfl)); (try simp only [Act.put, List.setIfInBounds_toArray, List.set_cons_zero, List.set_cons_succ]))
    refine wpAnyH_ready (rs := [1]) (by kernel_rfl) (by simp) ?_
    refine AllReadyH.cons (o := { dst := some 38, op := Op.call { callee := Callee.value (Operand.func 13), args := #[Operand.tmp 37], argTypes := #[25] }, type := 29, pos := "law.go:29", after := #[{ on := 0, ground := Ground.data }], guard := none }) rfl (fun K hK => ?_) AllReadyH.nil
    go_simp
    (go_at_call 13; (with_reducible refine (HPR.out _ (And.left hHeld).1.tb).mono ?_); rintro e w4 ⟨rfl, hb⟩; have hk4 := LSb.on8 (And.left hHeld) hb; clear hb)
    refine hK.out _ _ hk4 (fun hHeld1 => ?_)
    clear hK K hHeld
    (try simp only [Act.put, List.setIfInBounds_toArray, List.set_cons_zero, List.set_cons_succ])
    (refine heldTake (i := 3) (oi := { dst := some 40, op := Op.binOp BinOp.neq 3 (Operand.tmp 38) (Operand.tmp 39) 3, type := 4, pos := "law.go:29", after := #[{ on := 1, ground := Ground.data }, { on := 2, ground := Ground.data }], guard := none }) (v := ?_) rfl (by kernel_rfl) (by kernel_rfl) (by kernel_rfl) (by assumption) ?_ ?_; rotate_left; focus (refine .inl ⟨by kernel_rfl, ?_⟩; intro w hSw; (try dsimp only at hSw); go_simp; (try with_reducible rfl)); (try simp only [Act.put, List.setIfInBounds_toArray, List.set_cons_zero, List.set_cons_succ]))
    (refine heldTake (i := 4) (oi := { dst := some 41, op := Op.move (Operand.tmp 40), type := 4, pos := "law.go:29", after := #[{ on := 3, ground := Ground.data }, { on := 1, ground := Ground.chain }], guard := none }) (v := ?_) rfl (by kernel_rfl) (by kernel_rfl) (by kernel_rfl) (by assumption) ?_ ?_; rotate_left; focus (refine .inl ⟨by kernel_rfl, ?_⟩; intro w hSw; (try dsimp only at hSw); go_simp; (try with_reducible rfl)); (try simp only [Act.put, List.setIfInBounds_toArray, List.set_cons_zero, List.set_cons_succ]))
    (refine heldTake (i := 5) (oi := { dst := some 42, op := Op.move (Operand.tmp 9), type := 29, pos := "law.go:29", after := #[{ on := 4, ground := Ground.guard }], guard := some (4, false) }) (v := ?_) rfl (by kernel_rfl) (by kernel_rfl) (by kernel_rfl) (by assumption) ?_ ?_; rotate_left; focus (refine .inl ⟨by kernel_rfl, ?_⟩; intro w hSw; (try dsimp only at hSw); go_simp; (try with_reducible rfl)); (try simp only [Act.put, List.setIfInBounds_toArray, List.set_cons_zero, List.set_cons_succ]))
    (refine heldTake (i := 6) (oi := { dst := some 43, op := Op.move (Operand.tmp 7), type := 3, pos := "law.go:29", after := #[{ on := 4, ground := Ground.guard }], guard := some (4, false) }) (v := ?_) rfl (by kernel_rfl) (by kernel_rfl) (by kernel_rfl) (by assumption) ?_ ?_; rotate_left; focus (refine .inl ⟨by kernel_rfl, ?_⟩; intro w hSw; (try dsimp only at hSw); go_simp; (try with_reducible rfl)); (try simp only [Act.put, List.setIfInBounds_toArray, List.set_cons_zero, List.set_cons_succ]))
    (refine heldTake (i := 7) (oi := { dst := some 44, op := Op.binOp BinOp.neq 3 (Operand.tmp 42) (Operand.tmp 43) 3, type := 4, pos := "law.go:29", after := #[{ on := 5, ground := Ground.data }, { on := 6, ground := Ground.data }, { on := 4, ground := Ground.guard }], guard := some (4, false) }) (v := ?_) rfl (by kernel_rfl) (by kernel_rfl) (by kernel_rfl) (by assumption) ?_ ?_; rotate_left; focus (refine .inl ⟨by kernel_rfl, ?_⟩; intro w hSw; (try dsimp only at hSw); go_simp; (try with_reducible rfl)); (try simp only [Act.put, List.setIfInBounds_toArray, List.set_cons_zero, List.set_cons_succ]))
    (refine heldTake (i := 8) (oi := { dst := some 45, op := Op.pick (Operand.tmp 41) (Operand.const (Value.bool true)) (Operand.tmp 44), type := 4, pos := "law.go:29", after := #[{ on := 4, ground := Ground.data }, { on := 7, ground := Ground.data }], guard := none }) (v := ?_) rfl (by kernel_rfl) (by kernel_rfl) (by kernel_rfl) (by assumption) ?_ ?_; rotate_left; focus (refine .inl ⟨by kernel_rfl, ?_⟩; intro w hSw; (try dsimp only at hSw); go_simp; (try with_reducible rfl)); (try simp only [Act.put, List.setIfInBounds_toArray, List.set_cons_zero, List.set_cons_succ]))
    (refine heldTake (i := 9) (oi := { dst := some 46, op := Op.move (Operand.tmp 45), type := 4, pos := "law.go:29", after := #[{ on := 8, ground := Ground.data }, { on := 4, ground := Ground.chain }], guard := none }) (v := ?_) rfl (by kernel_rfl) (by kernel_rfl) (by kernel_rfl) (by assumption) ?_ ?_; rotate_left; focus (refine .inl ⟨by kernel_rfl, ?_⟩; intro w hSw; (try dsimp only at hSw); go_simp; (try with_reducible rfl)); (try simp only [Act.put, List.setIfInBounds_toArray, List.set_cons_zero, List.set_cons_succ]))
    (refine heldTake (i := 10) (oi := { dst := some 47, op := Op.load 25 (Operand.tmp 3), type := 25, pos := "law.go:29", after := #[{ on := 9, ground := Ground.guard }], guard := some (9, false) }) (v := ?_) rfl (by kernel_rfl) (by kernel_rfl) (by kernel_rfl) (by assumption) ?_ ?_; rotate_left; focus (refine .inl ⟨by kernel_rfl, ?_⟩; intro w hSw; (try dsimp only at hSw); go_simp; (try with_reducible rfl)); (try simp only [Act.put, List.setIfInBounds_toArray, List.set_cons_zero, List.set_cons_succ]))
    (refine heldTake (i := 11) (oi := { dst := some 48, op := Op.load 25 (Operand.tmp 4), type := 25, pos := "law.go:29", after := #[{ on := 9, ground := Ground.guard }], guard := some (9, false) }) (v := ?_) rfl (by kernel_rfl) (by kernel_rfl) (by kernel_rfl) (by assumption) ?_ ?_; rotate_left; focus (refine .inl ⟨by kernel_rfl, ?_⟩; intro w hSw; (try dsimp only at hSw); go_simp; (try with_reducible rfl)); (try simp only [Act.put, List.setIfInBounds_toArray, List.set_cons_zero, List.set_cons_succ]))
    (refine heldTake (i := 13) (oi := { dst := some 50, op := Op.load 25 (Operand.tmp 3), type := 25, pos := "law.go:29", after := #[{ on := 9, ground := Ground.guard }], guard := some (9, false) }) (v := ?_) rfl (by kernel_rfl) (by kernel_rfl) (by kernel_rfl) (by assumption) ?_ ?_; rotate_left; focus (refine .inl ⟨by kernel_rfl, ?_⟩; intro w hSw; (try dsimp only at hSw); go_simp; (try with_reducible rfl)); (try simp only [Act.put, List.setIfInBounds_toArray, List.set_cons_zero, List.set_cons_succ]))
    (refine heldTake (i := 14) (oi := { dst := some 51, op := Op.load 25 (Operand.tmp 4), type := 25, pos := "law.go:29", after := #[{ on := 9, ground := Ground.guard }], guard := some (9, false) }) (v := ?_) rfl (by kernel_rfl) (by kernel_rfl) (by kernel_rfl) (by assumption) ?_ ?_; rotate_left; focus (refine .inl ⟨by kernel_rfl, ?_⟩; intro w hSw; (try dsimp only at hSw); go_simp; (try with_reducible rfl)); (try simp only [Act.put, List.setIfInBounds_toArray, List.set_cons_zero, List.set_cons_succ]))
    refine wpAnyH_ready (rs := [12]) (by kernel_rfl) (by simp) ?_
    refine AllReadyH.cons (o := { dst := some 49, op := Op.call { callee := Callee.value (Operand.func 14), args := #[Operand.tmp 47, Operand.tmp 48], argTypes := #[25, 25] }, type := 4, pos := "law.go:29", after := #[{ on := 10, ground := Ground.data }, { on := 11, ground := Ground.data }, { on := 9, ground := Ground.chain }, { on := 9, ground := Ground.guard }], guard := some (9, false) }) rfl (fun K hK => ?_) AllReadyH.nil
    go_simp
    (go_at_call 14; (with_reducible refine (HS1.out _ (And.left hHeld1).1.li (And.left hHeld1).1.lk).mono ?_); rintro e w5 ⟨rfl, hb⟩; have hk5 := LSb.on8 (And.left hHeld1) hb; clear hb)
    refine hK.out _ _ hk5 (fun hHeld12 => ?_)
    clear hK K hHeld1
    (try simp only [Act.put, List.setIfInBounds_toArray, List.set_cons_zero, List.set_cons_succ])
    refine wpAnyH_ready (rs := [15]) (by kernel_rfl) (by simp) ?_
    refine AllReadyH.cons (o := { dst := some 52, op := Op.call { callee := Callee.value (Operand.func 15), args := #[Operand.tmp 50, Operand.tmp 51], argTypes := #[25, 25] }, type := 4, pos := "law.go:29", after := #[{ on := 13, ground := Ground.data }, { on := 14, ground := Ground.data }, { on := 12, ground := Ground.chain }, { on := 9, ground := Ground.guard }], guard := some (9, false) }) rfl (fun K hK => ?_) AllReadyH.nil
    go_simp
    (go_at_call 15; (with_reducible refine (HS2.out _ (And.left hHeld12).1.li (And.left hHeld12).1.lk).mono ?_); rintro e w6 ⟨rfl, hb⟩; have hk6 := LSb.on8 (And.left hHeld12) hb; clear hb)
    refine hK.out _ _ hk6 (fun hHeld15 => ?_)
    clear hK K hHeld12
    (try simp only [Act.put, List.setIfInBounds_toArray, List.set_cons_zero, List.set_cons_succ])
    (refine heldTake (i := 16) (oi := { dst := some 53, op := Op.binOp BinOp.neq 4 (Operand.tmp 49) (Operand.tmp 52) 4, type := 4, pos := "law.go:29", after := #[{ on := 12, ground := Ground.data }, { on := 15, ground := Ground.data }, { on := 9, ground := Ground.guard }], guard := some (9, false) }) (v := ?_) rfl (by kernel_rfl) (by kernel_rfl) (by kernel_rfl) (by assumption) ?_ ?_; rotate_left; focus (refine .inl ⟨by kernel_rfl, ?_⟩; intro w hSw; (try dsimp only at hSw); go_simp; (try with_reducible rfl)); (try simp only [Act.put, List.setIfInBounds_toArray, List.set_cons_zero, List.set_cons_succ]))
    (refine heldTake (i := 17) (oi := { dst := some 54, op := Op.pick (Operand.tmp 46) (Operand.const (Value.bool true)) (Operand.tmp 53), type := 4, pos := "law.go:29", after := #[{ on := 9, ground := Ground.data }, { on := 16, ground := Ground.data }], guard := none }) (v := ?_) rfl (by kernel_rfl) (by kernel_rfl) (by kernel_rfl) (by assumption) ?_ ?_; rotate_left; focus (refine .inl ⟨by kernel_rfl, ?_⟩; intro w hSw; (try dsimp only at hSw); go_simp; (try with_reducible rfl)); (try simp only [Act.put, List.setIfInBounds_toArray, List.set_cons_zero, List.set_cons_succ]))
    refine wpAnyH_done (by kernel_rfl) ?_ _
    refine NoPanic.normal ?_
    have hLast := hHeld15
    clear hHeld15
    have H6 := Lib.hid (And.left hLast)
    obtain ⟨-, ⟨c0, c1, c2, c3⟩, ⟨k0, k1, k2, k3⟩⟩ := hLast
    go_wp2_with (first
      | (at_builtin; (refine row_any rfl _ _ rfl w6.heap.size _ xs rfl HR7.out M ms.length cm _ ms rfl rfl (H6.out.a.on HB7.out).lm hM HXA.out (Nat.le_trans (Nat.le_refl _) HB7.out.size) ?_; intro v8 w8 hr8 hb8; rw [← HYS.out] at hr8; obtain ⟨A8, c8, rfl, hl8, _⟩ := hr8.liesN; have HL8 := Lib.hid hl8; have HB8 := Lib.hid (HB7.out.trans hb8); clear hr8 hb8 hl8))
      | (at_builtin; (refine row_lies rfl _ _ rfl w6.heap.size _ [] rfl (Row.made w6 [] w6.heap.size w6.heap.size rfl (Nat.le_refl _) (by simp)) Ab xs.length cb _ xs rfl rfl (lies_box H6.out.lb _) hlen (by have := HXA.out; simp; omega) (by simp) ?_; intro v7 w7 hr7 hb7; have HR7 := Lib.hid (show Row w7 w6.heap.size v7 xs from hr7); have HB7 := Lib.hid ((below_box w6 (.cells #[] 5)).trans hb7); clear hr7 hb7))
      | (go_at_call 16; go_must ((with_reducible refine (HPA.out _ _ _ (H6.out.on HB8.out).a.tb HL8.out).mono ?_); intro e w9 hq; obtain ⟨A2, c2', rfl, hla, hb, hfar⟩ := hq; have H9 := Lib.hid ((H6.out.on HB8.out).on hb); have HLA := Lib.hid hla; clear c0 c1 c2 c3 k0 k1 k2 k3 hla hb hfar)))
    have HL9 := Lib.hid (show LEnd w i k A B c d M ms (.slice Ab xs.length cb) xs w9.heap.size A2 c2' ((w9.alloc (.cells (insC i A2 c2') 25)).alloc (.cells #[.int .i64 0, .int .i64 0] 35)) from .of H9.out HLA.out)
    refine wp_region_noPanic ?_
    refine wp_region_held_drew (S := fun W => LEnd w i k A B c d M ms (.slice Ab xs.length cb) xs w9.heap.size A2 c2' W ∧ Nine w i A c Ab cb xs w9.heap.size A2 c2' W) (by kernel_rfl) (LEnd.nine (HL9.out.on (Below.refl _ _).drew)) (fun hHeld => ?_)
    (refine heldTake (i := 0) (oi := { dst := some 70, op := Op.move (Operand.tmp 8), type := 26, pos := "law.go:36", after := #[], guard := none }) (v := ?_) rfl (by kernel_rfl) (by kernel_rfl) (by kernel_rfl) (by assumption) ?_ ?_; rotate_left; focus (refine .inl ⟨by kernel_rfl, ?_⟩; intro w hSw; (try dsimp only at hSw); go_simp; (try with_reducible rfl)); (try simp only [Act.put, List.setIfInBounds_toArray, List.set_cons_zero, List.set_cons_succ]))
    (refine heldTake (i := 1) (oi := { dst := some 71, op := Op.convert 26 9 (Operand.tmp 70), type := 9, pos := "law.go:36", after := #[{ on := 0, ground := Ground.data }], guard := none }) (v := ?_) rfl (by kernel_rfl) (by kernel_rfl) (by kernel_rfl) (by assumption) ?_ ?_; rotate_left; focus (refine .inl ⟨by kernel_rfl, ?_⟩; intro w hSw; (try dsimp only at hSw); go_simp; (try with_reducible rfl)); (try simp only [Act.put, List.setIfInBounds_toArray, List.set_cons_zero, List.set_cons_succ]))
    (refine heldTake (i := 2) (oi := { dst := some 72, op := Op.load 25 (Operand.tmp 3), type := 25, pos := "law.go:36", after := #[], guard := none }) (v := ?_) rfl (by kernel_rfl) (by kernel_rfl) (by kernel_rfl) (by assumption) ?_ ?_; rotate_left; focus (refine .inl ⟨by kernel_rfl, ?_⟩; intro w hSw; (try dsimp only at hSw); go_simp; (try with_reducible rfl)); (try simp only [Act.put, List.setIfInBounds_toArray, List.set_cons_zero, List.set_cons_succ]))
    refine wpAnyH_ready (rs := [3]) (by kernel_rfl) (by simp) ?_
    refine AllReadyH.cons (o := { dst := some 73, op := Op.call { callee := Callee.value (Operand.func 17), args := #[Operand.tmp 72], argTypes := #[25] }, type := 9, pos := "law.go:36", after := #[{ on := 2, ground := Ground.data }], guard := none }) rfl (fun K hK => ?_) AllReadyH.nil
    go_simp
    (go_at_call 17; (with_reducible refine (HRP.out _ (And.left hHeld).b.a.li).mono ?_); rintro e w10 ⟨rfl, hb⟩; have hk10 := LEnd.nine (LEnd.on (And.left hHeld) hb); clear hb)
    refine hK.out _ _ hk10 (fun hHeld3 => ?_)
    clear hK K hHeld
    (try simp only [Act.put, List.setIfInBounds_toArray, List.set_cons_zero, List.set_cons_succ])
    (refine heldTake (i := 4) (oi := { dst := some 74, op := Op.binOp BinOp.eql 9 (Operand.tmp 71) (Operand.tmp 73) 9, type := 4, pos := "law.go:36", after := #[{ on := 1, ground := Ground.data }, { on := 3, ground := Ground.data }], guard := none }) (v := ?_) rfl (by kernel_rfl) (by kernel_rfl) (by kernel_rfl) (by assumption) ?_ ?_; rotate_left; focus (refine .inl ⟨by kernel_rfl, ?_⟩; intro w hSw; (try dsimp only at hSw); go_simp; (try with_reducible rfl)); (try simp only [Act.put, List.setIfInBounds_toArray, List.set_cons_zero, List.set_cons_succ]))
    (refine heldTake (i := 5) (oi := { dst := some 75, op := Op.move (Operand.tmp 74), type := 4, pos := "law.go:36", after := #[{ on := 4, ground := Ground.data }, { on := 3, ground := Ground.chain }], guard := none }) (v := ?_) rfl (by kernel_rfl) (by kernel_rfl) (by kernel_rfl) (by assumption) ?_ ?_; rotate_left; focus (refine .inl ⟨by kernel_rfl, ?_⟩; intro w hSw; (try dsimp only at hSw); go_simp; (try with_reducible rfl)); (try simp only [Act.put, List.setIfInBounds_toArray, List.set_cons_zero, List.set_cons_succ]))
    (refine heldTake (i := 6) (oi := { dst := some 76, op := Op.fieldAddr 35 (Operand.tmp 12) 0, type := 0, pos := "law.go:36", after := #[{ on := 5, ground := Ground.guard }], guard := some (5, true) }) (v := ?_) rfl (by kernel_rfl) (by kernel_rfl) (by kernel_rfl) (by assumption) ?_ ?_; rotate_left; focus (refine .inl ⟨by kernel_rfl, ?_⟩; intro w hSw; (try dsimp only at hSw); go_simp; (try with_reducible rfl)); (try simp only [Act.put, List.setIfInBounds_toArray, List.set_cons_zero, List.set_cons_succ]))
    (refine heldTake (i := 7) (oi := { dst := some 77, op := Op.load 29 (Operand.tmp 76), type := 29, pos := "law.go:36", after := #[{ on := 6, ground := Ground.data }, { on := 5, ground := Ground.guard }], guard := some (5, true) }) (v := ?_) rfl (by kernel_rfl) (by kernel_rfl) (by kernel_rfl) (by assumption) ?_ ?_; rotate_left; focus (refine .inl ⟨by kernel_rfl, ?_⟩; intro w hSw; (try dsimp only at hSw); go_simp; (try with_reducible rfl)); (try simp only [Act.put, List.setIfInBounds_toArray, List.set_cons_zero, List.set_cons_succ]))
    (refine heldTake (i := 8) (oi := { dst := some 78, op := Op.binOp BinOp.eql 29 (Operand.tmp 77) (Operand.const (Value.int IntKind.i64 0)) 29, type := 4, pos := "law.go:36", after := #[{ on := 7, ground := Ground.data }, { on := 5, ground := Ground.guard }], guard := some (5, true) }) (v := ?_) rfl (by kernel_rfl) (by kernel_rfl) (by kernel_rfl) (by assumption) ?_ ?_; rotate_left; focus (refine .inl ⟨by kernel_rfl, ?_⟩; intro w hSw; (try dsimp only at hSw); go_simp; (try with_reducible rfl)); (try simp only [Act.put, List.setIfInBounds_toArray, List.set_cons_zero, List.set_cons_succ]))
    (refine heldTake (i := 9) (oi := { dst := some 79, op := Op.pick (Operand.tmp 75) (Operand.tmp 78) (Operand.const (Value.bool false)), type := 4, pos := "law.go:36", after := #[{ on := 5, ground := Ground.data }, { on := 8, ground := Ground.data }], guard := none }) (v := ?_) rfl (by kernel_rfl) (by kernel_rfl) (by kernel_rfl) (by assumption) ?_ ?_; rotate_left; focus (refine .inl ⟨by kernel_rfl, ?_⟩; intro w hSw; (try dsimp only at hSw); go_simp; (try with_reducible rfl)); (try simp only [Act.put, List.setIfInBounds_toArray, List.set_cons_zero, List.set_cons_succ]))
    (refine heldTake (i := 10) (oi := { dst := some 80, op := Op.move (Operand.tmp 79), type := 4, pos := "law.go:36", after := #[{ on := 9, ground := Ground.data }, { on := 5, ground := Ground.chain }], guard := none }) (v := ?_) rfl (by kernel_rfl) (by kernel_rfl) (by kernel_rfl) (by assumption) ?_ ?_; rotate_left; focus (refine .inl ⟨by kernel_rfl, ?_⟩; intro w hSw; (try dsimp only at hSw); go_simp; (try with_reducible rfl)); (try simp only [Act.put, List.setIfInBounds_toArray, List.set_cons_zero, List.set_cons_succ]))
    (refine heldTake (i := 11) (oi := { dst := some 81, op := Op.move (Operand.tmp 11), type := 3, pos := "law.go:36", after := #[{ on := 10, ground := Ground.guard }], guard := some (10, true) }) (v := ?_) rfl (by kernel_rfl) (by kernel_rfl) (by kernel_rfl) (by assumption) ?_ ?_; rotate_left; focus (refine .inl ⟨by kernel_rfl, ?_⟩; intro w hSw; (try dsimp only at hSw); go_simp; (try with_reducible rfl)); (try simp only [Act.put, List.setIfInBounds_toArray, List.set_cons_zero, List.set_cons_succ]))
    (refine heldTake (i := 12) (oi := { dst := some 82, op := Op.move (Operand.tmp 8), type := 26, pos := "law.go:36", after := #[{ on := 10, ground := Ground.guard }], guard := some (10, true) }) (v := ?_) rfl (by kernel_rfl) (by kernel_rfl) (by kernel_rfl) (by assumption) ?_ ?_; rotate_left; focus (refine .inl ⟨by kernel_rfl, ?_⟩; intro w hSw; (try dsimp only at hSw); go_simp; (try with_reducible rfl)); (try simp only [Act.put, List.setIfInBounds_toArray, List.set_cons_zero, List.set_cons_succ]))
    (refine heldTake (i := 13) (oi := { dst := some 83, op := Op.call { callee := Callee.builtin Builtin.len, args := #[Operand.tmp 82], argTypes := #[26] }, type := 3, pos := "law.go:36", after := #[{ on := 12, ground := Ground.data }, { on := 10, ground := Ground.guard }], guard := some (10, true) }) (v := ?_) rfl (by kernel_rfl) (by kernel_rfl) (by kernel_rfl) (by assumption) ?_ ?_; rotate_left; focus (refine .inl ⟨by kernel_rfl, ?_⟩; intro w hSw; (try dsimp only at hSw); go_simp; (try with_reducible rfl)); (try simp only [Act.put, List.setIfInBounds_toArray, List.set_cons_zero, List.set_cons_succ]))
    (refine heldTake (i := 14) (oi := { dst := some 84, op := Op.binOp BinOp.eql 3 (Operand.tmp 81) (Operand.tmp 83) 3, type := 4, pos := "law.go:36", after := #[{ on := 11, ground := Ground.data }, { on := 13, ground := Ground.data }, { on := 10, ground := Ground.guard }], guard := some (10, true) }) (v := ?_) rfl (by kernel_rfl) (by kernel_rfl) (by kernel_rfl) (by assumption) ?_ ?_; rotate_left; focus (refine .inl ⟨by kernel_rfl, ?_⟩; intro w hSw; (try dsimp only at hSw); go_simp; (try with_reducible rfl)); (try simp only [Act.put, List.setIfInBounds_toArray, List.set_cons_zero, List.set_cons_succ]))
    (refine heldTake (i := 15) (oi := { dst := some 85, op := Op.pick (Operand.tmp 80) (Operand.tmp 84) (Operand.const (Value.bool false)), type := 4, pos := "law.go:36", after := #[{ on := 10, ground := Ground.data }, { on := 14, ground := Ground.data }], guard := none }) (v := ?_) rfl (by kernel_rfl) (by kernel_rfl) (by kernel_rfl) (by assumption) ?_ ?_; rotate_left; focus (refine .inl ⟨by kernel_rfl, ?_⟩; intro w hSw; (try dsimp only at hSw); go_simp; (try with_reducible rfl)); (try simp only [Act.put, List.setIfInBounds_toArray, List.set_cons_zero, List.set_cons_succ]))
    (refine heldTake (i := 16) (oi := { dst := some 86, op := Op.move (Operand.tmp 85), type := 4, pos := "law.go:36", after := #[{ on := 15, ground := Ground.data }, { on := 10, ground := Ground.chain }], guard := none }) (v := ?_) rfl (by kernel_rfl) (by kernel_rfl) (by kernel_rfl) (by assumption) ?_ ?_; rotate_left; focus (refine .inl ⟨by kernel_rfl, ?_⟩; intro w hSw; (try dsimp only at hSw); go_simp; (try with_reducible rfl)); (try simp only [Act.put, List.setIfInBounds_toArray, List.set_cons_zero, List.set_cons_succ]))
    (refine heldTake (i := 17) (oi := { dst := some 87, op := Op.load 25 (Operand.tmp 10), type := 25, pos := "law.go:36", after := #[{ on := 16, ground := Ground.guard }], guard := some (16, true) }) (v := ?_) rfl (by kernel_rfl) (by kernel_rfl) (by kernel_rfl) (by assumption) ?_ ?_; rotate_left; focus (refine .inl ⟨by kernel_rfl, ?_⟩; intro w hSw; (try dsimp only at hSw); go_simp; (try with_reducible rfl)); (try simp only [Act.put, List.setIfInBounds_toArray, List.set_cons_zero, List.set_cons_succ]))
    (refine heldTake (i := 18) (oi := { dst := some 88, op := Op.load 25 (Operand.tmp 3), type := 25, pos := "law.go:36", after := #[{ on := 16, ground := Ground.guard }], guard := some (16, true) }) (v := ?_) rfl (by kernel_rfl) (by kernel_rfl) (by kernel_rfl) (by assumption) ?_ ?_; rotate_left; focus (refine .inl ⟨by kernel_rfl, ?_⟩; intro w hSw; (try dsimp only at hSw); go_simp; (try with_reducible rfl)); (try simp only [Act.put, List.setIfInBounds_toArray, List.set_cons_zero, List.set_cons_succ]))
    refine wpAnyH_ready (rs := [19]) (by kernel_rfl) (by simp) ?_
    refine AllReadyH.cons (o := { dst := some 89, op := Op.call { callee := Callee.value (Operand.func 15), args := #[Operand.tmp 87, Operand.tmp 88], argTypes := #[25, 25] }, type := 4, pos := "law.go:36", after := #[{ on := 17, ground := Ground.data }, { on := 18, ground := Ground.data }, { on := 16, ground := Ground.chain }, { on := 16, ground := Ground.guard }], guard := some (16, true) }) rfl (fun K hK => ?_) AllReadyH.nil
    go_simp
    (go_at_call 15; (with_reducible refine (HS3.out _ _ _ (And.left hHeld3).l (And.left hHeld3).b.a.li).mono ?_); rintro e w11 ⟨rfl, hb⟩; have hk11 := LEnd.nine (LEnd.on (And.left hHeld3) hb); clear hb)
    refine hK.out _ _ hk11 (fun hHeld19 => ?_)
    clear hK K hHeld3
    (try simp only [Act.put, List.setIfInBounds_toArray, List.set_cons_zero, List.set_cons_succ])
    (refine heldTake (i := 20) (oi := { dst := some 90, op := Op.pick (Operand.tmp 86) (Operand.tmp 89) (Operand.const (Value.bool false)), type := 4, pos := "law.go:36", after := #[{ on := 16, ground := Ground.data }, { on := 19, ground := Ground.data }], guard := none }) (v := ?_) rfl (by kernel_rfl) (by kernel_rfl) (by kernel_rfl) (by assumption) ?_ ?_; rotate_left; focus (refine .inl ⟨by kernel_rfl, ?_⟩; intro w hSw; (try dsimp only at hSw); go_simp; (try with_reducible rfl)); (try simp only [Act.put, List.setIfInBounds_toArray, List.set_cons_zero, List.set_cons_succ]))
    (refine heldTake (i := 21) (oi := { dst := some 6, op := Op.assign (Operand.tmp 90), type := 4, pos := "law.go:36", after := #[{ on := 20, ground := Ground.data }, { on := 19, ground := Ground.chain }, { on := 0, ground := Ground.phase }, { on := 1, ground := Ground.phase }, { on := 2, ground := Ground.phase }, { on := 3, ground := Ground.phase }, { on := 4, ground := Ground.phase }, { on := 5, ground := Ground.phase }, { on := 6, ground := Ground.phase }, { on := 7, ground := Ground.phase }, { on := 8, ground := Ground.phase }, { on := 9, ground := Ground.phase }, { on := 10, ground := Ground.phase }, { on := 11, ground := Ground.phase }, { on := 12, ground := Ground.phase }, { on := 13, ground := Ground.phase }, { on := 14, ground := Ground.phase }, { on := 15, ground := Ground.phase }, { on := 16, ground := Ground.phase }, { on := 17, ground := Ground.phase }, { on := 18, ground := Ground.phase }, { on := 19, ground := Ground.phase }, { on := 20, ground := Ground.phase }], guard := none }) (v := ?_) rfl (by kernel_rfl) (by kernel_rfl) (by kernel_rfl) (by assumption) ?_ ?_; rotate_left; focus (refine .inl ⟨by kernel_rfl, ?_⟩; intro w hSw; (try dsimp only at hSw); go_simp; (try with_reducible rfl)); (try simp only [Act.put, List.setIfInBounds_toArray, List.set_cons_zero, List.set_cons_succ]))
    refine wpAnyH_done (by kernel_rfl) ?_ _
    refine NoPanic.normal ?_
    have hLast := hHeld19
    clear hHeld19
    go_wp2
    go_ret
    exact ⟨rfl, (And.left hLast).b.a.bel⟩
  · have HPU2 := Lib.hid (fun W (h : Tabs W) (hl : LiesL W A i.l) => show Calls Tryd.prog 12 #[insV i A c] W fun e w' => ∃ v, e = .returned (.tuple #[v, .int .i64 (rightZ i)]) ∧ Row w' W.heap.size v [] ∧ Below W.heap.size W w' from (HPU.out W h hl).mono fun e w' ⟨v, h1, h2, h3⟩ => ⟨v, h1, by rw [if_neg hz] at h2; exact h2, h3⟩)
    obtain ⟨z, hzz⟩ : ∃ z, z = rightZ i := ⟨_, rfl⟩
    rw [← hzz] at HRR HPR HPU2 hz
    have hzb : (z != 0) = true := by simpa using hz
    obtain ⟨xs, hxs⟩ : ∃ xs : List UInt8, xs = [] := ⟨_, rfl⟩
    have hxl : (xs.length : Int) = 0 := by rw [hxs]; rfl
    rw [← hxs] at HPU2
    clear hz hzz hxs g1 g2 g3 HPU
    go_enter Tryd.func3, Tryd.ntmps3
    go_wp2_with (first
      | (go_at_call 10; go_must ((with_reducible refine HAW.out.mono ?_); rintro e w1 ⟨rfl, hb⟩; have H1 := Lib.hid (H0.out.on hb); obtain ⟨⟨c0, c1, c2, c3⟩, ⟨k0, k1, k2, k3⟩⟩ := H1.out.eight; clear hb))
      | (go_at_call 11; go_must ((with_reducible refine (HRR.out _).mono ?_); rintro e w2 ⟨rfl, hb⟩; clear c0 c1 c2 c3 k0 k1 k2 k3; have H2 := Lib.hid (H1.out.on hb); obtain ⟨⟨c0, c1, c2, c3⟩, ⟨k0, k1, k2, k3⟩⟩ := H2.out.eight; clear hb))
      | (go_at_call 12; go_must ((with_reducible refine (HPU2.out _ H2.out.tb H2.out.li).mono ?_); intro e w3 hq; obtain ⟨v, rfl, hr, hb⟩ := hq; clear c0 c1 c2 c3 k0 k1 k2 k3; obtain ⟨Ab, cb, rfl, _, _⟩ := hr.liesN; have H3 := Lib.hid (show LSb w i k A B c d M ms (.slice Ab xs.length cb) xs w3 from ⟨H2.out.on hb, hr.mono H2.out.bel.size⟩); clear hb hr)))
    refine wp_region_noPanic ?_
    refine wp_region_held_drew (S := fun W => LSb w i k A B c d M ms (.slice Ab xs.length cb) xs W ∧ Eight w i k A B c d W) (by kernel_rfl) H3.out.drew8 (fun hHeld => ?_)
    (refine heldTake (i := 0) (oi := { dst := some 37, op := Op.load 25 (Operand.tmp 3), type := 25, pos := "law.go:29", after := #[], guard := none }) (v := ?_) rfl (by kernel_rfl) (by kernel_rfl) (by kernel_rfl) (by assumption) ?_ ?_; rotate_left; focus (refine .inl ⟨by kernel_rfl, ?_⟩; intro w hSw; (try dsimp only at hSw); go_simp; (try with_reducible rfl)); (try simp only [Act.put, List.setIfInBounds_toArray, List.set_cons_zero, List.set_cons_succ]))
    (refine heldTake (i := 2) (oi := { dst := some 39, op := Op.move (Operand.tmp 7), type := 3, pos := "law.go:29", after := #[], guard := none }) (v := ?_) rfl (by kernel_rfl) (by kernel_rfl) (by kernel_rfl) (by assumption) ?_ ?_; rotate_left; focus (refine .inl ⟨by kernel_rfl, ?_⟩; intro w hSw; (try dsimp only at hSw); go_simp; (try with_reducible rfl)); (try simp only [Act.put, List.setIfInBounds_toArray, List.set_cons_zero, List.set_cons_succ]))
    refine wpAnyH_ready (rs := [1]) (by kernel_rfl) (by simp) ?_
    refine AllReadyH.cons (o := { dst := some 38, op := Op.call { callee := Callee.value (Operand.func 13), args := #[Operand.tmp 37], argTypes := #[25] }, type := 29, pos := "law.go:29", after := #[{ on := 0, ground := Ground.data }], guard := none }) rfl (fun K hK => ?_) AllReadyH.nil
    go_simp
    (go_at_call 13; (with_reducible refine (HPR.out _ (And.left hHeld).1.tb).mono ?_); rintro e w4 ⟨rfl, hb⟩; have hk4 := LSb.on8 (And.left hHeld) hb; clear hb)
    refine hK.out _ _ hk4 (fun hHeld1 => ?_)
    clear hK K hHeld
    (try simp only [Act.put, List.setIfInBounds_toArray, List.set_cons_zero, List.set_cons_succ])
    (refine heldTake (i := 3) (oi := { dst := some 40, op := Op.binOp BinOp.neq 3 (Operand.tmp 38) (Operand.tmp 39) 3, type := 4, pos := "law.go:29", after := #[{ on := 1, ground := Ground.data }, { on := 2, ground := Ground.data }], guard := none }) (v := ?_) rfl (by kernel_rfl) (by kernel_rfl) (by kernel_rfl) (by assumption) ?_ ?_; rotate_left; focus (refine .inl ⟨by kernel_rfl, ?_⟩; intro w hSw; (try dsimp only at hSw); go_simp; (try with_reducible rfl)); (try simp only [Act.put, List.setIfInBounds_toArray, List.set_cons_zero, List.set_cons_succ]))
    (refine heldTake (i := 4) (oi := { dst := some 41, op := Op.move (Operand.tmp 40), type := 4, pos := "law.go:29", after := #[{ on := 3, ground := Ground.data }, { on := 1, ground := Ground.chain }], guard := none }) (v := ?_) rfl (by kernel_rfl) (by kernel_rfl) (by kernel_rfl) (by assumption) ?_ ?_; rotate_left; focus (refine .inl ⟨by kernel_rfl, ?_⟩; intro w hSw; (try dsimp only at hSw); go_simp; (try with_reducible rfl)); (try simp only [Act.put, List.setIfInBounds_toArray, List.set_cons_zero, List.set_cons_succ]))
    (refine heldTake (i := 5) (oi := { dst := some 42, op := Op.move (Operand.tmp 9), type := 29, pos := "law.go:29", after := #[{ on := 4, ground := Ground.guard }], guard := some (4, false) }) (v := ?_) rfl (by kernel_rfl) (by kernel_rfl) (by kernel_rfl) (by assumption) ?_ ?_; rotate_left; focus (refine .inl ⟨by kernel_rfl, ?_⟩; intro w hSw; (try dsimp only at hSw); go_simp; (try with_reducible rfl)); (try simp only [Act.put, List.setIfInBounds_toArray, List.set_cons_zero, List.set_cons_succ]))
    (refine heldTake (i := 6) (oi := { dst := some 43, op := Op.move (Operand.tmp 7), type := 3, pos := "law.go:29", after := #[{ on := 4, ground := Ground.guard }], guard := some (4, false) }) (v := ?_) rfl (by kernel_rfl) (by kernel_rfl) (by kernel_rfl) (by assumption) ?_ ?_; rotate_left; focus (refine .inl ⟨by kernel_rfl, ?_⟩; intro w hSw; (try dsimp only at hSw); go_simp; (try with_reducible rfl)); (try simp only [Act.put, List.setIfInBounds_toArray, List.set_cons_zero, List.set_cons_succ]))
    (refine heldTake (i := 7) (oi := { dst := some 44, op := Op.binOp BinOp.neq 3 (Operand.tmp 42) (Operand.tmp 43) 3, type := 4, pos := "law.go:29", after := #[{ on := 5, ground := Ground.data }, { on := 6, ground := Ground.data }, { on := 4, ground := Ground.guard }], guard := some (4, false) }) (v := ?_) rfl (by kernel_rfl) (by kernel_rfl) (by kernel_rfl) (by assumption) ?_ ?_; rotate_left; focus (refine .inl ⟨by kernel_rfl, ?_⟩; intro w hSw; (try dsimp only at hSw); go_simp; (try with_reducible rfl)); (try simp only [Act.put, List.setIfInBounds_toArray, List.set_cons_zero, List.set_cons_succ]))
    (refine heldTake (i := 8) (oi := { dst := some 45, op := Op.pick (Operand.tmp 41) (Operand.const (Value.bool true)) (Operand.tmp 44), type := 4, pos := "law.go:29", after := #[{ on := 4, ground := Ground.data }, { on := 7, ground := Ground.data }], guard := none }) (v := ?_) rfl (by kernel_rfl) (by kernel_rfl) (by kernel_rfl) (by assumption) ?_ ?_; rotate_left; focus (refine .inl ⟨by kernel_rfl, ?_⟩; intro w hSw; (try dsimp only at hSw); go_simp; (try with_reducible rfl)); (try simp only [Act.put, List.setIfInBounds_toArray, List.set_cons_zero, List.set_cons_succ]))
    (refine heldTake (i := 9) (oi := { dst := some 46, op := Op.move (Operand.tmp 45), type := 4, pos := "law.go:29", after := #[{ on := 8, ground := Ground.data }, { on := 4, ground := Ground.chain }], guard := none }) (v := ?_) rfl (by kernel_rfl) (by kernel_rfl) (by kernel_rfl) (by assumption) ?_ ?_; rotate_left; focus (refine .inl ⟨by kernel_rfl, ?_⟩; intro w hSw; (try dsimp only at hSw); go_simp; (try with_reducible rfl)); (try simp only [Act.put, List.setIfInBounds_toArray, List.set_cons_zero, List.set_cons_succ]))
    (refine heldTake (i := 10) (oi := { dst := some 47, op := Op.load 25 (Operand.tmp 3), type := 25, pos := "law.go:29", after := #[{ on := 9, ground := Ground.guard }], guard := some (9, false) }) (v := ?_) rfl (by kernel_rfl) (by kernel_rfl) (by kernel_rfl) (by assumption) ?_ ?_; rotate_left; focus (refine .inl ⟨by kernel_rfl, ?_⟩; intro w hSw; (try dsimp only at hSw); go_simp; (try with_reducible rfl)); (try simp only [Act.put, List.setIfInBounds_toArray, List.set_cons_zero, List.set_cons_succ]))
    (refine heldTake (i := 11) (oi := { dst := some 48, op := Op.load 25 (Operand.tmp 4), type := 25, pos := "law.go:29", after := #[{ on := 9, ground := Ground.guard }], guard := some (9, false) }) (v := ?_) rfl (by kernel_rfl) (by kernel_rfl) (by kernel_rfl) (by assumption) ?_ ?_; rotate_left; focus (refine .inl ⟨by kernel_rfl, ?_⟩; intro w hSw; (try dsimp only at hSw); go_simp; (try with_reducible rfl)); (try simp only [Act.put, List.setIfInBounds_toArray, List.set_cons_zero, List.set_cons_succ]))
    (refine heldTake (i := 13) (oi := { dst := some 50, op := Op.load 25 (Operand.tmp 3), type := 25, pos := "law.go:29", after := #[{ on := 9, ground := Ground.guard }], guard := some (9, false) }) (v := ?_) rfl (by kernel_rfl) (by kernel_rfl) (by kernel_rfl) (by assumption) ?_ ?_; rotate_left; focus (refine .inl ⟨by kernel_rfl, ?_⟩; intro w hSw; (try dsimp only at hSw); go_simp; (try with_reducible rfl)); (try simp only [Act.put, List.setIfInBounds_toArray, List.set_cons_zero, List.set_cons_succ]))
    (refine heldTake (i := 14) (oi := { dst := some 51, op := Op.load 25 (Operand.tmp 4), type := 25, pos := "law.go:29", after := #[{ on := 9, ground := Ground.guard }], guard := some (9, false) }) (v := ?_) rfl (by kernel_rfl) (by kernel_rfl) (by kernel_rfl) (by assumption) ?_ ?_; rotate_left; focus (refine .inl ⟨by kernel_rfl, ?_⟩; intro w hSw; (try dsimp only at hSw); go_simp; (try with_reducible rfl)); (try simp only [Act.put, List.setIfInBounds_toArray, List.set_cons_zero, List.set_cons_succ]))
    refine wpAnyH_ready (rs := [12]) (by kernel_rfl) (by simp) ?_
    refine AllReadyH.cons (o := { dst := some 49, op := Op.call { callee := Callee.value (Operand.func 14), args := #[Operand.tmp 47, Operand.tmp 48], argTypes := #[25, 25] }, type := 4, pos := "law.go:29", after := #[{ on := 10, ground := Ground.data }, { on := 11, ground := Ground.data }, { on := 9, ground := Ground.chain }, { on := 9, ground := Ground.guard }], guard := some (9, false) }) rfl (fun K hK => ?_) AllReadyH.nil
    go_simp
    (go_at_call 14; (with_reducible refine (HS1.out _ (And.left hHeld1).1.li (And.left hHeld1).1.lk).mono ?_); rintro e w5 ⟨rfl, hb⟩; have hk5 := LSb.on8 (And.left hHeld1) hb; clear hb)
    refine hK.out _ _ hk5 (fun hHeld12 => ?_)
    clear hK K hHeld1
    (try simp only [Act.put, List.setIfInBounds_toArray, List.set_cons_zero, List.set_cons_succ])
    refine wpAnyH_ready (rs := [15]) (by kernel_rfl) (by simp) ?_
    refine AllReadyH.cons (o := { dst := some 52, op := Op.call { callee := Callee.value (Operand.func 15), args := #[Operand.tmp 50, Operand.tmp 51], argTypes := #[25, 25] }, type := 4, pos := "law.go:29", after := #[{ on := 13, ground := Ground.data }, { on := 14, ground := Ground.data }, { on := 12, ground := Ground.chain }, { on := 9, ground := Ground.guard }], guard := some (9, false) }) rfl (fun K hK => ?_) AllReadyH.nil
    go_simp
    (go_at_call 15; (with_reducible refine (HS2.out _ (And.left hHeld12).1.li (And.left hHeld12).1.lk).mono ?_); rintro e w6 ⟨rfl, hb⟩; have hk6 := LSb.on8 (And.left hHeld12) hb; clear hb)
    refine hK.out _ _ hk6 (fun hHeld15 => ?_)
    clear hK K hHeld12
    (try simp only [Act.put, List.setIfInBounds_toArray, List.set_cons_zero, List.set_cons_succ])
    (refine heldTake (i := 16) (oi := { dst := some 53, op := Op.binOp BinOp.neq 4 (Operand.tmp 49) (Operand.tmp 52) 4, type := 4, pos := "law.go:29", after := #[{ on := 12, ground := Ground.data }, { on := 15, ground := Ground.data }, { on := 9, ground := Ground.guard }], guard := some (9, false) }) (v := ?_) rfl (by kernel_rfl) (by kernel_rfl) (by kernel_rfl) (by assumption) ?_ ?_; rotate_left; focus (refine .inl ⟨by kernel_rfl, ?_⟩; intro w hSw; (try dsimp only at hSw); go_simp; (try with_reducible rfl)); (try simp only [Act.put, List.setIfInBounds_toArray, List.set_cons_zero, List.set_cons_succ]))
    (refine heldTake (i := 17) (oi := { dst := some 54, op := Op.pick (Operand.tmp 46) (Operand.const (Value.bool true)) (Operand.tmp 53), type := 4, pos := "law.go:29", after := #[{ on := 9, ground := Ground.data }, { on := 16, ground := Ground.data }], guard := none }) (v := ?_) rfl (by kernel_rfl) (by kernel_rfl) (by kernel_rfl) (by assumption) ?_ ?_; rotate_left; focus (refine .inl ⟨by kernel_rfl, ?_⟩; intro w hSw; (try dsimp only at hSw); go_simp; (try with_reducible rfl)); (try simp only [Act.put, List.setIfInBounds_toArray, List.set_cons_zero, List.set_cons_succ]))
    refine wpAnyH_done (by kernel_rfl) ?_ _
    refine NoPanic.normal ?_
    have hLast := hHeld15
    clear hHeld15
    go_wp2
    go_ret
    exact ⟨rfl, (And.left hLast).a.bel⟩
end Go.Proofs.YtebgmfjgapmpfaaDoor
