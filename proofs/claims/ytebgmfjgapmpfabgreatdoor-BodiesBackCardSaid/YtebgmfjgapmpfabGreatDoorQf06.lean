/- PutBody; the reference's SameAll. -/
import Derived.Test.YtebgmfjgapmpfabGreatDoorQf05
import Derived.Test.YtebgmfjgapmpfabGreatDoorQf03
import Derived.Test.YtebgmfjgapmpfabGreatDoorQf01
namespace Go.Proofs.YtebgmfjgapmpfabGreatDoor
open Go.RowKit
set_option linter.unusedVariables false
set_option maxRecDepth 100000

/-- The first error of one. -/
def errZ : List I → Int
  | [] => 0
  | i :: r => if rightZ i ≠ 0 then rightZ i else errZ r
theorem errZ_drop {l : List I} {k : Nat} {i : I} (h : l[k]? = some i) : errZ (l.drop k) = if rightZ i ≠ 0 then rightZ i else errZ (l.drop (k + 1)) := by
  obtain ⟨hj3, hj4⟩ := List.getElem?_eq_some_iff.1 h
  rw [List.drop_eq_getElem_cons hj3, hj4]
  rfl
theorem errZ_all : ∀ {l : List I}, errZ l = 0 → ∀ i ∈ l, rightZ i = 0
  | [], _, i, hi => by cases hi
  | j :: r, h, i, hi => by
    unfold errZ at h
    by_cases hj : rightZ j ≠ 0
    · rw [if_pos hj] at h; exact absurd h hj
    · rw [if_neg hj] at h
      rcases List.mem_cons.1 hi with rfl | hi
      · omega
      · exact errZ_all h i hi
/-- What PutBody tells. -/
def codeZ (l : List I) : Int := if shapeZ l = 0 then errZ l else shapeZ l
theorem putL_len {i : I} (h : i.Ok) (hl : i.l.length ≤ 100) : (putL i).length ≤ 1100 := by
  obtain ⟨a0, a1, b0, b1, hl0⟩ := h
  have k1 := lebL_len i.a (by omega)
  have k2 := lebL_len i.b (by omega)
  have k3 := lebL_len (i.l.length : Int) (by omega)
  have k4 := labsL_len i.l hl0
  have k5 := sebL_len (s32 i.a) (by unfold s32; omega) (by unfold s32; omega)
  have k6 := sebL_len (s64 i.a) (by unfold s64; omega) (by unfold s64; omega)
  have key : (immL i).length ≤ 1050 := by
    unfold immL immB labL
    repeat' split
    all_goals (try simp only [List.length_append, List.length_cons, List.length_nil])
    all_goals omega
  unfold putL
  rw [List.length_cons]
  omega
theorem bodyL_len : ∀ l : List I, (∀ i ∈ l, i.Ok ∧ i.l.length ≤ 100) → (bodyL l).length ≤ l.length * 1100
  | [], _ => by simp [bodyL]
  | i :: r, h => by
    have h1 := bodyL_len r (fun j hj => h j (List.mem_cons_of_mem _ hj))
    have h2 := putL_len (h i (by simp)).1 (h i (by simp)).2
    unfold bodyL at h1 ⊢
    rw [List.flatMap_cons, List.length_append, List.length_cons]
    omega
def PutBPost (l : List I) (w : World) (e : Ending) (w' : World) : Prop :=
  ∃ v, e = .returned (.tuple #[v, .int .i64 (codeZ l)]) ∧ Row w' w.heap.size v (if codeZ l = 0 then bodyL l else []) ∧ Below w.heap.size w w'
theorem putB_no {l : List I} {c : Int} {w w' : World} (h : codeZ l = c) (hc : c ≠ 0) (hb : Below w.heap.size w w') : PutBPost l w (.returned (.tuple #[.slice none 0 0, .int .i64 c])) w' := by
  subst h
  exact ⟨_, rfl, by rw [if_neg hc]; exact Row.nil _ _, hb⟩
theorem putB_yes {l : List I} {v : Value} {w w' : World} (h : codeZ l = 0) (hr : Row w' w.heap.size v (bodyL l)) (hb : Below w.heap.size w w') : PutBPost l w (.returned (.tuple #[v, .int .i64 0])) w' :=
  ⟨v, by rw [h], by rw [if_pos h]; exact hr, hb⟩
set_option maxHeartbeats 1000000 in
theorem putBody_any {w : World} {A : Option Addr} {c : Nat} {l : List I} (hT : Tabs w) (hl : Ins w A l) (hn : l.length ≤ 60) (hok : ∀ i ∈ l, i.Ok ∧ i.l.length ≤ 100) :
    Calls Tryz.prog 52 #[.slice A l.length c] w (PutBPost l w) := by
  have HL := Lib.hid hl
  have HT := Lib.hid hT
  have HOK := Lib.hid hok
  have HSH := Lib.hid (shape_any (c := c) hT hl (by omega))
  obtain ⟨z, hz⟩ : ∃ z, z = shapeZ l := ⟨_, rfl⟩
  rw [← hz] at HSH
  obtain ⟨n, hnn⟩ : ∃ n, n = l.length := ⟨_, rfl⟩
  rw [← hnn] at HSH hn ⊢
  have HNN := Lib.hid hnn
  clear hT hl hok hnn
  by_cases hz0 : z = 0
  · have HC : Hid (codeZ l = errZ l) := by show _ = _; unfold codeZ; rw [← hz, if_pos hz0]
    subst hz0
    clear hz
    go_enter Tryz.func52, Tryz.ntmps52
    go_wp2_with (go_at_call 91; go_must ((with_reducible refine HSH.out.mono ?_); rintro e w1 ⟨rfl, hb⟩; have HB1 := Lib.hid hb; clear hb))
    go_loopw [5, 17] (fun v i wr => ∃ k : Nat, k ≤ n ∧ i = .int .i64 k ∧ Row wr w.heap.size v (bodyL (l.take k)) ∧ errZ l = errZ (l.drop k) ∧ Below w.heap.size w wr) (fun _ i _ => n - (intOf i).toNat)
    case atStart => exact ⟨0, Nat.zero_le _, rfl, Row.nil _ _, rfl, HB1.out⟩
    case round =>
      obtain ⟨k, hk, rfl, hr, he, hb⟩ := hrel
      have hz1 := hb.size
      by_cases hlt : k < n
      · obtain ⟨i, hi⟩ : ∃ i, l[k]? = some i := ⟨_, List.getElem?_eq_getElem (by rw [← HNN.out]; exact hlt)⟩
        obtain ⟨b, off, B, cc, rfl, hbl, ⟨k0, k1, k2, k3⟩, hlab⟩ := HL.out k i hi
        have m0 := (hb.cell (p := ⟨b, off + k * 4, none⟩) hbl).trans k0
        have m1 := (hb.cell (p := ⟨b, off + k * 4 + 1, none⟩) hbl).trans k1
        have m2 := (hb.cell (p := ⟨b, off + k * 4 + 2, none⟩) hbl).trans k2
        have m3 := (hb.cell (p := ⟨b, off + k * 4 + 3, none⟩) hbl).trans k3
        obtain ⟨hok, hll⟩ := HOK.out i (List.mem_of_getElem? hi)
        have HB := Lib.hid (hb.alloc hz1 (.cells (insC i B cc) 59))
        have HR := Lib.hid (hr.alloc (.cells (insC i B cc) 59))
        have HPU := Lib.hid (put_any i B cc (wr.alloc (.cells (insC i B cc) 59)) hok (HT.out.below HB.out) (hlab.below HB.out) (by omega))
        have hlen : (bodyL (l.take k)).length ≤ 66000 := by
          have h1 := bodyL_len (l.take k) (fun j hj => HOK.out j (List.mem_of_mem_take hj))
          have h2 : (l.take k).length ≤ k := by rw [List.length_take]; omega
          omega
        have hpl := putL_len hok hll
        have hs1 : w.heap.size ≤ (wr.alloc (.cells (insC i B cc) 59)).heap.size := by rw [size_box]; omega
        rw [errZ_drop hi] at he
        have HSN := Lib.hid (bodyL_snoc hi)
        by_cases hri : rightZ i = 0
        · rw [if_neg (by omega)] at he
          have HE := Lib.hid he
          have HP2 := Lib.hid (show Calls Tryz.prog 92 #[insV i B cc] (wr.alloc (.cells (insC i B cc) 59)) fun e w' => ∃ v, e = .returned (.tuple #[v, .int .i64 0]) ∧ Row w' (wr.alloc (.cells (insC i B cc) 59)).heap.size v (putL i) ∧ Below (wr.alloc (.cells (insC i B cc) 59)).heap.size (wr.alloc (.cells (insC i B cc) 59)) w' from HPU.out.mono fun e w' ⟨v, h1, h2, h3⟩ => ⟨v, by rw [hri] at h1; exact h1, by rw [if_pos hri] at h2; exact h2, h3⟩)
          obtain ⟨y, hy⟩ : ∃ y, y = putL i := ⟨_, rfl⟩
          rw [← hy] at HP2 hpl HSN
          clear hr he hb k0 k1 k2 k3 hi hlab hok HPU hri hy
          go_wp2_with (first
            | (at_builtin; (refine row_any rfl _ _ rfl w.heap.size _ (bodyL (l.take k)) rfl HR2.out A2 y.length c2 _ y rfl rfl HL2.out HA2.out (by omega) hs2 ?_; intro v3 w3 hr3 hb3; have HR3 := Lib.hid hr3; have HB3 := Lib.hid hb3; clear hr3 hb3))
            | (go_at_call 92; go_must ((with_reducible refine HP2.out.mono ?_); intro e w2 hq; obtain ⟨v2, rfl, hr2, hb2⟩ := hq; obtain ⟨A2, c2, rfl, hl2, hA2, _⟩ := hr2.liesN; have HR2 := Lib.hid (HR.out.later hb2); have HB2 := Lib.hid (HB.out.trans (hb2.mono hs1)); have HL2 := Lib.hid hl2; have HA2 := Lib.hid hA2; have hs2 : w.heap.size ≤ w2.heap.size := Nat.le_trans hs1 hb2.size; clear hr2 hb2 hl2 hA2)))
          go_roundw
          case rel => exact ⟨k + 1, by omega, by go_num, by rw [HSN.out]; exact HR3.out, HE.out, HB2.out.trans HB3.out⟩
          case measure => simp [intOf]; omega
        · rw [if_pos hri] at he
          have HE := Lib.hid (show codeZ l = rightZ i from HC.out.trans he)
          have HZN := Lib.hid hri
          have hzb : (rightZ i != 0) = true := by simpa using hri
          have HP2 := Lib.hid (show Calls Tryz.prog 92 #[insV i B cc] (wr.alloc (.cells (insC i B cc) 59)) fun e w' => ∃ v, e = .returned (.tuple #[v, .int .i64 (rightZ i)]) ∧ Below (wr.alloc (.cells (insC i B cc) 59)).heap.size (wr.alloc (.cells (insC i B cc) 59)) w' from HPU.out.mono fun e w' ⟨v, h1, h2, h3⟩ => ⟨v, h1, h3⟩)
          obtain ⟨zi, hzi⟩ : ∃ zi, zi = rightZ i := ⟨_, rfl⟩
          rw [← hzi] at HE HZN hzb HP2
          clear hr he hb k0 k1 k2 k3 hi hlab hok HPU hri hzi
          go_wp2_with (go_at_call 92; go_must ((with_reducible refine HP2.out.mono ?_); intro e w2 hq; obtain ⟨v2, rfl, hb2⟩ := hq; have HB2 := Lib.hid (HB.out.trans (hb2.mono hs1)); clear hb2))
          go_ret2
          exact putB_no HE.out HZN.out HB2.out
      · obtain rfl : k = n := by omega
        have HE : Hid (codeZ l = 0) := by
          show _ = _
          rw [HC.out, he, List.drop_eq_nil_of_le (by rw [← HNN.out]; exact Nat.le_refl _)]
          rfl
        rw [List.take_of_length_le (by rw [← HNN.out]; exact Nat.le_refl _)] at hr
        have HR := Lib.hid hr
        have HB := Lib.hid hb
        clear hr he hb
        go_wp2
        go_ret2
        exact putB_yes HE.out HR.out HB.out
  · have HC := Lib.hid (show codeZ l = z by unfold codeZ; rw [← hz, if_neg hz0])
    have HZN := Lib.hid hz0
    have hzb : (z != 0) = true := by simpa using hz0
    clear hz hz0
    go_enter Tryz.func52, Tryz.ntmps52
    go_wp2_with (go_at_call 91; go_must ((with_reducible refine HSH.out.mono ?_); rintro e w1 ⟨rfl, hb⟩; have HB1 := Lib.hid hb; clear hb))
    go_ret2
    exact putB_no HC.out HZN.out HB1.out
/-- Both lists, wherever they lie. -/
def Two (A B : Option Addr) (l : List I) (W : World) : Prop := Ins W A l ∧ Ins W B l
theorem Two.on {A B : Option Addr} {l : List I} {W W' : World} (h : Two A B l W) (hb : Below W.heap.size W W') : Two A B l W' := ⟨h.1.below hb, h.2.below hb⟩
/-- .. and what they read as at k. -/
abbrev TwoAt (b1 o1 b2 o2 : Nat) (B1 B2 : Option Addr) (c1 c2 : Nat) (i : I) (k : Nat) (W : World) : Prop :=
  (W.cell? ⟨b1, o1 + k * 4, none⟩ = some (.int .u8 i.op.toNat) ∧ W.cell? ⟨b1, o1 + k * 4 + 1, none⟩ = some (.int .u64 i.a) ∧ W.cell? ⟨b1, o1 + k * 4 + 2, none⟩ = some (.int .u64 i.b) ∧ W.cell? ⟨b1, o1 + k * 4 + 3, none⟩ = some (.slice B1 i.l.length c1)) ∧
  (W.cell? ⟨b2, o2 + k * 4, none⟩ = some (.int .u8 i.op.toNat) ∧ W.cell? ⟨b2, o2 + k * 4 + 1, none⟩ = some (.int .u64 i.a) ∧ W.cell? ⟨b2, o2 + k * 4 + 2, none⟩ = some (.int .u64 i.b) ∧ W.cell? ⟨b2, o2 + k * 4 + 3, none⟩ = some (.slice B2 i.l.length c2))
set_option maxHeartbeats 1000000 in
theorem sameAll_any {w : World} {A B : Option Addr} {c d : Nat} {l : List I} (h1 : Ins w A l) (h2 : Ins w B l) (hn : l.length ≤ 1000) (hll : ∀ i ∈ l, i.l.length ≤ 100) :
    Calls Tryz.prog 39 #[.slice A l.length c, .slice B l.length d] w (BoolPost true w) := by
  have H1 := Lib.hid h1
  have H2 := Lib.hid h2
  have HLL := Lib.hid hll
  obtain ⟨n, hnn⟩ : ∃ n, n = l.length := ⟨_, rfl⟩
  rw [← hnn] at hn ⊢
  have HNN := Lib.hid hnn
  clear h1 h2 hll hnn
  go_enter Tryz.func39, Tryz.ntmps39
  go_wp2
  go_loopw [5] (fun i wr => ∃ k : Nat, k ≤ n ∧ i = .int .i64 k ∧ Below w.heap.size w wr) (fun i _ => n - (intOf i).toNat)
  case atStart => exact ⟨0, Nat.zero_le _, rfl, Below.refl _ _⟩
  case round =>
    obtain ⟨k, hk, rfl, hb⟩ := hrel
    by_cases hlt : k < n
    · obtain ⟨i, hi⟩ : ∃ i, l[k]? = some i := ⟨_, List.getElem?_eq_getElem (by rw [← HNN.out]; exact hlt)⟩
      obtain ⟨b1, o1, B1, c1, rfl, hb1, ⟨k0, k1, k2, k3⟩, hl1⟩ := H1.out k i hi
      obtain ⟨b2, o2, B2, c2, rfl, hb2, ⟨q0, q1, q2, q3⟩, hl2⟩ := H2.out k i hi
      have hat : ∀ W, Below w.heap.size w W → TwoAt b1 o1 b2 o2 B1 B2 c1 c2 i k W := fun W h =>
        ⟨⟨(h.cell (p := ⟨b1, _, none⟩) hb1).trans k0, (h.cell (p := ⟨b1, _, none⟩) hb1).trans k1, (h.cell (p := ⟨b1, _, none⟩) hb1).trans k2, (h.cell (p := ⟨b1, _, none⟩) hb1).trans k3⟩,
          ⟨(h.cell (p := ⟨b2, _, none⟩) hb2).trans q0, (h.cell (p := ⟨b2, _, none⟩) hb2).trans q1, (h.cell (p := ⟨b2, _, none⟩) hb2).trans q2, (h.cell (p := ⟨b2, _, none⟩) hb2).trans q3⟩⟩
      have HAT := Lib.hid hat
      have HS := Lib.hid (fun W (h : Below w.heap.size w W) => (by
        have hll := HLL.out i (List.mem_of_getElem? hi)
        have := refSame_any (w := W) (c := c1) (d := c2) (i := i) (k := i) (hl1.below h) (hl2.below h) (by omega) (by omega)
        have e : sameZ i i = true := by unfold sameZ; simp
        rw [e] at this
        exact this : Calls Tryz.prog 47 #[insV i B1 c1, insV i B2 c2] W (BoolPost true W)))
      have HB := Lib.hid hb
      clear hi k0 k1 k2 k3 q0 q1 q2 q3 hl1 hl2 hat hb
      go_wp2_with fail
      refine wp_region_noPanic ?_
      refine wp_region_held_drew (S := fun W => Below w.heap.size w W ∧ TwoAt b1 o1 b2 o2 B1 B2 c1 c2 i k W) (by kernel_rfl) ⟨HB.out.drew, HAT.out _ HB.out.drew⟩ (fun hHeld => ?_)
      (refine heldTake (i := 0) (oi := { dst := some 17, op := Op.move (Operand.tmp 0), type := 26, pos := "ref.go:216", after := #[], guard := none }) (v := ?_) rfl (by kernel_rfl) (by kernel_rfl) (by kernel_rfl) (by assumption) ?_ ?_; rotate_left; focus (refine .inl ⟨by kernel_rfl, ?_⟩; intro w hSw; (try dsimp only at hSw); go_simp; (try with_reducible rfl)); (try simp only [Act.put, List.setIfInBounds_toArray, List.set_cons_zero, List.set_cons_succ]))
      (refine heldTake (i := 1) (oi := { dst := some 18, op := Op.move (Operand.tmp 5), type := 3, pos := "ref.go:216", after := #[], guard := none }) (v := ?_) rfl (by kernel_rfl) (by kernel_rfl) (by kernel_rfl) (by assumption) ?_ ?_; rotate_left; focus (refine .inl ⟨by kernel_rfl, ?_⟩; intro w hSw; (try dsimp only at hSw); go_simp; (try with_reducible rfl)); (try simp only [Act.put, List.setIfInBounds_toArray, List.set_cons_zero, List.set_cons_succ]))
      (refine heldTake (i := 2) (oi := { dst := some 19, op := Op.indexAddr 26 (Operand.tmp 17) (Operand.tmp 18), type := 0, pos := "ref.go:216", after := #[{ on := 0, ground := Ground.data }, { on := 1, ground := Ground.data }], guard := none }) (v := ?_) rfl (by kernel_rfl) (by kernel_rfl) (by kernel_rfl) (by assumption) ?_ ?_; rotate_left; focus (refine .inl ⟨by kernel_rfl, ?_⟩; intro w hSw; (try dsimp only at hSw); go_simp; (try with_reducible rfl)); (try simp only [Act.put, List.setIfInBounds_toArray, List.set_cons_zero, List.set_cons_succ]))
      (refine heldTake (i := 3) (oi := { dst := some 20, op := Op.load 59 (Operand.tmp 19), type := 59, pos := "ref.go:216", after := #[{ on := 2, ground := Ground.data }], guard := none }) (v := ?_) rfl (by kernel_rfl) (by kernel_rfl) (by kernel_rfl) (by assumption) ?_ ?_; rotate_left; focus (refine .inl ⟨by kernel_rfl, ?_⟩; intro w hSw; (try dsimp only at hSw); go_simp; (try with_reducible rfl)); (try simp only [Act.put, List.setIfInBounds_toArray, List.set_cons_zero, List.set_cons_succ]))
      (refine heldTake (i := 4) (oi := { dst := some 21, op := Op.move (Operand.tmp 1), type := 26, pos := "ref.go:216", after := #[], guard := none }) (v := ?_) rfl (by kernel_rfl) (by kernel_rfl) (by kernel_rfl) (by assumption) ?_ ?_; rotate_left; focus (refine .inl ⟨by kernel_rfl, ?_⟩; intro w hSw; (try dsimp only at hSw); go_simp; (try with_reducible rfl)); (try simp only [Act.put, List.setIfInBounds_toArray, List.set_cons_zero, List.set_cons_succ]))
      (refine heldTake (i := 5) (oi := { dst := some 22, op := Op.move (Operand.tmp 5), type := 3, pos := "ref.go:216", after := #[], guard := none }) (v := ?_) rfl (by kernel_rfl) (by kernel_rfl) (by kernel_rfl) (by assumption) ?_ ?_; rotate_left; focus (refine .inl ⟨by kernel_rfl, ?_⟩; intro w hSw; (try dsimp only at hSw); go_simp; (try with_reducible rfl)); (try simp only [Act.put, List.setIfInBounds_toArray, List.set_cons_zero, List.set_cons_succ]))
      (refine heldTake (i := 6) (oi := { dst := some 23, op := Op.indexAddr 26 (Operand.tmp 21) (Operand.tmp 22), type := 0, pos := "ref.go:216", after := #[{ on := 4, ground := Ground.data }, { on := 5, ground := Ground.data }], guard := none }) (v := ?_) rfl (by kernel_rfl) (by kernel_rfl) (by kernel_rfl) (by assumption) ?_ ?_; rotate_left; focus (refine .inl ⟨by kernel_rfl, ?_⟩; intro w hSw; (try dsimp only at hSw); go_simp; (try with_reducible rfl)); (try simp only [Act.put, List.setIfInBounds_toArray, List.set_cons_zero, List.set_cons_succ]))
      (refine heldTake (i := 7) (oi := { dst := some 24, op := Op.load 59 (Operand.tmp 23), type := 59, pos := "ref.go:216", after := #[{ on := 6, ground := Ground.data }], guard := none }) (v := ?_) rfl (by kernel_rfl) (by kernel_rfl) (by kernel_rfl) (by assumption) ?_ ?_; rotate_left; focus (refine .inl ⟨by kernel_rfl, ?_⟩; intro w hSw; (try dsimp only at hSw); go_simp; (try with_reducible rfl)); (try simp only [Act.put, List.setIfInBounds_toArray, List.set_cons_zero, List.set_cons_succ]))
      refine wpAnyH_ready (rs := [8]) (by kernel_rfl) (by simp) ?_
      refine AllReadyH.cons (o := { dst := some 25, op := Op.call { callee := Callee.value (Operand.func 47), args := #[Operand.tmp 20, Operand.tmp 24], argTypes := #[59, 59] }, type := 4, pos := "ref.go:216", after := #[{ on := 3, ground := Ground.data }, { on := 7, ground := Ground.data }], guard := none }) rfl (fun K hK => ?_) AllReadyH.nil
      go_simp
      (go_at_call 47; (with_reducible refine (HS.out _ (And.left hHeld)).mono ?_); rintro e w3 ⟨rfl, hb3⟩; have hk3 := And.left hHeld; have hz3 := hk3.size; have hk4 := hk3.trans (hb3.mono hz3); clear hb3 hk3)
      refine hK.out _ _ ⟨hk4, HAT.out _ hk4⟩ (fun hHeld8 => ?_)
      clear hK K hHeld
      (try simp only [Act.put, List.setIfInBounds_toArray, List.set_cons_zero, List.set_cons_succ])
      (refine heldTake (i := 9) (oi := { dst := some 26, op := Op.unOp UnOp.not 4 (Operand.tmp 25), type := 4, pos := "ref.go:216", after := #[{ on := 8, ground := Ground.data }], guard := none }) (v := ?_) rfl (by kernel_rfl) (by kernel_rfl) (by kernel_rfl) (by assumption) ?_ ?_; rotate_left; focus (refine .inl ⟨by kernel_rfl, ?_⟩; intro w hSw; (try dsimp only at hSw); go_simp; (try with_reducible rfl)); (try simp only [Act.put, List.setIfInBounds_toArray, List.set_cons_zero, List.set_cons_succ]))
      refine wpAnyH_done (by kernel_rfl) ?_ _
      refine NoPanic.normal ?_
      have hLast := hHeld8
      clear hHeld8
      go_wp2
      go_roundw
      case rel => exact ⟨k + 1, by omega, by go_num, And.left hLast⟩
      case measure => simp [intOf]; omega
    · obtain rfl : k = n := by omega
      have HB := Lib.hid hb
      clear hb
      go_wp2
      go_ret
      exact ⟨rfl, HB.out⟩
end Go.Proofs.YtebgmfjgapmpfabGreatDoor

/- The reference's Right. (By gen/genRefRight.py.) -/
namespace Go.Proofs.YtebgmfjgapmpfabGreatDoor
open Go.RowKit
set_option linter.unusedVariables false
set_option maxRecDepth 100000

theorem nums_low {m : Nat} {a b : Int} (hm : m ≠ 1 ∧ m ≠ 0 ∧ m ≠ 9) (h : (a ≤ 4294967295 ∧ b ≤ 4294967295) ∨ m = 11) : numsZ m a b = 0 := by
  unfold numsZ
  rw [if_neg hm.1, if_neg (by omega)]
  by_cases m11 : m = 11
  · rw [if_pos m11]
  · rw [if_neg m11, if_pos (by omega)]
theorem nums_high {m : Nat} {a b : Int} (hm : m ≠ 1 ∧ m ≠ 0 ∧ m ≠ 9 ∧ m ≠ 11) (h : ¬ (a ≤ 4294967295 ∧ b ≤ 4294967295)) : numsZ m a b = 1 := by
  unfold numsZ
  rw [if_neg hm.1, if_neg (by omega), if_neg (by omega), if_neg h]
theorem block_same {a : Int} (h : a ≠ 64) (h2 : a ≤ 256) : blockZ a = valueZ a := by
  unfold blockZ
  rw [if_neg h]
  by_cases h3 : 255 < a
  · obtain rfl : a = 256 := by omega
    rfl
  · rw [if_neg h3]
theorem refR_end {w W : World} {i : I} {A : Option Addr} {c : Nat} (h : BoxI w W i A c) {o : Obj} : Below w.heap.size w (W.alloc o) := h.2.alloc h.2.size _
set_option maxHeartbeats 1000000 in
theorem refRight_any (i : I) (A : Option Addr) (c : Nat) (w : World) (h : i.Ok) (hl : (i.l.length : Int) ≤ 9223372036854775807) :
    Calls Tryz.prog 31 #[insV i A c] w (IntPost (rightZ i) w) := by
  have hn := i.n_le
  obtain ⟨a0, a1, b0, b1, _⟩ := h
  have hwb : IntKind.i64.wrap (i.op.toNat : Int) = i.op.toNat := by rw [IntKind.wrap_i64]; have := i.op.toNat_lt; omega
  have HB := Lib.hid (BoxI.start w i A c)
  obtain ⟨k, hk⟩ : ∃ k, k = checkR i.n := ⟨_, rfl⟩
  have HC : Hid (∀ W, Calls Tryz.prog 60 #[.int .i64 i.op.toNat] W fun e w' => e = .returned (.int .i64 (k : Nat)) ∧ Below W.heap.size W w') := fun W => by rw [hk, check_same hn]; exact refCheck_any i.n W hn
  by_cases k0 : k = 0
  · subst k0
    obtain ⟨m, hm⟩ : ∃ m, m = immR i.n := ⟨_, rfl⟩
    obtain ⟨r, hr⟩ : ∃ r, r = refR i.n := ⟨_, rfl⟩
    have him : (r.getD row0).imm = m := by rw [hr, hm]; exact (imm_same hn hk.symm).2
    have HI : Hid (∀ W, Calls Tryz.prog 61 #[.int .i64 i.op.toNat] W (RefPost r W)) := fun W => by rw [hr]; exact ref_any i.n W hn
    have HR := Lib.hid (show rightZ i = if 0 < i.l.length ∧ m ≠ 3 then 1 else if 10000 < i.l.length then 29 else if i.b ≠ 0 ∧ m ≠ 8 then 1 else numsZ m i.a i.b by unfold rightZ; rw [← hk, ← hm]; rfl)
    generalize (r.getD row0).op = r1 at *
    clear hr hm hk
    by_cases hl0 : 0 < i.l.length
    · have dl : decide (0 < (i.l.length : Int)) = true := decide_eq_true (by omega)
      by_cases m3 : m = 3
      · subst m3
        by_cases hl1 : 10000 < i.l.length
        · have dl1 : decide (10000 < (i.l.length : Int)) = true := decide_eq_true (by omega)
          have HE := Lib.hid (show rightZ i = 29 by rw [HR.out]; rw [if_neg (by omega), if_pos hl1])
          go_enter Tryz.func31, Tryz.ntmps31
          go_wp2_with (first
            | (go_at_call 60; go_must ((with_reducible refine (HC.out _).mono ?_); rintro e w1 ⟨rfl, hb⟩; have HB1 := Lib.hid (HB.out.on hb); have c1 := HB1.out.c0; clear hb))
            | (go_at_call 61; go_must ((with_reducible refine (HI.out _).mono ?_); rintro e w2 ⟨rfl, hb⟩; have HB2 := Lib.hid (HB1.out.on hb); have hlt := HB2.out.lt; have c2 := HB2.out.c1; have c3 := HB2.out.c2; have c4 := HB2.out.c3; clear hb))
            | (go_at_call 58; go_must ((with_reducible refine (refValue_any _ _).mono ?_); rintro e w' ⟨rfl, rfl⟩)))
          go_ret
          exact ret_below HE.out.symm (refR_end HB2.out)
        · have dl1 : decide (10000 < (i.l.length : Int)) = false := decide_eq_false (by omega)
          by_cases hb0 : i.b = 0
          · have db : (i.b != 0) = false := by simp [hb0]
            by_cases ha : i.a ≤ 4294967295
            · have da : decide (i.a < 4294967296) = true := decide_eq_true (by omega)
              have dbb : decide (i.b < 4294967296) = true := decide_eq_true (by omega)
              have HE := Lib.hid (show rightZ i = 0 by rw [HR.out]; rw [if_neg (by omega), if_neg hl1, if_neg (by omega)]; exact nums_low (by omega) (.inl ⟨ha, by omega⟩))
              clear hb0
              go_enter Tryz.func31, Tryz.ntmps31
              go_wp2_with (first
                | (go_at_call 60; go_must ((with_reducible refine (HC.out _).mono ?_); rintro e w1 ⟨rfl, hb⟩; have HB1 := Lib.hid (HB.out.on hb); have c1 := HB1.out.c0; clear hb))
                | (go_at_call 61; go_must ((with_reducible refine (HI.out _).mono ?_); rintro e w2 ⟨rfl, hb⟩; have HB2 := Lib.hid (HB1.out.on hb); have hlt := HB2.out.lt; have c2 := HB2.out.c1; have c3 := HB2.out.c2; have c4 := HB2.out.c3; clear hb))
                | (go_at_call 58; go_must ((with_reducible refine (refValue_any _ _).mono ?_); rintro e w' ⟨rfl, rfl⟩)))
              go_ret
              exact ret_below HE.out.symm (refR_end HB2.out)
            · have da : decide (i.a < 4294967296) = false := decide_eq_false (by omega)
              have HE := Lib.hid (show rightZ i = 1 by rw [HR.out]; rw [if_neg (by omega), if_neg hl1, if_neg (by omega)]; exact nums_high (by omega) (by omega))
              clear hb0
              go_enter Tryz.func31, Tryz.ntmps31
              go_wp2_with (first
                | (go_at_call 60; go_must ((with_reducible refine (HC.out _).mono ?_); rintro e w1 ⟨rfl, hb⟩; have HB1 := Lib.hid (HB.out.on hb); have c1 := HB1.out.c0; clear hb))
                | (go_at_call 61; go_must ((with_reducible refine (HI.out _).mono ?_); rintro e w2 ⟨rfl, hb⟩; have HB2 := Lib.hid (HB1.out.on hb); have hlt := HB2.out.lt; have c2 := HB2.out.c1; have c3 := HB2.out.c2; have c4 := HB2.out.c3; clear hb))
                | (go_at_call 58; go_must ((with_reducible refine (refValue_any _ _).mono ?_); rintro e w' ⟨rfl, rfl⟩)))
              go_ret
              exact ret_below HE.out.symm (refR_end HB2.out)
          · have db : (i.b != 0) = true := by simpa using hb0
            have d8 : ((3 : Int) != 8) = true := by decide
            have HE := Lib.hid (show rightZ i = 1 by rw [HR.out]; rw [if_neg (by omega), if_neg hl1, if_pos (by omega)])
            go_enter Tryz.func31, Tryz.ntmps31
            go_wp2_with (first
              | (go_at_call 60; go_must ((with_reducible refine (HC.out _).mono ?_); rintro e w1 ⟨rfl, hb⟩; have HB1 := Lib.hid (HB.out.on hb); have c1 := HB1.out.c0; clear hb))
              | (go_at_call 61; go_must ((with_reducible refine (HI.out _).mono ?_); rintro e w2 ⟨rfl, hb⟩; have HB2 := Lib.hid (HB1.out.on hb); have hlt := HB2.out.lt; have c2 := HB2.out.c1; have c3 := HB2.out.c2; have c4 := HB2.out.c3; clear hb))
              | (go_at_call 58; go_must ((with_reducible refine (refValue_any _ _).mono ?_); rintro e w' ⟨rfl, rfl⟩)))
            go_ret
            exact ret_below HE.out.symm (refR_end HB2.out)
      · have d3 : ((m : Int) != 3) = true := by simp; omega
        have HE := Lib.hid (show rightZ i = 1 by rw [HR.out]; rw [if_pos ⟨hl0, m3⟩])
        go_enter Tryz.func31, Tryz.ntmps31
        go_wp2_with (first
          | (go_at_call 60; go_must ((with_reducible refine (HC.out _).mono ?_); rintro e w1 ⟨rfl, hb⟩; have HB1 := Lib.hid (HB.out.on hb); have c1 := HB1.out.c0; clear hb))
          | (go_at_call 61; go_must ((with_reducible refine (HI.out _).mono ?_); rintro e w2 ⟨rfl, hb⟩; have HB2 := Lib.hid (HB1.out.on hb); have hlt := HB2.out.lt; have c2 := HB2.out.c1; have c3 := HB2.out.c2; have c4 := HB2.out.c3; clear hb))
          | (go_at_call 58; go_must ((with_reducible refine (refValue_any _ _).mono ?_); rintro e w' ⟨rfl, rfl⟩)))
        go_ret
        exact ret_below HE.out.symm (refR_end HB2.out)
    · have dl : decide (0 < (i.l.length : Int)) = false := decide_eq_false (by omega)
      have dl1 : decide (10000 < (i.l.length : Int)) = false := decide_eq_false (by omega)
      by_cases hb0 : i.b = 0
      · have db : (i.b != 0) = false := by simp [hb0]
        have dbb : decide (i.b < 4294967296) = true := decide_eq_true (by omega)
        by_cases m0 : m = 0 ∨ m = 9
        · rcases m0 with m0 | m0
          · subst m0
            by_cases hz : i.a = 0
            · have dz : (i.a == 0) = true := by simpa using hz
              have da : decide (i.a < 4294967296) = true := decide_eq_true (by omega)
              have HE := Lib.hid (show rightZ i = 0 by rw [HR.out]; rw [if_neg (by omega), if_neg (by omega), if_neg (by omega)]; unfold numsZ; rw [if_neg (by omega), if_pos (by omega), if_pos hz])
              clear hz hb0
              go_enter Tryz.func31, Tryz.ntmps31
              go_wp2_with (first
                | (go_at_call 60; go_must ((with_reducible refine (HC.out _).mono ?_); rintro e w1 ⟨rfl, hb⟩; have HB1 := Lib.hid (HB.out.on hb); have c1 := HB1.out.c0; clear hb))
                | (go_at_call 61; go_must ((with_reducible refine (HI.out _).mono ?_); rintro e w2 ⟨rfl, hb⟩; have HB2 := Lib.hid (HB1.out.on hb); have hlt := HB2.out.lt; have c2 := HB2.out.c1; have c3 := HB2.out.c2; have c4 := HB2.out.c3; clear hb))
                | (go_at_call 58; go_must ((with_reducible refine (refValue_any _ _).mono ?_); rintro e w' ⟨rfl, rfl⟩)))
              go_ret
              exact ret_below HE.out.symm (refR_end HB2.out)
            · have dz : (i.a == 0) = false := by simpa using hz
              rcases Int.lt_or_le i.a 4294967296 with ha | ha
              · have da : decide (i.a < 4294967296) = true := decide_eq_true (by omega)
                have HE := Lib.hid (show rightZ i = 1 by rw [HR.out]; rw [if_neg (by omega), if_neg (by omega), if_neg (by omega)]; unfold numsZ; rw [if_neg (by omega), if_pos (by omega), if_neg hz])
                clear hb0
                go_enter Tryz.func31, Tryz.ntmps31
                go_wp2_with (first
                  | (go_at_call 60; go_must ((with_reducible refine (HC.out _).mono ?_); rintro e w1 ⟨rfl, hb⟩; have HB1 := Lib.hid (HB.out.on hb); have c1 := HB1.out.c0; clear hb))
                  | (go_at_call 61; go_must ((with_reducible refine (HI.out _).mono ?_); rintro e w2 ⟨rfl, hb⟩; have HB2 := Lib.hid (HB1.out.on hb); have hlt := HB2.out.lt; have c2 := HB2.out.c1; have c3 := HB2.out.c2; have c4 := HB2.out.c3; clear hb))
                  | (go_at_call 58; go_must ((with_reducible refine (refValue_any _ _).mono ?_); rintro e w' ⟨rfl, rfl⟩)))
                go_ret
                exact ret_below HE.out.symm (refR_end HB2.out)
              · have da : decide (i.a < 4294967296) = false := decide_eq_false (by omega)
                have HE := Lib.hid (show rightZ i = 1 by rw [HR.out]; rw [if_neg (by omega), if_neg (by omega), if_neg (by omega)]; unfold numsZ; rw [if_neg (by omega), if_pos (by omega), if_neg hz])
                clear hb0
                go_enter Tryz.func31, Tryz.ntmps31
                go_wp2_with (first
                  | (go_at_call 60; go_must ((with_reducible refine (HC.out _).mono ?_); rintro e w1 ⟨rfl, hb⟩; have HB1 := Lib.hid (HB.out.on hb); have c1 := HB1.out.c0; clear hb))
                  | (go_at_call 61; go_must ((with_reducible refine (HI.out _).mono ?_); rintro e w2 ⟨rfl, hb⟩; have HB2 := Lib.hid (HB1.out.on hb); have hlt := HB2.out.lt; have c2 := HB2.out.c1; have c3 := HB2.out.c2; have c4 := HB2.out.c3; clear hb))
                  | (go_at_call 58; go_must ((with_reducible refine (refValue_any _ _).mono ?_); rintro e w' ⟨rfl, rfl⟩)))
                go_ret
                exact ret_below HE.out.symm (refR_end HB2.out)
          · subst m0
            by_cases hz : i.a = 0
            · have dz : (i.a == 0) = true := by simpa using hz
              have da : decide (i.a < 4294967296) = true := decide_eq_true (by omega)
              have HE := Lib.hid (show rightZ i = 0 by rw [HR.out]; rw [if_neg (by omega), if_neg (by omega), if_neg (by omega)]; unfold numsZ; rw [if_neg (by omega), if_pos (by omega), if_pos hz])
              clear hz hb0
              go_enter Tryz.func31, Tryz.ntmps31
              go_wp2_with (first
                | (go_at_call 60; go_must ((with_reducible refine (HC.out _).mono ?_); rintro e w1 ⟨rfl, hb⟩; have HB1 := Lib.hid (HB.out.on hb); have c1 := HB1.out.c0; clear hb))
                | (go_at_call 61; go_must ((with_reducible refine (HI.out _).mono ?_); rintro e w2 ⟨rfl, hb⟩; have HB2 := Lib.hid (HB1.out.on hb); have hlt := HB2.out.lt; have c2 := HB2.out.c1; have c3 := HB2.out.c2; have c4 := HB2.out.c3; clear hb))
                | (go_at_call 58; go_must ((with_reducible refine (refValue_any _ _).mono ?_); rintro e w' ⟨rfl, rfl⟩)))
              go_ret
              exact ret_below HE.out.symm (refR_end HB2.out)
            · have dz : (i.a == 0) = false := by simpa using hz
              rcases Int.lt_or_le i.a 4294967296 with ha | ha
              · have da : decide (i.a < 4294967296) = true := decide_eq_true (by omega)
                have HE := Lib.hid (show rightZ i = 1 by rw [HR.out]; rw [if_neg (by omega), if_neg (by omega), if_neg (by omega)]; unfold numsZ; rw [if_neg (by omega), if_pos (by omega), if_neg hz])
                clear hb0
                go_enter Tryz.func31, Tryz.ntmps31
                go_wp2_with (first
                  | (go_at_call 60; go_must ((with_reducible refine (HC.out _).mono ?_); rintro e w1 ⟨rfl, hb⟩; have HB1 := Lib.hid (HB.out.on hb); have c1 := HB1.out.c0; clear hb))
                  | (go_at_call 61; go_must ((with_reducible refine (HI.out _).mono ?_); rintro e w2 ⟨rfl, hb⟩; have HB2 := Lib.hid (HB1.out.on hb); have hlt := HB2.out.lt; have c2 := HB2.out.c1; have c3 := HB2.out.c2; have c4 := HB2.out.c3; clear hb))
                  | (go_at_call 58; go_must ((with_reducible refine (refValue_any _ _).mono ?_); rintro e w' ⟨rfl, rfl⟩)))
                go_ret
                exact ret_below HE.out.symm (refR_end HB2.out)
              · have da : decide (i.a < 4294967296) = false := decide_eq_false (by omega)
                have HE := Lib.hid (show rightZ i = 1 by rw [HR.out]; rw [if_neg (by omega), if_neg (by omega), if_neg (by omega)]; unfold numsZ; rw [if_neg (by omega), if_pos (by omega), if_neg hz])
                clear hb0
                go_enter Tryz.func31, Tryz.ntmps31
                go_wp2_with (first
                  | (go_at_call 60; go_must ((with_reducible refine (HC.out _).mono ?_); rintro e w1 ⟨rfl, hb⟩; have HB1 := Lib.hid (HB.out.on hb); have c1 := HB1.out.c0; clear hb))
                  | (go_at_call 61; go_must ((with_reducible refine (HI.out _).mono ?_); rintro e w2 ⟨rfl, hb⟩; have HB2 := Lib.hid (HB1.out.on hb); have hlt := HB2.out.lt; have c2 := HB2.out.c1; have c3 := HB2.out.c2; have c4 := HB2.out.c3; clear hb))
                  | (go_at_call 58; go_must ((with_reducible refine (refValue_any _ _).mono ?_); rintro e w' ⟨rfl, rfl⟩)))
                go_ret
                exact ret_below HE.out.symm (refR_end HB2.out)
        · have d0 : ((m : Int) == 0) = false := by simp; omega
          have d9 : ((m : Int) == 9) = false := by simp; omega
          by_cases m1 : m = 1
          · subst m1
            by_cases h64 : i.a = 64
            · have dz : (i.a == 64) = true := by simpa using h64
              have da : decide (i.a < 4294967296) = true := decide_eq_true (by omega)
              have HE := Lib.hid (show rightZ i = 0 by rw [HR.out]; rw [if_neg (by omega), if_neg (by omega), if_neg (by omega)]; unfold numsZ blockZ; rw [if_pos rfl, if_pos h64])
              clear h64 hb0
              go_enter Tryz.func31, Tryz.ntmps31
              go_wp2_with (first
                | (go_at_call 60; go_must ((with_reducible refine (HC.out _).mono ?_); rintro e w1 ⟨rfl, hb⟩; have HB1 := Lib.hid (HB.out.on hb); have c1 := HB1.out.c0; clear hb))
                | (go_at_call 61; go_must ((with_reducible refine (HI.out _).mono ?_); rintro e w2 ⟨rfl, hb⟩; have HB2 := Lib.hid (HB1.out.on hb); have hlt := HB2.out.lt; have c2 := HB2.out.c1; have c3 := HB2.out.c2; have c4 := HB2.out.c3; clear hb))
                | (go_at_call 58; go_must ((with_reducible refine (refValue_any _ _).mono ?_); rintro e w' ⟨rfl, rfl⟩)))
              go_ret
              exact ret_below HE.out.symm (refR_end HB2.out)
            · have dz : (i.a == 64) = false := by simpa using h64
              by_cases h256 : i.a ≤ 256
              · have da : decide (i.a < 4294967296) = true := decide_eq_true (by omega)
                have hmin : min i.a 256 = i.a := by omega
                have hw : IntKind.i64.wrap i.a = i.a := by rw [IntKind.wrap_i64]; omega
                have HE := Lib.hid (show rightZ i = valueZ i.a by rw [HR.out]; rw [if_neg (by omega), if_neg (by omega), if_neg (by omega)]; unfold numsZ; rw [if_pos rfl]; exact block_same h64 h256)
                clear hb0
                go_enter Tryz.func31, Tryz.ntmps31
                go_wp2_with (first
                  | (go_at_call 60; go_must ((with_reducible refine (HC.out _).mono ?_); rintro e w1 ⟨rfl, hb⟩; have HB1 := Lib.hid (HB.out.on hb); have c1 := HB1.out.c0; clear hb))
                  | (go_at_call 61; go_must ((with_reducible refine (HI.out _).mono ?_); rintro e w2 ⟨rfl, hb⟩; have HB2 := Lib.hid (HB1.out.on hb); have hlt := HB2.out.lt; have c2 := HB2.out.c1; have c3 := HB2.out.c2; have c4 := HB2.out.c3; clear hb))
                  | (go_at_call 58; go_must ((with_reducible refine (refValue_any _ _).mono ?_); rintro e w' ⟨rfl, rfl⟩)))
                go_ret
                exact ret_below HE.out.symm (refR_end HB2.out)
              · have hmin : min i.a 256 = 256 := by omega
                have hv : valueZ 256 = 7 := rfl
                rcases Int.lt_or_le i.a 4294967296 with ha | ha
                · have da : decide (i.a < 4294967296) = true := decide_eq_true (by omega)
                  have HE := Lib.hid (show rightZ i = 7 by rw [HR.out]; rw [if_neg (by omega), if_neg (by omega), if_neg (by omega)]; unfold numsZ blockZ; rw [if_pos rfl, if_neg h64, if_pos (by omega)])
                  clear hb0
                  go_enter Tryz.func31, Tryz.ntmps31
                  go_wp2_with (first
                    | (go_at_call 60; go_must ((with_reducible refine (HC.out _).mono ?_); rintro e w1 ⟨rfl, hb⟩; have HB1 := Lib.hid (HB.out.on hb); have c1 := HB1.out.c0; clear hb))
                    | (go_at_call 61; go_must ((with_reducible refine (HI.out _).mono ?_); rintro e w2 ⟨rfl, hb⟩; have HB2 := Lib.hid (HB1.out.on hb); have hlt := HB2.out.lt; have c2 := HB2.out.c1; have c3 := HB2.out.c2; have c4 := HB2.out.c3; clear hb))
                    | (go_at_call 58; go_must ((with_reducible refine (refValue_any _ _).mono ?_); rintro e w' ⟨rfl, rfl⟩)))
                  go_ret
                  exact ret_below HE.out.symm (refR_end HB2.out)
                · have da : decide (i.a < 4294967296) = false := decide_eq_false (by omega)
                  have HE := Lib.hid (show rightZ i = 7 by rw [HR.out]; rw [if_neg (by omega), if_neg (by omega), if_neg (by omega)]; unfold numsZ blockZ; rw [if_pos rfl, if_neg h64, if_pos (by omega)])
                  clear hb0
                  go_enter Tryz.func31, Tryz.ntmps31
                  go_wp2_with (first
                    | (go_at_call 60; go_must ((with_reducible refine (HC.out _).mono ?_); rintro e w1 ⟨rfl, hb⟩; have HB1 := Lib.hid (HB.out.on hb); have c1 := HB1.out.c0; clear hb))
                    | (go_at_call 61; go_must ((with_reducible refine (HI.out _).mono ?_); rintro e w2 ⟨rfl, hb⟩; have HB2 := Lib.hid (HB1.out.on hb); have hlt := HB2.out.lt; have c2 := HB2.out.c1; have c3 := HB2.out.c2; have c4 := HB2.out.c3; clear hb))
                    | (go_at_call 58; go_must ((with_reducible refine (refValue_any _ _).mono ?_); rintro e w' ⟨rfl, rfl⟩)))
                  go_ret
                  exact ret_below HE.out.symm (refR_end HB2.out)
          · have d1 : ((m : Int) == 1) = false := by simp; omega
            by_cases m11 : m = 11
            · subst m11
              rcases Int.lt_or_le i.a 4294967296 with ha | ha
              · have da : decide (i.a < 4294967296) = true := decide_eq_true (by omega)
                have HE := Lib.hid (show rightZ i = 0 by rw [HR.out]; rw [if_neg (by omega), if_neg (by omega), if_neg (by omega)]; unfold numsZ; rw [if_neg (by omega), if_neg (by omega), if_pos rfl])
                clear hb0
                go_enter Tryz.func31, Tryz.ntmps31
                go_wp2_with (first
                  | (go_at_call 60; go_must ((with_reducible refine (HC.out _).mono ?_); rintro e w1 ⟨rfl, hb⟩; have HB1 := Lib.hid (HB.out.on hb); have c1 := HB1.out.c0; clear hb))
                  | (go_at_call 61; go_must ((with_reducible refine (HI.out _).mono ?_); rintro e w2 ⟨rfl, hb⟩; have HB2 := Lib.hid (HB1.out.on hb); have hlt := HB2.out.lt; have c2 := HB2.out.c1; have c3 := HB2.out.c2; have c4 := HB2.out.c3; clear hb))
                  | (go_at_call 58; go_must ((with_reducible refine (refValue_any _ _).mono ?_); rintro e w' ⟨rfl, rfl⟩)))
                go_ret
                exact ret_below HE.out.symm (refR_end HB2.out)
              · have da : decide (i.a < 4294967296) = false := decide_eq_false (by omega)
                have HE := Lib.hid (show rightZ i = 0 by rw [HR.out]; rw [if_neg (by omega), if_neg (by omega), if_neg (by omega)]; unfold numsZ; rw [if_neg (by omega), if_neg (by omega), if_pos rfl])
                clear hb0
                go_enter Tryz.func31, Tryz.ntmps31
                go_wp2_with (first
                  | (go_at_call 60; go_must ((with_reducible refine (HC.out _).mono ?_); rintro e w1 ⟨rfl, hb⟩; have HB1 := Lib.hid (HB.out.on hb); have c1 := HB1.out.c0; clear hb))
                  | (go_at_call 61; go_must ((with_reducible refine (HI.out _).mono ?_); rintro e w2 ⟨rfl, hb⟩; have HB2 := Lib.hid (HB1.out.on hb); have hlt := HB2.out.lt; have c2 := HB2.out.c1; have c3 := HB2.out.c2; have c4 := HB2.out.c3; clear hb))
                  | (go_at_call 58; go_must ((with_reducible refine (refValue_any _ _).mono ?_); rintro e w' ⟨rfl, rfl⟩)))
                go_ret
                exact ret_below HE.out.symm (refR_end HB2.out)
            · have d11 : ((m : Int) == 11) = false := by simp; omega
              by_cases ha : i.a ≤ 4294967295
              · have da : decide (i.a < 4294967296) = true := decide_eq_true (by omega)
                have dbb : decide (i.b < 4294967296) = true := decide_eq_true (by omega)
                have HE := Lib.hid (show rightZ i = 0 by rw [HR.out]; rw [if_neg (by omega), if_neg (by omega), if_neg (by omega)]; exact nums_low (by omega) (.inl ⟨ha, by omega⟩))
                clear hb0
                go_enter Tryz.func31, Tryz.ntmps31
                go_wp2_with (first
                  | (go_at_call 60; go_must ((with_reducible refine (HC.out _).mono ?_); rintro e w1 ⟨rfl, hb⟩; have HB1 := Lib.hid (HB.out.on hb); have c1 := HB1.out.c0; clear hb))
                  | (go_at_call 61; go_must ((with_reducible refine (HI.out _).mono ?_); rintro e w2 ⟨rfl, hb⟩; have HB2 := Lib.hid (HB1.out.on hb); have hlt := HB2.out.lt; have c2 := HB2.out.c1; have c3 := HB2.out.c2; have c4 := HB2.out.c3; clear hb))
                  | (go_at_call 58; go_must ((with_reducible refine (refValue_any _ _).mono ?_); rintro e w' ⟨rfl, rfl⟩)))
                go_ret
                exact ret_below HE.out.symm (refR_end HB2.out)
              · have da : decide (i.a < 4294967296) = false := decide_eq_false (by omega)
                have HE := Lib.hid (show rightZ i = 1 by rw [HR.out]; rw [if_neg (by omega), if_neg (by omega), if_neg (by omega)]; exact nums_high (by omega) (by omega))
                clear hb0
                go_enter Tryz.func31, Tryz.ntmps31
                go_wp2_with (first
                  | (go_at_call 60; go_must ((with_reducible refine (HC.out _).mono ?_); rintro e w1 ⟨rfl, hb⟩; have HB1 := Lib.hid (HB.out.on hb); have c1 := HB1.out.c0; clear hb))
                  | (go_at_call 61; go_must ((with_reducible refine (HI.out _).mono ?_); rintro e w2 ⟨rfl, hb⟩; have HB2 := Lib.hid (HB1.out.on hb); have hlt := HB2.out.lt; have c2 := HB2.out.c1; have c3 := HB2.out.c2; have c4 := HB2.out.c3; clear hb))
                  | (go_at_call 58; go_must ((with_reducible refine (refValue_any _ _).mono ?_); rintro e w' ⟨rfl, rfl⟩)))
                go_ret
                exact ret_below HE.out.symm (refR_end HB2.out)
      · have db : (i.b != 0) = true := by simpa using hb0
        by_cases m8 : m = 8
        · subst m8
          by_cases ha : i.a ≤ 4294967295
          · have da : decide (i.a < 4294967296) = true := decide_eq_true (by omega)
            by_cases hbb : i.b ≤ 4294967295
            · have dbb : decide (i.b < 4294967296) = true := decide_eq_true (by omega)
              have HE := Lib.hid (show rightZ i = 0 by rw [HR.out]; rw [if_neg (by omega), if_neg (by omega), if_neg (by omega)]; exact nums_low (by omega) (.inl ⟨ha, hbb⟩))
              go_enter Tryz.func31, Tryz.ntmps31
              go_wp2_with (first
                | (go_at_call 60; go_must ((with_reducible refine (HC.out _).mono ?_); rintro e w1 ⟨rfl, hb⟩; have HB1 := Lib.hid (HB.out.on hb); have c1 := HB1.out.c0; clear hb))
                | (go_at_call 61; go_must ((with_reducible refine (HI.out _).mono ?_); rintro e w2 ⟨rfl, hb⟩; have HB2 := Lib.hid (HB1.out.on hb); have hlt := HB2.out.lt; have c2 := HB2.out.c1; have c3 := HB2.out.c2; have c4 := HB2.out.c3; clear hb))
                | (go_at_call 58; go_must ((with_reducible refine (refValue_any _ _).mono ?_); rintro e w' ⟨rfl, rfl⟩)))
              go_ret
              exact ret_below HE.out.symm (refR_end HB2.out)
            · have dbb : decide (i.b < 4294967296) = false := decide_eq_false (by omega)
              have HE := Lib.hid (show rightZ i = 1 by rw [HR.out]; rw [if_neg (by omega), if_neg (by omega), if_neg (by omega)]; exact nums_high (by omega) (by omega))
              go_enter Tryz.func31, Tryz.ntmps31
              go_wp2_with (first
                | (go_at_call 60; go_must ((with_reducible refine (HC.out _).mono ?_); rintro e w1 ⟨rfl, hb⟩; have HB1 := Lib.hid (HB.out.on hb); have c1 := HB1.out.c0; clear hb))
                | (go_at_call 61; go_must ((with_reducible refine (HI.out _).mono ?_); rintro e w2 ⟨rfl, hb⟩; have HB2 := Lib.hid (HB1.out.on hb); have hlt := HB2.out.lt; have c2 := HB2.out.c1; have c3 := HB2.out.c2; have c4 := HB2.out.c3; clear hb))
                | (go_at_call 58; go_must ((with_reducible refine (refValue_any _ _).mono ?_); rintro e w' ⟨rfl, rfl⟩)))
              go_ret
              exact ret_below HE.out.symm (refR_end HB2.out)
          · have da : decide (i.a < 4294967296) = false := decide_eq_false (by omega)
            have HE := Lib.hid (show rightZ i = 1 by rw [HR.out]; rw [if_neg (by omega), if_neg (by omega), if_neg (by omega)]; exact nums_high (by omega) (by omega))
            go_enter Tryz.func31, Tryz.ntmps31
            go_wp2_with (first
              | (go_at_call 60; go_must ((with_reducible refine (HC.out _).mono ?_); rintro e w1 ⟨rfl, hb⟩; have HB1 := Lib.hid (HB.out.on hb); have c1 := HB1.out.c0; clear hb))
              | (go_at_call 61; go_must ((with_reducible refine (HI.out _).mono ?_); rintro e w2 ⟨rfl, hb⟩; have HB2 := Lib.hid (HB1.out.on hb); have hlt := HB2.out.lt; have c2 := HB2.out.c1; have c3 := HB2.out.c2; have c4 := HB2.out.c3; clear hb))
              | (go_at_call 58; go_must ((with_reducible refine (refValue_any _ _).mono ?_); rintro e w' ⟨rfl, rfl⟩)))
            go_ret
            exact ret_below HE.out.symm (refR_end HB2.out)
        · have d8 : ((m : Int) != 8) = true := by simp; omega
          have HE := Lib.hid (show rightZ i = 1 by rw [HR.out]; rw [if_neg (by omega), if_neg (by omega), if_pos ⟨hb0, m8⟩])
          go_enter Tryz.func31, Tryz.ntmps31
          go_wp2_with (first
            | (go_at_call 60; go_must ((with_reducible refine (HC.out _).mono ?_); rintro e w1 ⟨rfl, hb⟩; have HB1 := Lib.hid (HB.out.on hb); have c1 := HB1.out.c0; clear hb))
            | (go_at_call 61; go_must ((with_reducible refine (HI.out _).mono ?_); rintro e w2 ⟨rfl, hb⟩; have HB2 := Lib.hid (HB1.out.on hb); have hlt := HB2.out.lt; have c2 := HB2.out.c1; have c3 := HB2.out.c2; have c4 := HB2.out.c3; clear hb))
            | (go_at_call 58; go_must ((with_reducible refine (refValue_any _ _).mono ?_); rintro e w' ⟨rfl, rfl⟩)))
          go_ret
          exact ret_below HE.out.symm (refR_end HB2.out)
  · have HE := Lib.hid (show rightZ i = k by unfold rightZ; rw [← hk, if_pos k0])
    have dk : ((k : Int) != 0) = true := by simp; omega
    clear hk
    go_enter Tryz.func31, Tryz.ntmps31
    go_wp2_with (go_at_call 60; go_must ((with_reducible refine (HC.out _).mono ?_); rintro e w1 ⟨rfl, hb⟩; have HB1 := Lib.hid (HB.out.on hb); clear hb))
    go_ret
    exact ret_below HE.out.symm HB1.out.2
end Go.Proofs.YtebgmfjgapmpfabGreatDoor
