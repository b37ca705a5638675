/- PutBody; the reference's SameAll. -/
import Derived.Test.YtebgmfjgapmpfaaDoorQh02
import Derived.Test.YtebgmfjgapmpfaaDoorQg08
import Derived.Test.YtebgmfjgapmpfaaDoorQh03
namespace Go.Proofs.YtebgmfjgapmpfaaDoor
open Go.RowKit
set_option linter.unusedVariables false
set_option maxRecDepth 100000

/-- The first error of one. -/
def errZ : List I → Int
  | [] => 0
  | i :: r => if rightZ i ≠ 0 then rightZ i else errZ r
theorem errZ_drop {l : List I} {k : Nat} {i : I} (h : l[k]? = some i) : errZ (l.drop k) = if rightZ i ≠ 0 then rightZ i else errZ (l.drop (k + 1)) := by
  obtain ⟨hj3, hj4⟩ := List.getElem?_eq_some_iff.1 h
  rw [List.drop_eq_getElem_cons hj3, hj4]
  rfl
theorem errZ_all : ∀ {l : List I}, errZ l = 0 → ∀ i ∈ l, rightZ i = 0
  | [], _, i, hi => by cases hi
  | j :: r, h, i, hi => by
    unfold errZ at h
    by_cases hj : rightZ j ≠ 0
    · rw [if_pos hj] at h; exact absurd h hj
    · rw [if_neg hj] at h
      rcases List.mem_cons.1 hi with rfl | hi
      · omega
      · exact errZ_all h i hi
/-- What PutBody tells. -/
def codeZ (l : List I) : Int := if shapeZ l = 0 then errZ l else shapeZ l
theorem putL_len {i : I} (h : i.Ok) (hl : i.l.length ≤ 100) : (putL i).length ≤ 1100 := by
  obtain ⟨a0, a1, b0, b1, hl0⟩ := h
  have k1 := lebL_len i.a (by omega)
  have k2 := lebL_len i.b (by omega)
  have k3 := lebL_len (i.l.length : Int) (by omega)
  have k4 := labsL_len i.l hl0
  have k5 := sebL_len (s32 i.a) (by unfold s32; omega) (by unfold s32; omega)
  have k6 := sebL_len (s64 i.a) (by unfold s64; omega) (by unfold s64; omega)
  have key : (immL i).length ≤ 1050 := by
    unfold immL immB labL
    repeat' split
    all_goals (try simp only [List.length_append, List.length_cons, List.length_nil])
    all_goals omega
  unfold putL
  rw [List.length_cons]
  omega
theorem bodyL_len : ∀ l : List I, (∀ i ∈ l, i.Ok ∧ i.l.length ≤ 100) → (bodyL l).length ≤ l.length * 1100
  | [], _ => by simp [bodyL]
  | i :: r, h => by
    have h1 := bodyL_len r (fun j hj => h j (List.mem_cons_of_mem _ hj))
    have h2 := putL_len (h i (by simp)).1 (h i (by simp)).2
    unfold bodyL at h1 ⊢
    rw [List.flatMap_cons, List.length_append, List.length_cons]
    omega
def PutBPost (l : List I) (w : World) (e : Ending) (w' : World) : Prop :=
  ∃ v, e = .returned (.tuple #[v, .int .i64 (codeZ l)]) ∧ Row w' w.heap.size v (if codeZ l = 0 then bodyL l else []) ∧ Below w.heap.size w w'
theorem putB_no {l : List I} {c : Int} {w w' : World} (h : codeZ l = c) (hc : c ≠ 0) (hb : Below w.heap.size w w') : PutBPost l w (.returned (.tuple #[.slice none 0 0, .int .i64 c])) w' := by
  subst h
  exact ⟨_, rfl, by rw [if_neg hc]; exact Row.nil _ _, hb⟩
theorem putB_yes {l : List I} {v : Value} {w w' : World} (h : codeZ l = 0) (hr : Row w' w.heap.size v (bodyL l)) (hb : Below w.heap.size w w') : PutBPost l w (.returned (.tuple #[v, .int .i64 0])) w' :=
  ⟨v, by rw [h], by rw [if_pos h]; exact hr, hb⟩
set_option maxHeartbeats 1000000 in
theorem putBody_any {w : World} {A : Option Addr} {c : Nat} {l : List I} (hT : Tabs w) (hl : Ins w A l) (hn : l.length ≤ 60) (hok : ∀ i ∈ l, i.Ok ∧ i.l.length ≤ 100) :
    Calls Tryd.prog 19 #[.slice A l.length c] w (PutBPost l w) := by
  have HL := Lib.hid hl
  have HT := Lib.hid hT
  have HOK := Lib.hid hok
  have HSH := Lib.hid (shape_any (c := c) hT hl (by omega))
  obtain ⟨z, hz⟩ : ∃ z, z = shapeZ l := ⟨_, rfl⟩
  rw [← hz] at HSH
  obtain ⟨n, hnn⟩ : ∃ n, n = l.length := ⟨_, rfl⟩
  rw [← hnn] at HSH hn ⊢
  have HNN := Lib.hid hnn
  clear hT hl hok hnn
  by_cases hz0 : z = 0
  · have HC : Hid (codeZ l = errZ l) := by show _ = _; unfold codeZ; rw [← hz, if_pos hz0]
    subst hz0
    clear hz
    go_enter Tryd.func19, Tryd.ntmps19
    go_wp2_with (go_at_call 20; go_must ((with_reducible refine HSH.out.mono ?_); rintro e w1 ⟨rfl, hb⟩; have HB1 := Lib.hid hb; clear hb))
    go_loopw [5, 17] (fun v i wr => ∃ k : Nat, k ≤ n ∧ i = .int .i64 k ∧ Row wr w.heap.size v (bodyL (l.take k)) ∧ errZ l = errZ (l.drop k) ∧ Below w.heap.size w wr) (fun _ i _ => n - (intOf i).toNat)
    case atStart => exact ⟨0, Nat.zero_le _, rfl, Row.nil _ _, rfl, HB1.out⟩
    case round =>
      obtain ⟨k, hk, rfl, hr, he, hb⟩ := hrel
      have hz1 := hb.size
      by_cases hlt : k < n
      · obtain ⟨i, hi⟩ : ∃ i, l[k]? = some i := ⟨_, List.getElem?_eq_getElem (by rw [← HNN.out]; exact hlt)⟩
        obtain ⟨b, off, B, cc, rfl, hbl, ⟨k0, k1, k2, k3⟩, hlab⟩ := HL.out k i hi
        have m0 := (hb.cell (p := ⟨b, off + k * 4, none⟩) hbl).trans k0
        have m1 := (hb.cell (p := ⟨b, off + k * 4 + 1, none⟩) hbl).trans k1
        have m2 := (hb.cell (p := ⟨b, off + k * 4 + 2, none⟩) hbl).trans k2
        have m3 := (hb.cell (p := ⟨b, off + k * 4 + 3, none⟩) hbl).trans k3
        obtain ⟨hok, hll⟩ := HOK.out i (List.mem_of_getElem? hi)
        have HB := Lib.hid (hb.alloc hz1 (.cells (insC i B cc) 25))
        have HR := Lib.hid (hr.alloc (.cells (insC i B cc) 25))
        have HPU := Lib.hid (put_any i B cc (wr.alloc (.cells (insC i B cc) 25)) hok (HT.out.below HB.out) (hlab.below HB.out) (by omega))
        have hlen : (bodyL (l.take k)).length ≤ 66000 := by
          have h1 := bodyL_len (l.take k) (fun j hj => HOK.out j (List.mem_of_mem_take hj))
          have h2 : (l.take k).length ≤ k := by rw [List.length_take]; omega
          omega
        have hpl := putL_len hok hll
        have hs1 : w.heap.size ≤ (wr.alloc (.cells (insC i B cc) 25)).heap.size := by rw [size_box]; omega
        rw [errZ_drop hi] at he
        have HSN := Lib.hid (bodyL_snoc hi)
        by_cases hri : rightZ i = 0
        · rw [if_neg (by omega)] at he
          have HE := Lib.hid he
          have HP2 := Lib.hid (show Calls Tryd.prog 12 #[insV i B cc] (wr.alloc (.cells (insC i B cc) 25)) fun e w' => ∃ v, e = .returned (.tuple #[v, .int .i64 0]) ∧ Row w' (wr.alloc (.cells (insC i B cc) 25)).heap.size v (putL i) ∧ Below (wr.alloc (.cells (insC i B cc) 25)).heap.size (wr.alloc (.cells (insC i B cc) 25)) w' from HPU.out.mono fun e w' ⟨v, h1, h2, h3⟩ => ⟨v, by rw [hri] at h1; exact h1, by rw [if_pos hri] at h2; exact h2, h3⟩)
          obtain ⟨y, hy⟩ : ∃ y, y = putL i := ⟨_, rfl⟩
          rw [← hy] at HP2 hpl HSN
          clear hr he hb k0 k1 k2 k3 hi hlab hok HPU hri hy
          go_wp2_with (first
            | (at_builtin; (refine row_any rfl _ _ rfl w.heap.size _ (bodyL (l.take k)) rfl HR2.out A2 y.length c2 _ y rfl rfl HL2.out HA2.out (by omega) hs2 ?_; intro v3 w3 hr3 hb3; have HR3 := Lib.hid hr3; have HB3 := Lib.hid hb3; clear hr3 hb3))
            | (go_at_call 12; go_must ((with_reducible refine HP2.out.mono ?_); intro e w2 hq; obtain ⟨v2, rfl, hr2, hb2⟩ := hq; obtain ⟨A2, c2, rfl, hl2, hA2, _⟩ := hr2.liesN; have HR2 := Lib.hid (HR.out.later hb2); have HB2 := Lib.hid (HB.out.trans (hb2.mono hs1)); have HL2 := Lib.hid hl2; have HA2 := Lib.hid hA2; have hs2 : w.heap.size ≤ w2.heap.size := Nat.le_trans hs1 hb2.size; clear hr2 hb2 hl2 hA2)))
          go_roundw
          case rel => exact ⟨k + 1, by omega, by go_num, by rw [HSN.out]; exact HR3.out, HE.out, HB2.out.trans HB3.out⟩
          case measure => simp [intOf]; omega
        · rw [if_pos hri] at he
          have HE := Lib.hid (show codeZ l = rightZ i from HC.out.trans he)
          have HZN := Lib.hid hri
          have hzb : (rightZ i != 0) = true := by simpa using hri
          have HP2 := Lib.hid (show Calls Tryd.prog 12 #[insV i B cc] (wr.alloc (.cells (insC i B cc) 25)) fun e w' => ∃ v, e = .returned (.tuple #[v, .int .i64 (rightZ i)]) ∧ Below (wr.alloc (.cells (insC i B cc) 25)).heap.size (wr.alloc (.cells (insC i B cc) 25)) w' from HPU.out.mono fun e w' ⟨v, h1, h2, h3⟩ => ⟨v, h1, h3⟩)
          obtain ⟨zi, hzi⟩ : ∃ zi, zi = rightZ i := ⟨_, rfl⟩
          rw [← hzi] at HE HZN hzb HP2
          clear hr he hb k0 k1 k2 k3 hi hlab hok HPU hri hzi
          go_wp2_with (go_at_call 12; go_must ((with_reducible refine HP2.out.mono ?_); intro e w2 hq; obtain ⟨v2, rfl, hb2⟩ := hq; have HB2 := Lib.hid (HB.out.trans (hb2.mono hs1)); clear hb2))
          go_ret2
          exact putB_no HE.out HZN.out HB2.out
      · obtain rfl : k = n := by omega
        have HE : Hid (codeZ l = 0) := by
          show _ = _
          rw [HC.out, he, List.drop_eq_nil_of_le (by rw [← HNN.out]; exact Nat.le_refl _)]
          rfl
        rw [List.take_of_length_le (by rw [← HNN.out]; exact Nat.le_refl _)] at hr
        have HR := Lib.hid hr
        have HB := Lib.hid hb
        clear hr he hb
        go_wp2
        go_ret2
        exact putB_yes HE.out HR.out HB.out
  · have HC := Lib.hid (show codeZ l = z by unfold codeZ; rw [← hz, if_neg hz0])
    have HZN := Lib.hid hz0
    have hzb : (z != 0) = true := by simpa using hz0
    clear hz hz0
    go_enter Tryd.func19, Tryd.ntmps19
    go_wp2_with (go_at_call 20; go_must ((with_reducible refine HSH.out.mono ?_); rintro e w1 ⟨rfl, hb⟩; have HB1 := Lib.hid hb; clear hb))
    go_ret2
    exact putB_no HC.out HZN.out HB1.out
/-- Both lists, wherever they lie. -/
def Two (A B : Option Addr) (l : List I) (W : World) : Prop := Ins W A l ∧ Ins W B l
theorem Two.on {A B : Option Addr} {l : List I} {W W' : World} (h : Two A B l W) (hb : Below W.heap.size W W') : Two A B l W' := ⟨h.1.below hb, h.2.below hb⟩
/-- .. and what they read as at k. -/
abbrev TwoAt (b1 o1 b2 o2 : Nat) (B1 B2 : Option Addr) (c1 c2 : Nat) (i : I) (k : Nat) (W : World) : Prop :=
  (W.cell? ⟨b1, o1 + k * 4, none⟩ = some (.int .u8 i.op.toNat) ∧ W.cell? ⟨b1, o1 + k * 4 + 1, none⟩ = some (.int .u64 i.a) ∧ W.cell? ⟨b1, o1 + k * 4 + 2, none⟩ = some (.int .u64 i.b) ∧ W.cell? ⟨b1, o1 + k * 4 + 3, none⟩ = some (.slice B1 i.l.length c1)) ∧
  (W.cell? ⟨b2, o2 + k * 4, none⟩ = some (.int .u8 i.op.toNat) ∧ W.cell? ⟨b2, o2 + k * 4 + 1, none⟩ = some (.int .u64 i.a) ∧ W.cell? ⟨b2, o2 + k * 4 + 2, none⟩ = some (.int .u64 i.b) ∧ W.cell? ⟨b2, o2 + k * 4 + 3, none⟩ = some (.slice B2 i.l.length c2))
set_option maxHeartbeats 1000000 in
theorem sameAll_any {w : World} {A B : Option Addr} {c d : Nat} {l : List I} (h1 : Ins w A l) (h2 : Ins w B l) (hn : l.length ≤ 1000) (hll : ∀ i ∈ l, i.l.length ≤ 100) :
    Calls Tryd.prog 22 #[.slice A l.length c, .slice B l.length d] w (BoolPost true w) := by
  have H1 := Lib.hid h1
  have H2 := Lib.hid h2
  have HLL := Lib.hid hll
  obtain ⟨n, hnn⟩ : ∃ n, n = l.length := ⟨_, rfl⟩
  rw [← hnn] at hn ⊢
  have HNN := Lib.hid hnn
  clear h1 h2 hll hnn
  go_enter Tryd.func22, Tryd.ntmps22
  go_wp2
  go_loopw [5] (fun i wr => ∃ k : Nat, k ≤ n ∧ i = .int .i64 k ∧ Below w.heap.size w wr) (fun i _ => n - (intOf i).toNat)
  case atStart => exact ⟨0, Nat.zero_le _, rfl, Below.refl _ _⟩
  case round =>
    obtain ⟨k, hk, rfl, hb⟩ := hrel
    by_cases hlt : k < n
    · obtain ⟨i, hi⟩ : ∃ i, l[k]? = some i := ⟨_, List.getElem?_eq_getElem (by rw [← HNN.out]; exact hlt)⟩
      obtain ⟨b1, o1, B1, c1, rfl, hb1, ⟨k0, k1, k2, k3⟩, hl1⟩ := H1.out k i hi
      obtain ⟨b2, o2, B2, c2, rfl, hb2, ⟨q0, q1, q2, q3⟩, hl2⟩ := H2.out k i hi
      have hat : ∀ W, Below w.heap.size w W → TwoAt b1 o1 b2 o2 B1 B2 c1 c2 i k W := fun W h =>
        ⟨⟨(h.cell (p := ⟨b1, _, none⟩) hb1).trans k0, (h.cell (p := ⟨b1, _, none⟩) hb1).trans k1, (h.cell (p := ⟨b1, _, none⟩) hb1).trans k2, (h.cell (p := ⟨b1, _, none⟩) hb1).trans k3⟩,
          ⟨(h.cell (p := ⟨b2, _, none⟩) hb2).trans q0, (h.cell (p := ⟨b2, _, none⟩) hb2).trans q1, (h.cell (p := ⟨b2, _, none⟩) hb2).trans q2, (h.cell (p := ⟨b2, _, none⟩) hb2).trans q3⟩⟩
      have HAT := Lib.hid hat
      have HS := Lib.hid (fun W (h : Below w.heap.size w W) => (by
        have hll := HLL.out i (List.mem_of_getElem? hi)
        have := refSame_any (w := W) (c := c1) (d := c2) (i := i) (k := i) (hl1.below h) (hl2.below h) (by omega) (by omega)
        have e : sameZ i i = true := by unfold sameZ; simp
        rw [e] at this
        exact this : Calls Tryd.prog 15 #[insV i B1 c1, insV i B2 c2] W (BoolPost true W)))
      have HB := Lib.hid hb
      clear hi k0 k1 k2 k3 q0 q1 q2 q3 hl1 hl2 hat hb
      go_wp2_with fail
      refine wp_region_noPanic ?_
      refine wp_region_held_drew (S := fun W => Below w.heap.size w W ∧ TwoAt b1 o1 b2 o2 B1 B2 c1 c2 i k W) (by kernel_rfl) ⟨HB.out.drew, HAT.out _ HB.out.drew⟩ (fun hHeld => ?_)
      (refine heldTake (i := 0) (oi := { dst := some 17, op := Op.move (Operand.tmp 0), type := 40, pos := "ref.go:216", after := #[], guard := none }) (v := ?_) rfl (by kernel_rfl) (by kernel_rfl) (by kernel_rfl) (by assumption) ?_ ?_; rotate_left; focus (refine .inl ⟨by kernel_rfl, ?_⟩; intro w hSw; (try dsimp only at hSw); go_simp; (try with_reducible rfl)); (try simp only [Act.put, List.setIfInBounds_toArray, List.set_cons_zero, List.set_cons_succ]))
      (refine heldTake (i := 1) (oi := { dst := some 18, op := Op.move (Operand.tmp 5), type := 3, pos := "ref.go:216", after := #[], guard := none }) (v := ?_) rfl (by kernel_rfl) (by kernel_rfl) (by kernel_rfl) (by assumption) ?_ ?_; rotate_left; focus (refine .inl ⟨by kernel_rfl, ?_⟩; intro w hSw; (try dsimp only at hSw); go_simp; (try with_reducible rfl)); (try simp only [Act.put, List.setIfInBounds_toArray, List.set_cons_zero, List.set_cons_succ]))
      (refine heldTake (i := 2) (oi := { dst := some 19, op := Op.indexAddr 40 (Operand.tmp 17) (Operand.tmp 18), type := 0, pos := "ref.go:216", after := #[{ on := 0, ground := Ground.data }, { on := 1, ground := Ground.data }], guard := none }) (v := ?_) rfl (by kernel_rfl) (by kernel_rfl) (by kernel_rfl) (by assumption) ?_ ?_; rotate_left; focus (refine .inl ⟨by kernel_rfl, ?_⟩; intro w hSw; (try dsimp only at hSw); go_simp; (try with_reducible rfl)); (try simp only [Act.put, List.setIfInBounds_toArray, List.set_cons_zero, List.set_cons_succ]))
      (refine heldTake (i := 3) (oi := { dst := some 20, op := Op.load 25 (Operand.tmp 19), type := 25, pos := "ref.go:216", after := #[{ on := 2, ground := Ground.data }], guard := none }) (v := ?_) rfl (by kernel_rfl) (by kernel_rfl) (by kernel_rfl) (by assumption) ?_ ?_; rotate_left; focus (refine .inl ⟨by kernel_rfl, ?_⟩; intro w hSw; (try dsimp only at hSw); go_simp; (try with_reducible rfl)); (try simp only [Act.put, List.setIfInBounds_toArray, List.set_cons_zero, List.set_cons_succ]))
      (refine heldTake (i := 4) (oi := { dst := some 21, op := Op.move (Operand.tmp 1), type := 40, pos := "ref.go:216", after := #[], guard := none }) (v := ?_) rfl (by kernel_rfl) (by kernel_rfl) (by kernel_rfl) (by assumption) ?_ ?_; rotate_left; focus (refine .inl ⟨by kernel_rfl, ?_⟩; intro w hSw; (try dsimp only at hSw); go_simp; (try with_reducible rfl)); (try simp only [Act.put, List.setIfInBounds_toArray, List.set_cons_zero, List.set_cons_succ]))
      (refine heldTake (i := 5) (oi := { dst := some 22, op := Op.move (Operand.tmp 5), type := 3, pos := "ref.go:216", after := #[], guard := none }) (v := ?_) rfl (by kernel_rfl) (by kernel_rfl) (by kernel_rfl) (by assumption) ?_ ?_; rotate_left; focus (refine .inl ⟨by kernel_rfl, ?_⟩; intro w hSw; (try dsimp only at hSw); go_simp; (try with_reducible rfl)); (try simp only [Act.put, List.setIfInBounds_toArray, List.set_cons_zero, List.set_cons_succ]))
      (refine heldTake (i := 6) (oi := { dst := some 23, op := Op.indexAddr 40 (Operand.tmp 21) (Operand.tmp 22), type := 0, pos := "ref.go:216", after := #[{ on := 4, ground := Ground.data }, { on := 5, ground := Ground.data }], guard := none }) (v := ?_) rfl (by kernel_rfl) (by kernel_rfl) (by kernel_rfl) (by assumption) ?_ ?_; rotate_left; focus (refine .inl ⟨by kernel_rfl, ?_⟩; intro w hSw; (try dsimp only at hSw); go_simp; (try with_reducible rfl)); (try simp only [Act.put, List.setIfInBounds_toArray, List.set_cons_zero, List.set_cons_succ]))
      (refine heldTake (i := 7) (oi := { dst := some 24, op := Op.load 25 (Operand.tmp 23), type := 25, pos := "ref.go:216", after := #[{ on := 6, ground := Ground.data }], guard := none }) (v := ?_) rfl (by kernel_rfl) (by kernel_rfl) (by kernel_rfl) (by assumption) ?_ ?_; rotate_left; focus (refine .inl ⟨by kernel_rfl, ?_⟩; intro w hSw; (try dsimp only at hSw); go_simp; (try with_reducible rfl)); (try simp only [Act.put, List.setIfInBounds_toArray, List.set_cons_zero, List.set_cons_succ]))
      refine wpAnyH_ready (rs := [8]) (by kernel_rfl) (by simp) ?_
      refine AllReadyH.cons (o := { dst := some 25, op := Op.call { callee := Callee.value (Operand.func 15), args := #[Operand.tmp 20, Operand.tmp 24], argTypes := #[25, 25] }, type := 4, pos := "ref.go:216", after := #[{ on := 3, ground := Ground.data }, { on := 7, ground := Ground.data }], guard := none }) rfl (fun K hK => ?_) AllReadyH.nil
      go_simp
      (go_at_call 15; (with_reducible refine (HS.out _ (And.left hHeld)).mono ?_); rintro e w3 ⟨rfl, hb3⟩; have hk3 := And.left hHeld; have hz3 := hk3.size; have hk4 := hk3.trans (hb3.mono hz3); clear hb3 hk3)
      refine hK.out _ _ ⟨hk4, HAT.out _ hk4⟩ (fun hHeld8 => ?_)
      clear hK K hHeld
      (try simp only [Act.put, List.setIfInBounds_toArray, List.set_cons_zero, List.set_cons_succ])
      (refine heldTake (i := 9) (oi := { dst := some 26, op := Op.unOp UnOp.not 4 (Operand.tmp 25), type := 4, pos := "ref.go:216", after := #[{ on := 8, ground := Ground.data }], guard := none }) (v := ?_) rfl (by kernel_rfl) (by kernel_rfl) (by kernel_rfl) (by assumption) ?_ ?_; rotate_left; focus (refine .inl ⟨by kernel_rfl, ?_⟩; intro w hSw; (try dsimp only at hSw); go_simp; (try with_reducible rfl)); (try simp only [Act.put, List.setIfInBounds_toArray, List.set_cons_zero, List.set_cons_succ]))
      refine wpAnyH_done (by kernel_rfl) ?_ _
      refine NoPanic.normal ?_
      have hLast := hHeld8
      clear hHeld8
      go_wp2
      go_roundw
      case rel => exact ⟨k + 1, by omega, by go_num, And.left hLast⟩
      case measure => simp [intOf]; omega
    · obtain rfl : k = n := by omega
      have HB := Lib.hid hb
      clear hb
      go_wp2
      go_ret
      exact ⟨rfl, HB.out⟩
end Go.Proofs.YtebgmfjgapmpfaaDoor

/- The walk of InstrBodies. -/
namespace Go.Proofs.YtebgmfjgapmpfaaDoor
open Go.RowKit
set_option linter.unusedVariables false
set_option maxRecDepth 100000

theorem errZ_snoc : ∀ (l : List I) (i : I), errZ (l ++ [i]) = if errZ l ≠ 0 then errZ l else rightZ i
  | [], i => by
    show (if rightZ i ≠ 0 then rightZ i else 0) = _
    by_cases h : rightZ i = 0
    · rw [if_neg (by omega)]; show 0 = (if (0 : Int) ≠ 0 then 0 else rightZ i); rw [if_neg (by omega), h]
    · rw [if_pos h]; show _ = (if (0 : Int) ≠ 0 then 0 else rightZ i); rw [if_neg (by omega)]
  | j :: r, i => by
    show (if rightZ j ≠ 0 then rightZ j else errZ (r ++ [i])) = (if (if rightZ j ≠ 0 then rightZ j else errZ r) ≠ 0 then (if rightZ j ≠ 0 then rightZ j else errZ r) else rightZ i)
    by_cases h : rightZ j = 0
    · have hn : ¬ rightZ j ≠ 0 := by omega
      simp only [if_neg hn]
      exact errZ_snoc r i
    · have hp : rightZ j ≠ 0 := h
      simp only [if_pos hp]
/-- The law's code behind k instructions. -/
def codeTo (z : Int) (l : List I) (k : Nat) : Int := if z = 0 then errZ (l.take k) else z
theorem codeTo_step {z : Int} {l : List I} {k : Nat} {i : I} (h : l[k]? = some i) : codeTo z l (k + 1) = if codeTo z l k = 0 then rightZ i else codeTo z l k := by
  unfold codeTo
  by_cases hz : z = 0
  · rw [if_pos hz, if_pos hz, take_snocG h, errZ_snoc]
    by_cases he : errZ (l.take k) = 0
    · rw [if_neg (by omega), if_pos he]
    · rw [if_pos he, if_neg he]
  · rw [if_neg hz, if_neg hz, if_neg hz]
theorem codeTo_end {l : List I} : codeTo (shapeZ l) l l.length = codeZ l := by
  unfold codeTo codeZ
  rw [List.take_of_length_le (Nat.le_refl _)]
/-- What the law keeps of its input. -/
structure LBt (w : World) (A : Option Addr) (l : List I) (M : Option Addr) (ms : List UInt8) (W : World) : Prop where
  tb : Tabs W
  bel : Below w.heap.size w W
  ins : Ins W A l
  lm : Lies W W.heap.size M (cells (nums ms))
section
variable {w W W' : World} {A M : Option Addr} {l : List I} {ms : List UInt8}
theorem LBt.on (h : LBt w A l M ms W) (hb : Below W.heap.size W W') : LBt w A l M ms W' :=
  ⟨h.tb.below hb, h.bel.trans (hb.mono h.bel.size), h.ins.below hb, (h.lm.below hb (Nat.le_refl _)).more hb.size⟩
/-- .. and the bytes that PutBody made. -/
structure LBb (w : World) (A : Option Addr) (l : List I) (M : Option Addr) (ms : List UInt8) (v : Value) (xs : List UInt8) (W : World) : Prop where
  a : LBt w A l M ms W
  r : Row W w.heap.size v xs
theorem LBb.on {v : Value} {xs : List UInt8} (h : LBb w A l M ms v xs W) (hb : Below W.heap.size W W') : LBb w A l M ms v xs W' := ⟨h.a.on hb, h.r.later hb⟩
theorem LBb.lb {Ab : Option Addr} {cb : Nat} {xs : List UInt8} (h : LBb w A l M ms (.slice Ab xs.length cb) xs W) : Lies W W.heap.size Ab (cells (nums xs)) := by
  obtain ⟨A', c', e, hl, _⟩ := h.r.liesN
  injection e with e1 e2 e3
  subst e1
  exact hl
end
theorem bodyL_pos {l : List I} (h : shapeGo [] (opsOf l) = true) : 0 < (bodyL l).length := by
  cases l with
  | nil => unfold opsOf at h; simp [shapeGo] at h
  | cons i r => unfold bodyL putL; simp
theorem code_zero {l : List I} (h : codeZ l = 0) : shapeGo [] (opsOf l) = true ∧ (∀ i ∈ l, rightZ i = 0) ∧ shapeZ l = 0 := by
  unfold codeZ at h
  by_cases hs : shapeZ l = 0
  · rw [if_pos hs] at h
    refine ⟨?_, errZ_all h, hs⟩
    unfold shapeZ at hs
    by_cases hg : shapeGo [] (opsOf l) = true
    · exact hg
    · rw [if_neg hg] at hs; cases hs
  · rw [if_neg hs] at h; exact absurd h hs
set_option maxHeartbeats 4000000 in
theorem lawB_any {w : World} {A M : Option Addr} {c cm : Nat} {l : List I} {ms : List UInt8} (hT : Tabs w) (hi : Ins w A l ∧ ∀ i ∈ l, i.Ok ∧ (i.l.length : Int) ≤ 9223372036854775807) (nl : (l.length : Int) ≤ 9223372036854775807) (hm : Lies w w.heap.size M (cells (nums ms))) (hM : M = none → cm = 0) (nm : (ms.length : Int) ≤ 9223372036854775807) :
    Calls Tryd.prog 4 #[.slice A l.length c, .slice M ms.length cm] w (BoolPost true w) := by
  have HAW := Lib.hid (awake_any w hT)
  have H0 : Hid (LBt w A l M ms w) := ⟨hT, Below.refl _ _, hi.1, hm⟩
  have HOK := Lib.hid hi.2
  clear hT hi hm
  by_cases g1 : 60 < l.length
  · have t1 : decide (60 < (l.length : Int)) = true := decide_eq_true (by omega)
    go_enter Tryd.func4, Tryd.ntmps4
    go_wp2_with (go_at_call 10; go_must ((with_reducible refine HAW.out.mono ?_); rintro e w1 ⟨rfl, hb⟩; have H1 := Lib.hid (H0.out.on hb); clear hb))
    go_ret
    exact ⟨rfl, H1.out.bel⟩
  have t1 : decide (60 < (l.length : Int)) = false := decide_eq_false (by omega)
  by_cases g2 : 60 < ms.length
  · have t2 : decide (60 < (ms.length : Int)) = true := decide_eq_true (by omega)
    go_enter Tryd.func4, Tryd.ntmps4
    go_wp2_with (go_at_call 10; go_must ((with_reducible refine HAW.out.mono ?_); rintro e w1 ⟨rfl, hb⟩; have H1 := Lib.hid (H0.out.on hb); clear hb))
    go_ret
    exact ⟨rfl, H1.out.bel⟩
  have t2 : decide (60 < (ms.length : Int)) = false := decide_eq_false (by omega)
  have HRS := Lib.hid (fun W (h : Ins W A l) => refShape_any (c := c) h (by omega))
  have HSH := Lib.hid (fun W (h1 : Tabs W) (h2 : Ins W A l) => shape_any (c := c) h1 h2 (by omega))
  obtain ⟨z, hz⟩ : ∃ z, z = shapeZ l := ⟨_, rfl⟩
  rw [← hz] at HRS HSH
  have HZ := Lib.hid hz
  obtain ⟨n, hnn⟩ : ∃ n, n = l.length := ⟨_, rfl⟩
  rw [← hnn] at HRS HSH t1 ⊢
  have hn60 : n ≤ 60 := by omega
  have HNN := Lib.hid hnn
  have hm60 : ms.length ≤ 60 := by omega
  clear hz hnn g1 g2 nl nm
  go_enter Tryd.func4, Tryd.ntmps4
  go_wp2_with (first
    | (go_at_call 10; go_must ((with_reducible refine HAW.out.mono ?_); rintro e w1 ⟨rfl, hb⟩; have H1 := Lib.hid (H0.out.on hb); clear hb))
    | (go_at_call 18; go_must ((with_reducible refine (HRS.out _ H1.out.ins).mono ?_); rintro e w2 ⟨rfl, hb⟩; have H2 := Lib.hid (H1.out.on hb); clear hb)))
  go_loopw [6, 7, 8] (fun s q i wr => ∃ (k : Nat) (t : List UInt8), k ≤ n ∧ i = .int .i64 k ∧ q = .int .i64 (codeTo z l k) ∧ s = .string (S t) ∧ t.length ≤ k * 1100 ∧ (codeTo z l k = 0 → t = bodyL (l.take k)) ∧ (∀ i ∈ l.take k, i.l.length ≤ 100) ∧ LBt w A l M ms wr) (fun _ _ i _ => n - (intOf i).toNat)
  case atStart => exact ⟨0, [], Nat.zero_le _, rfl, by unfold codeTo; by_cases g : z = 0 <;> simp [g, errZ], rfl, by simp, fun _ => rfl, (fun i hi => by cases hi), H2.out⟩
  case round =>
    obtain ⟨k, t, hk, rfl, rfl, rfl, htl, htb, hll, hst⟩ := hrel
    have HST := Lib.hid hst
    by_cases hlt : k < n
    · obtain ⟨i, hi⟩ : ∃ i, l[k]? = some i := ⟨_, List.getElem?_eq_getElem (by rw [← HNN.out]; exact hlt)⟩
      obtain ⟨b, off, B, cc, rfl, hbl, ⟨k0, k1, k2, k3⟩, hlab⟩ := hst.ins k i hi
      obtain ⟨hok, hoklen⟩ := HOK.out i (List.mem_of_getElem? hi)
      by_cases hbig : 100 < i.l.length
      · have d1 : decide (100 < (i.l.length : Int)) = true := decide_eq_true (by omega)
        clear hst htb hll hlab hi
        go_wp2
        go_ret
        exact ⟨rfl, HST.out.bel⟩
      · have d1 : decide (100 < (i.l.length : Int)) = false := decide_eq_false (by omega)
        have HLL : Hid (∀ j ∈ l.take (k + 1), j.l.length ≤ 100) := fun j hj => by
          rw [take_snocG hi] at hj
          rcases List.mem_append.1 hj with hj | hj
          · exact hll j hj
          · rw [List.mem_singleton] at hj; subst hj; omega
        have hstep := codeTo_step (z := z) hi
        have HSN := Lib.hid (bodyL_snoc hi)
        have hpl := putL_len hok (by omega)
        have HRR := Lib.hid (refRight_any i B cc wr hok hoklen)
        by_cases hc0 : codeTo z l k = 0
        · rw [if_pos hc0] at hstep
          have ht := htb hc0
          have e0 : (codeTo z l k == 0) = true := by simpa using hc0
          obtain ⟨q, hq⟩ : ∃ q, q = codeTo z l k := ⟨_, rfl⟩
          rw [← hq] at e0 hc0 ⊢
          by_cases hri : rightZ i = 0
          · have HRP := Lib.hid (fun W (h : Below wr.heap.size wr W) => refPut_any i B cc W hok hri (hlab.below h))
            rw [hri] at HRR hstep
            have HSTEP := Lib.hid hstep
            have HT := Lib.hid ht
            obtain ⟨y, hy⟩ : ∃ y, y = putL i := ⟨_, rfl⟩
            rw [← hy] at HRP hpl HSN
            have st := S_size t
            have sy := S_size y
            have q1 : (S t).size + (S y).size ≤ 9223372036854775807 := by omega
            clear hst htb hll hlab hi hstep hok hri hq ht hy
            go_wp2_with (first
              | (go_at_call 11; go_must ((with_reducible refine HRR.out.mono ?_); rintro e w3 ⟨rfl, hb⟩; have H3 := Lib.hid (HST.out.on hb); have HB3 := Lib.hid hb; have m0 := (hb.cell (p := ⟨b, off + k * 4, none⟩) hbl).trans k0; have m1 := (hb.cell (p := ⟨b, off + k * 4 + 1, none⟩) hbl).trans k1; have m2 := (hb.cell (p := ⟨b, off + k * 4 + 2, none⟩) hbl).trans k2; have m3 := (hb.cell (p := ⟨b, off + k * 4 + 3, none⟩) hbl).trans k3; clear hb))
              | (go_at_call 17; go_must ((with_reducible refine (HRP.out _ HB3.out).mono ?_); rintro e w4 ⟨rfl, hb⟩; have H4 := Lib.hid (H3.out.on hb); clear hb)))
            go_roundw
            case rel => exact ⟨k + 1, t ++ y, by omega, by go_num, by rw [HSTEP.out], by rw [S_append], by rw [List.length_append]; omega, fun _ => by rw [HSN.out, HT.out], HLL.out, H4.out⟩
            case measure => simp [intOf]; omega
          · have HSTEP := Lib.hid hstep
            have HRN := Lib.hid hri
            have e1 : (rightZ i == 0) = false := by simpa using hri
            obtain ⟨ri, hrr⟩ : ∃ ri, ri = rightZ i := ⟨_, rfl⟩
            rw [← hrr] at HRR HSTEP e1 HRN
            clear hst htb hll hlab hi hstep hok hri hq ht hrr
            go_wp2_with (go_at_call 11; go_must ((with_reducible refine HRR.out.mono ?_); rintro e w3 ⟨rfl, hb⟩; have H3 := Lib.hid (HST.out.on hb); clear hb))
            go_roundw
            case rel => exact ⟨k + 1, t, by omega, by go_num, by rw [HSTEP.out], rfl, by omega, fun e => absurd (HSTEP.out.symm.trans e) HRN.out, HLL.out, H3.out⟩
            case measure => simp [intOf]; omega
        · rw [if_neg hc0] at hstep
          have HSTEP := Lib.hid hstep
          have HCN := Lib.hid hc0
          have e0 : (codeTo z l k == 0) = false := by simpa using hc0
          obtain ⟨q, hq⟩ : ∃ q, q = codeTo z l k := ⟨_, rfl⟩
          rw [← hq] at e0 HSTEP HCN ⊢
          clear hst htb hll hlab hi hstep hok hc0 hq
          go_wp2
          go_roundw
          case rel => exact ⟨k + 1, t, by omega, by go_num, by rw [HSTEP.out], rfl, by omega, fun e => absurd (HSTEP.out.symm.trans e) HCN.out, HLL.out, HST.out⟩
          case measure => simp [intOf]; omega
    · obtain rfl : k = n := by omega
      have hce : codeTo z l k = codeZ l := by rw [HZ.out, HNN.out]; exact codeTo_end
      have htk : l.take k = l := List.take_of_length_le (by rw [← HNN.out]; exact Nat.le_refl _)
      rw [htk] at htb hll
      rw [hce] at htb ⊢
      have hokl : ∀ i ∈ l, i.Ok ∧ i.l.length ≤ 100 := fun i hi => ⟨(HOK.out i hi).1, hll i hi⟩
      have HPB := Lib.hid (fun W (h1 : Tabs W) (h2 : Ins W A l) => putBody_any (c := c) h1 h2 (by rw [← HNN.out]; exact hn60) hokl)
      rw [← HNN.out] at HPB
      have hbl := bodyL_len l hokl
      rw [← HNN.out] at hbl
      by_cases hc0 : codeZ l = 0
      · obtain ⟨hsg, hall, _⟩ := code_zero hc0
        have ht := htb hc0
        have HPB2 := Lib.hid (fun W (h1 : Tabs W) (h2 : Ins W A l) => show Calls Tryd.prog 19 #[.slice A k c] W fun e w' => ∃ v, e = .returned (.tuple #[v, .int .i64 0]) ∧ Row w' W.heap.size v (bodyL l) ∧ Below W.heap.size W w' from (HPB.out W h1 h2).mono fun e w' ⟨v, h1, h2, h3⟩ => ⟨v, by rw [hc0] at h1; exact h1, by rw [if_pos hc0] at h2; exact h2, h3⟩)
        have hpos := bodyL_pos hsg
        have HPA := Lib.hid (fun W (A' : Option Addr) (c' : Nat) (h1 : Tabs W) (h2 : Lies W W.heap.size A' (cells (nums (bodyL l ++ ms)))) => parseBody_ok (cap := c') h1 (fun i hi => ⟨(HOK.out i hi).1, hall i hi⟩) hsg (by rw [← HNN.out]; omega) h2 (by rw [List.length_append]; omega) (by rw [List.length_append]; omega) rfl)
        have HSA := Lib.hid (fun W (A2 : Option Addr) (c2 : Nat) (h1 : Ins W A2 l) (h2 : Ins W A l) => sameAll_any (c := c2) (d := c) h1 h2 (by rw [← HNN.out]; omega) (fun i hi => (hokl i hi).2))
        rw [← HNN.out] at HSA
        rw [hc0]
        rw [ht]
        obtain ⟨xs, hxs⟩ : ∃ xs, xs = bodyL l := ⟨_, rfl⟩
        rw [← hxs] at HPB2 hpos HPA hbl ⊢
        obtain ⟨ys, hys⟩ : ∃ ys, ys = xs ++ ms := ⟨_, rfl⟩
        rw [← hys] at HPA
        have HYS := Lib.hid hys
        have HXA := Lib.hid (show xs.length + ms.length ≤ 1000000 by omega)
        have HNK := Lib.hid (show ∀ (fl : Nat), fl = l.length → fl = k from fun fl h => by rw [h, HNN.out])
        clear hst htb hll hokl hbl hc0 hsg hall ht hxs hys HPB hce htk htl
        go_wp2_with (first
          | (at_builtin; (refine row_any rfl _ _ rfl w4.heap.size _ xs rfl HR7.out M ms.length cm _ ms rfl rfl (H4.out.a.on HB7.out).lm hM HXA.out HB7.out.size ?_; intro v8 w8 hr8 hb8; rw [← HYS.out] at hr8; obtain ⟨A8, c8, rfl, hl8, _⟩ := hr8.liesN; have HL8 := Lib.hid hl8; have HB8 := Lib.hid (HB7.out.trans hb8); clear hr8 hb8 hl8))
          | (at_builtin; (refine row_lies rfl _ _ rfl w4.heap.size _ [] rfl (Row.made w4 [] w4.heap.size w4.heap.size rfl (Nat.le_refl _) (by simp)) Ab xs.length cb _ xs rfl rfl (lies_box H4.out.lb _) hpos (by have := HXA.out; simp; omega) (by simp) ?_; intro v7 w7 hr7 hb7; have HR7 := Lib.hid (show Row w7 w4.heap.size v7 xs from hr7); have HB7 := Lib.hid ((below_box w4 (.cells #[] 5)).trans hb7); clear hr7 hb7))
          | (go_at_call 19; go_must ((with_reducible refine (HPB2.out _ HST.out.tb HST.out.ins).mono ?_); intro e w3 hq; obtain ⟨v, rfl, hr, hb⟩ := hq; obtain ⟨Ab, cb, rfl, _, _⟩ := hr.liesN; have H3 := Lib.hid (show LBb w A l M ms (.slice Ab xs.length cb) xs w3 from ⟨HST.out.on hb, hr.mono HST.out.bel.size⟩); clear hb hr))
          | (go_at_call 20; go_must ((with_reducible refine (HSH.out _ H3.out.a.tb H3.out.a.ins).mono ?_); rintro e w4 ⟨rfl, hb⟩; have H4 := Lib.hid (H3.out.on hb); clear hb))
          | (go_at_call 21; go_must ((with_reducible refine (HPA.out _ _ _ (H4.out.on HB8.out).a.tb HL8.out).mono ?_); intro e w9 hq; obtain ⟨A2, c2, rfl, hla, hb⟩ := hq; rw [HNK.out _ rfl]; have H9 := Lib.hid ((H4.out.on HB8.out).on hb); have HLA := Lib.hid hla.ins; obtain ⟨Ac, ccv, ecv, hcv⟩ := (H9.out.on (below_box w9 (.cells #[.int .i64 0, .int .i64 0] 35))).r.str; injection ecv with ec1 ec2 ec3; subst ec1; subst ec3; have hcv2 := hcv 9 Tryd.underlying9; clear hla hb hcv))
          | (go_at_call 22; go_must ((with_reducible refine (HSA.out _ _ _ (HLA.out.below (below_box w9 (.cells #[.int .i64 0, .int .i64 0] 35))) (H9.out.on (below_box w9 (.cells #[.int .i64 0, .int .i64 0] 35))).a.ins).mono ?_); rintro e w10 ⟨rfl, hb⟩; have H10 := Lib.hid ((H9.out.on (below_box w9 (.cells #[.int .i64 0, .int .i64 0] 35))).on hb); clear hb)))
        go_ret
        exact ⟨rfl, H10.out.a.bel⟩
      · have HPB2 := Lib.hid (fun W (h1 : Tabs W) (h2 : Ins W A l) => show Calls Tryd.prog 19 #[.slice A k c] W fun e w' => ∃ v, e = .returned (.tuple #[v, .int .i64 (codeZ l)]) ∧ Row w' W.heap.size v [] ∧ Below W.heap.size W w' from (HPB.out W h1 h2).mono fun e w' ⟨v, h1, h2, h3⟩ => ⟨v, h1, by rw [if_neg hc0] at h2; exact h2, h3⟩)
        obtain ⟨cz, hcz⟩ : ∃ cz, cz = codeZ l := ⟨_, rfl⟩
        rw [← hcz] at HPB2 hc0 ⊢
        have hzb : (cz != 0) = true := by simpa using hc0
        obtain ⟨xs, hxs⟩ : ∃ xs : List UInt8, xs = [] := ⟨_, rfl⟩
        have hxl : (xs.length : Int) = 0 := by rw [hxs]; rfl
        rw [← hxs] at HPB2
        clear hst htb hll hokl hbl hc0 hcz hxs HPB hce htk htl
        go_wp2_with (first
          | (go_at_call 19; go_must ((with_reducible refine (HPB2.out _ HST.out.tb HST.out.ins).mono ?_); intro e w3 hq; obtain ⟨v, rfl, hr, hb⟩ := hq; obtain ⟨Ab, cb, rfl, _, _⟩ := hr.liesN; have H3 := Lib.hid (show LBb w A l M ms (.slice Ab xs.length cb) xs w3 from ⟨HST.out.on hb, hr.mono HST.out.bel.size⟩); clear hb hr))
          | (go_at_call 20; go_must ((with_reducible refine (HSH.out _ H3.out.a.tb H3.out.a.ins).mono ?_); rintro e w4 ⟨rfl, hb⟩; have H4 := Lib.hid (H3.out.on hb); clear hb)))
        go_ret
        exact ⟨rfl, H4.out.a.bel⟩
end Go.Proofs.YtebgmfjgapmpfaaDoor
