/- creelref09.Put, Head. -/
import Derived.Test.YtihpnplfklbgjaaDoorQd08
import Derived.Test.YtihpnplfklbgjaaDoorQd09
import Derived.Test.YtihpnplfklbgjaaDoorQd06
import Derived.Test.YtihpnplfklbgjaaDoorQd02
import Derived.Test.YtihpnplfklbgjaaDoorQd05
import Derived.Deep.DeepMust
namespace Go.Proofs.YtihpnplfklbgjaaDoor
open Go.RowKit
set_option linter.unusedVariables false
set_option maxRecDepth 100000

def rsecV (x : Sct) : Value := .agg #[.int .i64 x.id.toNat, .string (S x.name), .string (S x.body), .int .i64 0]
def rsecK (x : Sct) : Array Value := #[.int .i64 x.id.toNat, .string (S x.name), .string (S x.body), .int .i64 0]
/-- A string handed back. -/
def Strs (l : List UInt8) (w : World) (e : Ending) (w' : World) : Prop := e = .returned (.string (S l)) ∧ Below w.heap.size w w'
/-- string(b), behind the walk's own simplifying. -/
theorem upon_str {o : Oper} {a : Act} {K : Act → World → Prop} {Q : Exit → Act → World → Prop} {W : World} {A : Option Addr} {c : Nat} {l : List UInt8} (hp : Pc A c l W) (h : K (a.put o.dst (.string (S l))) W) :
    Oper.upon Tryd.prog o a K Q (((convert 29 9 (.slice A l.length c)).run Tryd.prog W).andThen fun v w' => Result.ok (Next.value v) w') := by
  rw [str_any hp.lies c 9 Tryd.underlying9]
  exact h
theorem cat3 (a b c : List UInt8) : S a ++ S b ++ S c = S (a ++ b ++ c) := by rw [S_append, S_append]
end Go.Proofs.YtihpnplfklbgjaaDoor

/- creelref16.part, Put, Same. -/
namespace Go.Proofs.YtihpnplfklbgjaaDoor
open Go.RowKit
set_option linter.unusedVariables false
set_option maxRecDepth 100000

set_option maxHeartbeats 1600000 in
theorem rpart_w (n : UInt8) (L : List UInt8) (w : World) (hl : L.length ≤ 100000) : Calls Tryd.prog 55 #[.int .i64 n.toNat, .string (S L)] w (Strs (subL n L) w) := by
  have hll := lebL_len (L.length : Int) (by omega)
  have hsp : subL n L = [n] ++ lebL L.length ++ L := by unfold subL; rw [List.append_assoc]
  have hx := n.toNat_lt
  have wu : IntKind.u8.wrap (n.toNat : Int) = n.toNat := by simp [IntKind.wrap, IntKind.bits, IntKind.signed]; omega
  have HSP := Lib.hid hsp
  have sL := S_size L
  have hc := fun w => count_any (L.length : Int) w (by omega) (by omega)
  obtain ⟨y, hy⟩ : ∃ y, y = lebL (L.length : Int) := ⟨_, rfl⟩
  rw [← hy] at hc HSP hll
  have HC := Lib.hid hc
  have sy := S_size y
  have s1 := S_size [n]
  have q1 : ¬ 9223372036854775807 < (S [n]).size + (S y).size := by rw [s1, sy, List.length_singleton]; omega
  have q2 : ¬ 9223372036854775807 < (S [n]).size + (S y).size + L.length := by rw [s1, sy, List.length_singleton]; omega
  clear hsp hy s1 sy hc hll hl
  go_enter Tryd.func55, Tryd.ntmps55
  go_upto_region 1 with fail
  have hB0 : Below w.heap.size w w.drew := (Below.refl _ _).drew
  refine wp_region_noPanic ?_
  refine wp_region_held_drew (S := fun W => Below w.heap.size w W) (by kernel_rfl) hB0 (fun hHeld => ?_)
  (refine heldTake (i := 0) (oi := { dst := some 5, op := Op.move (Operand.tmp 0), type := 3, pos := "ref.go:43", after := #[], guard := none }) (v := ?_) rfl (by kernel_rfl) (by kernel_rfl) (by kernel_rfl) (by assumption) ?_ ?_; rotate_left; focus (refine .inl ⟨by kernel_rfl, ?_⟩; intro w hSw; (try dsimp only at hSw); go_simp; (try with_reducible rfl)); (try simp only [Act.put, List.setIfInBounds_toArray, List.set_cons_zero, List.set_cons_succ]))
  (refine heldTake (i := 1) (oi := { dst := some 6, op := Op.convert 3 5 (Operand.tmp 5), type := 5, pos := "ref.go:43", after := #[{ on := 0, ground := Ground.data }], guard := none }) (v := ?_) rfl (by kernel_rfl) (by kernel_rfl) (by kernel_rfl) (by assumption) ?_ ?_; rotate_left; focus (refine .inl ⟨by kernel_rfl, ?_⟩; intro w hSw; (try dsimp only at hSw); go_simp; (try with_reducible rfl)); (try simp only [Act.put, List.setIfInBounds_toArray, List.set_cons_zero, List.set_cons_succ]))
  (refine heldTake (i := 4) (oi := { dst := some 9, op := Op.move (Operand.tmp 1), type := 9, pos := "ref.go:43", after := #[], guard := none }) (v := ?_) rfl (by kernel_rfl) (by kernel_rfl) (by kernel_rfl) (by assumption) ?_ ?_; rotate_left; focus (refine .inl ⟨by kernel_rfl, ?_⟩; intro w hSw; (try dsimp only at hSw); go_simp; (try with_reducible rfl)); (try simp only [Act.put, List.setIfInBounds_toArray, List.set_cons_zero, List.set_cons_succ]))
  (refine heldTake (i := 5) (oi := { dst := some 10, op := Op.call { callee := Callee.builtin Builtin.len, args := #[Operand.tmp 9], argTypes := #[9] }, type := 3, pos := "ref.go:43", after := #[{ on := 4, ground := Ground.data }], guard := none }) (v := ?_) rfl (by kernel_rfl) (by kernel_rfl) (by kernel_rfl) (by assumption) ?_ ?_; rotate_left; focus (refine .inl ⟨by kernel_rfl, ?_⟩; intro w hSw; (try dsimp only at hSw); go_simp; (try with_reducible rfl)); (try simp only [Act.put, List.setIfInBounds_toArray, List.set_cons_zero, List.set_cons_succ]))
  (refine heldTake (i := 8) (oi := { dst := some 13, op := Op.move (Operand.tmp 1), type := 9, pos := "ref.go:43", after := #[], guard := none }) (v := ?_) rfl (by kernel_rfl) (by kernel_rfl) (by kernel_rfl) (by assumption) ?_ ?_; rotate_left; focus (refine .inl ⟨by kernel_rfl, ?_⟩; intro w hSw; (try dsimp only at hSw); go_simp; (try with_reducible rfl)); (try simp only [Act.put, List.setIfInBounds_toArray, List.set_cons_zero, List.set_cons_succ]))
  refine wpAnyH_ready (rs := [2, 6]) (by kernel_rfl) (by simp) ?_
  refine (AllReadyH.cons (o := { dst := some 7, op := Op.buildSlice 29 1 #[(0, Operand.tmp 6)], type := 29, pos := "ref.go:43", after := #[{ on := 1, ground := Ground.data }], guard := none }) rfl (fun K hK => ?_) (AllReadyH.cons (o := { dst := some 11, op := Op.call { callee := Callee.value (Operand.func 56), args := #[Operand.tmp 10], argTypes := #[3] }, type := 9, pos := "ref.go:43", after := #[{ on := 5, ground := Ground.data }], guard := none }) rfl (fun K hK => ?_) AllReadyH.nil))
  · refine step_build1 rfl _ rfl n rfl ?_; intro g3 wa3 hg3 hb3 hp3; have HB2 := Lib.hid hb3; have HP2 := Lib.hid hp3; clear hb3 hp3
    refine hK.out _ _ (hHeld.trans (HB2.out.mono hHeld.size)) (fun hHeld2 => ?_)
    clear hK K hHeld
    (try simp only [Act.put, List.setIfInBounds_toArray, List.set_cons_zero, List.set_cons_succ])
    refine wpAnyH_ready (rs := [3, 6]) (by kernel_rfl) (by simp) ?_
    refine (AllReadyH.cons (o := { dst := some 8, op := Op.convert 29 9 (Operand.tmp 7), type := 9, pos := "ref.go:43", after := #[{ on := 2, ground := Ground.data }], guard := none }) rfl (fun K hK => ?_) (AllReadyH.cons (o := { dst := some 11, op := Op.call { callee := Callee.value (Operand.func 56), args := #[Operand.tmp 10], argTypes := #[3] }, type := 9, pos := "ref.go:43", after := #[{ on := 5, ground := Ground.data }], guard := none }) rfl (fun K hK => ?_) AllReadyH.nil))
    · go_simp; refine upon_str (l := [n]) (HP2.out) ?_; have HB3 := Lib.hid (Below.refl 0 w)
      refine hK.out _ _ hHeld2 (fun hHeld3 => ?_)
      clear hK K hHeld2
      (try simp only [Act.put, List.setIfInBounds_toArray, List.set_cons_zero, List.set_cons_succ])
      refine wpAnyH_ready (rs := [6]) (by kernel_rfl) (by simp) ?_
      refine (AllReadyH.cons (o := { dst := some 11, op := Op.call { callee := Callee.value (Operand.func 56), args := #[Operand.tmp 10], argTypes := #[3] }, type := 9, pos := "ref.go:43", after := #[{ on := 5, ground := Ground.data }], guard := none }) rfl (fun K hK => ?_) AllReadyH.nil)
      go_simp
      (go_at_call 56; (with_reducible refine (HC.out _).mono ?_); rintro e w7 ⟨rfl, hb7⟩; have HB6 := Lib.hid hb7; clear hb7)
      refine hK.out _ _ (hHeld3.trans (HB6.out.mono hHeld3.size)) (fun hHeld6 => ?_)
      clear hK K hHeld3
      (try simp only [Act.put, List.setIfInBounds_toArray, List.set_cons_zero, List.set_cons_succ])
      (refine heldTake (i := 7) (oi := { dst := some 12, op := Op.binOp BinOp.add 9 (Operand.tmp 8) (Operand.tmp 11) 9, type := 9, pos := "ref.go:43", after := #[{ on := 3, ground := Ground.data }, { on := 6, ground := Ground.data }], guard := none }) (v := ?_) rfl (by kernel_rfl) (by kernel_rfl) (by kernel_rfl) (by assumption) ?_ ?_; rotate_left; focus (refine .inl ⟨by kernel_rfl, ?_⟩; intro w hSw; (try dsimp only at hSw); go_simp; (try with_reducible rfl)); (try simp only [Act.put, List.setIfInBounds_toArray, List.set_cons_zero, List.set_cons_succ]))
      (refine heldTake (i := 9) (oi := { dst := some 14, op := Op.binOp BinOp.add 9 (Operand.tmp 12) (Operand.tmp 13) 9, type := 9, pos := "ref.go:43", after := #[{ on := 7, ground := Ground.data }, { on := 8, ground := Ground.data }], guard := none }) (v := ?_) rfl (by kernel_rfl) (by kernel_rfl) (by kernel_rfl) (by assumption) ?_ ?_; rotate_left; focus (refine .inl ⟨by kernel_rfl, ?_⟩; intro w hSw; (try dsimp only at hSw); go_simp; (try with_reducible rfl)); (try simp only [Act.put, List.setIfInBounds_toArray, List.set_cons_zero, List.set_cons_succ]))
      (refine heldTake (i := 10) (oi := { dst := some 4, op := Op.assign (Operand.tmp 14), type := 9, pos := "ref.go:43", after := #[{ on := 9, ground := Ground.data }, { on := 6, ground := Ground.chain }, { on := 0, ground := Ground.phase }, { on := 1, ground := Ground.phase }, { on := 2, ground := Ground.phase }, { on := 3, ground := Ground.phase }, { on := 4, ground := Ground.phase }, { on := 5, ground := Ground.phase }, { on := 6, ground := Ground.phase }, { on := 7, ground := Ground.phase }, { on := 8, ground := Ground.phase }, { on := 9, ground := Ground.phase }], guard := none }) (v := ?_) rfl (by kernel_rfl) (by kernel_rfl) (by kernel_rfl) (by assumption) ?_ ?_; rotate_left; focus (refine .inl ⟨by kernel_rfl, ?_⟩; intro w hSw; (try dsimp only at hSw); go_simp; (try with_reducible rfl)); (try simp only [Act.put, List.setIfInBounds_toArray, List.set_cons_zero, List.set_cons_succ]))
      refine wpAnyH_done (by kernel_rfl) ?_ _
      refine NoPanic.normal ?_
      have hLast := hHeld6
      clear hHeld6
      go_wp2
      go_ret
      exact ⟨by rw [HSP.out, ← cat3]; rfl, hLast⟩
    · go_simp
      (go_at_call 56; (with_reducible refine (HC.out _).mono ?_); rintro e w7 ⟨rfl, hb7⟩; have HB6 := Lib.hid hb7; clear hb7)
      refine hK.out _ _ (hHeld2.trans (HB6.out.mono hHeld2.size)) (fun hHeld6 => ?_)
      clear hK K hHeld2
      (try simp only [Act.put, List.setIfInBounds_toArray, List.set_cons_zero, List.set_cons_succ])
      refine wpAnyH_ready (rs := [3]) (by kernel_rfl) (by simp) ?_
      refine (AllReadyH.cons (o := { dst := some 8, op := Op.convert 29 9 (Operand.tmp 7), type := 9, pos := "ref.go:43", after := #[{ on := 2, ground := Ground.data }], guard := none }) rfl (fun K hK => ?_) AllReadyH.nil)
      go_simp; refine upon_str (l := [n]) (((HP2.out).below HB6.out)) ?_; have HB3 := Lib.hid (Below.refl 0 w)
      refine hK.out _ _ hHeld6 (fun hHeld3 => ?_)
      clear hK K hHeld6
      (try simp only [Act.put, List.setIfInBounds_toArray, List.set_cons_zero, List.set_cons_succ])
      (refine heldTake (i := 7) (oi := { dst := some 12, op := Op.binOp BinOp.add 9 (Operand.tmp 8) (Operand.tmp 11) 9, type := 9, pos := "ref.go:43", after := #[{ on := 3, ground := Ground.data }, { on := 6, ground := Ground.data }], guard := none }) (v := ?_) rfl (by kernel_rfl) (by kernel_rfl) (by kernel_rfl) (by assumption) ?_ ?_; rotate_left; focus (refine .inl ⟨by kernel_rfl, ?_⟩; intro w hSw; (try dsimp only at hSw); go_simp; (try with_reducible rfl)); (try simp only [Act.put, List.setIfInBounds_toArray, List.set_cons_zero, List.set_cons_succ]))
      (refine heldTake (i := 9) (oi := { dst := some 14, op := Op.binOp BinOp.add 9 (Operand.tmp 12) (Operand.tmp 13) 9, type := 9, pos := "ref.go:43", after := #[{ on := 7, ground := Ground.data }, { on := 8, ground := Ground.data }], guard := none }) (v := ?_) rfl (by kernel_rfl) (by kernel_rfl) (by kernel_rfl) (by assumption) ?_ ?_; rotate_left; focus (refine .inl ⟨by kernel_rfl, ?_⟩; intro w hSw; (try dsimp only at hSw); go_simp; (try with_reducible rfl)); (try simp only [Act.put, List.setIfInBounds_toArray, List.set_cons_zero, List.set_cons_succ]))
      (refine heldTake (i := 10) (oi := { dst := some 4, op := Op.assign (Operand.tmp 14), type := 9, pos := "ref.go:43", after := #[{ on := 9, ground := Ground.data }, { on := 6, ground := Ground.chain }, { on := 0, ground := Ground.phase }, { on := 1, ground := Ground.phase }, { on := 2, ground := Ground.phase }, { on := 3, ground := Ground.phase }, { on := 4, ground := Ground.phase }, { on := 5, ground := Ground.phase }, { on := 6, ground := Ground.phase }, { on := 7, ground := Ground.phase }, { on := 8, ground := Ground.phase }, { on := 9, ground := Ground.phase }], guard := none }) (v := ?_) rfl (by kernel_rfl) (by kernel_rfl) (by kernel_rfl) (by assumption) ?_ ?_; rotate_left; focus (refine .inl ⟨by kernel_rfl, ?_⟩; intro w hSw; (try dsimp only at hSw); go_simp; (try with_reducible rfl)); (try simp only [Act.put, List.setIfInBounds_toArray, List.set_cons_zero, List.set_cons_succ]))
      refine wpAnyH_done (by kernel_rfl) ?_ _
      refine NoPanic.normal ?_
      have hLast := hHeld3
      clear hHeld3
      go_wp2
      go_ret
      exact ⟨by rw [HSP.out, ← cat3]; rfl, hLast⟩
  · go_simp
    (go_at_call 56; (with_reducible refine (HC.out _).mono ?_); rintro e w7 ⟨rfl, hb7⟩; have HB6 := Lib.hid hb7; clear hb7)
    refine hK.out _ _ (hHeld.trans (HB6.out.mono hHeld.size)) (fun hHeld6 => ?_)
    clear hK K hHeld
    (try simp only [Act.put, List.setIfInBounds_toArray, List.set_cons_zero, List.set_cons_succ])
    refine wpAnyH_ready (rs := [2]) (by kernel_rfl) (by simp) ?_
    refine (AllReadyH.cons (o := { dst := some 7, op := Op.buildSlice 29 1 #[(0, Operand.tmp 6)], type := 29, pos := "ref.go:43", after := #[{ on := 1, ground := Ground.data }], guard := none }) rfl (fun K hK => ?_) AllReadyH.nil)
    refine step_build1 rfl _ rfl n rfl ?_; intro g3 wa3 hg3 hb3 hp3; have HB2 := Lib.hid hb3; have HP2 := Lib.hid hp3; clear hb3 hp3
    refine hK.out _ _ (hHeld6.trans (HB2.out.mono hHeld6.size)) (fun hHeld2 => ?_)
    clear hK K hHeld6
    (try simp only [Act.put, List.setIfInBounds_toArray, List.set_cons_zero, List.set_cons_succ])
    refine wpAnyH_ready (rs := [3]) (by kernel_rfl) (by simp) ?_
    refine (AllReadyH.cons (o := { dst := some 8, op := Op.convert 29 9 (Operand.tmp 7), type := 9, pos := "ref.go:43", after := #[{ on := 2, ground := Ground.data }], guard := none }) rfl (fun K hK => ?_) AllReadyH.nil)
    go_simp; refine upon_str (l := [n]) (HP2.out) ?_; have HB3 := Lib.hid (Below.refl 0 w)
    refine hK.out _ _ hHeld2 (fun hHeld3 => ?_)
    clear hK K hHeld2
    (try simp only [Act.put, List.setIfInBounds_toArray, List.set_cons_zero, List.set_cons_succ])
    (refine heldTake (i := 7) (oi := { dst := some 12, op := Op.binOp BinOp.add 9 (Operand.tmp 8) (Operand.tmp 11) 9, type := 9, pos := "ref.go:43", after := #[{ on := 3, ground := Ground.data }, { on := 6, ground := Ground.data }], guard := none }) (v := ?_) rfl (by kernel_rfl) (by kernel_rfl) (by kernel_rfl) (by assumption) ?_ ?_; rotate_left; focus (refine .inl ⟨by kernel_rfl, ?_⟩; intro w hSw; (try dsimp only at hSw); go_simp; (try with_reducible rfl)); (try simp only [Act.put, List.setIfInBounds_toArray, List.set_cons_zero, List.set_cons_succ]))
    (refine heldTake (i := 9) (oi := { dst := some 14, op := Op.binOp BinOp.add 9 (Operand.tmp 12) (Operand.tmp 13) 9, type := 9, pos := "ref.go:43", after := #[{ on := 7, ground := Ground.data }, { on := 8, ground := Ground.data }], guard := none }) (v := ?_) rfl (by kernel_rfl) (by kernel_rfl) (by kernel_rfl) (by assumption) ?_ ?_; rotate_left; focus (refine .inl ⟨by kernel_rfl, ?_⟩; intro w hSw; (try dsimp only at hSw); go_simp; (try with_reducible rfl)); (try simp only [Act.put, List.setIfInBounds_toArray, List.set_cons_zero, List.set_cons_succ]))
    (refine heldTake (i := 10) (oi := { dst := some 4, op := Op.assign (Operand.tmp 14), type := 9, pos := "ref.go:43", after := #[{ on := 9, ground := Ground.data }, { on := 6, ground := Ground.chain }, { on := 0, ground := Ground.phase }, { on := 1, ground := Ground.phase }, { on := 2, ground := Ground.phase }, { on := 3, ground := Ground.phase }, { on := 4, ground := Ground.phase }, { on := 5, ground := Ground.phase }, { on := 6, ground := Ground.phase }, { on := 7, ground := Ground.phase }, { on := 8, ground := Ground.phase }, { on := 9, ground := Ground.phase }], guard := none }) (v := ?_) rfl (by kernel_rfl) (by kernel_rfl) (by kernel_rfl) (by assumption) ?_ ?_; rotate_left; focus (refine .inl ⟨by kernel_rfl, ?_⟩; intro w hSw; (try dsimp only at hSw); go_simp; (try with_reducible rfl)); (try simp only [Act.put, List.setIfInBounds_toArray, List.set_cons_zero, List.set_cons_succ]))
    refine wpAnyH_done (by kernel_rfl) ?_ _
    refine NoPanic.normal ?_
    have hLast := hHeld3
    clear hHeld3
    go_wp2
    go_ret
    exact ⟨by rw [HSP.out, ← cat3]; rfl, hLast⟩
theorem cat4 (a b c d : List UInt8) : S a ++ S b ++ S c ++ S d = S (a ++ b ++ c ++ d) := by rw [S_append, S_append, S_append]
abbrev HoldN (w : World) (x : Dl) (A : Option Addr) (c b o : Nat) (s : List UInt8) (W : World) : Prop := BxD w w.heap.size x A c W ∧ W.cell? ⟨b, o, none⟩ = some (.string (S s))
theorem holdN_on {w W W' : World} {x : Dl} {A : Option Addr} {c b o : Nat} {s : List UInt8} (h : HoldN w x A c b o s W) (hb : Below W.heap.size W W') : HoldN w x A c b o s W' :=
  ⟨bxD_on h.1 hb, (hb.cell (p := ⟨b, o, none⟩) (block_lt_of_cell h.2)).trans h.2⟩
set_option maxHeartbeats 8000000 in
theorem rput_dl {w : World} {x : Dl} {A : Option Addr} {c : Nat} (hl : SlT w A x.nd) (hf : FewD x.nd) :
    Calls Tryd.prog 16 #[dlV x A c] w (Strs (dlputL x) w) := by
  have hB0 := bxD_start w x A c
  have HLA := Lib.hid hl
  have HFw := Lib.hid hf
  have m0 := memL_len x
  have hsm : memL x = lebL x.ms.toNat ++ lebL x.ma.toNat ++ lebL x.ts.toNat ++ lebL x.ta.toNat := rfl
  have n1 := lebL_len (x.ms.toNat : Int) (by have := u32_le x.ms; omega)
  have n2 := lebL_len (x.ma.toNat : Int) (by have := u32_le x.ma; omega)
  have n3 := lebL_len (x.ts.toNat : Int) (by have := u32_le x.ts; omega)
  have n4 := lebL_len (x.ta.toNat : Int) (by have := u32_le x.ta; omega)
  have HC1 := Lib.hid (fun W => count_any (x.ms.toNat : Int) W (by omega) (by have := u32_le x.ms; omega))
  have HC2 := Lib.hid (fun W => count_any (x.ma.toNat : Int) W (by omega) (by have := u32_le x.ma; omega))
  have HC3 := Lib.hid (fun W => count_any (x.ts.toNat : Int) W (by omega) (by have := u32_le x.ts; omega))
  have HC4 := Lib.hid (fun W => count_any (x.ta.toNat : Int) W (by omega) (by have := u32_le x.ta; omega))
  have w1 : IntKind.i64.wrap (x.ms.toNat : Int) = x.ms.toNat := by rw [IntKind.wrap_i64]; have := u32_le x.ms; omega
  have w2 : IntKind.i64.wrap (x.ma.toNat : Int) = x.ma.toNat := by rw [IntKind.wrap_i64]; have := u32_le x.ma; omega
  have w3 : IntKind.i64.wrap (x.ts.toNat : Int) = x.ts.toNat := by rw [IntKind.wrap_i64]; have := u32_le x.ts; omega
  have w4 : IntKind.i64.wrap (x.ta.toNat : Int) = x.ta.toNat := by rw [IntKind.wrap_i64]; have := u32_le x.ta; omega
  have hdp0 : dlputL x = if x.nd.length = 0 then subL 1 (memL x) else subL 1 (memL x) ++ subL 2 (ndL x.nd) := rfl
  obtain ⟨P, hP⟩ : ∃ P, P = dlputL x := ⟨_, rfl⟩
  rw [← hP]
  have HDP := Lib.hid (hP.trans hdp0)
  clear hdp0 hP
  have hsl := subL_len (n := 1) m0.2 (by omega)
  obtain ⟨y1, hy1⟩ : ∃ y, y = lebL (x.ms.toNat : Int) := ⟨_, rfl⟩
  obtain ⟨y2, hy2⟩ : ∃ y, y = lebL (x.ma.toNat : Int) := ⟨_, rfl⟩
  obtain ⟨y3, hy3⟩ : ∃ y, y = lebL (x.ts.toNat : Int) := ⟨_, rfl⟩
  obtain ⟨y4, hy4⟩ : ∃ y, y = lebL (x.ta.toNat : Int) := ⟨_, rfl⟩
  rw [← hy1] at hsm HC1 n1
  rw [← hy2] at hsm HC2 n2
  rw [← hy3] at hsm HC3 n3
  rw [← hy4] at hsm HC4 n4
  have HPA := Lib.hid (fun W => show Calls Tryd.prog 55 #[.int .i64 1, .string (S y1 ++ S y2 ++ S y3 ++ S y4)] W (Strs (subL 1 (memL x)) W) from by rw [cat4, ← hsm]; exact rpart_w 1 _ W (by omega))
  have s1 := S_size y1
  have s2 := S_size y2
  have s3 := S_size y3
  have s4 := S_size y4
  have q1 : ¬ 9223372036854775807 < (S y1).size + (S y2).size := by omega
  have q2 : ¬ 9223372036854775807 < (S y1).size + (S y2).size + (S y3).size := by omega
  have q3 : ¬ 9223372036854775807 < (S y1).size + (S y2).size + (S y3).size + (S y4).size := by omega
  obtain ⟨T, hT⟩ : ∃ T, T = subL 1 (memL x) := ⟨_, rfl⟩
  rw [← hT] at HPA HDP hsl
  clear hT hy1 hy2 hy3 hy4 hsm n1 n2 n3 n4 s1 s2 s3 s4 m0 hl hf
  go_enter Tryd.func16, Tryd.ntmps16
  go_upto_region 1 with fail
  generalize w.alloc (.cells (dlC x A c) 25) = W0 at *
  go_cut [3] (fun s W => s = .string (S T) ∧ BxD w w.heap.size x A c W)
  case first =>
    refine wp_region_noPanic ?_
    refine wp_region_held_drew (S := fun W => BxD w w.heap.size x A c W) (by kernel_rfl) (bxD_on hB0 (Below.refl _ _).drew) (fun hHeld => ?_)
    clear hB0
    (refine heldTake (i := 0) (oi := { dst := some 6, op := Op.fieldAddr 25 (Operand.tmp 1) 1, type := 0, pos := "ref.go:48", after := #[], guard := none }) (v := ?_) rfl (by kernel_rfl) (by kernel_rfl) (by kernel_rfl) (by assumption) ?_ ?_; rotate_left; focus (refine .inl ⟨by kernel_rfl, ?_⟩; intro w hSw; (try dsimp only at hSw); go_simp; (try with_reducible rfl)); skip)
    (try simp only [Act.put, List.setIfInBounds_toArray, List.set_cons_zero, List.set_cons_succ])
    (refine heldTake (i := 1) (oi := { dst := some 7, op := Op.load 22 (Operand.tmp 6), type := 22, pos := "ref.go:48", after := #[{ on := 0, ground := Ground.data }], guard := none }) (v := ?_) rfl (by kernel_rfl) (by kernel_rfl) (by kernel_rfl) (by assumption) ?_ ?_; rotate_left; focus (refine .inl ⟨by kernel_rfl, ?_⟩; intro w hSw; (try dsimp only at hSw); go_simp; (try with_reducible rfl)); skip)
    (try simp only [Act.put, List.setIfInBounds_toArray, List.set_cons_zero, List.set_cons_succ])
    (refine heldTake (i := 2) (oi := { dst := some 8, op := Op.convert 22 3 (Operand.tmp 7), type := 3, pos := "ref.go:48", after := #[{ on := 1, ground := Ground.data }], guard := none }) (v := ?_) rfl (by kernel_rfl) (by kernel_rfl) (by kernel_rfl) (by assumption) ?_ ?_; rotate_left; focus (refine .inl ⟨by kernel_rfl, ?_⟩; intro w hSw; (try dsimp only at hSw); go_simp; (try with_reducible rfl)); skip)
    (try simp only [Act.put, List.setIfInBounds_toArray, List.set_cons_zero, List.set_cons_succ])
    (refine heldTake (i := 4) (oi := { dst := some 10, op := Op.fieldAddr 25 (Operand.tmp 1) 2, type := 0, pos := "ref.go:48", after := #[], guard := none }) (v := ?_) rfl (by kernel_rfl) (by kernel_rfl) (by kernel_rfl) (by assumption) ?_ ?_; rotate_left; focus (refine .inl ⟨by kernel_rfl, ?_⟩; intro w hSw; (try dsimp only at hSw); go_simp; (try with_reducible rfl)); skip)
    (try simp only [Act.put, List.setIfInBounds_toArray, List.set_cons_zero, List.set_cons_succ])
    (refine heldTake (i := 5) (oi := { dst := some 11, op := Op.load 22 (Operand.tmp 10), type := 22, pos := "ref.go:48", after := #[{ on := 4, ground := Ground.data }], guard := none }) (v := ?_) rfl (by kernel_rfl) (by kernel_rfl) (by kernel_rfl) (by assumption) ?_ ?_; rotate_left; focus (refine .inl ⟨by kernel_rfl, ?_⟩; intro w hSw; (try dsimp only at hSw); go_simp; (try with_reducible rfl)); skip)
    (try simp only [Act.put, List.setIfInBounds_toArray, List.set_cons_zero, List.set_cons_succ])
    (refine heldTake (i := 6) (oi := { dst := some 12, op := Op.convert 22 3 (Operand.tmp 11), type := 3, pos := "ref.go:48", after := #[{ on := 5, ground := Ground.data }], guard := none }) (v := ?_) rfl (by kernel_rfl) (by kernel_rfl) (by kernel_rfl) (by assumption) ?_ ?_; rotate_left; focus (refine .inl ⟨by kernel_rfl, ?_⟩; intro w hSw; (try dsimp only at hSw); go_simp; (try with_reducible rfl)); skip)
    (try simp only [Act.put, List.setIfInBounds_toArray, List.set_cons_zero, List.set_cons_succ])
    (refine heldTake (i := 9) (oi := { dst := some 15, op := Op.fieldAddr 25 (Operand.tmp 1) 3, type := 0, pos := "ref.go:48", after := #[], guard := none }) (v := ?_) rfl (by kernel_rfl) (by kernel_rfl) (by kernel_rfl) (by assumption) ?_ ?_; rotate_left; focus (refine .inl ⟨by kernel_rfl, ?_⟩; intro w hSw; (try dsimp only at hSw); go_simp; (try with_reducible rfl)); skip)
    (try simp only [Act.put, List.setIfInBounds_toArray, List.set_cons_zero, List.set_cons_succ])
    (refine heldTake (i := 10) (oi := { dst := some 16, op := Op.load 22 (Operand.tmp 15), type := 22, pos := "ref.go:48", after := #[{ on := 9, ground := Ground.data }], guard := none }) (v := ?_) rfl (by kernel_rfl) (by kernel_rfl) (by kernel_rfl) (by assumption) ?_ ?_; rotate_left; focus (refine .inl ⟨by kernel_rfl, ?_⟩; intro w hSw; (try dsimp only at hSw); go_simp; (try with_reducible rfl)); skip)
    (try simp only [Act.put, List.setIfInBounds_toArray, List.set_cons_zero, List.set_cons_succ])
    (refine heldTake (i := 11) (oi := { dst := some 17, op := Op.convert 22 3 (Operand.tmp 16), type := 3, pos := "ref.go:48", after := #[{ on := 10, ground := Ground.data }], guard := none }) (v := ?_) rfl (by kernel_rfl) (by kernel_rfl) (by kernel_rfl) (by assumption) ?_ ?_; rotate_left; focus (refine .inl ⟨by kernel_rfl, ?_⟩; intro w hSw; (try dsimp only at hSw); go_simp; (try with_reducible rfl)); skip)
    (try simp only [Act.put, List.setIfInBounds_toArray, List.set_cons_zero, List.set_cons_succ])
    (refine heldTake (i := 14) (oi := { dst := some 20, op := Op.fieldAddr 25 (Operand.tmp 1) 4, type := 0, pos := "ref.go:48", after := #[], guard := none }) (v := ?_) rfl (by kernel_rfl) (by kernel_rfl) (by kernel_rfl) (by assumption) ?_ ?_; rotate_left; focus (refine .inl ⟨by kernel_rfl, ?_⟩; intro w hSw; (try dsimp only at hSw); go_simp; (try with_reducible rfl)); skip)
    (try simp only [Act.put, List.setIfInBounds_toArray, List.set_cons_zero, List.set_cons_succ])
    (refine heldTake (i := 15) (oi := { dst := some 21, op := Op.load 22 (Operand.tmp 20), type := 22, pos := "ref.go:48", after := #[{ on := 14, ground := Ground.data }], guard := none }) (v := ?_) rfl (by kernel_rfl) (by kernel_rfl) (by kernel_rfl) (by assumption) ?_ ?_; rotate_left; focus (refine .inl ⟨by kernel_rfl, ?_⟩; intro w hSw; (try dsimp only at hSw); go_simp; (try with_reducible rfl)); skip)
    (try simp only [Act.put, List.setIfInBounds_toArray, List.set_cons_zero, List.set_cons_succ])
    (refine heldTake (i := 16) (oi := { dst := some 22, op := Op.convert 22 3 (Operand.tmp 21), type := 3, pos := "ref.go:48", after := #[{ on := 15, ground := Ground.data }], guard := none }) (v := ?_) rfl (by kernel_rfl) (by kernel_rfl) (by kernel_rfl) (by assumption) ?_ ?_; rotate_left; focus (refine .inl ⟨by kernel_rfl, ?_⟩; intro w hSw; (try dsimp only at hSw); go_simp; (try with_reducible rfl)); skip)
    (try simp only [Act.put, List.setIfInBounds_toArray, List.set_cons_zero, List.set_cons_succ])
    refine wpAnyH_ready (rs := [3]) (by kernel_rfl) (by simp) ?_
    refine (AllReadyH.cons (o := { dst := some 9, op := Op.call { callee := Callee.value (Operand.func 56), args := #[Operand.tmp 8], argTypes := #[3] }, type := 9, pos := "ref.go:48", after := #[{ on := 2, ground := Ground.data }], guard := none }) rfl (fun K hK => ?_) AllReadyH.nil)
    go_simp
    (go_at_call 56; (with_reducible refine (HC1.out _).mono ?_); rintro e w3 ⟨rfl, hb3⟩; have HB3 := Lib.hid hb3; clear hb3)
    refine hK.out _ _ (bxD_on hHeld HB3.out) (fun hHeld3 => ?_)
    clear hK K hHeld
    (try simp only [Act.put, List.setIfInBounds_toArray, List.set_cons_zero, List.set_cons_succ])
    refine wpAnyH_ready (rs := [7]) (by kernel_rfl) (by simp) ?_
    refine (AllReadyH.cons (o := { dst := some 13, op := Op.call { callee := Callee.value (Operand.func 56), args := #[Operand.tmp 12], argTypes := #[3] }, type := 9, pos := "ref.go:48", after := #[{ on := 6, ground := Ground.data }, { on := 3, ground := Ground.chain }], guard := none }) rfl (fun K hK => ?_) AllReadyH.nil)
    go_simp
    (go_at_call 56; (with_reducible refine (HC2.out _).mono ?_); rintro e w7 ⟨rfl, hb7⟩; have HB7 := Lib.hid hb7; clear hb7)
    refine hK.out _ _ (bxD_on hHeld3 HB7.out) (fun hHeld7 => ?_)
    clear hK K hHeld3
    (try simp only [Act.put, List.setIfInBounds_toArray, List.set_cons_zero, List.set_cons_succ])
    (refine heldTake (i := 8) (oi := { dst := some 14, op := Op.binOp BinOp.add 9 (Operand.tmp 9) (Operand.tmp 13) 9, type := 9, pos := "ref.go:48", after := #[{ on := 3, ground := Ground.data }, { on := 7, ground := Ground.data }], guard := none }) (v := ?_) rfl (by kernel_rfl) (by kernel_rfl) (by kernel_rfl) (by assumption) ?_ ?_; rotate_left; focus (refine .inl ⟨by kernel_rfl, ?_⟩; intro w hSw; (try dsimp only at hSw); go_simp; (try with_reducible rfl)); skip)
    (try simp only [Act.put, List.setIfInBounds_toArray, List.set_cons_zero, List.set_cons_succ])
    refine wpAnyH_ready (rs := [12]) (by kernel_rfl) (by simp) ?_
    refine (AllReadyH.cons (o := { dst := some 18, op := Op.call { callee := Callee.value (Operand.func 56), args := #[Operand.tmp 17], argTypes := #[3] }, type := 9, pos := "ref.go:48", after := #[{ on := 11, ground := Ground.data }, { on := 7, ground := Ground.chain }], guard := none }) rfl (fun K hK => ?_) AllReadyH.nil)
    go_simp
    (go_at_call 56; (with_reducible refine (HC3.out _).mono ?_); rintro e w12 ⟨rfl, hb12⟩; have HB12 := Lib.hid hb12; clear hb12)
    refine hK.out _ _ (bxD_on hHeld7 HB12.out) (fun hHeld12 => ?_)
    clear hK K hHeld7
    (try simp only [Act.put, List.setIfInBounds_toArray, List.set_cons_zero, List.set_cons_succ])
    (refine heldTake (i := 13) (oi := { dst := some 19, op := Op.binOp BinOp.add 9 (Operand.tmp 14) (Operand.tmp 18) 9, type := 9, pos := "ref.go:48", after := #[{ on := 8, ground := Ground.data }, { on := 12, ground := Ground.data }], guard := none }) (v := ?_) rfl (by kernel_rfl) (by kernel_rfl) (by kernel_rfl) (by assumption) ?_ ?_; rotate_left; focus (refine .inl ⟨by kernel_rfl, ?_⟩; intro w hSw; (try dsimp only at hSw); go_simp; (try with_reducible rfl)); skip)
    (try simp only [Act.put, List.setIfInBounds_toArray, List.set_cons_zero, List.set_cons_succ])
    refine wpAnyH_ready (rs := [17]) (by kernel_rfl) (by simp) ?_
    refine (AllReadyH.cons (o := { dst := some 23, op := Op.call { callee := Callee.value (Operand.func 56), args := #[Operand.tmp 22], argTypes := #[3] }, type := 9, pos := "ref.go:48", after := #[{ on := 16, ground := Ground.data }, { on := 12, ground := Ground.chain }], guard := none }) rfl (fun K hK => ?_) AllReadyH.nil)
    go_simp
    (go_at_call 56; (with_reducible refine (HC4.out _).mono ?_); rintro e w17 ⟨rfl, hb17⟩; have HB17 := Lib.hid hb17; clear hb17)
    refine hK.out _ _ (bxD_on hHeld12 HB17.out) (fun hHeld17 => ?_)
    clear hK K hHeld12
    (try simp only [Act.put, List.setIfInBounds_toArray, List.set_cons_zero, List.set_cons_succ])
    (refine heldTake (i := 18) (oi := { dst := some 24, op := Op.binOp BinOp.add 9 (Operand.tmp 19) (Operand.tmp 23) 9, type := 9, pos := "ref.go:48", after := #[{ on := 13, ground := Ground.data }, { on := 17, ground := Ground.data }], guard := none }) (v := ?_) rfl (by kernel_rfl) (by kernel_rfl) (by kernel_rfl) (by assumption) ?_ ?_; rotate_left; focus (refine .inl ⟨by kernel_rfl, ?_⟩; intro w hSw; (try dsimp only at hSw); go_simp; (try with_reducible rfl)); skip)
    (try simp only [Act.put, List.setIfInBounds_toArray, List.set_cons_zero, List.set_cons_succ])
    refine wpAnyH_ready (rs := [19]) (by kernel_rfl) (by simp) ?_
    refine (AllReadyH.cons (o := { dst := some 25, op := Op.call { callee := Callee.value (Operand.func 55), args := #[Operand.const (Value.int IntKind.i64 1), Operand.tmp 24], argTypes := #[3, 9] }, type := 9, pos := "ref.go:48", after := #[{ on := 18, ground := Ground.data }, { on := 17, ground := Ground.chain }], guard := none }) rfl (fun K hK => ?_) AllReadyH.nil)
    go_simp
    (go_at_call 55; (with_reducible refine (HPA.out _).mono ?_); rintro e w19 ⟨rfl, hb19⟩; have HB19 := Lib.hid hb19; clear hb19)
    refine hK.out _ _ (bxD_on hHeld17 HB19.out) (fun hHeld19 => ?_)
    clear hK K hHeld17
    (try simp only [Act.put, List.setIfInBounds_toArray, List.set_cons_zero, List.set_cons_succ])
    (refine heldTake (i := 20) (oi := { dst := some 3, op := Op.assign (Operand.tmp 25), type := 9, pos := "ref.go:48", after := #[{ on := 19, ground := Ground.data }, { on := 19, ground := Ground.chain }, { on := 0, ground := Ground.phase }, { on := 1, ground := Ground.phase }, { on := 2, ground := Ground.phase }, { on := 3, ground := Ground.phase }, { on := 4, ground := Ground.phase }, { on := 5, ground := Ground.phase }, { on := 6, ground := Ground.phase }, { on := 7, ground := Ground.phase }, { on := 8, ground := Ground.phase }, { on := 9, ground := Ground.phase }, { on := 10, ground := Ground.phase }, { on := 11, ground := Ground.phase }, { on := 12, ground := Ground.phase }, { on := 13, ground := Ground.phase }, { on := 14, ground := Ground.phase }, { on := 15, ground := Ground.phase }, { on := 16, ground := Ground.phase }, { on := 17, ground := Ground.phase }, { on := 18, ground := Ground.phase }, { on := 19, ground := Ground.phase }], guard := none }) (v := ?_) rfl (by kernel_rfl) (by kernel_rfl) (by kernel_rfl) (by assumption) ?_ ?_; rotate_left; focus (refine .inl ⟨by kernel_rfl, ?_⟩; intro w hSw; (try dsimp only at hSw); go_simp; (try with_reducible rfl)); skip)
    (try simp only [Act.put, List.setIfInBounds_toArray, List.set_cons_zero, List.set_cons_succ])
    refine wpAnyH_done (by kernel_rfl) ?_ _
    refine NoPanic.normal ?_
    have hLast := hHeld19
    clear hHeld19
    go_wp2
    go_meet
    exact ⟨rfl, hLast⟩
  case rest =>
    obtain ⟨rfl, hbx⟩ := hcut
    have HBX := Lib.hid hbx
    obtain ⟨c0, c1, c2, c3, c4, c5⟩ := hbx.2
    clear hB0 HC1 HC2 HC3 HC4 HPA q1 q2 q3 w1 w2 w3 w4
    by_cases hn : x.nd.length = 0
    · have dn : decide (x.nd.length = 0) = true := decide_eq_true hn
      have bn : ((x.nd.length : Int) == 0) = true := be_of (decide_eq_true (by omega))
      have hdp := HDP.out
      rw [if_pos hn] at hdp
      have HDQ := Lib.hid hdp
      clear hn hdp hbx
      go_wp2
      go_ret
      exact ⟨(by rw [HDQ.out]; rfl), bxD_bel HBX.out⟩
    · have bn : ((x.nd.length : Int) == 0) = false := be_of (decide_eq_false (by omega))
      have hdp := HDP.out
      rw [if_neg hn] at hdp
      have HDQ := Lib.hid hdp
      clear hdp hbx
      have h40 := HFw.out.n
      have nl := ndL_len HFw.out
      have HCn := Lib.hid (fun W => count_any (x.nd.length : Int) W (by omega) (by omega))
      have hnd : ndL x.nd = lebL x.nd.length ++ nmsL x.nd := rfl
      have hy := lebL_len (x.nd.length : Int) (by omega)
      have HTK := Lib.hid (nmsL_take HFw.out)
      have HP2 := Lib.hid (fun W => show Calls Tryd.prog 55 #[.int .i64 2, .string (S (ndL x.nd))] W (Strs (subL 2 (ndL x.nd)) W) from rpart_w 2 _ W (by omega))
      have s2 := subL_len (n := 2) nl.2 (by omega)
      obtain ⟨U, hU⟩ : ∃ U, U = subL 2 (ndL x.nd) := ⟨_, rfl⟩
      rw [← hU] at HDQ HP2 s2
      obtain ⟨N, hN⟩ : ∃ N, N = ndL x.nd := ⟨_, rfl⟩
      rw [← hN] at hnd HP2
      obtain ⟨y, hyy⟩ : ∃ y, y = lebL (x.nd.length : Int) := ⟨_, rfl⟩
      rw [← hyy] at hnd HCn hy
      have HND := Lib.hid hnd
      have sT := S_size T
      have sU := S_size U
      have qTU : ¬ 9223372036854775807 < (S T).size + (S U).size := by omega
      clear hn nl s2 hsl HDP hU hN hyy hnd sT sU
      go_wp2_with (go_at_call 56; go_must ((with_reducible refine (HCn.out _).mono ?_); rintro e w2 ⟨rfl, hb⟩; have H2 := Lib.hid (bxD_on HBX.out hb); clear hb))
      go_loopw [4, 5] (fun s i wr => ∃ k : Nat, k ≤ x.nd.length ∧ i = .int .i64 k ∧ s = .string (S (y ++ nmsL (x.nd.take k))) ∧ BxD w w.heap.size x A c wr) (fun _ i _ => x.nd.length - (intOf i).toNat)
      case atStart => exact ⟨0, Nat.zero_le _, rfl, by simp [nmsL], H2.out⟩
      case round =>
        obtain ⟨k, hk, rfl, rfl, hb⟩ := hrel
        clear c0 c1 c2 c3 c4 c5
        obtain ⟨c0, c1, c2, c3, c4, c5⟩ := hb.2
        have hbel := hb.1.2
        have htl := HTK.out k
        by_cases hlt : k < x.nd.length
        · obtain ⟨s, hs⟩ : ∃ s, x.nd[k]? = some s := ⟨_, List.getElem?_eq_getElem hlt⟩
          obtain ⟨b, off, hA, hbl, m0⟩ := HLA.out.below hbel k s hs
          have hs3 := HFw.out.s s (List.mem_of_getElem? hs)
          have HS := Lib.hid (nmsL_snoc hs)
          obtain ⟨t, ht⟩ : ∃ t, t = y ++ nmsL (x.nd.take k) := ⟨_, rfl⟩
          have htn : t.length ≤ 20000 := by rw [ht, List.length_append]; omega
          have HT := Lib.hid ht
          rw [← ht]
          have HCs := Lib.hid (fun W => count_any (s.length : Int) W (by omega) (by omega))
          have hz := lebL_len (s.length : Int) (by omega)
          have hnm : nmL s = lebL s.length ++ s := rfl
          obtain ⟨z, hzz⟩ : ∃ z, z = lebL (s.length : Int) := ⟨_, rfl⟩
          rw [← hzz] at HCs hz hnm
          have HNM := Lib.hid hnm
          have st := S_size t
          have sz := S_size z
          have ss := S_size s
          have q1 : ¬ 9223372036854775807 < (S t).size + (S z).size := by omega
          have q2 : ¬ 9223372036854775807 < (S t).size + (S z).size + s.length := by omega
          have q3 : ¬ 9223372036854775807 < (S t).size + (S z).size + (S s).size := by omega
          have hH : HoldN w x A c b (off + k) s wr.drew := ⟨bxD_on hb (Below.refl _ _).drew, m0⟩
          subst hA
          clear hb hbel ht htl hs hs3 hz hzz hnm st sz
          go_upto_region 8 with fail
          refine wp_region_noPanic ?_
          refine wp_region_held_drew (S := fun W => HoldN w x (some ⟨b, off, none⟩) c b (off + k) s W) (by kernel_rfl) hH (fun hHeld => ?_)
          clear hH c0 c1 c2 c3 c4 c5 m0
          (refine heldTake (i := 0) (oi := { dst := some 42, op := Op.move (Operand.tmp 4), type := 9, pos := "ref.go:54", after := #[], guard := none }) (v := ?_) rfl (by kernel_rfl) (by kernel_rfl) (by kernel_rfl) (by assumption) ?_ ?_; rotate_left; focus (refine .inl ⟨by kernel_rfl, ?_⟩; intro w hSw; (try dsimp only at hSw); go_simp; (try with_reducible rfl)); skip)
          (try simp only [Act.put, List.setIfInBounds_toArray, List.set_cons_zero, List.set_cons_succ])
          (refine heldTake (i := 1) (oi := { dst := some 43, op := Op.fieldAddr 25 (Operand.tmp 1) 5, type := 0, pos := "ref.go:54", after := #[], guard := none }) (v := ?_) rfl (by kernel_rfl) (by kernel_rfl) (by kernel_rfl) (by assumption) ?_ ?_; rotate_left; focus (refine .inl ⟨by kernel_rfl, ?_⟩; intro w hSw; (try dsimp only at hSw); go_simp; (try with_reducible rfl)); skip)
          (try simp only [Act.put, List.setIfInBounds_toArray, List.set_cons_zero, List.set_cons_succ])
          (refine heldTake (i := 2) (oi := { dst := some 44, op := Op.load 23 (Operand.tmp 43), type := 23, pos := "ref.go:54", after := #[{ on := 1, ground := Ground.data }], guard := none }) (v := ?_) rfl (by kernel_rfl) (by kernel_rfl) (by kernel_rfl) (by assumption) ?_ ?_; rotate_left; focus (refine .inl ⟨by kernel_rfl, ?_⟩; intro w hSw; (try dsimp only at hSw); go_simp; (try with_reducible rfl)); skip)
          (try simp only [Act.put, List.setIfInBounds_toArray, List.set_cons_zero, List.set_cons_succ])
          (refine heldTake (i := 3) (oi := { dst := some 45, op := Op.move (Operand.tmp 5), type := 3, pos := "ref.go:54", after := #[], guard := none }) (v := ?_) rfl (by kernel_rfl) (by kernel_rfl) (by kernel_rfl) (by assumption) ?_ ?_; rotate_left; focus (refine .inl ⟨by kernel_rfl, ?_⟩; intro w hSw; (try dsimp only at hSw); go_simp; (try with_reducible rfl)); skip)
          (try simp only [Act.put, List.setIfInBounds_toArray, List.set_cons_zero, List.set_cons_succ])
          (refine heldTake (i := 4) (oi := { dst := some 46, op := Op.indexAddr 23 (Operand.tmp 44) (Operand.tmp 45), type := 0, pos := "ref.go:54", after := #[{ on := 2, ground := Ground.data }, { on := 3, ground := Ground.data }], guard := none }) (v := ?_) rfl (by kernel_rfl) (by kernel_rfl) (by kernel_rfl) (by assumption) ?_ ?_; rotate_left; focus (refine .inl ⟨by kernel_rfl, ?_⟩; intro w hSw; (try dsimp only at hSw); go_simp; (try with_reducible rfl)); skip)
          (try simp only [Act.put, List.setIfInBounds_toArray, List.set_cons_zero, List.set_cons_succ])
          (refine heldTake (i := 5) (oi := { dst := some 47, op := Op.load 9 (Operand.tmp 46), type := 9, pos := "ref.go:54", after := #[{ on := 4, ground := Ground.data }], guard := none }) (v := ?_) rfl (by kernel_rfl) (by kernel_rfl) (by kernel_rfl) (by assumption) ?_ ?_; rotate_left; focus (refine .inl ⟨by kernel_rfl, ?_⟩; intro w hSw; (try dsimp only at hSw); go_simp; (try with_reducible rfl)); skip)
          (try simp only [Act.put, List.setIfInBounds_toArray, List.set_cons_zero, List.set_cons_succ])
          (refine heldTake (i := 6) (oi := { dst := some 48, op := Op.call { callee := Callee.builtin Builtin.len, args := #[Operand.tmp 47], argTypes := #[9] }, type := 3, pos := "ref.go:54", after := #[{ on := 5, ground := Ground.data }], guard := none }) (v := ?_) rfl (by kernel_rfl) (by kernel_rfl) (by kernel_rfl) (by assumption) ?_ ?_; rotate_left; focus (refine .inl ⟨by kernel_rfl, ?_⟩; intro w hSw; (try dsimp only at hSw); go_simp; (try with_reducible rfl)); skip)
          (try simp only [Act.put, List.setIfInBounds_toArray, List.set_cons_zero, List.set_cons_succ])
          (refine heldTake (i := 9) (oi := { dst := some 51, op := Op.fieldAddr 25 (Operand.tmp 1) 5, type := 0, pos := "ref.go:54", after := #[], guard := none }) (v := ?_) rfl (by kernel_rfl) (by kernel_rfl) (by kernel_rfl) (by assumption) ?_ ?_; rotate_left; focus (refine .inl ⟨by kernel_rfl, ?_⟩; intro w hSw; (try dsimp only at hSw); go_simp; (try with_reducible rfl)); skip)
          (try simp only [Act.put, List.setIfInBounds_toArray, List.set_cons_zero, List.set_cons_succ])
          (refine heldTake (i := 10) (oi := { dst := some 52, op := Op.load 23 (Operand.tmp 51), type := 23, pos := "ref.go:54", after := #[{ on := 9, ground := Ground.data }], guard := none }) (v := ?_) rfl (by kernel_rfl) (by kernel_rfl) (by kernel_rfl) (by assumption) ?_ ?_; rotate_left; focus (refine .inl ⟨by kernel_rfl, ?_⟩; intro w hSw; (try dsimp only at hSw); go_simp; (try with_reducible rfl)); skip)
          (try simp only [Act.put, List.setIfInBounds_toArray, List.set_cons_zero, List.set_cons_succ])
          (refine heldTake (i := 11) (oi := { dst := some 53, op := Op.move (Operand.tmp 5), type := 3, pos := "ref.go:54", after := #[], guard := none }) (v := ?_) rfl (by kernel_rfl) (by kernel_rfl) (by kernel_rfl) (by assumption) ?_ ?_; rotate_left; focus (refine .inl ⟨by kernel_rfl, ?_⟩; intro w hSw; (try dsimp only at hSw); go_simp; (try with_reducible rfl)); skip)
          (try simp only [Act.put, List.setIfInBounds_toArray, List.set_cons_zero, List.set_cons_succ])
          (refine heldTake (i := 12) (oi := { dst := some 54, op := Op.indexAddr 23 (Operand.tmp 52) (Operand.tmp 53), type := 0, pos := "ref.go:54", after := #[{ on := 10, ground := Ground.data }, { on := 11, ground := Ground.data }], guard := none }) (v := ?_) rfl (by kernel_rfl) (by kernel_rfl) (by kernel_rfl) (by assumption) ?_ ?_; rotate_left; focus (refine .inl ⟨by kernel_rfl, ?_⟩; intro w hSw; (try dsimp only at hSw); go_simp; (try with_reducible rfl)); skip)
          (try simp only [Act.put, List.setIfInBounds_toArray, List.set_cons_zero, List.set_cons_succ])
          (refine heldTake (i := 13) (oi := { dst := some 55, op := Op.load 9 (Operand.tmp 54), type := 9, pos := "ref.go:54", after := #[{ on := 12, ground := Ground.data }], guard := none }) (v := ?_) rfl (by kernel_rfl) (by kernel_rfl) (by kernel_rfl) (by assumption) ?_ ?_; rotate_left; focus (refine .inl ⟨by kernel_rfl, ?_⟩; intro w hSw; (try dsimp only at hSw); go_simp; (try with_reducible rfl)); skip)
          (try simp only [Act.put, List.setIfInBounds_toArray, List.set_cons_zero, List.set_cons_succ])
          refine wpAnyH_ready (rs := [7]) (by kernel_rfl) (by simp) ?_
          refine (AllReadyH.cons (o := { dst := some 49, op := Op.call { callee := Callee.value (Operand.func 56), args := #[Operand.tmp 48], argTypes := #[3] }, type := 9, pos := "ref.go:54", after := #[{ on := 6, ground := Ground.data }], guard := none }) rfl (fun K hK => ?_) AllReadyH.nil)
          go_simp
          (go_at_call 56; (with_reducible refine (HCs.out _).mono ?_); rintro e w7 ⟨rfl, hb7⟩; have HB7 := Lib.hid hb7; clear hb7)
          refine hK.out _ _ (holdN_on hHeld HB7.out) (fun hHeld7 => ?_)
          clear hK K hHeld
          (try simp only [Act.put, List.setIfInBounds_toArray, List.set_cons_zero, List.set_cons_succ])
          (refine heldTake (i := 8) (oi := { dst := some 50, op := Op.binOp BinOp.add 9 (Operand.tmp 42) (Operand.tmp 49) 9, type := 9, pos := "ref.go:54", after := #[{ on := 0, ground := Ground.data }, { on := 7, ground := Ground.data }], guard := none }) (v := ?_) rfl (by kernel_rfl) (by kernel_rfl) (by kernel_rfl) (by assumption) ?_ ?_; rotate_left; focus (refine .inl ⟨by kernel_rfl, ?_⟩; intro w hSw; (try dsimp only at hSw); go_simp; (try with_reducible rfl)); skip)
          (try simp only [Act.put, List.setIfInBounds_toArray, List.set_cons_zero, List.set_cons_succ])
          (refine heldTake (i := 14) (oi := { dst := some 56, op := Op.binOp BinOp.add 9 (Operand.tmp 50) (Operand.tmp 55) 9, type := 9, pos := "ref.go:54", after := #[{ on := 8, ground := Ground.data }, { on := 13, ground := Ground.data }], guard := none }) (v := ?_) rfl (by kernel_rfl) (by kernel_rfl) (by kernel_rfl) (by assumption) ?_ ?_; rotate_left; focus (refine .inl ⟨by kernel_rfl, ?_⟩; intro w hSw; (try dsimp only at hSw); go_simp; (try with_reducible rfl)); skip)
          (try simp only [Act.put, List.setIfInBounds_toArray, List.set_cons_zero, List.set_cons_succ])
          (refine heldTake (i := 15) (oi := { dst := some 4, op := Op.assign (Operand.tmp 56), type := 9, pos := "ref.go:54", after := #[{ on := 14, ground := Ground.data }, { on := 7, ground := Ground.chain }, { on := 0, ground := Ground.phase }, { on := 1, ground := Ground.phase }, { on := 2, ground := Ground.phase }, { on := 3, ground := Ground.phase }, { on := 4, ground := Ground.phase }, { on := 5, ground := Ground.phase }, { on := 6, ground := Ground.phase }, { on := 7, ground := Ground.phase }, { on := 8, ground := Ground.phase }, { on := 9, ground := Ground.phase }, { on := 10, ground := Ground.phase }, { on := 11, ground := Ground.phase }, { on := 12, ground := Ground.phase }, { on := 13, ground := Ground.phase }, { on := 14, ground := Ground.phase }], guard := none }) (v := ?_) rfl (by kernel_rfl) (by kernel_rfl) (by kernel_rfl) (by assumption) ?_ ?_; rotate_left; focus (refine .inl ⟨by kernel_rfl, ?_⟩; intro w hSw; (try dsimp only at hSw); go_simp; (try with_reducible rfl)); skip)
          (try simp only [Act.put, List.setIfInBounds_toArray, List.set_cons_zero, List.set_cons_succ])
          refine wpAnyH_done (by kernel_rfl) ?_ _
          refine NoPanic.normal ?_
          have hLast := hHeld7
          clear hHeld7
          go_wp2
          go_roundw
          exact ⟨k + 1, by omega, by go_num, by rw [HS.out, HNM.out, ← List.append_assoc, ← List.append_assoc, ← HT.out, S_append, S_append], hLast.1⟩
          (simp [intOf]; omega)
        · have hkn : k = x.nd.length := by omega
          have HTT := Lib.hid (show y ++ nmsL (x.nd.take k) = N by rw [HND.out, hkn, List.take_length])
          rw [HTT.out]
          have HB := Lib.hid hb
          clear hb hbel hkn htl
          go_wp2_with (go_at_call 55; go_must ((with_reducible refine (HP2.out _).mono ?_); rintro e w3 ⟨rfl, hb⟩; have H3 := Lib.hid (bxD_on HB.out hb); clear hb))
          go_ret
          exact ⟨(by rw [HDQ.out]; first | rfl | (rw [S_append]; rfl)), bxD_bel H3.out⟩
set_option maxHeartbeats 4000000 in
/-- Same of two that read alike. -/
theorem rsame_dl {w : World} {x : Dl} {A A2 : Option Addr} {c cc : Nat} (hl : SlT w A x.nd) (hl2 : SlT w A2 x.nd) (hn : x.nd.length ≤ 10000) :
    Calls Tryd.prog 17 #[dlV x A c, dlV x A2 cc] w fun e w' => e = .returned (.bool true) ∧ Below w.heap.size w w' := by
  have h1 := bxD_start w x A c
  have h2 := bxD_start (w.alloc (.cells (dlC x A c) 25)) x A2 cc
  have h1b := bxD_on h1 (below_box _ (.cells (dlC x A2 cc) 25))
  have hz : (w.alloc (.cells (dlC x A c) 25)).heap.size = w.heap.size + 1 := by simp
  rw [hz] at h2
  have HL := Lib.hid hl
  have HL2 := Lib.hid hl2
  have H1 := Lib.hid h1b
  have H2 := Lib.hid h2
  obtain ⟨c0, c1, c2, c3, c4, c5⟩ := h1b.2
  obtain ⟨p0, p1, p2, p3, p4, p5⟩ := h2.2
  clear hl hl2 h1 h2 h1b
  go_enter Tryd.func17, Tryd.ntmps17
  go_wp2
  go_loopw [5] (fun i wr => ∃ k : Nat, k ≤ x.nd.length ∧ i = .int .i64 k ∧ BxD w w.heap.size x A c wr ∧ BxD w (w.heap.size + 1) x A2 cc wr) (fun i _ => x.nd.length - (intOf i).toNat)
  case atStart => exact ⟨0, Nat.zero_le _, rfl, H1.out, ⟨⟨H2.out.1.1, bxD_bel H1.out⟩, H2.out.2⟩⟩
  case round =>
    obtain ⟨k, hk, rfl, hb, hb2⟩ := hrel
    clear c0 c1 c2 c3 c4 c5 p0 p1 p2 p3 p4 p5
    obtain ⟨c0, c1, c2, c3, c4, c5⟩ := hb.2
    obtain ⟨p0, p1, p2, p3, p4, p5⟩ := hb2.2
    have hbel := bxD_bel hb
    have HB := Lib.hid hb
    have HB2 := Lib.hid hb2
    by_cases hlt : k < x.nd.length
    · obtain ⟨s, hs⟩ : ∃ s, x.nd[k]? = some s := ⟨_, List.getElem?_eq_getElem hlt⟩
      obtain ⟨b, off, hA, hbl, m0⟩ := HL.out.below hbel k s hs
      obtain ⟨b2, off2, hA2, hbl2, m2⟩ := HL2.out.below hbel k s hs
      subst hA hA2
      clear hb hb2 hbel hs
      go_wp2
      go_quiet (fail)
      go_wp2
      go_roundw
      case rel => exact ⟨k + 1, by omega, by go_num, bxD_on HB.out (below_drewN (Below.refl _ _) _), bxD_on HB2.out (below_drewN (Below.refl _ _) _)⟩
      case measure => simp [intOf]; omega
    · clear hb hb2 hbel
      go_wp2
      go_ret
      exact ⟨rfl, bxD_bel HB.out⟩
end Go.Proofs.YtihpnplfklbgjaaDoor

/- wire.Part, wire.Whole of bytes that are there: a part that a closure with one box of its own reads to its end. -/
namespace Go.Proofs.YtihpnplfklbgjaaDoor
open Go.RowKit
set_option linter.unusedVariables false
set_option maxRecDepth 100000

/-- Two blocks alone may have turned. -/
structure Gb2 (w w' : World) (a b : Nat) : Prop where
  os : w'.os = w.os
  tape : w'.tape = w.tape
  output : w'.output = w.output
  size : w.heap.size ≤ w'.heap.size
  block : ∀ k, k < w.heap.size → k ≠ a → k ≠ b → w'.heap[k]? = w.heap[k]?
section
variable {w w1 w2 w' : World} {a b p q X : Nat}
theorem Gb2.refl (w : World) (a b : Nat) : Gb2 w w a b := ⟨rfl, rfl, rfl, Nat.le_refl _, fun _ _ _ _ => rfl⟩
theorem Gb2.trans (h : Gb2 w w1 a b) (k : Gb2 w1 w2 a b) : Gb2 w w2 a b :=
  ⟨k.os.trans h.os, k.tape.trans h.tape, k.output.trans h.output, Nat.le_trans h.size k.size, fun i hi h1 h2 => (k.block i (Nat.lt_of_lt_of_le hi h.size) h1 h2).trans (h.block i hi h1 h2)⟩
theorem Gb2.left (h : w.grownBy w' (some a)) : Gb2 w w' a b := ⟨h.os, h.tape, h.output, h.size, fun i hi h1 _ => h.block i hi (by simp only [ne_eq, Option.some.injEq]; exact h1)⟩
theorem Gb2.right (h : w.grownBy w' (some b)) : Gb2 w w' a b := ⟨h.os, h.tape, h.output, h.size, fun i hi _ h2 => h.block i hi (by simp only [ne_eq, Option.some.injEq]; exact h2)⟩
theorem Gb2.of_below (h : Below w.heap.size w w') : Gb2 w w' a b := .left (gb_of_below _ h)
/-- Seen from before one of the two was made. -/
theorem Gb2.before (h : Gb2 w w1 p X) (k : Gb2 w1 w2 q X) (hq : w.heap.size ≤ q) : Gb2 w w2 p X :=
  ⟨k.os.trans h.os, k.tape.trans h.tape, k.output.trans h.output, Nat.le_trans h.size k.size, fun i hi h1 h2 => (k.block i (Nat.lt_of_lt_of_le hi h.size) (by omega) h2).trans (h.block i hi h1 h2)⟩
theorem Gb2.new (h : Gb2 w w1 p X) (k : w1.grownBy w2 (some b)) (hb : w.heap.size ≤ b) : Gb2 w w2 p X :=
  ⟨k.os.trans h.os, k.tape.trans h.tape, k.output.trans h.output, Nat.le_trans h.size k.size, fun i hi h1 h2 => (k.block i (Nat.lt_of_lt_of_le hi h.size) (by simp only [ne_eq, Option.some.injEq]; omega)).trans (h.block i hi h1 h2)⟩
/-- .. both. -/
theorem Gb2.gb (h : Gb2 w w' a b) (hb : w.heap.size ≤ b) : w.grownBy w' (some a) :=
  ⟨h.os, h.tape, h.output, h.size, fun i hi h1 => h.block i hi (fun e => h1 (by rw [e])) (by omega)⟩
theorem Gb2.whole {g : Nat} {t : TypeId} {cs : Array Value} (h : Gb2 w w' a b) (hw : Whole w g t cs) (h1 : g ≠ a) (h2 : g ≠ b) : Whole w' g t cs := (h.block g hw.lt h1 h2).trans hw
theorem Gb2.sc {l : List UInt8} {k : Nat} (hg : Gb2 w w' a b) (h : Sc w p l k) (h1 : p < a) (h2 : p < b) : Sc w' p l k := by
  have hlt := h.lt
  obtain ⟨A, cap, h3, h4, h5⟩ := h
  refine ⟨A, cap, hg.whole h3 (by omega) (by omega), fun i v hv => ?_, h5⟩
  obtain ⟨c, off, e, h6, h7⟩ := h4 i v hv
  exact ⟨c, off, e, h6, (World.cell?_of_block (a := ⟨c, _, none⟩) (hg.block c (by omega) (by omega) (by omega))).trans h7⟩
/-- A block that holds no byte turns: what a scanner reads stays. -/
theorem Sc.box {l : List UInt8} {k : Nat} {t : TypeId} {cs : Array Value} (h : Sc w q l k) (hX : Whole w X t cs) (hne : X ≠ q) (hno : ∀ (i : Nat) (n : Int), cs[i]? ≠ some (.int .u8 n)) (hg : w.grownBy w' (some X)) : Sc w' q l k := by
  have hlt := h.lt
  obtain ⟨A, cap, h3, h4, h5⟩ := h
  refine ⟨A, cap, h3.grown hg (by simp only [ne_eq, Option.some.injEq]; omega), fun i v hv => ?_, h5⟩
  obtain ⟨c, off, e, h6, h7⟩ := h4 i v hv
  have hcX : c ≠ X := by
    rintro rfl
    rw [hX.cell] at h7
    have hm := List.mem_of_getElem? hv
    unfold cells at hm
    obtain ⟨n, _, rfl⟩ := List.mem_map.1 hm
    exact hno _ _ h7
  exact ⟨c, off, e, h6, (World.cell?_of_block (a := ⟨c, _, none⟩) (hg.block c (by omega) (by simp only [ne_eq, Option.some.injEq]; exact hcX))).trans h7⟩
end

/-- What Part leaves behind. -/
def Parted (p : Nat) (l : List UInt8) (n k1 : Nat) (w : World) (e : Ending) (w' : World) : Prop :=
  ∃ q, e = .returned (.tuple #[.pointer (some ⟨q, 0, none⟩), .int .i64 k1]) ∧ w.heap.size ≤ q ∧ Sc w' q ((l.drop k1).take n) 0 ∧ Sc w' p l (k1 + n) ∧ w.grownBy w' (some p)
set_option maxHeartbeats 800000 in
theorem part_w {w : World} {p : Nat} {l : List UInt8} {k n k1 : Nat} (h : Sc w p l k) (hi : indexR l k = .ok (n : Int) k1) (hm : k1 + n ≤ l.length) :
    Calls Tryd.prog 106 #[.pointer (some ⟨p, 0, none⟩)] w (Parted p l n k1 w) := by
  have hN := index_scan h
  have hle := h.le.2
  rw [hi] at hN
  have HN := Lib.hid hN
  obtain ⟨hk, v0, v1⟩ := uintR_ok (show uintR l k 32 = .ok (n : Int) k1 from hi)
  have v2 : (n : Int) < 4294967296 := v1
  have w1 : IntKind.u64.wrap (n : Int) = n := by simp [IntKind.wrap, IntKind.bits, IntKind.signed]; omega
  have w2 : IntKind.u64.wrap ((l.length : Int) - k1) = (l.length : Int) - k1 := by simp [IntKind.wrap, IntKind.bits, IntKind.signed]; omega
  have w3 : IntKind.i64.wrap (n : Int) = n := by rw [IntKind.wrap_i64]; omega
  have d1 : decide ((n : Int) ≤ (l.length : Int) - k1) = true := by simp; omega
  have d2 : (n : Int) ≤ (l.length : Int) - k1 := by omega
  have HSu := Lib.hid (fun (W : World) (hs : Sc W p l k1) => sub_ok hs n hm)
  clear hN hi h v0 v1 hm
  go_enter Tryd.func106, Tryd.ntmps106
  go_wp2_with (first
    | (go_at_call 52; go_must ((with_reducible refine HN.out.mono ?_); rintro e w1 ⟨rfl, hs, hg⟩; have HS := Lib.hid hs; have HG := Lib.hid hg; clear hs hg))
    | (go_at_call 47; go_must ((with_reducible refine (at_any HS.out).mono ?_); rintro e w2 ⟨rfl, rfl⟩))
    | (go_at_call 84; go_must ((with_reducible refine (left_any HS.out).mono ?_); rintro e w2 ⟨rfl, m, rfl⟩))
    | (go_at_call 48; go_must ((with_reducible refine (unlessT _ _ _).mono ?_); rintro e w' ⟨rfl, rfl⟩))
    | (go_at_call 126; go_must ((with_reducible refine (HSu.out _ (HS.out.drewN m)).mono ?_); rintro e w3 ⟨q, rfl, hq, hs1, hs2, hg2⟩; have HQ := Lib.hid hq; have HS1 := Lib.hid hs1; have HS2 := Lib.hid hs2; have HG2 := Lib.hid (gb_trans (gb_drewN HG.out m) hg2); clear hq hs1 hs2 hg2)))
  go_ret2
  exact ⟨q, rfl, Nat.le_trans HG.out.size HQ.out, HS1.out, HS2.out, HG2.out⟩

/-- What the closure of a Whole leaves behind: T, of a world that was there ahead of it. -/
def WRead (T : Nat → World → Prop) (q X : Nat) (part : List UInt8) (w : World) (e : Ending) (w' : World) : Prop :=
  e = .returned (.tuple #[]) ∧ T w.heap.size w' ∧ Sc w' q part part.length ∧ Gb2 w w' q X
theorem cfW1 (cap : Array Value) (w : World) : (callFunc 108 cap).run Tryd.prog w = .ok (.enter 108 cap) w := by kernel_rfl
set_option maxHeartbeats 2000000 in
/-- Whole's own closure: the reader, and the part's end. -/
theorem wclos_w {w : World} {R P q X : Nat} {part : List UInt8} {g : FuncId} {T : Nat → World → Prop} (hcf : ∀ (a : Array Value) (w : World), (callFunc g a).run Tryd.prog w = .ok (.enter g a) w)
    (hR : Whole w R 89 #[.func (.func g) #[] #[.pointer (some ⟨X, 0, none⟩)]]) (hP : Whole w P 34 #[.pointer (some ⟨q, 0, none⟩)]) (hPq : P ≠ q ∧ P ≠ X)
    (hT : ∀ B W m, T B W → T B (W.drewN m))
    (hread : Calls Tryd.prog g #[.pointer (some ⟨q, 0, none⟩), .pointer (some ⟨X, 0, none⟩)] w (WRead T q X part w)) :
    Calls Tryd.prog 108 #[.pointer (some ⟨R, 0, none⟩), .pointer (some ⟨P, 0, none⟩)] w (WRead T q X part w) := by
  have c0 := hR.cell 0
  have c1 := hP.cell 0
  simp only [List.getElem?_toArray, List.getElem?_cons_zero] at c0 c1
  have HP := Lib.hid hP
  have HT := Lib.hid hT
  have HH := Lib.hid hread
  clear hR hP hread hT
  go_enter Tryd.func108, Tryd.ntmps108
  go_wp2_with fail
  refine HH.out.mono ?_
  rintro e w1 ⟨rfl, ht, hs, hg⟩
  have c2 := (hg.whole HP.out hPq.1 hPq.2).cell 0
  simp only [List.getElem?_toArray, List.getElem?_cons_zero] at c2
  have HT1 := Lib.hid ht
  have HS1 := Lib.hid hs
  have HG1 := Lib.hid hg
  have HEn := Lib.hid (end_ok hs)
  clear ht hs hg c0 c1
  go_wp2_with (go_at_call 94; go_must ((with_reducible refine HEn.out.mono ?_); rintro e w2 ⟨rfl, m, rfl⟩))
  go_end0
  exact ⟨rfl, HT.out _ _ _ HT1.out, HS1.out.drewN m, HG1.out.trans (.left (gb_drewN (gb_refl _ _) m))⟩
set_option maxHeartbeats 4000000 in
/-- A part that is read to its end. -/
theorem whole_w {w : World} {p X : Nat} {l part : List UInt8} {k n k1 : Nat} (g : FuncId) (T : Nat → World → Prop) (h : Sc w p l k) (hi : indexR l k = .ok (n : Int) k1) (hm : k1 + n ≤ l.length) (hl : l.length ≤ 1000000)
    (hpt : (l.drop k1).take n = part) (hpX : p < X) (hX : X < w.heap.size)
    (hcf : ∀ (a : Array Value) (w : World), (callFunc g a).run Tryd.prog w = .ok (.enter g a) w)
    (hT : ∀ B W W' b, T B W → W.grownBy W' (some b) → w.heap.size ≤ b → b < B → T B W') (hTd : ∀ B W m, T B W → T B (W.drewN m))
    (hread : ∀ W q, w.grownBy W (some p) → w.heap.size ≤ q → Sc W q part 0 → Calls Tryd.prog g #[.pointer (some ⟨q, 0, none⟩), .pointer (some ⟨X, 0, none⟩)] W (WRead T q X part W)) :
    Calls Tryd.prog 86 #[.pointer (some ⟨p, 0, none⟩), .func (.func g) #[] #[.pointer (some ⟨X, 0, none⟩)]] w fun e w' =>
      e = .returned (.tuple #[]) ∧ (∃ B, w.heap.size ≤ B ∧ T B w') ∧ Sc w' p l (k1 + n) ∧ Gb2 w w' p X := by
  have hp := h.lt
  have HR0 := Lib.hid (Whole.made w 89 #[.func (.func g) #[] #[.pointer (some ⟨X, 0, none⟩)]])
  have hz0 : (w.alloc (.cells #[.func (.func g) #[] #[.pointer (some ⟨X, 0, none⟩)]] 89)).heap.size = w.heap.size + 1 := by simp
  have hPa := part_w (h.alloc (.cells #[.func (.func g) #[] #[.pointer (some ⟨X, 0, none⟩)]] 89)) hi hm
  unfold Parted at hPa
  rw [hpt] at hPa
  have HPa := Lib.hid hPa
  have HRd := Lib.hid hread
  have HT := Lib.hid hT
  have hk1 : k1 ≤ 1000000 := by omega
  have hpl : part.length ≤ 1000000 := by rw [← hpt, List.length_take, List.length_drop]; omega
  obtain ⟨kn, hkn⟩ : ∃ kn, kn = k1 + n := ⟨_, rfl⟩
  rw [← hkn] at HPa ⊢
  have HCF := Lib.hid hcf
  have G0 := Lib.hid (gb_alloc (gb_refl w (some p)) (.cells #[.func (.func g) #[] #[.pointer (some ⟨X, 0, none⟩)]] 89))
  clear h hi hm hl hpt hread hT hPa hkn hcf
  go_enter Tryd.func86, Tryd.ntmps86
  go_wp2_with (go_at_call 106; go_must ((with_reducible refine HPa.out.mono ?_); intro e w2 hq; obtain ⟨q, rfl, hq, hs1, hs2, hg⟩ := hq; have HQ := Lib.hid hq; have HS1 := Lib.hid hs1; have HS2 := Lib.hid hs2; have HR2 := Lib.hid (HR0.out.grown hg (by simp only [ne_eq, Option.some.injEq]; omega)); have HG2 := Lib.hid (gb_trans G0.out hg); clear hq hs1 hs2 hg))
  have hqz : q < w2.heap.size := HS1.out.lt
  have hqw : w.heap.size < q := by have := HQ.out; omega
  have hb1 := below_box w2 (.cells #[.pointer (some ⟨q, 0, none⟩)] 34)
  have HP3 := Lib.hid (Whole.made w2 34 #[.pointer (some ⟨q, 0, none⟩)])
  have HR3 := Lib.hid (HR2.out.below hb1)
  have HS13 := Lib.hid (HS1.out.below hb1)
  have HS23 := Lib.hid (HS2.out.below hb1)
  have HG3 := Lib.hid (gb_trans HG2.out (gb_of_below (some p) hb1))
  have hz3 : (w2.alloc (.cells #[.pointer (some ⟨q, 0, none⟩)] 34)).heap.size = w2.heap.size + 1 := by simp
  clear HPa HR2 HS1 HS2 HG2 hb1
  generalize w2.alloc (.cells #[.pointer (some ⟨q, 0, none⟩)] 34) = W at *
  have hbb := below_box W (.cells #[.int .i64 0, .int .i64 0] 37)
  have hz4 : (W.alloc (.cells #[.int .i64 0, .int .i64 0] 37)).heap.size = W.heap.size + 1 := by simp
  have HSt := Lib.hid (Whole.made W 37 #[.int .i64 0, .int .i64 0])
  have hcl := wclos_w (T := T) HCF.out (HR3.out.below hbb) (HP3.out.below hbb) ⟨by omega, by omega⟩ hTd (HRd.out _ q (gb_trans HG3.out (gb_of_below (some p) hbb)) (by omega) (HS13.out.below hbb))
  have hwi := within_any _ _ 0 0 k1 W (fun w1 => WRead T q X part (W.alloc (.cells #[.int .i64 0, .int .i64 0] 37)) (.returned (.tuple #[])) w1) (cfW1 _) (hcl.mono (by
    rintro e w1 ⟨rfl, h2⟩
    exact ⟨.inl ⟨rfl, rfl, rfl⟩, rfl, h2⟩)) (fun w1 ⟨_, _, _, hg⟩ => hg.whole HSt.out (by omega) (by omega)) (by omega) (by omega) (by omega) (by omega)
  refine hwi.mono ?_
  rintro e w3 ⟨he, w1, ⟨_, ht, hs, hg⟩, hg3⟩
  rcases he with ⟨_, _, rfl⟩ | ⟨h0, _⟩
  · go_wp2_with fail
    go_end0
    have hg4 := Gb2.before (.left (gb_trans HG3.out (gb_of_below (some p) hbb))) hg (by omega)
    refine ⟨rfl, ⟨_, by omega, HT.out _ _ _ W.heap.size ht hg3 (by omega) (by omega)⟩, ?_, hg4.new hg3 (by omega)⟩
    exact ((hg.sc (HS23.out.below hbb) (by omega) hpX)).grown hg3 (by simp only [ne_eq, Option.some.injEq]; omega) (fun g e => by injection e with e; omega)
  · exact absurd rfl h0
end Go.Proofs.YtihpnplfklbgjaaDoor
