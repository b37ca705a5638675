/- creelref09.Put, Head. -/
import Derived.Test.YtdogjinjbnlgdaaDoorQz11
import Derived.Test.YtdogjinjbnlgdaaDoorQz03
namespace Go.Proofs.YtdogjinjbnlgdaaDoor
open Go.RowKit
set_option linter.unusedVariables false
set_option maxRecDepth 100000

def rsecV (x : Sct) : Value := .agg #[.int .i64 x.id.toNat, .string (S x.name), .string (S x.body), .int .i64 0]
def rsecK (x : Sct) : Array Value := #[.int .i64 x.id.toNat, .string (S x.name), .string (S x.body), .int .i64 0]
/-- A string handed back. -/
def Strs (l : List UInt8) (w : World) (e : Ending) (w' : World) : Prop := e = .returned (.string (S l)) ∧ Below w.heap.size w w'
/-- string(b), behind the walk's own simplifying. -/
theorem upon_str {o : Oper} {a : Act} {K : Act → World → Prop} {Q : Exit → Act → World → Prop} {W : World} {A : Option Addr} {c : Nat} {l : List UInt8} (hp : Pc A c l W) (h : K (a.put o.dst (.string (S l))) W) :
    Oper.upon Tryd.prog o a K Q (((convert 31 9 (.slice A l.length c)).run Tryd.prog W).andThen fun v w' => Result.ok (Next.value v) w') := by
  rw [str_any hp.lies c 9 Tryd.underlying9]
  exact h
theorem cat3 (a b c : List UInt8) : S a ++ S b ++ S c = S (a ++ b ++ c) := by rw [S_append, S_append]
end Go.Proofs.YtdogjinjbnlgdaaDoor

/- creelref10.Count, name, check. (By gen/genRef.py.) -/
namespace Go.Proofs.YtdogjinjbnlgdaaDoor
open Go.RowKit Go.Lib
set_option linter.unusedVariables false
set_option maxRecDepth 100000

theorem rcount_im (n : Nat) (w : World) (hn : n ≤ 1000000) : Calls Tryd.prog 17 #[.int .i64 n] w (Strs (lebL n) w) := by
  have HC := Lib.hid (fun w => count_any (n : Int) w (by omega) (by omega))
  generalize lebL (n : Int) = y at *
  go_enter Tryd.func17, Tryd.ntmps17
  go_wp2_with (go_at_call 43; go_must ((with_reducible refine (HC.out _).mono ?_); rintro e w1 ⟨rfl, hb⟩; have HB := Lib.hid hb; clear hb))
  go_ret
  exact ⟨rfl, HB.out⟩
theorem rname_im (s : List UInt8) (w : World) (hs : s.length ≤ 100000) : Calls Tryd.prog 42 #[.string (S s)] w (Strs (nmL s) w) := by
  have HC := Lib.hid (fun w => count_any (s.length : Int) w (by omega) (by omega))
  have hlen := lebL_len (s.length : Int) (by omega)
  have hsz := S_size s
  unfold nmL
  generalize lebL (s.length : Int) = y at *
  have HA := Lib.hid (S_append y s)
  have sy := S_size y
  have q1 : ¬ 9223372036854775807 < (S y).size + s.length := by omega
  clear sy hlen
  go_enter Tryd.func42, Tryd.ntmps42
  go_wp2_with (go_at_call 43; go_must ((with_reducible refine (HC.out _).mono ?_); rintro e w1 ⟨rfl, hb⟩; have HB := Lib.hid hb; clear hb))
  go_ret
  exact ⟨congrArg (fun b => Ending.returned (Value.string b)) HA.out, HB.out⟩
theorem rcheck_im (s : List UInt8) (w : World) (hs : s.length ≤ 1000000) : Calls Tryd.prog 25 #[.string (S s)] w fun e w' => e = .returned (.int .i64 (checkZ s)) ∧ Below w.heap.size w w' := by
  have hsz := S_size s
  by_cases h2 : 200 < s.length
  · have e : checkZ s = 13 := by unfold checkZ; rw [if_pos h2]
    rw [e]
    have hs2 : (200 : Int) < (s.length : Int) := by omega
    clear e h2
    go_enter Tryd.func25, Tryd.ntmps25
    go_wp2
    go_ret
    exact ⟨rfl, Below.refl _ _⟩
  · have hd : decide ((200 : Int) < (s.length : Int)) = false := decide_eq_false (by omega)
    have HC := Lib.hid (fun w => refCount_any s w hs)
    by_cases hv : validD s = true
    · have e : checkZ s = 0 := by unfold checkZ; rw [if_neg h2, if_pos hv]
      rw [e]
      have hc : countZ s = (runeCountL s : Int) := by unfold countZ; rw [if_pos hv]
      have hd2 : decide (countZ s < 0) = false := decide_eq_false (by rw [hc]; omega)
      clear e h2 hv hc
      generalize countZ s = z at *
      go_enter Tryd.func25, Tryd.ntmps25
      go_wp2_with (go_at_call 50; go_must ((with_reducible refine (HC.out _).mono ?_); rintro e w1 ⟨rfl, hb⟩; have HB := Lib.hid hb; clear hb))
      go_ret
      exact ⟨rfl, HB.out⟩
    · have e : checkZ s = 4 := by unfold checkZ; rw [if_neg h2, if_neg hv]
      rw [e]
      have hc : countZ s = -1 := by unfold countZ; rw [if_neg hv]
      have hd2 : decide (countZ s < 0) = true := decide_eq_true (by rw [hc]; omega)
      clear e h2 hv hc
      generalize countZ s = z at *
      go_enter Tryd.func25, Tryd.ntmps25
      go_wp2_with (go_at_call 50; go_must ((with_reducible refine (HC.out _).mono ?_); rintro e w1 ⟨rfl, hb⟩; have HB := Lib.hid hb; clear hb))
      go_ret
      exact ⟨rfl, HB.out⟩
end Go.Proofs.YtdogjinjbnlgdaaDoor

/- creelref10.Right. (By gen/genRef.py.) -/
namespace Go.Proofs.YtdogjinjbnlgdaaDoor
open Go.RowKit Go.Lib
set_option linter.unusedVariables false
set_option maxRecDepth 100000

theorem z32 {a : UInt32} : ((a.toNat : Int) = 0) ↔ a = 0 := ⟨fun h => i32_of (b := 0) h, fun h => by subst h; rfl⟩
theorem z8 {a : UInt8} : ((a.toNat : Int) = 0) ↔ a = 0 := ⟨fun h => i8_of (b := 0) h, fun h => by subst h; rfl⟩
theorem neq_lim (a b : UInt32) (c : Bool) (w : World) : (binOp BinOp.neq 24 (.agg #[.int .u32 a.toNat, .int .u32 b.toNat, .bool c]) (.agg #[.int .u32 0, .int .u32 0, .bool false])).run Tryd.prog w = .ok (.bool (!decide (a = 0 ∧ b = 0 ∧ c = false))) w := by
  by_cases h1 : a = 0
  · have e1 := z32.2 h1
    by_cases h2 : b = 0
    · have e2 := z32.2 h2
      cases c
      · rw [decide_eq_true ⟨h1, h2, rfl⟩]
        clear h1 h2
        go_simp
      · rw [decide_eq_false (fun h => by cases h.2.2)]
        clear h1 h2
        go_simp
    · have e2 : ¬ (b.toNat : Int) = 0 := fun h => h2 (z32.1 h)
      rw [decide_eq_false (fun h => h2 h.2.1)]
      clear h1 h2
      go_simp
      intro q; omega
  · have e1 : ¬ (a.toNat : Int) = 0 := fun h => h1 (z32.1 h)
    rw [decide_eq_false (fun h => h1 h.1)]
    clear h1
    go_simp
    intro q; omega
theorem neq_glo (a : UInt8) (c : Bool) (w : World) : (binOp BinOp.neq 26 (.agg #[.int .u8 a.toNat, .bool c]) (.agg #[.int .u8 0, .bool false])).run Tryd.prog w = .ok (.bool (!decide (a = 0 ∧ c = false))) w := by
  by_cases h1 : a = 0
  · have e1 := z8.2 h1
    cases c
    · rw [decide_eq_true ⟨h1, rfl⟩]
      clear h1
      go_simp
    · rw [decide_eq_false (fun h => by cases h.2)]
      clear h1
      go_simp
  · have e1 : ¬ (a.toNat : Int) = 0 := fun h => h1 (z8.1 h)
    rw [decide_eq_false (fun h => h1 h.1)]
    clear h1
    go_simp
    intro q; omega
theorem ofK_0 {x : Im} (h : x.kind.toNat = 0) : x = ofK x ↔ (x.mn = 0 ∧ x.mx = 0 ∧ x.bd = false) ∧ x.gt = 0 ∧ x.gm = false := by
  unfold ofK
  rw [if_pos h]
  cases x
  simp [and_assoc]
theorem ofK_1 {x : Im} (h0 : ¬ x.kind.toNat = 0) (h : x.kind.toNat = 1 ∨ x.kind.toNat = 2) : x = ofK x ↔ x.typ = 0 ∧ x.gt = 0 ∧ x.gm = false := by
  unfold ofK
  rw [if_neg h0, if_pos h]
  cases x
  simp
theorem ofK_3 {x : Im} (h0 : x.kind.toNat = 3) : x = ofK x ↔ x.typ = 0 ∧ (x.mn = 0 ∧ x.mx = 0 ∧ x.bd = false) := by
  unfold ofK
  rw [if_neg (by omega), if_neg (by omega), if_pos h0]
  cases x
  simp
set_option maxHeartbeats 8000000 in
theorem rright_ok (x : Im) (w : World) (h1 : x.mod.length ≤ 1000000) (h2 : x.nam.length ≤ 1000000) (z1 : checkZ x.mod = 0) (z2 : checkZ x.nam = 0) (k3 : ¬ 3 < x.kind.toNat) :
    Calls Tryd.prog 7 #[imV x] w fun e w' => e = .returned (.int .i64 (rZ x)) ∧ Below w.heap.size w w' := by
  have HC1 := Lib.hid (rcheck_im x.mod (w.alloc (.cells (imC x) 28)) h1)
  have HC2 := Lib.hid (fun W => rcheck_im x.nam W h2)
  rw [z1] at HC1
  rw [z2] at HC2
  have H0 := Lib.hid (bx_start w x)
  have hr : rZ x = if x ≠ ofK x ∨ (x.bd = false ∧ x.mx.toNat ≠ 0) then 1 else if x.kind.toNat = 3 then valueZ x.gt.toNat else 0 := by
    unfold rZ; rw [if_neg (by simpa using z1), if_neg (by simpa using z2), if_neg k3]
  rw [hr]
  have d3 : decide ((3 : Int) < (x.kind.toNat : Int)) = false := decide_eq_false (by omega)
  have hml : ∀ {b : Bool}, decide (x.mn = 0 ∧ x.mx = 0 ∧ x.bd = false) = b → ∀ W, (binOp BinOp.neq 24 (.agg #[.int .u32 x.mn.toNat, .int .u32 x.mx.toNat, .bool x.bd]) (.agg #[.int .u32 0, .int .u32 0, .bool false])).run Tryd.prog W = .ok (.bool (!b)) W := fun h W => by rw [neq_lim, h]
  have hmg : ∀ {b : Bool}, decide (x.gt = 0 ∧ x.gm = false) = b → ∀ W, (binOp BinOp.neq 26 (.agg #[.int .u8 x.gt.toNat, .bool x.gm]) (.agg #[.int .u8 0, .bool false])).run Tryd.prog W = .ok (.bool (!b)) W := fun h W => by rw [neq_glo, h]
  have hz0 : ∀ W, (binOp BinOp.neq 24 (.agg #[.int .u32 0, .int .u32 0, .bool false]) (.agg #[.int .u32 0, .int .u32 0, .bool false])).run Tryd.prog W = .ok (.bool false) W := fun W => neq_lim 0 0 false W
  have hz1 : ∀ W, (binOp BinOp.neq 26 (.agg #[.int .u8 0, .bool false]) (.agg #[.int .u8 0, .bool false])).run Tryd.prog W = .ok (.bool false) W := fun W => neq_glo 0 false W
  clear z1 z2 h1 h2 hr
  by_cases q0 : x.kind.toNat = 0
  · have b0 : ((x.kind.toNat : Int) == 0) = true := be_of (by simp; omega)
    have b1 : ((x.kind.toNat : Int) == 1) = false := be_of (by simp; omega)
    have b2 : ((x.kind.toNat : Int) == 2) = false := be_of (by simp; omega)
    have b3 : ((x.kind.toNat : Int) == 3) = false := be_of (by simp; omega)
    have ho := ofK_0 q0
    by_cases eL : x.mn = 0 ∧ x.mx = 0 ∧ x.bd = false
    · have hL : ∀ W, _ := hml (decide_eq_true eL)
      by_cases eG : x.gt = 0 ∧ x.gm = false
      · have hG : ∀ W, _ := hmg (decide_eq_true eG)
        rw [if_neg (fun h => h.elim (fun h => h (ho.2 ⟨eL, eG⟩)) (fun h => h.2 (by rw [eL.2.1]; rfl))), if_neg (by omega)]
        have hm : ((x.mx.toNat : Int) != 0) = false := nb_of (by rw [eL.2.1]; rfl)
        have HBD := eL.2.2
        have HBE := Lib.hid HBD
        clear HBD eL eG ho q0 k3 hml hmg
        go_enter Tryd.func7, Tryd.ntmps7
        go_wp2_with (first
          | (go_at_call 25; go_must (first
            | ((with_reducible refine HC1.out.mono ?_); rintro e w1 ⟨rfl, hb⟩; have H1 := Lib.hid (bx_on H0.out hb); have k1 := H1.out.1.1.cell 1; simp only [List.getElem?_toArray, List.getElem?_cons_zero, List.getElem?_cons_succ] at k1; clear hb)
            | ((with_reducible refine (HC2.out _).mono ?_); rintro e w2 ⟨rfl, hb⟩; have H2 := Lib.hid (bx_on H1.out hb); clear hb k1; obtain ⟨c0, c1, c2, c3, c4, c5, c6, c7, c8⟩ := H2.out.1.1.im; have a2 : ∀ o, (w2.alloc o).cell? ⟨w.heap.size, 2, none⟩ = some (.int .u8 x.kind.toNat) := (fun o => (H2.out.1.1.alloc o).cell 2); have a5 : ∀ o, (w2.alloc o).cell? ⟨w.heap.size, 5, none⟩ = some (.int .u32 x.mx.toNat) := (fun o => (H2.out.1.1.alloc o).cell 5); have a6 : ∀ o, (w2.alloc o).cell? ⟨w.heap.size, 6, none⟩ = some (.bool x.bd) := (fun o => (H2.out.1.1.alloc o).cell 6); have a7 : ∀ o, (w2.alloc o).cell? ⟨w.heap.size, 7, none⟩ = some (.int .u8 x.gt.toNat) := (fun o => (H2.out.1.1.alloc o).cell 7)))))
        all_goals
          go_ret
          exact ⟨rfl, (bx_bel H2.out).alloc (bx_bel H2.out).size _⟩
      · have hG : ∀ W, _ := hmg (decide_eq_false eG)
        rw [if_pos (.inl (fun h => eG (ho.1 h).2))]
        clear eL eG ho q0 k3 hml hmg
        go_enter Tryd.func7, Tryd.ntmps7
        go_wp2_with (first
          | (go_at_call 25; go_must (first
            | ((with_reducible refine HC1.out.mono ?_); rintro e w1 ⟨rfl, hb⟩; have H1 := Lib.hid (bx_on H0.out hb); have k1 := H1.out.1.1.cell 1; simp only [List.getElem?_toArray, List.getElem?_cons_zero, List.getElem?_cons_succ] at k1; clear hb)
            | ((with_reducible refine (HC2.out _).mono ?_); rintro e w2 ⟨rfl, hb⟩; have H2 := Lib.hid (bx_on H1.out hb); clear hb k1; obtain ⟨c0, c1, c2, c3, c4, c5, c6, c7, c8⟩ := H2.out.1.1.im; have a2 : ∀ o, (w2.alloc o).cell? ⟨w.heap.size, 2, none⟩ = some (.int .u8 x.kind.toNat) := (fun o => (H2.out.1.1.alloc o).cell 2); have a5 : ∀ o, (w2.alloc o).cell? ⟨w.heap.size, 5, none⟩ = some (.int .u32 x.mx.toNat) := (fun o => (H2.out.1.1.alloc o).cell 5); have a6 : ∀ o, (w2.alloc o).cell? ⟨w.heap.size, 6, none⟩ = some (.bool x.bd) := (fun o => (H2.out.1.1.alloc o).cell 6); have a7 : ∀ o, (w2.alloc o).cell? ⟨w.heap.size, 7, none⟩ = some (.int .u8 x.gt.toNat) := (fun o => (H2.out.1.1.alloc o).cell 7)))))
        all_goals
          go_ret
          exact ⟨rfl, (bx_bel H2.out).alloc (bx_bel H2.out).size _⟩
    · have hL : ∀ W, _ := hml (decide_eq_false eL)
      rw [if_pos (.inl (fun h => eL (ho.1 h).1))]
      clear eL ho q0 k3 hml hmg
      go_enter Tryd.func7, Tryd.ntmps7
      go_wp2_with (first
        | (go_at_call 25; go_must (first
          | ((with_reducible refine HC1.out.mono ?_); rintro e w1 ⟨rfl, hb⟩; have H1 := Lib.hid (bx_on H0.out hb); have k1 := H1.out.1.1.cell 1; simp only [List.getElem?_toArray, List.getElem?_cons_zero, List.getElem?_cons_succ] at k1; clear hb)
          | ((with_reducible refine (HC2.out _).mono ?_); rintro e w2 ⟨rfl, hb⟩; have H2 := Lib.hid (bx_on H1.out hb); clear hb k1; obtain ⟨c0, c1, c2, c3, c4, c5, c6, c7, c8⟩ := H2.out.1.1.im; have a2 : ∀ o, (w2.alloc o).cell? ⟨w.heap.size, 2, none⟩ = some (.int .u8 x.kind.toNat) := (fun o => (H2.out.1.1.alloc o).cell 2); have a5 : ∀ o, (w2.alloc o).cell? ⟨w.heap.size, 5, none⟩ = some (.int .u32 x.mx.toNat) := (fun o => (H2.out.1.1.alloc o).cell 5); have a6 : ∀ o, (w2.alloc o).cell? ⟨w.heap.size, 6, none⟩ = some (.bool x.bd) := (fun o => (H2.out.1.1.alloc o).cell 6); have a7 : ∀ o, (w2.alloc o).cell? ⟨w.heap.size, 7, none⟩ = some (.int .u8 x.gt.toNat) := (fun o => (H2.out.1.1.alloc o).cell 7)))))
      all_goals
        go_ret
        exact ⟨rfl, (bx_bel H2.out).alloc (bx_bel H2.out).size _⟩
  have b0 : ((x.kind.toNat : Int) == 0) = false := be_of (by simp; omega)
  by_cases q3 : x.kind.toNat = 3
  · have b1 : ((x.kind.toNat : Int) == 1) = false := be_of (by simp; omega)
    have b2 : ((x.kind.toNat : Int) == 2) = false := be_of (by simp; omega)
    have b3 : ((x.kind.toNat : Int) == 3) = true := be_of (by simp; omega)
    have ho := ofK_3 q3
    by_cases eT : x.typ = 0
    · have hty : ((x.typ.toNat : Int) != 0) = false := nb_of (by rw [eT]; rfl)
      by_cases eL : x.mn = 0 ∧ x.mx = 0 ∧ x.bd = false
      · have hL : ∀ W, _ := hml (decide_eq_true eL)
        rw [if_neg (fun h => h.elim (fun h => h (ho.2 ⟨eT, eL⟩)) (fun h => h.2 (by rw [eL.2.1]; rfl))), if_pos q3]
        have hm : ((x.mx.toNat : Int) != 0) = false := nb_of (by rw [eL.2.1]; rfl)
        have HV := Lib.hid (fun W => refValue_any (x.gt.toNat : Int) W)
        have wg : wrap64 (x.gt.toNat : Int) = x.gt.toNat := by have := u8_le x.gt; unfold wrap64; omega
        clear eL eT ho q0 q3 k3 hml hmg
        go_enter Tryd.func7, Tryd.ntmps7
        go_wp2_with (first
          | (go_at_call 26; go_must ((with_reducible refine (HV.out _).mono ?_); rintro e w4 ⟨rfl, rfl⟩))
          | (go_at_call 25; go_must (first
            | ((with_reducible refine HC1.out.mono ?_); rintro e w1 ⟨rfl, hb⟩; have H1 := Lib.hid (bx_on H0.out hb); have k1 := H1.out.1.1.cell 1; simp only [List.getElem?_toArray, List.getElem?_cons_zero, List.getElem?_cons_succ] at k1; clear hb)
            | ((with_reducible refine (HC2.out _).mono ?_); rintro e w2 ⟨rfl, hb⟩; have H2 := Lib.hid (bx_on H1.out hb); clear hb k1; obtain ⟨c0, c1, c2, c3, c4, c5, c6, c7, c8⟩ := H2.out.1.1.im; have a2 : ∀ o, (w2.alloc o).cell? ⟨w.heap.size, 2, none⟩ = some (.int .u8 x.kind.toNat) := (fun o => (H2.out.1.1.alloc o).cell 2); have a5 : ∀ o, (w2.alloc o).cell? ⟨w.heap.size, 5, none⟩ = some (.int .u32 x.mx.toNat) := (fun o => (H2.out.1.1.alloc o).cell 5); have a6 : ∀ o, (w2.alloc o).cell? ⟨w.heap.size, 6, none⟩ = some (.bool x.bd) := (fun o => (H2.out.1.1.alloc o).cell 6); have a7 : ∀ o, (w2.alloc o).cell? ⟨w.heap.size, 7, none⟩ = some (.int .u8 x.gt.toNat) := (fun o => (H2.out.1.1.alloc o).cell 7)))))
        all_goals
          go_ret
          exact ⟨rfl, (bx_bel H2.out).alloc (bx_bel H2.out).size _⟩
      · have hL : ∀ W, _ := hml (decide_eq_false eL)
        rw [if_pos (.inl (fun h => eL (ho.1 h).2))]
        clear eL eT ho q0 q3 k3 hml hmg
        go_enter Tryd.func7, Tryd.ntmps7
        go_wp2_with (first
          | (go_at_call 25; go_must (first
            | ((with_reducible refine HC1.out.mono ?_); rintro e w1 ⟨rfl, hb⟩; have H1 := Lib.hid (bx_on H0.out hb); have k1 := H1.out.1.1.cell 1; simp only [List.getElem?_toArray, List.getElem?_cons_zero, List.getElem?_cons_succ] at k1; clear hb)
            | ((with_reducible refine (HC2.out _).mono ?_); rintro e w2 ⟨rfl, hb⟩; have H2 := Lib.hid (bx_on H1.out hb); clear hb k1; obtain ⟨c0, c1, c2, c3, c4, c5, c6, c7, c8⟩ := H2.out.1.1.im; have a2 : ∀ o, (w2.alloc o).cell? ⟨w.heap.size, 2, none⟩ = some (.int .u8 x.kind.toNat) := (fun o => (H2.out.1.1.alloc o).cell 2); have a5 : ∀ o, (w2.alloc o).cell? ⟨w.heap.size, 5, none⟩ = some (.int .u32 x.mx.toNat) := (fun o => (H2.out.1.1.alloc o).cell 5); have a6 : ∀ o, (w2.alloc o).cell? ⟨w.heap.size, 6, none⟩ = some (.bool x.bd) := (fun o => (H2.out.1.1.alloc o).cell 6); have a7 : ∀ o, (w2.alloc o).cell? ⟨w.heap.size, 7, none⟩ = some (.int .u8 x.gt.toNat) := (fun o => (H2.out.1.1.alloc o).cell 7)))))
        all_goals
          go_ret
          exact ⟨rfl, (bx_bel H2.out).alloc (bx_bel H2.out).size _⟩
    · have hty : ((x.typ.toNat : Int) != 0) = true := nb_of (by simp; exact fun h => eT (z32.1 (by omega)))
      rw [if_pos (.inl (fun h => eT (ho.1 h).1))]
      clear eT ho q0 q3 k3 hml hmg
      go_enter Tryd.func7, Tryd.ntmps7
      go_wp2_with (first
        | (go_at_call 25; go_must (first
          | ((with_reducible refine HC1.out.mono ?_); rintro e w1 ⟨rfl, hb⟩; have H1 := Lib.hid (bx_on H0.out hb); have k1 := H1.out.1.1.cell 1; simp only [List.getElem?_toArray, List.getElem?_cons_zero, List.getElem?_cons_succ] at k1; clear hb)
          | ((with_reducible refine (HC2.out _).mono ?_); rintro e w2 ⟨rfl, hb⟩; have H2 := Lib.hid (bx_on H1.out hb); clear hb k1; obtain ⟨c0, c1, c2, c3, c4, c5, c6, c7, c8⟩ := H2.out.1.1.im; have a2 : ∀ o, (w2.alloc o).cell? ⟨w.heap.size, 2, none⟩ = some (.int .u8 x.kind.toNat) := (fun o => (H2.out.1.1.alloc o).cell 2); have a5 : ∀ o, (w2.alloc o).cell? ⟨w.heap.size, 5, none⟩ = some (.int .u32 x.mx.toNat) := (fun o => (H2.out.1.1.alloc o).cell 5); have a6 : ∀ o, (w2.alloc o).cell? ⟨w.heap.size, 6, none⟩ = some (.bool x.bd) := (fun o => (H2.out.1.1.alloc o).cell 6); have a7 : ∀ o, (w2.alloc o).cell? ⟨w.heap.size, 7, none⟩ = some (.int .u8 x.gt.toNat) := (fun o => (H2.out.1.1.alloc o).cell 7)))))
      all_goals
        go_ret
        exact ⟨rfl, (bx_bel H2.out).alloc (bx_bel H2.out).size _⟩
  have b3 : ((x.kind.toNat : Int) == 3) = false := be_of (by simp; omega)
  have q12 : x.kind.toNat = 1 ∨ x.kind.toNat = 2 := by omega
  have hb1 : ∃ b1 b2, ((x.kind.toNat : Int) == 1) = b1 ∧ ((x.kind.toNat : Int) == 2) = b2 ∧ (b1 = true ∨ (b1 = false ∧ b2 = true)) := by
    rcases q12 with q | q
    · exact ⟨true, false, be_of (by simp; omega), be_of (by simp; omega), .inl rfl⟩
    · exact ⟨false, true, be_of (by simp; omega), be_of (by simp; omega), .inr ⟨rfl, rfl⟩⟩
  have ho := ofK_1 q0 q12
  clear q12
  obtain ⟨k1, k2, b1, b2, hk12⟩ := hb1
  have hf : ∀ (P : Prop) [Decidable P] (h : ¬ P), (if x ≠ ofK x ∨ (x.bd = false ∧ x.mx.toNat ≠ 0) then (1 : Int) else if x.kind.toNat = 3 then valueZ x.gt.toNat else 0) = if x ≠ ofK x ∨ (x.bd = false ∧ x.mx.toNat ≠ 0) then 1 else 0 := fun P _ h => by rw [if_neg q3]
  rw [hf False id]
  clear hf
  by_cases eT : x.typ = 0
  · have hty : ((x.typ.toNat : Int) != 0) = false := nb_of (by rw [eT]; rfl)
    by_cases eG : x.gt = 0 ∧ x.gm = false
    · have hG : ∀ W, _ := hmg (decide_eq_true eG)
      by_cases eB : x.bd = false
      · by_cases eM : x.mx.toNat = 0
        · rw [if_neg (fun h => h.elim (fun h => h (ho.2 ⟨eT, eG⟩)) (fun h => h.2 eM))]
          have hm : ((x.mx.toNat : Int) != 0) = false := nb_of (by simp; omega)
          have HBD := Lib.hid eB
          clear eB eM eG eT ho q0 q3 k3 hml hmg
          rcases hk12 with rfl | ⟨rfl, rfl⟩
          · go_enter Tryd.func7, Tryd.ntmps7
            go_wp2_with (first
              | (go_at_call 25; go_must (first
                | ((with_reducible refine HC1.out.mono ?_); rintro e w1 ⟨rfl, hb⟩; have H1 := Lib.hid (bx_on H0.out hb); have k1 := H1.out.1.1.cell 1; simp only [List.getElem?_toArray, List.getElem?_cons_zero, List.getElem?_cons_succ] at k1; clear hb)
                | ((with_reducible refine (HC2.out _).mono ?_); rintro e w2 ⟨rfl, hb⟩; have H2 := Lib.hid (bx_on H1.out hb); clear hb k1; obtain ⟨c0, c1, c2, c3, c4, c5, c6, c7, c8⟩ := H2.out.1.1.im; have a2 : ∀ o, (w2.alloc o).cell? ⟨w.heap.size, 2, none⟩ = some (.int .u8 x.kind.toNat) := (fun o => (H2.out.1.1.alloc o).cell 2); have a5 : ∀ o, (w2.alloc o).cell? ⟨w.heap.size, 5, none⟩ = some (.int .u32 x.mx.toNat) := (fun o => (H2.out.1.1.alloc o).cell 5); have a6 : ∀ o, (w2.alloc o).cell? ⟨w.heap.size, 6, none⟩ = some (.bool x.bd) := (fun o => (H2.out.1.1.alloc o).cell 6); have a7 : ∀ o, (w2.alloc o).cell? ⟨w.heap.size, 7, none⟩ = some (.int .u8 x.gt.toNat) := (fun o => (H2.out.1.1.alloc o).cell 7); have hbd := HBD.out))))
            all_goals
              go_ret
              exact ⟨rfl, (bx_bel H2.out).alloc (bx_bel H2.out).size _⟩
          · go_enter Tryd.func7, Tryd.ntmps7
            go_wp2_with (first
              | (go_at_call 25; go_must (first
                | ((with_reducible refine HC1.out.mono ?_); rintro e w1 ⟨rfl, hb⟩; have H1 := Lib.hid (bx_on H0.out hb); have k1 := H1.out.1.1.cell 1; simp only [List.getElem?_toArray, List.getElem?_cons_zero, List.getElem?_cons_succ] at k1; clear hb)
                | ((with_reducible refine (HC2.out _).mono ?_); rintro e w2 ⟨rfl, hb⟩; have H2 := Lib.hid (bx_on H1.out hb); clear hb k1; obtain ⟨c0, c1, c2, c3, c4, c5, c6, c7, c8⟩ := H2.out.1.1.im; have a2 : ∀ o, (w2.alloc o).cell? ⟨w.heap.size, 2, none⟩ = some (.int .u8 x.kind.toNat) := (fun o => (H2.out.1.1.alloc o).cell 2); have a5 : ∀ o, (w2.alloc o).cell? ⟨w.heap.size, 5, none⟩ = some (.int .u32 x.mx.toNat) := (fun o => (H2.out.1.1.alloc o).cell 5); have a6 : ∀ o, (w2.alloc o).cell? ⟨w.heap.size, 6, none⟩ = some (.bool x.bd) := (fun o => (H2.out.1.1.alloc o).cell 6); have a7 : ∀ o, (w2.alloc o).cell? ⟨w.heap.size, 7, none⟩ = some (.int .u8 x.gt.toNat) := (fun o => (H2.out.1.1.alloc o).cell 7); have hbd := HBD.out))))
            all_goals
              go_ret
              exact ⟨rfl, (bx_bel H2.out).alloc (bx_bel H2.out).size _⟩
        · rw [if_pos (.inr ⟨eB, eM⟩)]
          have hm : ((x.mx.toNat : Int) != 0) = true := nb_of (by simp; omega)
          have HBD := Lib.hid eB
          clear eB eM eG eT ho q0 q3 k3 hml hmg
          rcases hk12 with rfl | ⟨rfl, rfl⟩
          · go_enter Tryd.func7, Tryd.ntmps7
            go_wp2_with (first
              | (go_at_call 25; go_must (first
                | ((with_reducible refine HC1.out.mono ?_); rintro e w1 ⟨rfl, hb⟩; have H1 := Lib.hid (bx_on H0.out hb); have k1 := H1.out.1.1.cell 1; simp only [List.getElem?_toArray, List.getElem?_cons_zero, List.getElem?_cons_succ] at k1; clear hb)
                | ((with_reducible refine (HC2.out _).mono ?_); rintro e w2 ⟨rfl, hb⟩; have H2 := Lib.hid (bx_on H1.out hb); clear hb k1; obtain ⟨c0, c1, c2, c3, c4, c5, c6, c7, c8⟩ := H2.out.1.1.im; have a2 : ∀ o, (w2.alloc o).cell? ⟨w.heap.size, 2, none⟩ = some (.int .u8 x.kind.toNat) := (fun o => (H2.out.1.1.alloc o).cell 2); have a5 : ∀ o, (w2.alloc o).cell? ⟨w.heap.size, 5, none⟩ = some (.int .u32 x.mx.toNat) := (fun o => (H2.out.1.1.alloc o).cell 5); have a6 : ∀ o, (w2.alloc o).cell? ⟨w.heap.size, 6, none⟩ = some (.bool x.bd) := (fun o => (H2.out.1.1.alloc o).cell 6); have a7 : ∀ o, (w2.alloc o).cell? ⟨w.heap.size, 7, none⟩ = some (.int .u8 x.gt.toNat) := (fun o => (H2.out.1.1.alloc o).cell 7); have hbd := HBD.out))))
            all_goals
              go_ret
              exact ⟨rfl, (bx_bel H2.out).alloc (bx_bel H2.out).size _⟩
          · go_enter Tryd.func7, Tryd.ntmps7
            go_wp2_with (first
              | (go_at_call 25; go_must (first
                | ((with_reducible refine HC1.out.mono ?_); rintro e w1 ⟨rfl, hb⟩; have H1 := Lib.hid (bx_on H0.out hb); have k1 := H1.out.1.1.cell 1; simp only [List.getElem?_toArray, List.getElem?_cons_zero, List.getElem?_cons_succ] at k1; clear hb)
                | ((with_reducible refine (HC2.out _).mono ?_); rintro e w2 ⟨rfl, hb⟩; have H2 := Lib.hid (bx_on H1.out hb); clear hb k1; obtain ⟨c0, c1, c2, c3, c4, c5, c6, c7, c8⟩ := H2.out.1.1.im; have a2 : ∀ o, (w2.alloc o).cell? ⟨w.heap.size, 2, none⟩ = some (.int .u8 x.kind.toNat) := (fun o => (H2.out.1.1.alloc o).cell 2); have a5 : ∀ o, (w2.alloc o).cell? ⟨w.heap.size, 5, none⟩ = some (.int .u32 x.mx.toNat) := (fun o => (H2.out.1.1.alloc o).cell 5); have a6 : ∀ o, (w2.alloc o).cell? ⟨w.heap.size, 6, none⟩ = some (.bool x.bd) := (fun o => (H2.out.1.1.alloc o).cell 6); have a7 : ∀ o, (w2.alloc o).cell? ⟨w.heap.size, 7, none⟩ = some (.int .u8 x.gt.toNat) := (fun o => (H2.out.1.1.alloc o).cell 7); have hbd := HBD.out))))
            all_goals
              go_ret
              exact ⟨rfl, (bx_bel H2.out).alloc (bx_bel H2.out).size _⟩
      · rw [if_neg (fun h => h.elim (fun h => h (ho.2 ⟨eT, eG⟩)) (fun h => eB h.1))]
        have HBD := Lib.hid (show x.bd = true by simpa using eB)
        clear eB eG eT ho q0 q3 k3 hml hmg
        rcases hk12 with rfl | ⟨rfl, rfl⟩
        · go_enter Tryd.func7, Tryd.ntmps7
          go_wp2_with (first
            | (go_at_call 25; go_must (first
              | ((with_reducible refine HC1.out.mono ?_); rintro e w1 ⟨rfl, hb⟩; have H1 := Lib.hid (bx_on H0.out hb); have k1 := H1.out.1.1.cell 1; simp only [List.getElem?_toArray, List.getElem?_cons_zero, List.getElem?_cons_succ] at k1; clear hb)
              | ((with_reducible refine (HC2.out _).mono ?_); rintro e w2 ⟨rfl, hb⟩; have H2 := Lib.hid (bx_on H1.out hb); clear hb k1; obtain ⟨c0, c1, c2, c3, c4, c5, c6, c7, c8⟩ := H2.out.1.1.im; have a2 : ∀ o, (w2.alloc o).cell? ⟨w.heap.size, 2, none⟩ = some (.int .u8 x.kind.toNat) := (fun o => (H2.out.1.1.alloc o).cell 2); have a5 : ∀ o, (w2.alloc o).cell? ⟨w.heap.size, 5, none⟩ = some (.int .u32 x.mx.toNat) := (fun o => (H2.out.1.1.alloc o).cell 5); have a6 : ∀ o, (w2.alloc o).cell? ⟨w.heap.size, 6, none⟩ = some (.bool x.bd) := (fun o => (H2.out.1.1.alloc o).cell 6); have a7 : ∀ o, (w2.alloc o).cell? ⟨w.heap.size, 7, none⟩ = some (.int .u8 x.gt.toNat) := (fun o => (H2.out.1.1.alloc o).cell 7); have hbd := HBD.out))))
          all_goals
            go_ret
            exact ⟨rfl, (bx_bel H2.out).alloc (bx_bel H2.out).size _⟩
        · go_enter Tryd.func7, Tryd.ntmps7
          go_wp2_with (first
            | (go_at_call 25; go_must (first
              | ((with_reducible refine HC1.out.mono ?_); rintro e w1 ⟨rfl, hb⟩; have H1 := Lib.hid (bx_on H0.out hb); have k1 := H1.out.1.1.cell 1; simp only [List.getElem?_toArray, List.getElem?_cons_zero, List.getElem?_cons_succ] at k1; clear hb)
              | ((with_reducible refine (HC2.out _).mono ?_); rintro e w2 ⟨rfl, hb⟩; have H2 := Lib.hid (bx_on H1.out hb); clear hb k1; obtain ⟨c0, c1, c2, c3, c4, c5, c6, c7, c8⟩ := H2.out.1.1.im; have a2 : ∀ o, (w2.alloc o).cell? ⟨w.heap.size, 2, none⟩ = some (.int .u8 x.kind.toNat) := (fun o => (H2.out.1.1.alloc o).cell 2); have a5 : ∀ o, (w2.alloc o).cell? ⟨w.heap.size, 5, none⟩ = some (.int .u32 x.mx.toNat) := (fun o => (H2.out.1.1.alloc o).cell 5); have a6 : ∀ o, (w2.alloc o).cell? ⟨w.heap.size, 6, none⟩ = some (.bool x.bd) := (fun o => (H2.out.1.1.alloc o).cell 6); have a7 : ∀ o, (w2.alloc o).cell? ⟨w.heap.size, 7, none⟩ = some (.int .u8 x.gt.toNat) := (fun o => (H2.out.1.1.alloc o).cell 7); have hbd := HBD.out))))
          all_goals
            go_ret
            exact ⟨rfl, (bx_bel H2.out).alloc (bx_bel H2.out).size _⟩
    · have hG : ∀ W, _ := hmg (decide_eq_false eG)
      rw [if_pos (.inl (fun h => eG (ho.1 h).2))]
      clear eG eT ho q0 q3 k3 hml hmg
      rcases hk12 with rfl | ⟨rfl, rfl⟩
      · go_enter Tryd.func7, Tryd.ntmps7
        go_wp2_with (first
          | (go_at_call 25; go_must (first
            | ((with_reducible refine HC1.out.mono ?_); rintro e w1 ⟨rfl, hb⟩; have H1 := Lib.hid (bx_on H0.out hb); have k1 := H1.out.1.1.cell 1; simp only [List.getElem?_toArray, List.getElem?_cons_zero, List.getElem?_cons_succ] at k1; clear hb)
            | ((with_reducible refine (HC2.out _).mono ?_); rintro e w2 ⟨rfl, hb⟩; have H2 := Lib.hid (bx_on H1.out hb); clear hb k1; obtain ⟨c0, c1, c2, c3, c4, c5, c6, c7, c8⟩ := H2.out.1.1.im; have a2 : ∀ o, (w2.alloc o).cell? ⟨w.heap.size, 2, none⟩ = some (.int .u8 x.kind.toNat) := (fun o => (H2.out.1.1.alloc o).cell 2); have a5 : ∀ o, (w2.alloc o).cell? ⟨w.heap.size, 5, none⟩ = some (.int .u32 x.mx.toNat) := (fun o => (H2.out.1.1.alloc o).cell 5); have a6 : ∀ o, (w2.alloc o).cell? ⟨w.heap.size, 6, none⟩ = some (.bool x.bd) := (fun o => (H2.out.1.1.alloc o).cell 6); have a7 : ∀ o, (w2.alloc o).cell? ⟨w.heap.size, 7, none⟩ = some (.int .u8 x.gt.toNat) := (fun o => (H2.out.1.1.alloc o).cell 7)))))
        all_goals
          go_ret
          exact ⟨rfl, (bx_bel H2.out).alloc (bx_bel H2.out).size _⟩
      · go_enter Tryd.func7, Tryd.ntmps7
        go_wp2_with (first
          | (go_at_call 25; go_must (first
            | ((with_reducible refine HC1.out.mono ?_); rintro e w1 ⟨rfl, hb⟩; have H1 := Lib.hid (bx_on H0.out hb); have k1 := H1.out.1.1.cell 1; simp only [List.getElem?_toArray, List.getElem?_cons_zero, List.getElem?_cons_succ] at k1; clear hb)
            | ((with_reducible refine (HC2.out _).mono ?_); rintro e w2 ⟨rfl, hb⟩; have H2 := Lib.hid (bx_on H1.out hb); clear hb k1; obtain ⟨c0, c1, c2, c3, c4, c5, c6, c7, c8⟩ := H2.out.1.1.im; have a2 : ∀ o, (w2.alloc o).cell? ⟨w.heap.size, 2, none⟩ = some (.int .u8 x.kind.toNat) := (fun o => (H2.out.1.1.alloc o).cell 2); have a5 : ∀ o, (w2.alloc o).cell? ⟨w.heap.size, 5, none⟩ = some (.int .u32 x.mx.toNat) := (fun o => (H2.out.1.1.alloc o).cell 5); have a6 : ∀ o, (w2.alloc o).cell? ⟨w.heap.size, 6, none⟩ = some (.bool x.bd) := (fun o => (H2.out.1.1.alloc o).cell 6); have a7 : ∀ o, (w2.alloc o).cell? ⟨w.heap.size, 7, none⟩ = some (.int .u8 x.gt.toNat) := (fun o => (H2.out.1.1.alloc o).cell 7)))))
        all_goals
          go_ret
          exact ⟨rfl, (bx_bel H2.out).alloc (bx_bel H2.out).size _⟩
  · have hty : ((x.typ.toNat : Int) != 0) = true := nb_of (by simp; exact fun h => eT (z32.1 (by omega)))
    rw [if_pos (.inl (fun h => eT (ho.1 h).1))]
    clear eT ho q0 q3 k3 hml hmg
    rcases hk12 with rfl | ⟨rfl, rfl⟩
    · go_enter Tryd.func7, Tryd.ntmps7
      go_wp2_with (first
        | (go_at_call 25; go_must (first
          | ((with_reducible refine HC1.out.mono ?_); rintro e w1 ⟨rfl, hb⟩; have H1 := Lib.hid (bx_on H0.out hb); have k1 := H1.out.1.1.cell 1; simp only [List.getElem?_toArray, List.getElem?_cons_zero, List.getElem?_cons_succ] at k1; clear hb)
          | ((with_reducible refine (HC2.out _).mono ?_); rintro e w2 ⟨rfl, hb⟩; have H2 := Lib.hid (bx_on H1.out hb); clear hb k1; obtain ⟨c0, c1, c2, c3, c4, c5, c6, c7, c8⟩ := H2.out.1.1.im; have a2 : ∀ o, (w2.alloc o).cell? ⟨w.heap.size, 2, none⟩ = some (.int .u8 x.kind.toNat) := (fun o => (H2.out.1.1.alloc o).cell 2); have a5 : ∀ o, (w2.alloc o).cell? ⟨w.heap.size, 5, none⟩ = some (.int .u32 x.mx.toNat) := (fun o => (H2.out.1.1.alloc o).cell 5); have a6 : ∀ o, (w2.alloc o).cell? ⟨w.heap.size, 6, none⟩ = some (.bool x.bd) := (fun o => (H2.out.1.1.alloc o).cell 6); have a7 : ∀ o, (w2.alloc o).cell? ⟨w.heap.size, 7, none⟩ = some (.int .u8 x.gt.toNat) := (fun o => (H2.out.1.1.alloc o).cell 7)))))
      all_goals
        go_ret
        exact ⟨rfl, (bx_bel H2.out).alloc (bx_bel H2.out).size _⟩
    · go_enter Tryd.func7, Tryd.ntmps7
      go_wp2_with (first
        | (go_at_call 25; go_must (first
          | ((with_reducible refine HC1.out.mono ?_); rintro e w1 ⟨rfl, hb⟩; have H1 := Lib.hid (bx_on H0.out hb); have k1 := H1.out.1.1.cell 1; simp only [List.getElem?_toArray, List.getElem?_cons_zero, List.getElem?_cons_succ] at k1; clear hb)
          | ((with_reducible refine (HC2.out _).mono ?_); rintro e w2 ⟨rfl, hb⟩; have H2 := Lib.hid (bx_on H1.out hb); clear hb k1; obtain ⟨c0, c1, c2, c3, c4, c5, c6, c7, c8⟩ := H2.out.1.1.im; have a2 : ∀ o, (w2.alloc o).cell? ⟨w.heap.size, 2, none⟩ = some (.int .u8 x.kind.toNat) := (fun o => (H2.out.1.1.alloc o).cell 2); have a5 : ∀ o, (w2.alloc o).cell? ⟨w.heap.size, 5, none⟩ = some (.int .u32 x.mx.toNat) := (fun o => (H2.out.1.1.alloc o).cell 5); have a6 : ∀ o, (w2.alloc o).cell? ⟨w.heap.size, 6, none⟩ = some (.bool x.bd) := (fun o => (H2.out.1.1.alloc o).cell 6); have a7 : ∀ o, (w2.alloc o).cell? ⟨w.heap.size, 7, none⟩ = some (.int .u8 x.gt.toNat) := (fun o => (H2.out.1.1.alloc o).cell 7)))))
      all_goals
        go_ret
        exact ⟨rfl, (bx_bel H2.out).alloc (bx_bel H2.out).size _⟩
set_option maxHeartbeats 2000000 in
theorem rright_im (x : Im) (w : World) (h1 : x.mod.length ≤ 1000000) (h2 : x.nam.length ≤ 1000000) :
    Calls Tryd.prog 7 #[imV x] w fun e w' => e = .returned (.int .i64 (rZ x)) ∧ Below w.heap.size w w' := by
  by_cases z1 : checkZ x.mod = 0
  · by_cases z2 : checkZ x.nam = 0
    · by_cases k3 : 3 < x.kind.toNat
      · have hr : rZ x = 43 := by unfold rZ; rw [if_neg (by simpa using z1), if_neg (by simpa using z2), if_pos k3]
        have HC1 := Lib.hid (rcheck_im x.mod (w.alloc (.cells (imC x) 28)) h1)
        have HC2 := Lib.hid (fun W => rcheck_im x.nam W h2)
        rw [z1] at HC1
        rw [z2] at HC2
        have H0 := Lib.hid (bx_start w x)
        rw [hr]
        have d3 : decide ((3 : Int) < (x.kind.toNat : Int)) = true := decide_eq_true (by omega)
        clear hr k3 z1 z2 h1 h2
        go_enter Tryd.func7, Tryd.ntmps7
        go_wp2_with (go_at_call 25; go_must (first
          | ((with_reducible refine HC1.out.mono ?_); rintro e w1 ⟨rfl, hb⟩; have H1 := Lib.hid (bx_on H0.out hb); have k1 := H1.out.1.1.cell 1; simp only [List.getElem?_toArray, List.getElem?_cons_zero, List.getElem?_cons_succ] at k1; clear hb)
          | ((with_reducible refine (HC2.out _).mono ?_); rintro e w2 ⟨rfl, hb⟩; have H2 := Lib.hid (bx_on H1.out hb); clear hb k1; obtain ⟨c0, c1, c2, c3, c4, c5, c6, c7, c8⟩ := H2.out.1.1.im)))
        go_ret
        exact ⟨rfl, bx_bel H2.out⟩
      · exact rright_ok x w h1 h2 z1 z2 k3
    · have hr : rZ x = checkZ x.nam := by unfold rZ; rw [if_neg (by simpa using z1), if_pos z2]
      have HC1 := Lib.hid (rcheck_im x.mod (w.alloc (.cells (imC x) 28)) h1)
      have HC2 := Lib.hid (fun W => rcheck_im x.nam W h2)
      rw [z1] at HC1
      have H0 := Lib.hid (bx_start w x)
      rw [hr]
      have d3 : (checkZ x.nam != 0) = true := zb_of (by simpa using z2)
      clear hr z1 z2 h1 h2
      generalize checkZ x.nam = z at *
      go_enter Tryd.func7, Tryd.ntmps7
      go_wp2_with (go_at_call 25; go_must (first
          | ((with_reducible refine HC1.out.mono ?_); rintro e w1 ⟨rfl, hb⟩; have H1 := Lib.hid (bx_on H0.out hb); have k1 := H1.out.1.1.cell 1; simp only [List.getElem?_toArray, List.getElem?_cons_zero, List.getElem?_cons_succ] at k1; clear hb)
          | ((with_reducible refine (HC2.out _).mono ?_); rintro e w2 ⟨rfl, hb⟩; have H2 := Lib.hid (bx_on H1.out hb); clear hb k1)))
      go_ret
      exact ⟨rfl, bx_bel H2.out⟩
  · have hr : rZ x = checkZ x.mod := by unfold rZ; rw [if_pos z1]
    have HC1 := Lib.hid (rcheck_im x.mod (w.alloc (.cells (imC x) 28)) h1)
    have H0 := Lib.hid (bx_start w x)
    rw [hr]
    have d3 : (checkZ x.mod != 0) = true := zb_of (by simpa using z1)
    clear hr z1 h1 h2
    generalize checkZ x.mod = z at *
    go_enter Tryd.func7, Tryd.ntmps7
    go_wp2_with (go_at_call 25; go_must ((with_reducible refine HC1.out.mono ?_); rintro e w1 ⟨rfl, hb⟩; have H1 := Lib.hid (bx_on H0.out hb); clear hb))
    go_ret
    exact ⟨rfl, bx_bel H1.out⟩
end Go.Proofs.YtdogjinjbnlgdaaDoor
