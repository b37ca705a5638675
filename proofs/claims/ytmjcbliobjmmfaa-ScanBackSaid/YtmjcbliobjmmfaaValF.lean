/- abort.Value of a function that hands a function's type back and ends well; awake. -/
import Derived.Test.YtmjcbliobjmmfaaReadb
import Derived.Test.YtmjcbliobjmmfaaOut
namespace Go.Proofs.Ytmjcbliobjmmfaa
open Go.RowKit
set_option linter.unusedVariables false

theorem cfF (cap : Array Value) (w : World) : (callFunc 37 cap).run Try.prog w = .ok (.enter 37 cap) w := by kernel_rfl

/-- Value's own closure: the step's type lies in its cell. -/
theorem valClosF {g : FuncId} {cap : Array Value} {x : List UInt8 × List UInt8} {b1 b4 q : Nat} {l : List UInt8} {k : Nat} {w : World} {y z : Value} (hcf : ∀ w : World, (callFunc g cap).run Try.prog w = .ok (.enter g cap) w)
    (h1 : Whole w b1 44 #[.func (.func g) #[] cap]) (h4 : Whole w b4 23 #[y, z]) (hb : q < b4)
    (h : Calls Try.prog g cap w fun e w' => e = .returned (encF x) ∧ Sc w' q l k ∧ w.grownBy w' (some q)) :
    Calls Try.prog 37 #[.pointer (some ⟨b1, 0, none⟩), .pointer (some ⟨b4, 0, none⟩)] w fun e w' =>
      e = .returned (.tuple #[]) ∧ Sc w' q l k ∧ Whole w' b4 23 #[.string (S x.1), .string (S x.2)] ∧ ∃ w1, w.grownBy w1 (some q) ∧ w1.grownBy w' (some b4) := by
  have hnil : ∀ w : World, (binOp BinOp.neq 44 (.func (.func g) #[] cap) .nilFunc).run Try.prog w = .ok (.bool true) w := fun _ => by kernel_rfl
  have c1 := h1.cell 0
  simp only [List.getElem?_toArray, List.getElem?_cons_zero] at c1
  have HH := Lib.hid h
  have H4 := Lib.hid h4
  clear h h1 h4
  go_enter Try.func37, Try.ntmps37
  go_wp2_with fail
  refine HH.out.mono ?_
  rintro e w1 ⟨rfl, hs, hg⟩
  have HW := H4.out.grown hg (by simp only [ne_eq, Option.some.injEq]; omega)
  have k0 := HW.cell 0
  have k1 := HW.cell 1
  have f0 := HW.frozen 0
  have f1 := HW.frozen 1
  simp only [List.getElem?_toArray, List.getElem?_cons_zero, List.getElem?_cons_succ] at k0 k1
  obtain ⟨p1, p2⟩ := two_put (u := .string (S x.1)) (v := .string (S x.2)) HW (Below.refl _ _)
  have F : Hid (Sc ((w1.setCell ⟨b4, 0, none⟩ (.string (S x.1))).setCell ⟨b4, 1, none⟩ (.string (S x.2))) q l k) := hs.grown p2 (by simp only [ne_eq, Option.some.injEq]; omega) (fun g e => by injection e with e; omega)
  have P1 := Lib.hid p1
  have P2 := Lib.hid p2
  have HG := Lib.hid hg
  clear p1 p2 hs hg HW hcf
  go_wp2_with fail
  go_end0
  exact ⟨rfl, F.out, P1.out, w1, HG.out, P2.out⟩
/-- What Value's closure leaves behind, seen from Value's beginning. -/
structure VS (w : World) (q : Nat) (l : List UInt8) (k : Nat) (x : List UInt8 × List UInt8) (w1 : World) : Prop where
  sc : Sc w1 q l k
  grown : w.grownBy w1 (some q)
  val : Whole w1 (w.heap.size + 3) 23 #[.string (S x.1), .string (S x.2)]
  r1 : Whole w1 (w.heap.size + 1) 23 #[.string { data := #[] }, .string { data := #[] }]
  r2 : Whole w1 (w.heap.size + 2) 40 #[.int .i64 0, .int .i64 0]
theorem VS.on {w w1 w2 : World} {q : Nat} {l : List UInt8} {k : Nat} {x : List UInt8 × List UInt8} {b : Nat} (h : VS w q l k x w1) (hq : q < w.heap.size) (hg : w1.grownBy w2 (some b)) (hb : w.heap.size + 3 < b) : VS w q l k x w2 :=
  ⟨h.sc.grown hg (by simp only [ne_eq, Option.some.injEq]; omega) (fun g e => by injection e with e; omega), gb_before h.grown hg (fun g e => .inr (by injection e with e; omega)),
    h.val.grown hg (by simp only [ne_eq, Option.some.injEq]; omega), h.r1.grown hg (by simp only [ne_eq, Option.some.injEq]; omega), h.r2.grown hg (by simp only [ne_eq, Option.some.injEq]; omega)⟩
/-- The world in which Value calls Out. -/
def vWorld (g : FuncId) (cap : Array Value) (w : World) : World :=
  (((w.alloc (.cells #[.func (.func g) #[] cap] 44)).alloc (.cells #[.string { data := #[] }, .string { data := #[] }] 23)).alloc (.cells #[.int .i64 0, .int .i64 0] 40)).alloc (.cells #[.string { data := #[] }, .string { data := #[] }] 23)

theorem vWorld_facts (g : FuncId) (cap : Array Value) (w : World) : (vWorld g cap w).heap.size = w.heap.size + 4 ∧ Whole (vWorld g cap w) w.heap.size 44 #[.func (.func g) #[] cap] ∧
    Whole (vWorld g cap w) (w.heap.size + 1) 23 #[.string { data := #[] }, .string { data := #[] }] ∧ Whole (vWorld g cap w) (w.heap.size + 2) 40 #[.int .i64 0, .int .i64 0] ∧
    Whole (vWorld g cap w) (w.heap.size + 3) 23 #[.string { data := #[] }, .string { data := #[] }] ∧ Below w.heap.size w (vWorld g cap w) := by
  have b1 := Whole.made w 44 #[.func (.func g) #[] cap]
  have b2 := Whole.made (w.alloc (.cells #[.func (.func g) #[] cap] 44)) 23 #[.string { data := #[] }, .string { data := #[] }]
  have b3 := Whole.made ((w.alloc (.cells #[.func (.func g) #[] cap] 44)).alloc (.cells #[.string { data := #[] }, .string { data := #[] }] 23)) 40 #[.int .i64 0, .int .i64 0]
  have b4 := Whole.made (((w.alloc (.cells #[.func (.func g) #[] cap] 44)).alloc (.cells #[.string { data := #[] }, .string { data := #[] }] 23)).alloc (.cells #[.int .i64 0, .int .i64 0] 40)) 23 #[.string { data := #[] }, .string { data := #[] }]
  simp only [World.size_alloc] at b2 b3 b4
  exact ⟨by simp [vWorld], ((b1.alloc _).alloc _).alloc _, (b2.alloc _).alloc _, b3.alloc _, b4,
    ((((Below.refl _ _).alloc (Nat.le_refl _) _).alloc (by simp) _).alloc (by simp; omega) _).alloc (by simp; omega) _⟩

theorem value_out {g : FuncId} {cap : Array Value} {x : List UInt8 × List UInt8} {q : Nat} {l : List UInt8} {k : Nat} {w : World} (hcf : ∀ w : World, (callFunc g cap).run Try.prog w = .ok (.enter g cap) w) (hq : q < w.heap.size)
    (h : ∀ W, Below w.heap.size w W → Calls Try.prog g cap W fun e w' => e = .returned (encF x) ∧ Sc w' q l k ∧ W.grownBy w' (some q)) :
    Calls Try.prog 11 #[.func (.func 37) #[] #[.pointer (some ⟨w.heap.size, 0, none⟩), .pointer (some ⟨w.heap.size + 3, 0, none⟩)]] (vWorld g cap w) fun e w' => e = .returned (.agg #[.int .i64 0, .int .i64 0]) ∧ VS w q l k x w' := by
  obtain ⟨hz, b1, b2, b3, b4, hbe⟩ := vWorld_facts g cap w
  have b5 := Whole.made (vWorld g cap w) 40 #[.int .i64 0, .int .i64 0]
  have hbe2 : Below w.heap.size w ((vWorld g cap w).alloc (.cells #[.int .i64 0, .int .i64 0] 40)) := hbe.alloc (by omega) _
  have hc := valClosF (x := x) (l := l) (k := k) hcf (b1.alloc (.cells #[.int .i64 0, .int .i64 0] 40)) (b4.alloc _) (by omega : q < w.heap.size + 3) (h _ hbe2)
  refine (out_any _ _ 0 0 (vWorld g cap w) (fun w1 => VS w q l k x w1 ∧ Whole w1 (vWorld g cap w).heap.size 40 #[.int .i64 0, .int .i64 0]) (cfF _) (hc.mono ?_) (fun _ h => h.2)).mono ?_
  · rintro e w' ⟨rfl, hs, hv, w1, hg1, hg2⟩
    have hz2 : w.heap.size + 5 ≤ w1.heap.size := by have := hg1.size; simp only [World.size_alloc] at this; omega
    refine ⟨.inl ⟨rfl, rfl, rfl⟩, ⟨hs, ?_, hv, ?_, ?_⟩, ?_⟩
    · exact gb_before (gb_trans (gb_of_below (some q) hbe2) hg1) hg2 (fun g e => .inr (by injection e with e; omega))
    · exact ((b2.alloc _).grown hg1 (by simp only [ne_eq, Option.some.injEq]; omega)).grown hg2 (by simp only [ne_eq, Option.some.injEq]; omega)
    · exact ((b3.alloc _).grown hg1 (by simp only [ne_eq, Option.some.injEq]; omega)).grown hg2 (by simp only [ne_eq, Option.some.injEq]; omega)
    · exact (b5.grown hg1 (by simp only [ne_eq, Option.some.injEq]; omega)).grown hg2 (by simp only [ne_eq, Option.some.injEq]; omega)
  · rintro e w' ⟨rfl, w1, ⟨hs, _⟩, hg⟩
    exact ⟨rfl, hs.on hq hg (by omega)⟩

set_option maxHeartbeats 600000 in
/-- Value of a function that ends well. -/
theorem valueF_ok {g : FuncId} {cap : Array Value} {x : List UInt8 × List UInt8} {q : Nat} {l : List UInt8} {k : Nat} {w : World} (hcf : ∀ w : World, (callFunc g cap).run Try.prog w = .ok (.enter g cap) w) (hq : q < w.heap.size)
    (h : ∀ W, Below w.heap.size w W → Calls Try.prog g cap W fun e w' => e = .returned (encF x) ∧ Sc w' q l k ∧ W.grownBy w' (some q)) :
    Calls Try.prog 20 #[.func (.func g) #[] cap] w fun e w' => e = .returned (.tuple #[encF x, .agg #[.int .i64 0, .int .i64 0]]) ∧ Sc w' q l k ∧ w.grownBy w' (some q) := by
  have hv := value_out hcf hq h
  unfold vWorld at hv
  have HV := Lib.hid hv
  have hmf : ∀ (fn : Fn) (first cap : Array Value) (w : World), (Instr.makeFunc fn first cap).run Try.prog w = .ok (.func fn first cap) w := fun _ _ _ _ => rfl
  clear h hv hcf
  go_enter Try.func20, Try.ntmps20
  go_wp2_with (go_at_call 11; go_must (refine HV.out.mono ?_; rintro e w2 ⟨rfl, hl⟩; have k0 := fun o => (hl.val.alloc o).cell 0; have k1 := fun o => (hl.val.alloc o).cell 1; have f0 := fun o => (hl.r1.alloc o).frozen 0; have f1 := fun o => (hl.r1.alloc o).frozen 1; have f2 := fun o => (hl.r2.alloc o).frozen 0; have f3 := fun o => (hl.r2.alloc o).frozen 1; have m0 := fun o => (hl.r1.alloc o).cell 0; have m1 := fun o => (hl.r1.alloc o).cell 1; have m2 := fun o => (hl.r2.alloc o).cell 0; have m3 := fun o => (hl.r2.alloc o).cell 1; simp only [List.getElem?_toArray, List.getElem?_cons_zero, List.getElem?_cons_succ] at k0 k1 m0 m1 m2 m3; have hz := hl.grown.size; have HL := Lib.hid hl; clear hl))
  have hb : w.heap.size + 1 + 1 = w.heap.size + 2 := by omega
  rw [hb]
  obtain ⟨p1, g1⟩ := two_put (u := .string (S x.1)) (v := .string (S x.2)) (HL.out.r1.alloc (.cells #[.int .i64 0, .int .i64 0] 40)) (Below.refl _ _)
  obtain ⟨p2, g2⟩ := two_put (u := .int .i64 0) (v := .int .i64 0) ((HL.out.r2.alloc (.cells #[.int .i64 0, .int .i64 0] 40)).grown g1 (by simp only [ne_eq, Option.some.injEq]; omega)) (Below.refl _ _)
  have p3 := p1.grown g2 (by simp only [ne_eq, Option.some.injEq]; omega)
  have q0 := p3.cell 0
  have q1 := p3.cell 1
  have q2 := p2.cell 0
  have q3 := p2.cell 1
  simp only [List.getElem?_toArray, List.getElem?_cons_zero, List.getElem?_cons_succ] at q0 q1 q2 q3
  refine bodyPost_ret (v := .tuple #[.agg #[.string (S x.1), .string (S x.2)], .agg #[.int .i64 0, .int .i64 0]]) (by simp [results, Try.results20, go_sem, q0, q1, q2, q3]) rfl ⟨rfl, ?_, ?_⟩
  · exact ((HL.out.sc.alloc _).grown g1 (by simp only [ne_eq, Option.some.injEq]; omega) (fun g e => by injection e with e; omega)).grown g2 (by simp only [ne_eq, Option.some.injEq]; omega) (fun g e => by injection e with e; omega)
  · exact gb_before (gb_before (gb_alloc HL.out.grown _) g1 (fun g e => .inr (by injection e with e; omega))) g2 (fun g e => .inr (by injection e with e; omega))

theorem lebL_small (x : Int) (h0 : 0 ≤ x) (h1 : x < 128) : lebL x = [UInt8.ofNat x.toNat] := by
  have hn : lebN x = 1 := (lebN_least x (by omega)).unique ⟨Nat.le_refl _, by unfold fitU; simpa using h1, fun m a b => by omega⟩
  unfold lebL
  rw [hn]
  simp [grp]
  congr 2
  omega
/-- The chapter's example. -/
theorem eg_read : funcR [96, 1, 127, 0] 0 = .ok ([127], []) 4 := by
  have e1 : lebL 1 = [1] := lebL_small 1 (by omega) (by omega)
  have e0 : lebL 0 = [0] := lebL_small 0 (by omega) (by omega)
  have he : encL [127] [] = [96, 1, 127, 0] := by unfold encL; simp [e1, e0]
  have := funcR_at (l := [96, 1, 127, 0]) (p := [127]) (r := []) (s := []) (k := 0) (by rw [he]; rfl) (by rfl)
  rw [he] at this
  exact this
end Go.Proofs.Ytmjcbliobjmmfaa

