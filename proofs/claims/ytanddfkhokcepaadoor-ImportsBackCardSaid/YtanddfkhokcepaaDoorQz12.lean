/- abort.Value of a function that ends well, whatever it hands back: []api.Import. -/
import Derived.Test.YtanddfkhokcepaaDoorQz01
import Derived.Test.YtanddfkhokcepaaDoorQz11
import Derived.RegionTactic
import Derived.Deep.LoopGhost
import Derived.Deep.QuietTactic
import Derived.BigQuiet
import Derived.StillTailTactics
import Derived.Deep.DeepMust
import Derived.Test.YtanddfkhokcepaaDoorQz10
import Derived.Test.YtanddfkhokcepaaDoorQz05
import Derived.Test.YtanddfkhokcepaaDoorQz08
namespace Go.Proofs.YtanddfkhokcepaaDoor
open Go.RowKit
set_option linter.unusedVariables false
set_option maxRecDepth 100000

theorem cfVM (cap : Array Value) (w : World) : (callFunc 87 cap).run Tryd.prog w = .ok (.enter 87 cap) w := by kernel_rfl
section
variable {T : (Option Addr × Nat × Nat) → World → Prop}
/-- Value's own closure: what the step hands back lies in its cell. -/
theorem valClosM {g : FuncId} {cap : Array Value} {b1 b4 q : Nat} {w : World} {z : Array Value} (hz : z.size = 1) (hcf : ∀ w : World, (callFunc g cap).run Tryd.prog w = .ok (.enter g cap) w)
    (h1 : Whole w b1 70 #[.func (.func g) #[] cap]) (h4 : Whole w b4 64 #[.slice none 0 0]) (hb : q < b4) (hT : ∀ x W W', T x W → W.grownBy W' (some b4) → T x W')
    (h : Calls Tryd.prog g cap w fun e w' => ∃ x, e = .returned (.slice x.1 x.2.1 x.2.2) ∧ T x w' ∧ w.grownBy w' (some q)) :
    Calls Tryd.prog 87 #[.pointer (some ⟨b1, 0, none⟩), .pointer (some ⟨b4, 0, none⟩)] w fun e w' =>
      e = .returned (.tuple #[]) ∧ ∃ x, T x w' ∧ Whole w' b4 64 #[.slice x.1 x.2.1 x.2.2] ∧ ∃ w1, w.grownBy w1 (some q) ∧ w1.grownBy w' (some b4) := by
  have hnil : ∀ w : World, (binOp BinOp.neq 70 (.func (.func g) #[] cap) .nilFunc).run Tryd.prog w = .ok (.bool true) w := fun _ => by kernel_rfl
  have c1 := h1.cell 0
  simp only [List.getElem?_toArray, List.getElem?_cons_zero] at c1
  have HH := Lib.hid h
  have H4 := Lib.hid h4
  have HT := Lib.hid hT
  clear h h1 h4 hT
  go_enter Tryd.func87, Tryd.ntmps87
  go_wp2_with fail
  refine HH.out.mono ?_
  rintro e w1 ⟨x, rfl, hs, hg⟩
  have HW := H4.out.grown hg (by simp only [ne_eq, Option.some.injEq]; omega)
  have k0 := HW.cell 0
  have f0 := HW.frozen 0
  simp only [List.getElem?_toArray, List.getElem?_cons_zero] at k0
  obtain ⟨p1, p2⟩ := put1 (u0 := .slice x.1 x.2.1 x.2.2) HW
  have F : Hid (T x (w1.setCell ⟨b4, 0, none⟩ (.slice x.1 x.2.1 x.2.2))) := HT.out _ _ _ hs p2
  have P1 := Lib.hid p1
  have P2 := Lib.hid p2
  have HG := Lib.hid hg
  clear p1 p2 hs hg HW hcf
  go_wp2_with fail
  go_end0
  exact ⟨rfl, x, F.out, P1.out, w1, HG.out, P2.out⟩
/-- What Value's closure leaves behind, seen from Value's beginning. -/
structure VSM (T : (Option Addr × Nat × Nat) → World → Prop) (w : World) (q : Nat) (x : (Option Addr × Nat × Nat)) (w1 : World) : Prop where
  kept : T x w1
  grown : w.grownBy w1 (some q)
  val : Whole w1 (w.heap.size + 2) 64 #[.slice x.1 x.2.1 x.2.2]
  r2 : Whole w1 (w.heap.size + 1) 39 #[.int .i64 0, .int .i64 0]
/-- The world in which Value calls Out. -/
def vWorldM (g : FuncId) (cap : Array Value) (w : World) : World :=
  ((w.alloc (.cells #[.func (.func g) #[] cap] 70)).alloc (.cells #[.int .i64 0, .int .i64 0] 39)).alloc (.cells #[.slice none 0 0] 64)
theorem vWorld_factsM (g : FuncId) (cap : Array Value) (w : World) : (vWorldM g cap w).heap.size = w.heap.size + 3 ∧ Whole (vWorldM g cap w) w.heap.size 70 #[.func (.func g) #[] cap] ∧
    Whole (vWorldM g cap w) (w.heap.size + 1) 39 #[.int .i64 0, .int .i64 0] ∧
    Whole (vWorldM g cap w) (w.heap.size + 2) 64 #[.slice none 0 0] ∧ Below w.heap.size w (vWorldM g cap w) := by
  have b1 := Whole.made w 70 #[.func (.func g) #[] cap]
  have b3 := Whole.made (w.alloc (.cells #[.func (.func g) #[] cap] 70)) 39 #[.int .i64 0, .int .i64 0]
  have b4 := Whole.made ((w.alloc (.cells #[.func (.func g) #[] cap] 70)).alloc (.cells #[.int .i64 0, .int .i64 0] 39)) 64 #[.slice none 0 0]
  simp only [World.size_alloc] at b3 b4
  exact ⟨by simp [vWorldM], (b1.alloc _).alloc _, b3.alloc _, b4,
    (((Below.refl _ _).alloc (Nat.le_refl _) _).alloc (by simp) _).alloc (by simp; omega) _⟩
theorem value_outM {g : FuncId} {cap : Array Value} {q : Nat} {w : World} (hcf : ∀ w : World, (callFunc g cap).run Tryd.prog w = .ok (.enter g cap) w) (hq : q < w.heap.size)
    (hT : ∀ x W W' b, w.heap.size ≤ b → b < w.heap.size + 4 → T x W → W.grownBy W' (some b) → T x W')
    (h : ∀ W, Below w.heap.size w W → w.heap.size + 4 ≤ W.heap.size → Calls Tryd.prog g cap W fun e w' => ∃ x, e = .returned (.slice x.1 x.2.1 x.2.2) ∧ T x w' ∧ W.grownBy w' (some q)) :
    Calls Tryd.prog 75 #[.func (.func 87) #[] #[.pointer (some ⟨w.heap.size, 0, none⟩), .pointer (some ⟨w.heap.size + 2, 0, none⟩)]] (vWorldM g cap w) fun e w' => e = .returned (.agg #[.int .i64 0, .int .i64 0]) ∧ ∃ x, VSM T w q x w' := by
  obtain ⟨hz, b1, b3, b4, hbe⟩ := vWorld_factsM g cap w
  have b5 := Whole.made (vWorldM g cap w) 39 #[.int .i64 0, .int .i64 0]
  have hbe2 : Below w.heap.size w ((vWorldM g cap w).alloc (.cells #[.int .i64 0, .int .i64 0] 39)) := hbe.alloc (by omega) _
  have hc := valClosM (T := T) (z := #[.slice none 0 0]) rfl hcf (b1.alloc (.cells #[.int .i64 0, .int .i64 0] 39)) (b4.alloc _) (by omega : q < w.heap.size + 2) (fun x W W' => hT x W W' _ (by omega) (by omega)) (h _ hbe2 (by rw [size_box]; omega))
  refine (out_any _ _ 0 0 (vWorldM g cap w) (fun w1 => (∃ x, VSM T w q x w1) ∧ Whole w1 (vWorldM g cap w).heap.size 39 #[.int .i64 0, .int .i64 0]) (cfVM _) (hc.mono ?_) (fun _ h => h.2)).mono ?_
  · rintro e w' ⟨rfl, x, hs, hv, w1, hg1, hg2⟩
    have hz2 : w.heap.size + 4 ≤ w1.heap.size := by have := hg1.size; simp only [World.size_alloc] at this; omega
    refine ⟨.inl ⟨rfl, rfl, rfl⟩, ⟨x, hs, ?_, hv, ?_⟩, ?_⟩
    · exact gb_before (gb_trans (gb_of_below (some q) hbe2) hg1) hg2 (fun g e => .inr (by injection e with e; omega))
    · exact ((b3.alloc _).grown hg1 (by simp only [ne_eq, Option.some.injEq]; omega)).grown hg2 (by simp only [ne_eq, Option.some.injEq]; omega)
    · exact (b5.grown hg1 (by simp only [ne_eq, Option.some.injEq]; omega)).grown hg2 (by simp only [ne_eq, Option.some.injEq]; omega)
  · rintro e w' ⟨rfl, w1, ⟨⟨x, hs⟩, _⟩, hg⟩
    rw [hz] at hg
    exact ⟨rfl, x, hT x _ _ _ (by omega) (by omega) hs.kept hg, gb_before hs.grown hg (fun g e => .inr (by injection e with e; omega)), hs.val.grown hg (by simp only [ne_eq, Option.some.injEq]; omega), hs.r2.grown hg (by simp only [ne_eq, Option.some.injEq]; omega)⟩

set_option maxHeartbeats 800000 in
/-- Value of a function that ends well. -/
theorem valueM_ok {g : FuncId} {cap : Array Value} {q : Nat} {w : World} (hcf : ∀ w : World, (callFunc g cap).run Tryd.prog w = .ok (.enter g cap) w) (hq : q < w.heap.size)
    (hT : ∀ x W W' b, w.heap.size ≤ b → b < w.heap.size + 4 → T x W → W.grownBy W' (some b) → T x W')
    (h : ∀ W, Below w.heap.size w W → w.heap.size + 4 ≤ W.heap.size → Calls Tryd.prog g cap W fun e w' => ∃ x, e = .returned (.slice x.1 x.2.1 x.2.2) ∧ T x w' ∧ W.grownBy w' (some q)) :
    Calls Tryd.prog 31 #[.func (.func g) #[] cap] w fun e w' => ∃ x, e = .returned (.tuple #[.slice x.1 x.2.1 x.2.2, .agg #[.int .i64 0, .int .i64 0]]) ∧ T x w' ∧ w.grownBy w' (some q) := by
  have hv := value_outM hcf hq hT h
  unfold vWorldM at hv
  have HV := Lib.hid hv
  have HT := Lib.hid hT
  have hmf : ∀ (fn : Fn) (first cap : Array Value) (w : World), (Instr.makeFunc fn first cap).run Tryd.prog w = .ok (.func fn first cap) w := fun _ _ _ _ => rfl
  clear h hv hcf hT
  go_enter Tryd.func31, Tryd.ntmps31
  go_wp2_with (go_at_call 75; go_must (refine HV.out.mono ?_; rintro e w2 ⟨rfl, x, hl⟩; have k0 := fun o => (hl.val.alloc o).cell 0; have f8 := fun o => (hl.r2.alloc o).frozen 0; have f9 := fun o => (hl.r2.alloc o).frozen 1; have m8 := fun o => (hl.r2.alloc o).cell 0; have m9 := fun o => (hl.r2.alloc o).cell 1; simp only [List.getElem?_toArray, List.getElem?_cons_zero] at k0 m8 m9; have hz := hl.grown.size; have HL := Lib.hid hl; clear hl))
  obtain ⟨p2, g2⟩ := put2 (u0 := .int .i64 0) (u1 := .int .i64 0) (HL.out.r2.alloc (.cells #[.int .i64 0, .int .i64 0] 39))
  have q8 := p2.cell 0
  have q9 := p2.cell 1
  simp only [List.getElem?_toArray, List.getElem?_cons_zero, List.getElem?_cons_succ] at q8 q9
  refine bodyPost_ret (v := .tuple #[.slice x.1 x.2.1 x.2.2, .agg #[.int .i64 0, .int .i64 0]]) (by simp [results, Tryd.results31, go_sem, q8, q9]) rfl ⟨x, rfl, ?_, ?_⟩
  · exact HT.out _ _ _ _ (by omega) (by omega) (HT.out _ _ _ w.heap.size (Nat.le_refl _) (by omega) HL.out.kept (gb_alloc (gb_refl _ _) _)) g2
  · exact gb_before (gb_alloc HL.out.grown _) g2 (fun g e => .inr (by injection e with e; omega))
end
end Go.Proofs.YtanddfkhokcepaaDoor

/- imports.GetAll of a list's bytes; the laws' closures. -/
namespace Go.Proofs.YtanddfkhokcepaaDoor
open Go.RowKit
set_option linter.unusedVariables false
set_option maxRecDepth 100000

/-- What holds at the head of GetAll's loop. -/
structure AIn (w : World) (p : Nat) (l : List UInt8) (k : Nat) (xs : List Im) (v : Value) (W : World) : Prop where
  sc : Sc W p l k
  g : w.grownBy W (some p)
  r : RowM W w.heap.size v xs
  tb : TbN p W
section
variable {w W W' : World} {p : Nat} {l : List UInt8} {k k' : Nat} {xs : List Im} {x : Im} {v v' : Value}
theorem AIn.step (h : AIn w p l k xs v W) (hp : p < w.heap.size) (hg : W.grownBy W' (some p)) (hs : Sc W' p l k') : AIn w p l k' xs v W' :=
  ⟨hs, gb_trans h.g hg, h.r.past hg hp, h.tb.keep hg (Nat.le_refl _)⟩
theorem AIn.alloc (h : AIn w p l k xs v W) (hp : p < w.heap.size) (o : Obj) : AIn w p l k xs v (W.alloc o) := h.step hp (gb_alloc (gb_refl _ _) o) (h.sc.alloc o)
theorem AIn.more (h : AIn w p l k xs v W) (hp : p < w.heap.size) (hg : W.grownBy W' v.ownBlock) (hr : RowM W' w.heap.size v' (xs ++ [x])) : AIn w p l k (xs ++ [x]) v' W' := by
  have hlt := World.ownsRow.lt h.r
  refine ⟨h.sc.grown hg (fun e => by have := hlt p e.symm; omega) (fun g e => by have := hlt g e; omega), gb_before h.g hg (fun g e => .inr (hlt g e).1), hr, ?_⟩
  obtain ⟨⟨h1, h2⟩, h3, h4, h5⟩ := h.tb
  have key : ∀ b o, b < p → W'.cell? ⟨b, o, none⟩ = W.cell? ⟨b, o, none⟩ := fun b o hb => by
    unfold World.cell?
    rw [hg.block b (by omega) (fun e => by have := hlt b e.symm; omega)]
  exact ⟨⟨fun c hc => (key _ _ h3).trans (h1 c hc), fun i hi => ⟨(key _ _ h4).trans (h2 i hi).1, (key _ _ h4).trans (h2 i hi).2⟩⟩, h3, h4, Nat.le_trans h5 hg.size⟩
end
/-- The list that was read. -/
def GotAll (p : Nat) (l : List UInt8) (xs : List Im) (w : World) (e : Ending) (w' : World) : Prop := ∃ v, e = .returned v ∧ RowM w' w.heap.size v xs ∧ Sc w' p l l.length ∧ w.grownBy w' (some p)
theorem cfIG (a : Array Value) (w : World) : (callFunc 25 a).run Tryd.prog w = .ok (.enter 25 a) w := by kernel_rfl
set_option maxHeartbeats 4000000 in
theorem wgetall_im {w : World} {p : Nat} {l : List UInt8} {xs : List Im} (h : Sc w p l 0) (hT : TbN p w) (hd : l = allL xs) (hz : errL xs = 0) (hn1 : xs.length ≤ 1000) :
    Calls Tryd.prog 88 #[.pointer (some ⟨p, 0, none⟩), .func (.func 25) #[] #[]] w (GotAll p l xs w) := by
  have hp := h.lt
  have hd0 : l.drop 0 = lebL (xs.length : Int) ++ iputsL xs := by rw [hd]; rfl
  have hc := count_scan h
  rw [countR_at hd0 (by omega) (by omega)] at hc
  have hd1 := drop_past hd0
  rw [Nat.zero_add] at hc hd1
  have HC := Lib.hid hc
  obtain ⟨n, hn⟩ : ∃ n, n = xs.length := ⟨_, rfl⟩
  rw [← hn] at HC hn1
  have HN := Lib.hid hn
  have HE := Lib.hid (show xs.take n = xs ∧ xs.drop n = [] by rw [hn]; exact ⟨List.take_length, List.drop_length⟩)
  have HM := Lib.hid (errL_mem hz)
  have HT := Lib.hid hT
  obtain ⟨k0, hk0⟩ : ∃ k0, k0 = (lebL (n : Int)).length := ⟨_, rfl⟩
  rw [← hn, ← hk0] at hd1
  rw [← hk0] at HC
  have HD := Lib.hid hd1
  have hcf := cfIG
  clear h hT hd hd0 hc hz hn hd1 hk0
  go_enter Tryd.func88, Tryd.ntmps88
  go_wp2_with (go_at_call 118; go_must ((with_reducible refine HC.out.mono ?_); rintro e w1 ⟨rfl, hs, hg⟩; have HS := Lib.hid hs; have HG := Lib.hid hg; clear hs hg))
  go_loopw [5, 8] (fun v i wr => ∃ j k : Nat, j ≤ n ∧ i = .int .i64 j ∧ AIn w p l k (xs.take j) v wr ∧ l.drop k = iputsL (xs.drop j)) (fun _ i _ => n - (intOf i).toNat)
  case atStart => exact ⟨0, k0, Nat.zero_le _, rfl, ⟨HS.out, HG.out, RowM.nil _ _, HT.out.keep HG.out (Nat.le_refl _)⟩, HD.out⟩
  case round =>
    obtain ⟨j, k, hj, rfl, ha, hdk⟩ := hrel
    by_cases hlt : j < n
    · obtain ⟨x, hx⟩ : ∃ x, xs[j]? = some x := ⟨_, List.getElem?_eq_getElem (by rw [← HN.out]; exact hlt)⟩
      have hj2 : j < xs.length := by rw [← HN.out]; exact hlt
      have hdx : xs.drop j = x :: xs.drop (j + 1) := by
        obtain ⟨q1, q2⟩ := List.getElem?_eq_some_iff.1 hx
        rw [List.drop_eq_getElem_cons q1, q2]
      have hdk2 : l.drop k = iputL x ++ iputsL (xs.drop (j + 1)) := by rw [hdk, hdx]; unfold iputsL; rw [List.flatMap_cons]
      have HGe := Lib.hid (get_im ha.sc ha.tb hdk2 (HM.out x (List.mem_of_getElem? hx)))
      have HDK := Lib.hid (drop_past hdk2)
      have HTk := Lib.hid (show xs.take (j + 1) = xs.take j ++ [x] by rw [List.take_add_one, hx]; rfl)
      have HA := Lib.hid ha
      have hle : (xs.take j).length ≤ 10000 := by rw [List.length_take]; omega
      clear ha hdk hdk2 hdx hx hj2
      go_wp2_with (first
        | (go_at_call 25; go_must ((with_reducible refine HGe.out.mono ?_); rintro e w2 ⟨rfl, hs, hg⟩; have HA2 := Lib.hid (HA.out.step hp hg hs); have hz2 := HA2.out.g.size; have HX := Lib.hid (Whole.made w2 49 (imC x)); clear hs hg))
        | (at_builtin; (refine rowM_new rfl _ _ rfl w.heap.size _ (xs.take j) rfl (HA2.out.alloc hp _).r w2.heap.size x rfl HX.out hle (Nat.le_trans hz2 (below_box w2 _).size) ?_; intro v3 w3 hr3 hg3; have HA3 := Lib.hid ((HA2.out.alloc hp _).more hp hg3 hr3); clear hr3 hg3)))
      go_roundw
      case rel => exact ⟨j + 1, k + (iputL x).length, by omega, by go_num, by rw [HTk.out]; exact HA3.out, HDK.out⟩
      case measure => simp [intOf]; omega
    · obtain rfl : j = n := by omega
      rw [HE.out.1] at ha
      rw [HE.out.2] at hdk
      have hkl : k = l.length := by
        have e := congrArg List.length hdk
        rw [List.length_drop] at e
        have := ha.sc.le.1
        simp [iputsL] at e
        omega
      subst hkl
      have HA := Lib.hid ha
      have HEn := Lib.hid (end_ok ha.sc)
      clear ha hdk
      go_wp2_with (go_at_call 119; go_must ((with_reducible refine HEn.out.mono ?_); rintro e w2 ⟨rfl, m, rfl⟩))
      go_ret
      have HA2 := HA.out.step hp (gb_drewN (gb_refl _ _) m) (HA.out.sc.drewN m)
      exact ⟨_, rfl, HA2.r, HA2.sc, HA2.g⟩
theorem getall_im {w : World} {p : Nat} {l : List UInt8} {xs : List Im} (h : Sc w p l 0) (hT : TbN p w) (hd : l = allL xs) (hz : errL xs = 0) (hn1 : xs.length ≤ 1000) :
    Calls Tryd.prog 33 #[.pointer (some ⟨p, 0, none⟩)] w (GotAll p l xs w) := by
  have HP := Lib.hid (wgetall_im h hT hd hz hn1)
  unfold GotAll at HP
  clear h hT hd hz hn1
  go_enter Tryd.func33, Tryd.ntmps33
  go_wp2_with (go_at_call 88; go_must ((with_reducible refine HP.out.mono ?_); intro e w1 hq; obtain ⟨v, rfl, hr, hs, hg⟩ := hq; have HR := Lib.hid hr; have HS := Lib.hid hs; have HG := Lib.hid hg; clear hr hs hg))
  go_ret
  exact ⟨_, rfl, HR.out, HS.out, HG.out⟩
theorem cfI1 (cap : Array Value) (w : World) : (callFunc 24 cap).run Tryd.prog w = .ok (.enter 24 cap) w := by kernel_rfl
theorem cfI2 (cap : Array Value) (w : World) : (callFunc 32 cap).run Tryd.prog w = .ok (.enter 32 cap) w := by kernel_rfl
set_option maxHeartbeats 4000000 in
theorem clos1 {w : World} {p b : Nat} {l : List UInt8} {k : Nat} {x : Im} (hb : Whole w b 54 #[.pointer (some ⟨p, 0, none⟩)])
    (hG : ∀ W, Below w.heap.size w W → Calls Tryd.prog 25 #[.pointer (some ⟨p, 0, none⟩)] W (Gots p l k x W)) (hp : p < w.heap.size) :
    Calls Tryd.prog 24 #[.pointer (some ⟨b, 0, none⟩)] w (Gots p l k x w) := by
  have c0 := hb.cell 0
  simp only [List.getElem?_toArray, List.getElem?_cons_zero] at c0
  have HGt := Lib.hid (hG _ (below_box w (.cells zC 49)))
  have HWM := Lib.hid (Whole.made w 49 (imC imZ))
  rw [imC_zero] at HWM
  have c0' : ∀ o, (w.alloc o).cell? ⟨b, 0, none⟩ = some (.pointer (some ⟨p, 0, none⟩)) := fun o => (hb.alloc o).cell 0
  clear hb hG c0
  go_enter Tryd.func24, Tryd.ntmps24
  go_wp2_with (go_at_call 25; go_must ((with_reducible refine HGt.out.mono ?_); rintro e w1 ⟨rfl, hs, hg⟩; have HS := Lib.hid hs; have HG := Lib.hid hg; have HW1 := Lib.hid (HWM.out.grown hg (by simp only [ne_eq, Option.some.injEq]; omega)); obtain ⟨k0, k1, k2, k3, k4, k5, k6, k7, k8⟩ := (show Whole w1 w.heap.size 49 (imC imZ) from HW1.out).im; have f0 := HW1.out.frozen 0; have f1 := HW1.out.frozen 1; have f2 := HW1.out.frozen 2; have f3 := HW1.out.frozen 3; have f4 := HW1.out.frozen 4; have f5 := HW1.out.frozen 5; have f6 := HW1.out.frozen 6; have f7 := HW1.out.frozen 7; have f8 := HW1.out.frozen 8; clear hs hg))
  obtain ⟨h1, h2⟩ := put9 (u0 := .string (S x.mod)) (u1 := .string (S x.nam)) (u2 := .int .u8 x.kind.toNat) (u3 := .int .u32 x.typ.toNat) (u4 := .int .u32 x.mn.toNat) (u5 := .int .u32 x.mx.toNat) (u6 := .bool x.bd) (u7 := .int .u8 x.gt.toNat) (u8 := .bool x.gm) HW1.out
  obtain ⟨q0, q1, q2, q3, q4, q5, q6, q7, q8⟩ := Whole.im (x := x) h1
  exact bodyPost_ret (v := imV x) (by simp [results, Tryd.results24, go_sem, q0, q1, q2, q3, q4, q5, q6, q7, q8]) rfl ⟨rfl, HS.out.grown h2 (by simp only [ne_eq, Option.some.injEq]; omega) (fun g e => by injection e with e; omega), gb_before (gb_trans (gb_alloc (gb_refl _ _) _) HG.out) h2 (fun g e => .inr (by injection e with e; omega))⟩
theorem clos2 {w : World} {p b : Nat} {l : List UInt8} {xs : List Im} (hb : Whole w b 54 #[.pointer (some ⟨p, 0, none⟩)])
    (hG : Calls Tryd.prog 33 #[.pointer (some ⟨p, 0, none⟩)] w (GotAll p l xs w)) :
    Calls Tryd.prog 32 #[.pointer (some ⟨b, 0, none⟩)] w (GotAll p l xs w) := by
  have c0 := hb.cell 0
  simp only [List.getElem?_toArray, List.getElem?_cons_zero] at c0
  have HGt := Lib.hid hG
  clear hb hG
  go_enter Tryd.func32, Tryd.ntmps32
  go_wp2_with (go_at_call 33; go_must ((with_reducible refine HGt.out.mono ?_); intro e w1 hq; obtain ⟨v, rfl, hr, hs, hg⟩ := hq; have HR := Lib.hid hr; have HS := Lib.hid hs; have HG := Lib.hid hg; clear hr hs hg))
  go_ret
  exact ⟨_, rfl, HR.out, HS.out, HG.out⟩
end Go.Proofs.YtanddfkhokcepaaDoor

/- imports.Of, Count, Place. -/
namespace Go.Proofs.YtanddfkhokcepaaDoor
open Go.RowKit
set_option linter.unusedVariables false
set_option maxRecDepth 100000

/-- Those of a kind. -/
def ofL (kd : Int) (l : List Im) : List Im := l.filter fun x => decide ((x.kind.toNat : Int) = kd)
theorem ofL_take {kd : Int} {l : List Im} {k : Nat} {x : Im} (h : l[k]? = some x) : ofL kd (l.take (k + 1)) = if (x.kind.toNat : Int) = kd then ofL kd (l.take k) ++ [x] else ofL kd (l.take k) := by
  unfold ofL
  rw [List.take_add_one, h, List.filter_append]
  by_cases e : (x.kind.toNat : Int) = kd <;> simp [e]
theorem ofL_len (kd : Int) (l : List Im) (k : Nat) : (ofL kd (l.take k)).length ≤ k := by
  have h1 : (ofL kd (l.take k)).length ≤ (l.take k).length := List.length_filter_le _ _
  rw [List.length_take] at h1
  omega
set_option maxHeartbeats 2000000 in
theorem of_im {w : World} {A : Option Addr} {c : Nat} {l : List Im} (kd : Int) (hl : Ims w A l) (hn1 : l.length ≤ 10000) :
    Calls Tryd.prog 34 #[.slice A l.length c, .int .u8 kd] w fun e w' => ∃ v, e = .returned v ∧ RowM w' w.heap.size v (ofL kd l) ∧ Below w.heap.size w w' := by
  have HL := Lib.hid hl
  obtain ⟨n, hn⟩ : ∃ n, n = l.length := ⟨_, rfl⟩
  have HN := Lib.hid hn
  rw [← hn] at hn1 ⊢
  have HE := Lib.hid (show ofL kd (l.take n) = ofL kd l by rw [hn, List.take_length])
  clear hl hn
  go_enter Tryd.func34, Tryd.ntmps34
  go_wp2
  go_loopw [5, 10] (fun v i wr => ∃ k : Nat, k ≤ n ∧ i = .int .i64 k ∧ RowM wr w.heap.size v (ofL kd (l.take k)) ∧ Below w.heap.size w wr) (fun _ i _ => n - (intOf i).toNat)
  case atStart => exact ⟨0, Nat.zero_le _, rfl, RowM.nil _ _, Below.refl _ _⟩
  case round =>
    obtain ⟨k, hk, rfl, hr, hb⟩ := hrel
    have hz1 := hb.size
    by_cases hlt : k < n
    · obtain ⟨x, hx⟩ : ∃ x, l[k]? = some x := ⟨_, List.getElem?_eq_getElem (by rw [← HN.out]; exact hlt)⟩
      obtain ⟨b, off, rfl, hbl, m0, m1, m2, m3, m4, m5, m6, m7, m8⟩ := (HL.out.below hb).nine hx
      have hTk := ofL_take (kd := kd) hx
      have hlen := ofL_len kd l k
      have HB := Lib.hid hb
      have HR := Lib.hid hr
      by_cases e : (x.kind.toNat : Int) = kd
      · rw [if_pos e] at hTk
        have HTk := Lib.hid hTk
        have d1 : ((x.kind.toNat : Int) == kd) = true := by simpa using e
        have HX := Lib.hid (Whole.made (wr.alloc (.cells (imC x) 49)) 49 (imC x))
        have HRA := Lib.hid ((hr.alloc (.cells (imC x) 49)).alloc (.cells (imC x) 49))
        have HBA := Lib.hid ((hb.alloc hz1 (.cells (imC x) 49)).alloc (by simp; omega) (.cells (imC x) 49))
        have hsz : ((wr.alloc (.cells (imC x) 49)).alloc (.cells (imC x) 49)).heap.size = wr.heap.size + 2 := by simp
        simp only [World.size_alloc] at HX
        clear e hTk hr hb
        go_wp2_with (at_builtin; (refine rowM_new rfl _ _ rfl w.heap.size _ (ofL kd (l.take k)) rfl HRA.out (wr.heap.size + 1) x rfl HX.out (by omega) (by rw [hsz]; omega) ?_; intro v2 w2 hr2 hg2; have HR2 := Lib.hid hr2; have HB2 := Lib.hid (HBA.out.trans (HRA.out.below (w := w) (by rw [hsz]; omega) hg2)); clear hr2 hg2))
        go_roundw
        case rel => exact ⟨k + 1, by omega, by go_num, by rw [HTk.out]; exact HR2.out, HB2.out⟩
        case measure => simp [intOf]; omega
      · rw [if_neg e] at hTk
        have HTk := Lib.hid hTk
        have d1 : ((x.kind.toNat : Int) == kd) = false := by simpa using e
        clear e hTk hr hb
        go_wp2
        go_roundw
        case rel => exact ⟨k + 1, by omega, by go_num, by rw [HTk.out]; exact HR.out.alloc _, HB.out.alloc hz1 _⟩
        case measure => simp [intOf]; omega
    · obtain rfl : k = n := by omega
      have HR := Lib.hid hr
      have HB := Lib.hid hb
      clear hr hb
      go_wp2
      go_ret
      exact ⟨_, rfl, by rw [← HE.out]; exact HR.out, HB.out⟩
set_option maxHeartbeats 2000000 in
theorem count_im {w : World} {A : Option Addr} {c : Nat} {l : List Im} (kd : Int) (hl : Ims w A l) (hn1 : l.length ≤ 10000) :
    Calls Tryd.prog 36 #[.slice A l.length c, .int .u8 kd] w fun e w' => e = .returned (.int .i64 (ofL kd l).length) ∧ Below w.heap.size w w' := by
  have HL := Lib.hid hl
  obtain ⟨n, hn⟩ : ∃ n, n = l.length := ⟨_, rfl⟩
  have HN := Lib.hid hn
  rw [← hn] at hn1 ⊢
  have HE := Lib.hid (show ofL kd (l.take n) = ofL kd l by rw [hn, List.take_length])
  clear hl hn
  go_enter Tryd.func36, Tryd.ntmps36
  go_wp2
  go_loopw [5, 10] (fun v i wr => ∃ k : Nat, k ≤ n ∧ i = .int .i64 k ∧ v = .int .i64 (ofL kd (l.take k)).length ∧ Below w.heap.size w wr) (fun _ i _ => n - (intOf i).toNat)
  case atStart => exact ⟨0, Nat.zero_le _, rfl, rfl, Below.refl _ _⟩
  case round =>
    obtain ⟨k, hk, rfl, rfl, hb⟩ := hrel
    have hz1 := hb.size
    by_cases hlt : k < n
    · obtain ⟨x, hx⟩ : ∃ x, l[k]? = some x := ⟨_, List.getElem?_eq_getElem (by rw [← HN.out]; exact hlt)⟩
      obtain ⟨b, off, rfl, hbl, m0, m1, m2, m3, m4, m5, m6, m7, m8⟩ := (HL.out.below hb).nine hx
      have hTk := ofL_take (kd := kd) hx
      have hlen := ofL_len kd l k
      have HB := Lib.hid hb
      generalize (ofL kd (l.take k)) = t at *
      by_cases e : (x.kind.toNat : Int) = kd
      · rw [if_pos e] at hTk
        have HTk := Lib.hid hTk
        have d1 : ((x.kind.toNat : Int) == kd) = true := by simpa using e
        clear e hTk hb
        go_wp2
        go_roundw
        case rel => exact ⟨k + 1, by omega, by go_num, by rw [HTk.out, List.length_append, List.length_singleton]; go_num, HB.out.alloc hz1 _⟩
        case measure => simp [intOf]; omega
      · rw [if_neg e] at hTk
        have HTk := Lib.hid hTk
        have d1 : ((x.kind.toNat : Int) == kd) = false := by simpa using e
        clear e hTk hb
        go_wp2
        go_roundw
        case rel => exact ⟨k + 1, by omega, by go_num, by rw [HTk.out], HB.out.alloc hz1 _⟩
        case measure => simp [intOf]; omega
    · obtain rfl : k = n := by omega
      have HB := Lib.hid hb
      clear hb
      go_wp2
      go_ret
      exact ⟨congrArg (fun t : List Im => Ending.returned (Value.int .i64 (t.length : Int))) HE.out, HB.out⟩
/-- The place, among those of a kind, of the first of two names: c of the kind come before the list. -/
def plc (kd : Int) (m n : List UInt8) : List Im → Nat → Option Nat
  | [], _ => none
  | x :: r, c => if (x.kind.toNat : Int) = kd then (if x.mod = m ∧ x.nam = n then some c else plc kd m n r (c + 1)) else plc kd m n r c
theorem plc_drop {kd : Int} {m n : List UInt8} {l : List Im} {k : Nat} {x : Im} (h : l[k]? = some x) (c : Nat) :
    plc kd m n (l.drop k) c = if (x.kind.toNat : Int) = kd then (if x.mod = m ∧ x.nam = n then some c else plc kd m n (l.drop (k + 1)) (c + 1)) else plc kd m n (l.drop (k + 1)) c := by
  obtain ⟨h1, h2⟩ := List.getElem?_eq_some_iff.1 h
  rw [List.drop_eq_getElem_cons h1, h2]
  rfl
def plcV (r : Option Nat) : Value := match r with
  | some c => .tuple #[.int .i64 c, .bool true]
  | none => .tuple #[.int .i64 0, .bool false]
set_option maxHeartbeats 2000000 in
theorem place_im {w : World} {A : Option Addr} {c : Nat} {l : List Im} (kd : Int) (md nm : List UInt8) (hl : Ims w A l) (hn1 : l.length ≤ 10000) :
    Calls Tryd.prog 35 #[.slice A l.length c, .int .u8 kd, .string (S md), .string (S nm)] w fun e w' => e = .returned (plcV (plc kd md nm l 0)) ∧ Below w.heap.size w w' := by
  have HL := Lib.hid hl
  obtain ⟨n, hn⟩ : ∃ n, n = l.length := ⟨_, rfl⟩
  have HN := Lib.hid hn
  rw [← hn] at hn1 ⊢
  obtain ⟨an, han⟩ : ∃ an, an = plc kd md nm l 0 := ⟨_, rfl⟩
  rw [← han]
  have HE := Lib.hid (show l.drop n = [] by rw [hn, List.drop_length])
  have HA := Lib.hid han
  clear hl hn han
  go_enter Tryd.func35, Tryd.ntmps35
  go_wp2
  go_loopw [10, 15] (fun v i wr => ∃ k c : Nat, k ≤ n ∧ c ≤ k ∧ i = .int .i64 k ∧ v = .int .i64 c ∧ an = plc kd md nm (l.drop k) c ∧ Below w.heap.size w wr) (fun _ i _ => n - (intOf i).toNat)
  case atStart => exact ⟨0, 0, Nat.zero_le _, Nat.le_refl _, rfl, rfl, HA.out, Below.refl _ _⟩
  case round =>
    obtain ⟨k, c, hk, hck, rfl, rfl, ha, hb⟩ := hrel
    have hz1 := hb.size
    by_cases hlt : k < n
    · obtain ⟨x, hx⟩ : ∃ x, l[k]? = some x := ⟨_, List.getElem?_eq_getElem (by rw [← HN.out]; exact hlt)⟩
      obtain ⟨b, off, rfl, hbl, m0, m1, m2, m3, m4, m5, m6, m7, m8⟩ := (HL.out.below hb).nine hx
      rw [plc_drop hx] at ha
      have HB := Lib.hid hb
      by_cases e : (x.kind.toNat : Int) = kd
      · rw [if_pos e] at ha
        have d1 : ((x.kind.toNat : Int) != kd) = false := by simpa using e
        by_cases e2 : x.mod = md ∧ x.nam = nm
        · rw [if_pos e2] at ha
          have HAN := Lib.hid ha
          have d2 : ((S x.mod).toList == (S md).toList) = true := by rw [S_beqM, decide_eq_true e2.1]
          have d3 : ((S x.nam).toList == (S nm).toList) = true := by rw [S_beqM, decide_eq_true e2.2]
          clear e e2 ha hb
          go_wp2
          go_ret2
          exact ⟨by rw [HAN.out]; rfl, HB.out.alloc hz1 _⟩
        · rw [if_neg e2] at ha
          have HAN := Lib.hid ha
          by_cases e3 : x.mod = md
          · have d2 : ((S x.mod).toList == (S md).toList) = true := by rw [S_beqM, decide_eq_true e3]
            have d3 : ((S x.nam).toList == (S nm).toList) = false := by rw [S_beqM, decide_eq_false (fun h => e2 ⟨e3, h⟩)]
            clear e e2 e3 ha hb
            go_wp2
            go_roundw
            case rel => exact ⟨k + 1, c + 1, by omega, by omega, by go_num, by go_num, HAN.out, HB.out.alloc hz1 _⟩
            case measure => simp [intOf]; omega
          · have d2 : ((S x.mod).toList == (S md).toList) = false := by rw [S_beqM, decide_eq_false e3]
            clear e e2 e3 ha hb
            go_wp2
            go_roundw
            case rel => exact ⟨k + 1, c + 1, by omega, by omega, by go_num, by go_num, HAN.out, HB.out.alloc hz1 _⟩
            case measure => simp [intOf]; omega
      · rw [if_neg e] at ha
        have HAN := Lib.hid ha
        have d1 : ((x.kind.toNat : Int) != kd) = true := by simpa using e
        clear e ha hb
        go_wp2
        go_roundw
        case rel => exact ⟨k + 1, c, by omega, by omega, by go_num, rfl, HAN.out, HB.out.alloc hz1 _⟩
        case measure => simp [intOf]; omega
    · obtain rfl : k = n := by omega
      rw [HE.out] at ha
      have HAN := Lib.hid ha
      have HB := Lib.hid hb
      clear hb ha
      go_wp2
      go_ret2
      exact ⟨by rw [HAN.out]; rfl, HB.out⟩
end Go.Proofs.YtanddfkhokcepaaDoor

/- awake; the walk of ImportsFinds. -/
namespace Go.Proofs.YtanddfkhokcepaaDoor
open Go.RowKit
set_option linter.unusedVariables false
set_option maxRecDepth 100000

/-- The chapter's example. -/
def imE : Im := ⟨[101, 110, 118], [102], 0, 5, 0, 0, false, 0, false⟩
theorem imE_right : rZ imE = 0 := by decide +kernel
theorem imE_put : iputL imE = [3, 101, 110, 118, 1, 102, 0, 5] := by
  have e3 : lebL (imE.mod.length : Int) = [3] := lebL_sm 3 (by omega) (by omega)
  have e1 : lebL (imE.nam.length : Int) = [1] := lebL_sm 1 (by omega) (by omega)
  have e5 : desL imE = [5] := by
    unfold desL
    rw [if_pos (by rfl)]
    exact lebL_sm 5 (by omega) (by omega)
  unfold iputL nmL
  rw [e3, e1, e5]
  rfl
theorem awake_im (w : World) (hT : Tabs w) : Calls Tryd.prog 18 #[] w fun e w' => e = .returned (.bool true) ∧ Below w.heap.size w w' := by
  have hp := put_im imE w hT (by decide) (by decide)
  obtain ⟨l, hl⟩ : ∃ l : List UInt8, l = [3, 101, 110, 118, 1, 102, 0, 5] := ⟨_, rfl⟩
  have HP := Lib.hid (show Calls Tryd.prog 20 #[.agg #[.string { data := #[101, 110, 118] }, .string { data := #[102] }, .int .u8 0, .int .u32 5, .int .u32 0, .int .u32 0, .bool false, .int .u8 0, .bool false]] w fun e w' => ∃ v, e = .returned (.tuple #[v, .int .i64 0]) ∧ Row w' w.heap.size v l ∧ Below w.heap.size w w' from hp.mono fun e w' ⟨v, h1, h2, h3⟩ => ⟨v, by rw [imE_right] at h1; exact h1, by rw [if_pos imE_right, imE_put] at h2; rw [hl]; exact h2, h3⟩)
  have hcmp : ((S l).toList == [3, 101, 110, 118, 1, 102, 0, 5]) = true := by rw [S_toList, hl]; rfl
  clear hl
  clear hp hT
  go_enter Tryd.func18, Tryd.ntmps18
  go_wp2_with (go_at_call 20; go_must ((with_reducible refine HP.out.mono ?_); intro e w1 h; obtain ⟨v, rfl, hr, hb⟩ := h; obtain ⟨A, c, rfl, hcv⟩ := hr.str; have hcv2 := hcv 9 Tryd.underlying9; have HB := Lib.hid hb; clear hb hr hcv))
  go_ret
  exact ⟨rfl, HB.out⟩
theorem ofL_get {kd : Int} {l : List Im} {k : Nat} {x : Im} (h : l[k]? = some x) (e : (x.kind.toNat : Int) = kd) : (ofL kd l)[(ofL kd (l.take k)).length]? = some x := by
  obtain ⟨h1, h2⟩ := List.getElem?_eq_some_iff.1 h
  have e1 : ofL kd l = ofL kd (l.take k) ++ (x :: ofL kd (l.drop (k + 1))) := by
    conv => lhs; rw [← List.take_append_drop k l, List.drop_eq_getElem_cons h1, h2]
    unfold ofL
    rw [List.filter_append, List.filter_cons_of_pos (by simpa using e)]
  rw [e1, List.getElem?_append_right (Nat.le_refl _), Nat.sub_self]
  rfl
theorem ofL_full (kd : Int) (l : List Im) (k : Nat) : (ofL kd (l.take k)).length ≤ (ofL kd l).length := by
  have e : ofL kd l = ofL kd (l.take k) ++ ofL kd (l.drop k) := by unfold ofL; rw [← List.filter_append, List.take_append_drop]
  rw [e, List.length_append]
  omega
/-- What the law's loop has found so far. -/
def Fnd (kd : Int) (md nm : List UInt8) (l : List Im) (k : Nat) (pl ok : Value) : Prop :=
  (ok = .bool false ∧ pl = .int .i64 0 ∧ plc kd md nm l 0 = plc kd md nm (l.drop k) (ofL kd (l.take k)).length) ∨ (∃ c : Nat, ok = .bool true ∧ pl = .int .i64 c ∧ plc kd md nm l 0 = some c)
theorem tmod_in {a : Int} {n : Nat} (h0 : 0 ≤ a) (hn : 0 < n) : ∃ j : Nat, j < n ∧ Int.tmod a n = j := by
  refine ⟨(a % n).toNat, ?_, ?_⟩
  · have := Int.emod_lt_of_pos a (show (0 : Int) < n by omega)
    have := Int.emod_nonneg a (show (n : Int) ≠ 0 by omega)
    omega
  · rw [Int.tmod_eq_emod_of_nonneg h0]
    have := Int.emod_nonneg a (show (n : Int) ≠ 0 by omega)
    omega
set_option maxHeartbeats 8000000 in
theorem lawF {w : World} {A : Option Addr} {c : Nat} {l : List Im} (kd a : Int) (hl : Ims w A l) (hT : Tabs w) (nl : (l.length : Int) ≤ 9223372036854775807) (a0 : 0 ≤ a) (a1 : a ≤ 255) :
    Calls Tryd.prog 6 #[.slice A l.length c, .int .u8 kd, .int .u8 a] w fun e w' => e = .returned (.bool true) ∧ Below w.heap.size w w' := by
  have HAW := Lib.hid (awake_im w hT)
  have HL := Lib.hid hl
  clear hl hT
  by_cases g1 : 40 < l.length
  · have t1 : decide ((40 : Int) < (l.length : Int)) = true := decide_eq_true (by omega)
    clear g1
    go_enter Tryd.func6, Tryd.ntmps6
    go_wp2_with (go_at_call 18; go_must ((with_reducible refine HAW.out.mono ?_); rintro e w1 ⟨rfl, hb⟩; have H1 := Lib.hid hb; clear hb))
    go_ret
    exact ⟨rfl, H1.out⟩
  have t1 : decide ((40 : Int) < (l.length : Int)) = false := decide_eq_false (by omega)
  by_cases g0 : 0 < l.length
  · have t2 : decide ((0 : Int) < (l.length : Int)) = true := decide_eq_true (by omega)
    obtain ⟨j, hj, ht⟩ := tmod_in a0 g0
    obtain ⟨x, hx⟩ : ∃ x, l[j]? = some x := ⟨_, List.getElem?_eq_getElem hj⟩
    obtain ⟨n, hn⟩ : ∃ n, n = l.length := ⟨_, rfl⟩
    have HN := Lib.hid hn
    have HX := Lib.hid hx
    rw [← hn] at t1 t2 ht hj g0 g1 ⊢
    have w1' : wrap64 a = a := by unfold wrap64; omega
    have hn0 : ((n : Int) == 0) = false := be_of (by simp; omega)
    clear hn hx
    go_enter Tryd.func6, Tryd.ntmps6
    go_upto_region 7 with (go_at_call 18; go_must ((with_reducible refine HAW.out.mono ?_); rintro e w1 ⟨rfl, hb⟩; have H1 := Lib.hid hb; have HL1 := Lib.hid (HL.out.below hb); clear hb))
    obtain ⟨b, off, rfl, hbl, m0, m1, m2, m3, m4, m5, m6, m7, m8⟩ := HL1.out.nine HX.out
    go_quiet (fail)
    -- REST
    have HLd := Lib.hid (HL1.out.below (below_drewN (Below.refl _ w1) nq))
    have HBd := Lib.hid (below_drewN H1.out nq)
    clear m0 m1 m2 m3 m4 m5 m6 m7 m8 hbl ht w1' hn0 t2 HX
    have HO := Lib.hid (of_im (c := c) kd HLd.out (by rw [← HN.out]; omega))
    rw [← HN.out] at HO
    have HNL := Lib.hid (show l.take n = l ∧ l.drop n = [] by rw [HN.out]; exact ⟨List.take_length, List.drop_length⟩)
    have HCt := Lib.hid (fun W (h : Ims W (some ⟨b, off, none⟩) l) => count_im (c := c) kd h (by rw [← HN.out]; omega))
    have HPl := Lib.hid (fun W (h : Ims W (some ⟨b, off, none⟩) l) => place_im (c := c) kd x.mod x.nam h (by rw [← HN.out]; omega))
    rw [← HN.out] at HCt HPl
    obtain ⟨an, han⟩ : ∃ an, an = plc kd x.mod x.nam l 0 := ⟨_, rfl⟩
    have HAn := Lib.hid han
    rw [← han] at HPl
    generalize w1.drewN nq = W1 at *
    generalize x.mod = md at *
    generalize x.nam = nm at *
    clear x
    clear han
    go_wp2_with (go_at_call 34; go_must ((with_reducible refine HO.out.mono ?_); intro e w2 h; obtain ⟨v, rfl, hr, hb⟩ := h; obtain ⟨A2, c2, rfl⟩ := hr.slice; have HR := Lib.hid hr.ims; have HB2 := Lib.hid (HBd.out.trans (hb.mono HBd.out.size)); have HL2 := Lib.hid (HLd.out.below hb); clear hr hb))
    obtain ⟨m, hm⟩ : ∃ m, m = (ofL kd l).length := ⟨_, rfl⟩
    have HM := Lib.hid hm
    rw [← hm]
    clear hm
    go_loopw [10, 11, 12, 13] (fun q pl ok i wr => ∃ k : Nat, k ≤ n ∧ i = .int .i64 k ∧ q = .int .i64 (ofL kd (l.take k)).length ∧ Fnd kd md nm l k pl ok ∧ Below w.heap.size w wr ∧ Ims wr (some ⟨b, off, none⟩) l ∧ Ims wr A2 (ofL kd l)) (fun _ _ _ i _ => n - (intOf i).toNat)
    case atStart => exact ⟨0, Nat.zero_le _, rfl, rfl, .inl ⟨rfl, rfl, rfl⟩, HB2.out, HL2.out, HR.out⟩
    case round =>
      obtain ⟨k, hk, rfl, rfl, hf, hb, hl2, hr2⟩ := hrel
      by_cases hlt : k < n
      · obtain ⟨x, hx⟩ : ∃ x, l[k]? = some x := ⟨_, List.getElem?_eq_getElem (by rw [← HN.out]; exact hlt)⟩
        obtain ⟨b, off, hA0, hbl, m0, m1, m2, m3, m4, m5, m6, m7, m8⟩ := hl2.nine hx
        injection hA0 with hA0; injection hA0 with e1 e2; subst e1; subst e2
        have hTk := ofL_take (kd := kd) hx
        have hqk := ofL_len kd l k
        have HLL := Lib.hid hl2
        have HRR := Lib.hid hr2
        have HB := Lib.hid hb
        have hpd := plc_drop (kd := kd) (m := md) (n := nm) hx (ofL kd (l.take k)).length
        by_cases e : (x.kind.toNat : Int) = kd
        · rw [if_pos e] at hTk hpd
          have hget := ofL_get hx e
          obtain ⟨b2, off2, hA2, hbl2, p0, p1, p2, p3, p4, p5, p6, p7, p8⟩ := hr2.nine hget
          subst hA2
          have hqm := (List.getElem?_eq_some_iff.1 hget).1
          rw [← HM.out] at hqm
          have hlen : (ofL kd (l.take (k + 1))).length = (ofL kd (l.take k)).length + 1 := by rw [hTk, List.length_append, List.length_singleton]
          have HTk := Lib.hid hlen
          obtain ⟨q, hq⟩ : ∃ q, q = (ofL kd (l.take k)).length := ⟨_, rfl⟩
          rw [← hq] at p0 p1 p2 p3 p4 p5 p6 p7 p8 hqm hpd HTk hqk ⊢
          have d1 : ((x.kind.toNat : Int) != kd) = false := by simpa using e
          have t3 : decide ((m : Int) ≤ (q : Int)) = false := decide_eq_false (by omega)
          have he : ∀ W, (binOp BinOp.neq 49 (imV x) (imV x)).run Tryd.prog W = .ok (.bool false) W := fun W => by rw [neq_im, decide_eq_true rfl]; rfl
          rcases hf with ⟨rfl, rfl, hp⟩ | ⟨cc, rfl, rfl, hp⟩
          · rw [← hq] at hp
            by_cases e2 : x.mod = md ∧ x.nam = nm
            · rw [if_pos e2] at hpd
              have HNew := Lib.hid (show Fnd kd md nm l (k + 1) (.int .i64 q) (.bool true) from .inr ⟨q, rfl, rfl, hp.trans hpd⟩)
              have d2 : ((S x.mod).toList == (S md).toList) = true := by  rw [S_beqM, decide_eq_true e2.1]
              have d3 : ((S x.nam).toList == (S nm).toList) = true := by  rw [S_beqM, decide_eq_true e2.2]
              clear e e2 hp hpd hTk hlen hq hb hl2 hr2 hget hx
              go_wp2
              go_quiet (fail)
              go_wp2
              go_roundw
              case rel => exact ⟨k + 1, by omega, by go_num, by rw [HTk.out]; go_num, HNew.out, below_drewN HB.out _, HLL.out.below (below_drewN (Below.refl _ _) _), HRR.out.below (below_drewN (Below.refl _ _) _)⟩
              case measure => simp [intOf]; omega
            · rw [if_neg e2] at hpd
              have HNew := Lib.hid (show Fnd kd md nm l (k + 1) (.int .i64 0) (.bool false) from .inl ⟨rfl, rfl, by rw [hlen, ← hq]; exact hp.trans hpd⟩)
              by_cases e3 : x.mod = md
              · have d2 : ((S x.mod).toList == (S md).toList) = true := by  rw [S_beqM, decide_eq_true e3]
                have d3 : ((S x.nam).toList == (S nm).toList) = false := by  rw [S_beqM, decide_eq_false (fun h => e2 ⟨e3, h⟩)]
                clear e e2 e3 hp hpd hTk hlen hq hb hl2 hr2 hget hx
                go_wp2
                go_quiet (fail)
                go_wp2
                go_roundw
                case rel => exact ⟨k + 1, by omega, by go_num, by rw [HTk.out]; go_num, HNew.out, below_drewN HB.out _, HLL.out.below (below_drewN (Below.refl _ _) _), HRR.out.below (below_drewN (Below.refl _ _) _)⟩
                case measure => simp [intOf]; omega
              · have d2 : ((S x.mod).toList == (S md).toList) = false := by  rw [S_beqM, decide_eq_false e3]
                clear e e2 e3 hp hpd hTk hlen hq hb hl2 hr2 hget hx
                go_wp2
                go_quiet (fail)
                go_wp2
                go_roundw
                case rel => exact ⟨k + 1, by omega, by go_num, by rw [HTk.out]; go_num, HNew.out, below_drewN HB.out _, HLL.out.below (below_drewN (Below.refl _ _) _), HRR.out.below (below_drewN (Below.refl _ _) _)⟩
                case measure => simp [intOf]; omega
          · have HNew := Lib.hid (show Fnd kd md nm l (k + 1) (.int .i64 cc) (.bool true) from .inr ⟨cc, rfl, rfl, hp⟩)
            clear e hp hpd hTk hlen hq hb hl2 hr2 hget hx
            go_wp2
            go_quiet (fail)
            go_wp2
            go_roundw
            case rel => exact ⟨k + 1, by omega, by go_num, by rw [HTk.out]; go_num, HNew.out, below_drewN HB.out _, HLL.out.below (below_drewN (Below.refl _ _) _), HRR.out.below (below_drewN (Below.refl _ _) _)⟩
            case measure => simp [intOf]; omega
        · rw [if_neg e] at hTk hpd
          have HTk := Lib.hid (congrArg List.length hTk)
          have d1 : ((x.kind.toNat : Int) != kd) = true := by simpa using e
          have hNew : ∀ pl ok, Fnd kd md nm l k pl ok → Fnd kd md nm l (k + 1) pl ok := fun pl ok h => h.elim (fun h => .inl ⟨h.1, h.2.1, by rw [hTk]; exact h.2.2.trans hpd⟩) .inr
          have HNew := Lib.hid (hNew _ _ hf)
          clear hNew
          generalize (ofL kd (l.take k)).length = q at *
          clear e hpd hTk hf hb hl2 hr2 hx
          go_wp2
          go_roundw
          case rel => exact ⟨k + 1, by omega, by go_num, by rw [HTk.out], HNew.out, HB.out, HLL.out, HRR.out⟩
          case measure => simp [intOf]; omega
      · obtain rfl : k = n := by omega
        rw [HNL.out.1, ← HM.out]
        have HB := Lib.hid hb
        have HP1 := Lib.hid (HPl.out _ hl2)
        have HC1 := Lib.hid (fun W (hb : Below wr.heap.size wr W) => HCt.out W (hl2.below hb))
        rw [← HM.out] at HC1
        rcases hf with ⟨rfl, rfl, hp⟩ | ⟨cc, rfl, rfl, hp⟩
        · rw [HNL.out.2] at hp
          have hn : an = none := by rw [HAn.out]; exact hp
          rw [hn] at HP1
          unfold plcV at HP1
          clear hp hn hb hl2 hr2 hlt
          go_wp2_with (first
            | (go_at_call 35; go_must ((with_reducible refine HP1.out.mono ?_); rintro e w5 ⟨rfl, hb⟩; have HB5 := Lib.hid hb; clear hb))
            | (go_at_call 36; go_must ((with_reducible refine (HC1.out _ HB5.out).mono ?_); rintro e w6 ⟨rfl, hb⟩; have HB6 := Lib.hid (HB5.out.trans (hb.mono HB5.out.size)); clear hb)))
          go_ret
          exact ⟨rfl, HB.out.trans (HB6.out.mono HB.out.size)⟩
        · have hn : an = some cc := by rw [HAn.out]; exact hp
          rw [hn] at HP1
          unfold plcV at HP1
          clear hp hn hb hl2 hr2 hlt
          go_wp2_with (first
            | (go_at_call 35; go_must ((with_reducible refine HP1.out.mono ?_); rintro e w5 ⟨rfl, hb⟩; have HB5 := Lib.hid hb; clear hb))
            | (go_at_call 36; go_must ((with_reducible refine (HC1.out _ HB5.out).mono ?_); rintro e w6 ⟨rfl, hb⟩; have HB6 := Lib.hid (HB5.out.trans (hb.mono HB5.out.size)); clear hb)))
          go_ret
          exact ⟨rfl, HB.out.trans (HB6.out.mono HB.out.size)⟩
  · obtain rfl : l = [] := List.eq_nil_of_length_eq_zero (by omega)
    have t2 : decide ((0 : Int) < (([] : List Im).length : Int)) = false := by decide
    have HO := Lib.hid (fun W (h : Ims W A ([] : List Im)) => of_im (c := c) kd h (by simp))
    have HCt := Lib.hid (fun W (h : Ims W A ([] : List Im)) => count_im (c := c) kd h (by simp))
    have HPl := Lib.hid (fun W (h : Ims W A ([] : List Im)) => show Calls Tryd.prog 35 #[.slice A ([] : List Im).length c, .int .u8 kd, .string { data := #[101, 110, 118] }, .string { data := #[102] }] W fun e w' => e = .returned (.tuple #[.int .i64 0, .bool false]) ∧ Below W.heap.size W w' from place_im (c := c) kd [101, 110, 118] [102] h (by simp))
    have hn0 : ([] : List Im).length = 0 := rfl
    have hof : (ofL kd []).length = 0 := rfl
    rw [hof] at HCt
    rw [hn0] at HO HCt HPl t1 t2 nl ⊢
    clear g1 g0 hn0
    go_enter Tryd.func6, Tryd.ntmps6
    go_wp2_with (first
      | (go_at_call 18; go_must ((with_reducible refine HAW.out.mono ?_); rintro e w1 ⟨rfl, hb⟩; have H1 := Lib.hid hb; have HL1 := Lib.hid (HL.out.below hb); clear hb))
      | (go_at_call 34; go_must ((with_reducible refine (HO.out _ HL1.out).mono ?_); intro e w2 h; obtain ⟨v, rfl, hr, hb⟩ := h; obtain ⟨A2, c2, rfl⟩ := hr.slice; have HB2 := Lib.hid (H1.out.trans (hb.mono H1.out.size)); have HL2 := Lib.hid (HL1.out.below hb); clear hr hb)))
    (try rw [hof])
    go_loopw [10, 11, 12, 13] (fun q pl ok i wr => i = .int .i64 0 ∧ q = .int .i64 0 ∧ pl = .int .i64 0 ∧ ok = .bool false ∧ Below w.heap.size w wr ∧ Ims wr A ([] : List Im)) (fun _ _ _ i _ => 0)
    case atStart => exact ⟨rfl, rfl, rfl, rfl, HB2.out, HL2.out⟩
    case round =>
      obtain ⟨rfl, rfl, rfl, rfl, hb, hl2⟩ := hrel
      have HB := Lib.hid hb
      have HLL := Lib.hid hl2
      clear hb hl2
      go_wp2_with (first
        | (go_at_call 35; go_must ((with_reducible refine (HPl.out _ HLL.out).mono ?_); rintro e w5 ⟨rfl, hb⟩; have HB5 := Lib.hid (HB.out.trans (hb.mono HB.out.size)); have HL5 := Lib.hid (HLL.out.below hb); clear hb))
        | (go_at_call 36; go_must ((with_reducible refine (HCt.out _ HL5.out).mono ?_); rintro e w6 ⟨rfl, hb⟩; have HB6 := Lib.hid (HB5.out.trans (hb.mono HB5.out.size)); clear hb)))
      go_ret
      exact ⟨rfl, HB6.out⟩
end Go.Proofs.YtanddfkhokcepaaDoor

/- creelref10.Count, name, check. (By gen/genRef.py.) -/
namespace Go.Proofs.YtanddfkhokcepaaDoor
open Go.RowKit Go.Lib
set_option linter.unusedVariables false
set_option maxRecDepth 100000

theorem rcount_im (n : Nat) (w : World) (hn : n ≤ 1000000) : Calls Tryd.prog 29 #[.int .i64 n] w (Strs (lebL n) w) := by
  have HC := Lib.hid (fun w => count_any (n : Int) w (by omega) (by omega))
  generalize lebL (n : Int) = y at *
  go_enter Tryd.func29, Tryd.ntmps29
  go_wp2_with (go_at_call 60; go_must ((with_reducible refine (HC.out _).mono ?_); rintro e w1 ⟨rfl, hb⟩; have HB := Lib.hid hb; clear hb))
  go_ret
  exact ⟨rfl, HB.out⟩
theorem rname_im (s : List UInt8) (w : World) (hs : s.length ≤ 100000) : Calls Tryd.prog 83 #[.string (S s)] w (Strs (nmL s) w) := by
  have HC := Lib.hid (fun w => count_any (s.length : Int) w (by omega) (by omega))
  have hlen := lebL_len (s.length : Int) (by omega)
  have hsz := S_size s
  unfold nmL
  generalize lebL (s.length : Int) = y at *
  have HA := Lib.hid (S_append y s)
  have sy := S_size y
  have q1 : ¬ 9223372036854775807 < (S y).size + s.length := by omega
  clear sy hlen
  go_enter Tryd.func83, Tryd.ntmps83
  go_wp2_with (go_at_call 60; go_must ((with_reducible refine (HC.out _).mono ?_); rintro e w1 ⟨rfl, hb⟩; have HB := Lib.hid hb; clear hb))
  go_ret
  exact ⟨congrArg (fun b => Ending.returned (Value.string b)) HA.out, HB.out⟩
theorem rcheck_im (s : List UInt8) (w : World) (hs : s.length ≤ 1000000) : Calls Tryd.prog 69 #[.string (S s)] w fun e w' => e = .returned (.int .i64 (checkZ s)) ∧ Below w.heap.size w w' := by
  have hsz := S_size s
  by_cases h2 : 200 < s.length
  · have e : checkZ s = 13 := by unfold checkZ; rw [if_pos h2]
    rw [e]
    have hs2 : (200 : Int) < (s.length : Int) := by omega
    clear e h2
    go_enter Tryd.func69, Tryd.ntmps69
    go_wp2
    go_ret
    exact ⟨rfl, Below.refl _ _⟩
  · have hd : decide ((200 : Int) < (s.length : Int)) = false := decide_eq_false (by omega)
    have HC := Lib.hid (fun w => refCount_any s w hs)
    by_cases hv : validD s = true
    · have e : checkZ s = 0 := by unfold checkZ; rw [if_neg h2, if_pos hv]
      rw [e]
      have hc : countZ s = (runeCountL s : Int) := by unfold countZ; rw [if_pos hv]
      have hd2 : decide (countZ s < 0) = false := decide_eq_false (by rw [hc]; omega)
      clear e h2 hv hc
      generalize countZ s = z at *
      go_enter Tryd.func69, Tryd.ntmps69
      go_wp2_with (go_at_call 13; go_must ((with_reducible refine (HC.out _).mono ?_); rintro e w1 ⟨rfl, hb⟩; have HB := Lib.hid hb; clear hb))
      go_ret
      exact ⟨rfl, HB.out⟩
    · have e : checkZ s = 4 := by unfold checkZ; rw [if_neg h2, if_neg hv]
      rw [e]
      have hc : countZ s = -1 := by unfold countZ; rw [if_neg hv]
      have hd2 : decide (countZ s < 0) = true := decide_eq_true (by rw [hc]; omega)
      clear e h2 hv hc
      generalize countZ s = z at *
      go_enter Tryd.func69, Tryd.ntmps69
      go_wp2_with (go_at_call 13; go_must ((with_reducible refine (HC.out _).mono ?_); rintro e w1 ⟨rfl, hb⟩; have HB := Lib.hid hb; clear hb))
      go_ret
      exact ⟨rfl, HB.out⟩
end Go.Proofs.YtanddfkhokcepaaDoor

/- creelref10.Right. (By gen/genRef.py.) -/
namespace Go.Proofs.YtanddfkhokcepaaDoor
open Go.RowKit Go.Lib
set_option linter.unusedVariables false
set_option maxRecDepth 100000

theorem z32 {a : UInt32} : ((a.toNat : Int) = 0) ↔ a = 0 := ⟨fun h => i32_of (b := 0) h, fun h => by subst h; rfl⟩
theorem z8 {a : UInt8} : ((a.toNat : Int) = 0) ↔ a = 0 := ⟨fun h => i8_of (b := 0) h, fun h => by subst h; rfl⟩
theorem neq_lim (a b : UInt32) (c : Bool) (w : World) : (binOp BinOp.neq 45 (.agg #[.int .u32 a.toNat, .int .u32 b.toNat, .bool c]) (.agg #[.int .u32 0, .int .u32 0, .bool false])).run Tryd.prog w = .ok (.bool (!decide (a = 0 ∧ b = 0 ∧ c = false))) w := by
  by_cases h1 : a = 0
  · have e1 := z32.2 h1
    by_cases h2 : b = 0
    · have e2 := z32.2 h2
      cases c
      · rw [decide_eq_true ⟨h1, h2, rfl⟩]
        clear h1 h2
        go_simp
      · rw [decide_eq_false (fun h => by cases h.2.2)]
        clear h1 h2
        go_simp
    · have e2 : ¬ (b.toNat : Int) = 0 := fun h => h2 (z32.1 h)
      rw [decide_eq_false (fun h => h2 h.2.1)]
      clear h1 h2
      go_simp
      intro q; omega
  · have e1 : ¬ (a.toNat : Int) = 0 := fun h => h1 (z32.1 h)
    rw [decide_eq_false (fun h => h1 h.1)]
    clear h1
    go_simp
    intro q; omega
theorem neq_glo (a : UInt8) (c : Bool) (w : World) : (binOp BinOp.neq 47 (.agg #[.int .u8 a.toNat, .bool c]) (.agg #[.int .u8 0, .bool false])).run Tryd.prog w = .ok (.bool (!decide (a = 0 ∧ c = false))) w := by
  by_cases h1 : a = 0
  · have e1 := z8.2 h1
    cases c
    · rw [decide_eq_true ⟨h1, rfl⟩]
      clear h1
      go_simp
    · rw [decide_eq_false (fun h => by cases h.2)]
      clear h1
      go_simp
  · have e1 : ¬ (a.toNat : Int) = 0 := fun h => h1 (z8.1 h)
    rw [decide_eq_false (fun h => h1 h.1)]
    clear h1
    go_simp
    intro q; omega
theorem ofK_0 {x : Im} (h : x.kind.toNat = 0) : x = ofK x ↔ (x.mn = 0 ∧ x.mx = 0 ∧ x.bd = false) ∧ x.gt = 0 ∧ x.gm = false := by
  unfold ofK
  rw [if_pos h]
  cases x
  simp [and_assoc]
theorem ofK_1 {x : Im} (h0 : ¬ x.kind.toNat = 0) (h : x.kind.toNat = 1 ∨ x.kind.toNat = 2) : x = ofK x ↔ x.typ = 0 ∧ x.gt = 0 ∧ x.gm = false := by
  unfold ofK
  rw [if_neg h0, if_pos h]
  cases x
  simp
theorem ofK_3 {x : Im} (h0 : x.kind.toNat = 3) : x = ofK x ↔ x.typ = 0 ∧ (x.mn = 0 ∧ x.mx = 0 ∧ x.bd = false) := by
  unfold ofK
  rw [if_neg (by omega), if_neg (by omega), if_pos h0]
  cases x
  simp
set_option maxHeartbeats 8000000 in
theorem rright_ok (x : Im) (w : World) (h1 : x.mod.length ≤ 1000000) (h2 : x.nam.length ≤ 1000000) (z1 : checkZ x.mod = 0) (z2 : checkZ x.nam = 0) (k3 : ¬ 3 < x.kind.toNat) :
    Calls Tryd.prog 19 #[imV x] w fun e w' => e = .returned (.int .i64 (rZ x)) ∧ Below w.heap.size w w' := by
  have HC1 := Lib.hid (rcheck_im x.mod (w.alloc (.cells (imC x) 49)) h1)
  have HC2 := Lib.hid (fun W => rcheck_im x.nam W h2)
  rw [z1] at HC1
  rw [z2] at HC2
  have H0 := Lib.hid (bx_start w x)
  have hr : rZ x = if x ≠ ofK x ∨ (x.bd = false ∧ x.mx.toNat ≠ 0) then 1 else if x.kind.toNat = 3 then valueZ x.gt.toNat else 0 := by
    unfold rZ; rw [if_neg (by simpa using z1), if_neg (by simpa using z2), if_neg k3]
  rw [hr]
  have d3 : decide ((3 : Int) < (x.kind.toNat : Int)) = false := decide_eq_false (by omega)
  have hml : ∀ {b : Bool}, decide (x.mn = 0 ∧ x.mx = 0 ∧ x.bd = false) = b → ∀ W, (binOp BinOp.neq 45 (.agg #[.int .u32 x.mn.toNat, .int .u32 x.mx.toNat, .bool x.bd]) (.agg #[.int .u32 0, .int .u32 0, .bool false])).run Tryd.prog W = .ok (.bool (!b)) W := fun h W => by rw [neq_lim, h]
  have hmg : ∀ {b : Bool}, decide (x.gt = 0 ∧ x.gm = false) = b → ∀ W, (binOp BinOp.neq 47 (.agg #[.int .u8 x.gt.toNat, .bool x.gm]) (.agg #[.int .u8 0, .bool false])).run Tryd.prog W = .ok (.bool (!b)) W := fun h W => by rw [neq_glo, h]
  have hz0 : ∀ W, (binOp BinOp.neq 45 (.agg #[.int .u32 0, .int .u32 0, .bool false]) (.agg #[.int .u32 0, .int .u32 0, .bool false])).run Tryd.prog W = .ok (.bool false) W := fun W => neq_lim 0 0 false W
  have hz1 : ∀ W, (binOp BinOp.neq 47 (.agg #[.int .u8 0, .bool false]) (.agg #[.int .u8 0, .bool false])).run Tryd.prog W = .ok (.bool false) W := fun W => neq_glo 0 false W
  clear z1 z2 h1 h2 hr
  by_cases q0 : x.kind.toNat = 0
  · have b0 : ((x.kind.toNat : Int) == 0) = true := be_of (by simp; omega)
    have b1 : ((x.kind.toNat : Int) == 1) = false := be_of (by simp; omega)
    have b2 : ((x.kind.toNat : Int) == 2) = false := be_of (by simp; omega)
    have b3 : ((x.kind.toNat : Int) == 3) = false := be_of (by simp; omega)
    have ho := ofK_0 q0
    by_cases eL : x.mn = 0 ∧ x.mx = 0 ∧ x.bd = false
    · have hL : ∀ W, _ := hml (decide_eq_true eL)
      by_cases eG : x.gt = 0 ∧ x.gm = false
      · have hG : ∀ W, _ := hmg (decide_eq_true eG)
        rw [if_neg (fun h => h.elim (fun h => h (ho.2 ⟨eL, eG⟩)) (fun h => h.2 (by rw [eL.2.1]; rfl))), if_neg (by omega)]
        have hm : ((x.mx.toNat : Int) != 0) = false := nb_of (by rw [eL.2.1]; rfl)
        have HBD := eL.2.2
        have HBE := Lib.hid HBD
        clear HBD eL eG ho q0 k3 hml hmg
        go_enter Tryd.func19, Tryd.ntmps19
        go_wp2_with (first
          | (go_at_call 69; go_must (first
            | ((with_reducible refine HC1.out.mono ?_); rintro e w1 ⟨rfl, hb⟩; have H1 := Lib.hid (bx_on H0.out hb); have k1 := H1.out.1.1.cell 1; simp only [List.getElem?_toArray, List.getElem?_cons_zero, List.getElem?_cons_succ] at k1; clear hb)
            | ((with_reducible refine (HC2.out _).mono ?_); rintro e w2 ⟨rfl, hb⟩; have H2 := Lib.hid (bx_on H1.out hb); clear hb k1; obtain ⟨c0, c1, c2, c3, c4, c5, c6, c7, c8⟩ := H2.out.1.1.im; have a2 : ∀ o, (w2.alloc o).cell? ⟨w.heap.size, 2, none⟩ = some (.int .u8 x.kind.toNat) := (fun o => (H2.out.1.1.alloc o).cell 2); have a5 : ∀ o, (w2.alloc o).cell? ⟨w.heap.size, 5, none⟩ = some (.int .u32 x.mx.toNat) := (fun o => (H2.out.1.1.alloc o).cell 5); have a6 : ∀ o, (w2.alloc o).cell? ⟨w.heap.size, 6, none⟩ = some (.bool x.bd) := (fun o => (H2.out.1.1.alloc o).cell 6); have a7 : ∀ o, (w2.alloc o).cell? ⟨w.heap.size, 7, none⟩ = some (.int .u8 x.gt.toNat) := (fun o => (H2.out.1.1.alloc o).cell 7)))))
        all_goals
          go_ret
          exact ⟨rfl, (bx_bel H2.out).alloc (bx_bel H2.out).size _⟩
      · have hG : ∀ W, _ := hmg (decide_eq_false eG)
        rw [if_pos (.inl (fun h => eG (ho.1 h).2))]
        clear eL eG ho q0 k3 hml hmg
        go_enter Tryd.func19, Tryd.ntmps19
        go_wp2_with (first
          | (go_at_call 69; go_must (first
            | ((with_reducible refine HC1.out.mono ?_); rintro e w1 ⟨rfl, hb⟩; have H1 := Lib.hid (bx_on H0.out hb); have k1 := H1.out.1.1.cell 1; simp only [List.getElem?_toArray, List.getElem?_cons_zero, List.getElem?_cons_succ] at k1; clear hb)
            | ((with_reducible refine (HC2.out _).mono ?_); rintro e w2 ⟨rfl, hb⟩; have H2 := Lib.hid (bx_on H1.out hb); clear hb k1; obtain ⟨c0, c1, c2, c3, c4, c5, c6, c7, c8⟩ := H2.out.1.1.im; have a2 : ∀ o, (w2.alloc o).cell? ⟨w.heap.size, 2, none⟩ = some (.int .u8 x.kind.toNat) := (fun o => (H2.out.1.1.alloc o).cell 2); have a5 : ∀ o, (w2.alloc o).cell? ⟨w.heap.size, 5, none⟩ = some (.int .u32 x.mx.toNat) := (fun o => (H2.out.1.1.alloc o).cell 5); have a6 : ∀ o, (w2.alloc o).cell? ⟨w.heap.size, 6, none⟩ = some (.bool x.bd) := (fun o => (H2.out.1.1.alloc o).cell 6); have a7 : ∀ o, (w2.alloc o).cell? ⟨w.heap.size, 7, none⟩ = some (.int .u8 x.gt.toNat) := (fun o => (H2.out.1.1.alloc o).cell 7)))))
        all_goals
          go_ret
          exact ⟨rfl, (bx_bel H2.out).alloc (bx_bel H2.out).size _⟩
    · have hL : ∀ W, _ := hml (decide_eq_false eL)
      rw [if_pos (.inl (fun h => eL (ho.1 h).1))]
      clear eL ho q0 k3 hml hmg
      go_enter Tryd.func19, Tryd.ntmps19
      go_wp2_with (first
        | (go_at_call 69; go_must (first
          | ((with_reducible refine HC1.out.mono ?_); rintro e w1 ⟨rfl, hb⟩; have H1 := Lib.hid (bx_on H0.out hb); have k1 := H1.out.1.1.cell 1; simp only [List.getElem?_toArray, List.getElem?_cons_zero, List.getElem?_cons_succ] at k1; clear hb)
          | ((with_reducible refine (HC2.out _).mono ?_); rintro e w2 ⟨rfl, hb⟩; have H2 := Lib.hid (bx_on H1.out hb); clear hb k1; obtain ⟨c0, c1, c2, c3, c4, c5, c6, c7, c8⟩ := H2.out.1.1.im; have a2 : ∀ o, (w2.alloc o).cell? ⟨w.heap.size, 2, none⟩ = some (.int .u8 x.kind.toNat) := (fun o => (H2.out.1.1.alloc o).cell 2); have a5 : ∀ o, (w2.alloc o).cell? ⟨w.heap.size, 5, none⟩ = some (.int .u32 x.mx.toNat) := (fun o => (H2.out.1.1.alloc o).cell 5); have a6 : ∀ o, (w2.alloc o).cell? ⟨w.heap.size, 6, none⟩ = some (.bool x.bd) := (fun o => (H2.out.1.1.alloc o).cell 6); have a7 : ∀ o, (w2.alloc o).cell? ⟨w.heap.size, 7, none⟩ = some (.int .u8 x.gt.toNat) := (fun o => (H2.out.1.1.alloc o).cell 7)))))
      all_goals
        go_ret
        exact ⟨rfl, (bx_bel H2.out).alloc (bx_bel H2.out).size _⟩
  have b0 : ((x.kind.toNat : Int) == 0) = false := be_of (by simp; omega)
  by_cases q3 : x.kind.toNat = 3
  · have b1 : ((x.kind.toNat : Int) == 1) = false := be_of (by simp; omega)
    have b2 : ((x.kind.toNat : Int) == 2) = false := be_of (by simp; omega)
    have b3 : ((x.kind.toNat : Int) == 3) = true := be_of (by simp; omega)
    have ho := ofK_3 q3
    by_cases eT : x.typ = 0
    · have hty : ((x.typ.toNat : Int) != 0) = false := nb_of (by rw [eT]; rfl)
      by_cases eL : x.mn = 0 ∧ x.mx = 0 ∧ x.bd = false
      · have hL : ∀ W, _ := hml (decide_eq_true eL)
        rw [if_neg (fun h => h.elim (fun h => h (ho.2 ⟨eT, eL⟩)) (fun h => h.2 (by rw [eL.2.1]; rfl))), if_pos q3]
        have hm : ((x.mx.toNat : Int) != 0) = false := nb_of (by rw [eL.2.1]; rfl)
        have HV := Lib.hid (fun W => refValue_any (x.gt.toNat : Int) W)
        have wg : wrap64 (x.gt.toNat : Int) = x.gt.toNat := by have := u8_le x.gt; unfold wrap64; omega
        clear eL eT ho q0 q3 k3 hml hmg
        go_enter Tryd.func19, Tryd.ntmps19
        go_wp2_with (first
          | (go_at_call 70; go_must ((with_reducible refine (HV.out _).mono ?_); rintro e w4 ⟨rfl, rfl⟩))
          | (go_at_call 69; go_must (first
            | ((with_reducible refine HC1.out.mono ?_); rintro e w1 ⟨rfl, hb⟩; have H1 := Lib.hid (bx_on H0.out hb); have k1 := H1.out.1.1.cell 1; simp only [List.getElem?_toArray, List.getElem?_cons_zero, List.getElem?_cons_succ] at k1; clear hb)
            | ((with_reducible refine (HC2.out _).mono ?_); rintro e w2 ⟨rfl, hb⟩; have H2 := Lib.hid (bx_on H1.out hb); clear hb k1; obtain ⟨c0, c1, c2, c3, c4, c5, c6, c7, c8⟩ := H2.out.1.1.im; have a2 : ∀ o, (w2.alloc o).cell? ⟨w.heap.size, 2, none⟩ = some (.int .u8 x.kind.toNat) := (fun o => (H2.out.1.1.alloc o).cell 2); have a5 : ∀ o, (w2.alloc o).cell? ⟨w.heap.size, 5, none⟩ = some (.int .u32 x.mx.toNat) := (fun o => (H2.out.1.1.alloc o).cell 5); have a6 : ∀ o, (w2.alloc o).cell? ⟨w.heap.size, 6, none⟩ = some (.bool x.bd) := (fun o => (H2.out.1.1.alloc o).cell 6); have a7 : ∀ o, (w2.alloc o).cell? ⟨w.heap.size, 7, none⟩ = some (.int .u8 x.gt.toNat) := (fun o => (H2.out.1.1.alloc o).cell 7)))))
        all_goals
          go_ret
          exact ⟨rfl, (bx_bel H2.out).alloc (bx_bel H2.out).size _⟩
      · have hL : ∀ W, _ := hml (decide_eq_false eL)
        rw [if_pos (.inl (fun h => eL (ho.1 h).2))]
        clear eL eT ho q0 q3 k3 hml hmg
        go_enter Tryd.func19, Tryd.ntmps19
        go_wp2_with (first
          | (go_at_call 69; go_must (first
            | ((with_reducible refine HC1.out.mono ?_); rintro e w1 ⟨rfl, hb⟩; have H1 := Lib.hid (bx_on H0.out hb); have k1 := H1.out.1.1.cell 1; simp only [List.getElem?_toArray, List.getElem?_cons_zero, List.getElem?_cons_succ] at k1; clear hb)
            | ((with_reducible refine (HC2.out _).mono ?_); rintro e w2 ⟨rfl, hb⟩; have H2 := Lib.hid (bx_on H1.out hb); clear hb k1; obtain ⟨c0, c1, c2, c3, c4, c5, c6, c7, c8⟩ := H2.out.1.1.im; have a2 : ∀ o, (w2.alloc o).cell? ⟨w.heap.size, 2, none⟩ = some (.int .u8 x.kind.toNat) := (fun o => (H2.out.1.1.alloc o).cell 2); have a5 : ∀ o, (w2.alloc o).cell? ⟨w.heap.size, 5, none⟩ = some (.int .u32 x.mx.toNat) := (fun o => (H2.out.1.1.alloc o).cell 5); have a6 : ∀ o, (w2.alloc o).cell? ⟨w.heap.size, 6, none⟩ = some (.bool x.bd) := (fun o => (H2.out.1.1.alloc o).cell 6); have a7 : ∀ o, (w2.alloc o).cell? ⟨w.heap.size, 7, none⟩ = some (.int .u8 x.gt.toNat) := (fun o => (H2.out.1.1.alloc o).cell 7)))))
        all_goals
          go_ret
          exact ⟨rfl, (bx_bel H2.out).alloc (bx_bel H2.out).size _⟩
    · have hty : ((x.typ.toNat : Int) != 0) = true := nb_of (by simp; exact fun h => eT (z32.1 (by omega)))
      rw [if_pos (.inl (fun h => eT (ho.1 h).1))]
      clear eT ho q0 q3 k3 hml hmg
      go_enter Tryd.func19, Tryd.ntmps19
      go_wp2_with (first
        | (go_at_call 69; go_must (first
          | ((with_reducible refine HC1.out.mono ?_); rintro e w1 ⟨rfl, hb⟩; have H1 := Lib.hid (bx_on H0.out hb); have k1 := H1.out.1.1.cell 1; simp only [List.getElem?_toArray, List.getElem?_cons_zero, List.getElem?_cons_succ] at k1; clear hb)
          | ((with_reducible refine (HC2.out _).mono ?_); rintro e w2 ⟨rfl, hb⟩; have H2 := Lib.hid (bx_on H1.out hb); clear hb k1; obtain ⟨c0, c1, c2, c3, c4, c5, c6, c7, c8⟩ := H2.out.1.1.im; have a2 : ∀ o, (w2.alloc o).cell? ⟨w.heap.size, 2, none⟩ = some (.int .u8 x.kind.toNat) := (fun o => (H2.out.1.1.alloc o).cell 2); have a5 : ∀ o, (w2.alloc o).cell? ⟨w.heap.size, 5, none⟩ = some (.int .u32 x.mx.toNat) := (fun o => (H2.out.1.1.alloc o).cell 5); have a6 : ∀ o, (w2.alloc o).cell? ⟨w.heap.size, 6, none⟩ = some (.bool x.bd) := (fun o => (H2.out.1.1.alloc o).cell 6); have a7 : ∀ o, (w2.alloc o).cell? ⟨w.heap.size, 7, none⟩ = some (.int .u8 x.gt.toNat) := (fun o => (H2.out.1.1.alloc o).cell 7)))))
      all_goals
        go_ret
        exact ⟨rfl, (bx_bel H2.out).alloc (bx_bel H2.out).size _⟩
  have b3 : ((x.kind.toNat : Int) == 3) = false := be_of (by simp; omega)
  have q12 : x.kind.toNat = 1 ∨ x.kind.toNat = 2 := by omega
  have hb1 : ∃ b1 b2, ((x.kind.toNat : Int) == 1) = b1 ∧ ((x.kind.toNat : Int) == 2) = b2 ∧ (b1 = true ∨ (b1 = false ∧ b2 = true)) := by
    rcases q12 with q | q
    · exact ⟨true, false, be_of (by simp; omega), be_of (by simp; omega), .inl rfl⟩
    · exact ⟨false, true, be_of (by simp; omega), be_of (by simp; omega), .inr ⟨rfl, rfl⟩⟩
  have ho := ofK_1 q0 q12
  clear q12
  obtain ⟨k1, k2, b1, b2, hk12⟩ := hb1
  have hf : ∀ (P : Prop) [Decidable P] (h : ¬ P), (if x ≠ ofK x ∨ (x.bd = false ∧ x.mx.toNat ≠ 0) then (1 : Int) else if x.kind.toNat = 3 then valueZ x.gt.toNat else 0) = if x ≠ ofK x ∨ (x.bd = false ∧ x.mx.toNat ≠ 0) then 1 else 0 := fun P _ h => by rw [if_neg q3]
  rw [hf False id]
  clear hf
  by_cases eT : x.typ = 0
  · have hty : ((x.typ.toNat : Int) != 0) = false := nb_of (by rw [eT]; rfl)
    by_cases eG : x.gt = 0 ∧ x.gm = false
    · have hG : ∀ W, _ := hmg (decide_eq_true eG)
      by_cases eB : x.bd = false
      · by_cases eM : x.mx.toNat = 0
        · rw [if_neg (fun h => h.elim (fun h => h (ho.2 ⟨eT, eG⟩)) (fun h => h.2 eM))]
          have hm : ((x.mx.toNat : Int) != 0) = false := nb_of (by simp; omega)
          have HBD := Lib.hid eB
          clear eB eM eG eT ho q0 q3 k3 hml hmg
          rcases hk12 with rfl | ⟨rfl, rfl⟩
          · go_enter Tryd.func19, Tryd.ntmps19
            go_wp2_with (first
              | (go_at_call 69; go_must (first
                | ((with_reducible refine HC1.out.mono ?_); rintro e w1 ⟨rfl, hb⟩; have H1 := Lib.hid (bx_on H0.out hb); have k1 := H1.out.1.1.cell 1; simp only [List.getElem?_toArray, List.getElem?_cons_zero, List.getElem?_cons_succ] at k1; clear hb)
                | ((with_reducible refine (HC2.out _).mono ?_); rintro e w2 ⟨rfl, hb⟩; have H2 := Lib.hid (bx_on H1.out hb); clear hb k1; obtain ⟨c0, c1, c2, c3, c4, c5, c6, c7, c8⟩ := H2.out.1.1.im; have a2 : ∀ o, (w2.alloc o).cell? ⟨w.heap.size, 2, none⟩ = some (.int .u8 x.kind.toNat) := (fun o => (H2.out.1.1.alloc o).cell 2); have a5 : ∀ o, (w2.alloc o).cell? ⟨w.heap.size, 5, none⟩ = some (.int .u32 x.mx.toNat) := (fun o => (H2.out.1.1.alloc o).cell 5); have a6 : ∀ o, (w2.alloc o).cell? ⟨w.heap.size, 6, none⟩ = some (.bool x.bd) := (fun o => (H2.out.1.1.alloc o).cell 6); have a7 : ∀ o, (w2.alloc o).cell? ⟨w.heap.size, 7, none⟩ = some (.int .u8 x.gt.toNat) := (fun o => (H2.out.1.1.alloc o).cell 7); have hbd := HBD.out))))
            all_goals
              go_ret
              exact ⟨rfl, (bx_bel H2.out).alloc (bx_bel H2.out).size _⟩
          · go_enter Tryd.func19, Tryd.ntmps19
            go_wp2_with (first
              | (go_at_call 69; go_must (first
                | ((with_reducible refine HC1.out.mono ?_); rintro e w1 ⟨rfl, hb⟩; have H1 := Lib.hid (bx_on H0.out hb); have k1 := H1.out.1.1.cell 1; simp only [List.getElem?_toArray, List.getElem?_cons_zero, List.getElem?_cons_succ] at k1; clear hb)
                | ((with_reducible refine (HC2.out _).mono ?_); rintro e w2 ⟨rfl, hb⟩; have H2 := Lib.hid (bx_on H1.out hb); clear hb k1; obtain ⟨c0, c1, c2, c3, c4, c5, c6, c7, c8⟩ := H2.out.1.1.im; have a2 : ∀ o, (w2.alloc o).cell? ⟨w.heap.size, 2, none⟩ = some (.int .u8 x.kind.toNat) := (fun o => (H2.out.1.1.alloc o).cell 2); have a5 : ∀ o, (w2.alloc o).cell? ⟨w.heap.size, 5, none⟩ = some (.int .u32 x.mx.toNat) := (fun o => (H2.out.1.1.alloc o).cell 5); have a6 : ∀ o, (w2.alloc o).cell? ⟨w.heap.size, 6, none⟩ = some (.bool x.bd) := (fun o => (H2.out.1.1.alloc o).cell 6); have a7 : ∀ o, (w2.alloc o).cell? ⟨w.heap.size, 7, none⟩ = some (.int .u8 x.gt.toNat) := (fun o => (H2.out.1.1.alloc o).cell 7); have hbd := HBD.out))))
            all_goals
              go_ret
              exact ⟨rfl, (bx_bel H2.out).alloc (bx_bel H2.out).size _⟩
        · rw [if_pos (.inr ⟨eB, eM⟩)]
          have hm : ((x.mx.toNat : Int) != 0) = true := nb_of (by simp; omega)
          have HBD := Lib.hid eB
          clear eB eM eG eT ho q0 q3 k3 hml hmg
          rcases hk12 with rfl | ⟨rfl, rfl⟩
          · go_enter Tryd.func19, Tryd.ntmps19
            go_wp2_with (first
              | (go_at_call 69; go_must (first
                | ((with_reducible refine HC1.out.mono ?_); rintro e w1 ⟨rfl, hb⟩; have H1 := Lib.hid (bx_on H0.out hb); have k1 := H1.out.1.1.cell 1; simp only [List.getElem?_toArray, List.getElem?_cons_zero, List.getElem?_cons_succ] at k1; clear hb)
                | ((with_reducible refine (HC2.out _).mono ?_); rintro e w2 ⟨rfl, hb⟩; have H2 := Lib.hid (bx_on H1.out hb); clear hb k1; obtain ⟨c0, c1, c2, c3, c4, c5, c6, c7, c8⟩ := H2.out.1.1.im; have a2 : ∀ o, (w2.alloc o).cell? ⟨w.heap.size, 2, none⟩ = some (.int .u8 x.kind.toNat) := (fun o => (H2.out.1.1.alloc o).cell 2); have a5 : ∀ o, (w2.alloc o).cell? ⟨w.heap.size, 5, none⟩ = some (.int .u32 x.mx.toNat) := (fun o => (H2.out.1.1.alloc o).cell 5); have a6 : ∀ o, (w2.alloc o).cell? ⟨w.heap.size, 6, none⟩ = some (.bool x.bd) := (fun o => (H2.out.1.1.alloc o).cell 6); have a7 : ∀ o, (w2.alloc o).cell? ⟨w.heap.size, 7, none⟩ = some (.int .u8 x.gt.toNat) := (fun o => (H2.out.1.1.alloc o).cell 7); have hbd := HBD.out))))
            all_goals
              go_ret
              exact ⟨rfl, (bx_bel H2.out).alloc (bx_bel H2.out).size _⟩
          · go_enter Tryd.func19, Tryd.ntmps19
            go_wp2_with (first
              | (go_at_call 69; go_must (first
                | ((with_reducible refine HC1.out.mono ?_); rintro e w1 ⟨rfl, hb⟩; have H1 := Lib.hid (bx_on H0.out hb); have k1 := H1.out.1.1.cell 1; simp only [List.getElem?_toArray, List.getElem?_cons_zero, List.getElem?_cons_succ] at k1; clear hb)
                | ((with_reducible refine (HC2.out _).mono ?_); rintro e w2 ⟨rfl, hb⟩; have H2 := Lib.hid (bx_on H1.out hb); clear hb k1; obtain ⟨c0, c1, c2, c3, c4, c5, c6, c7, c8⟩ := H2.out.1.1.im; have a2 : ∀ o, (w2.alloc o).cell? ⟨w.heap.size, 2, none⟩ = some (.int .u8 x.kind.toNat) := (fun o => (H2.out.1.1.alloc o).cell 2); have a5 : ∀ o, (w2.alloc o).cell? ⟨w.heap.size, 5, none⟩ = some (.int .u32 x.mx.toNat) := (fun o => (H2.out.1.1.alloc o).cell 5); have a6 : ∀ o, (w2.alloc o).cell? ⟨w.heap.size, 6, none⟩ = some (.bool x.bd) := (fun o => (H2.out.1.1.alloc o).cell 6); have a7 : ∀ o, (w2.alloc o).cell? ⟨w.heap.size, 7, none⟩ = some (.int .u8 x.gt.toNat) := (fun o => (H2.out.1.1.alloc o).cell 7); have hbd := HBD.out))))
            all_goals
              go_ret
              exact ⟨rfl, (bx_bel H2.out).alloc (bx_bel H2.out).size _⟩
      · rw [if_neg (fun h => h.elim (fun h => h (ho.2 ⟨eT, eG⟩)) (fun h => eB h.1))]
        have HBD := Lib.hid (show x.bd = true by simpa using eB)
        clear eB eG eT ho q0 q3 k3 hml hmg
        rcases hk12 with rfl | ⟨rfl, rfl⟩
        · go_enter Tryd.func19, Tryd.ntmps19
          go_wp2_with (first
            | (go_at_call 69; go_must (first
              | ((with_reducible refine HC1.out.mono ?_); rintro e w1 ⟨rfl, hb⟩; have H1 := Lib.hid (bx_on H0.out hb); have k1 := H1.out.1.1.cell 1; simp only [List.getElem?_toArray, List.getElem?_cons_zero, List.getElem?_cons_succ] at k1; clear hb)
              | ((with_reducible refine (HC2.out _).mono ?_); rintro e w2 ⟨rfl, hb⟩; have H2 := Lib.hid (bx_on H1.out hb); clear hb k1; obtain ⟨c0, c1, c2, c3, c4, c5, c6, c7, c8⟩ := H2.out.1.1.im; have a2 : ∀ o, (w2.alloc o).cell? ⟨w.heap.size, 2, none⟩ = some (.int .u8 x.kind.toNat) := (fun o => (H2.out.1.1.alloc o).cell 2); have a5 : ∀ o, (w2.alloc o).cell? ⟨w.heap.size, 5, none⟩ = some (.int .u32 x.mx.toNat) := (fun o => (H2.out.1.1.alloc o).cell 5); have a6 : ∀ o, (w2.alloc o).cell? ⟨w.heap.size, 6, none⟩ = some (.bool x.bd) := (fun o => (H2.out.1.1.alloc o).cell 6); have a7 : ∀ o, (w2.alloc o).cell? ⟨w.heap.size, 7, none⟩ = some (.int .u8 x.gt.toNat) := (fun o => (H2.out.1.1.alloc o).cell 7); have hbd := HBD.out))))
          all_goals
            go_ret
            exact ⟨rfl, (bx_bel H2.out).alloc (bx_bel H2.out).size _⟩
        · go_enter Tryd.func19, Tryd.ntmps19
          go_wp2_with (first
            | (go_at_call 69; go_must (first
              | ((with_reducible refine HC1.out.mono ?_); rintro e w1 ⟨rfl, hb⟩; have H1 := Lib.hid (bx_on H0.out hb); have k1 := H1.out.1.1.cell 1; simp only [List.getElem?_toArray, List.getElem?_cons_zero, List.getElem?_cons_succ] at k1; clear hb)
              | ((with_reducible refine (HC2.out _).mono ?_); rintro e w2 ⟨rfl, hb⟩; have H2 := Lib.hid (bx_on H1.out hb); clear hb k1; obtain ⟨c0, c1, c2, c3, c4, c5, c6, c7, c8⟩ := H2.out.1.1.im; have a2 : ∀ o, (w2.alloc o).cell? ⟨w.heap.size, 2, none⟩ = some (.int .u8 x.kind.toNat) := (fun o => (H2.out.1.1.alloc o).cell 2); have a5 : ∀ o, (w2.alloc o).cell? ⟨w.heap.size, 5, none⟩ = some (.int .u32 x.mx.toNat) := (fun o => (H2.out.1.1.alloc o).cell 5); have a6 : ∀ o, (w2.alloc o).cell? ⟨w.heap.size, 6, none⟩ = some (.bool x.bd) := (fun o => (H2.out.1.1.alloc o).cell 6); have a7 : ∀ o, (w2.alloc o).cell? ⟨w.heap.size, 7, none⟩ = some (.int .u8 x.gt.toNat) := (fun o => (H2.out.1.1.alloc o).cell 7); have hbd := HBD.out))))
          all_goals
            go_ret
            exact ⟨rfl, (bx_bel H2.out).alloc (bx_bel H2.out).size _⟩
    · have hG : ∀ W, _ := hmg (decide_eq_false eG)
      rw [if_pos (.inl (fun h => eG (ho.1 h).2))]
      clear eG eT ho q0 q3 k3 hml hmg
      rcases hk12 with rfl | ⟨rfl, rfl⟩
      · go_enter Tryd.func19, Tryd.ntmps19
        go_wp2_with (first
          | (go_at_call 69; go_must (first
            | ((with_reducible refine HC1.out.mono ?_); rintro e w1 ⟨rfl, hb⟩; have H1 := Lib.hid (bx_on H0.out hb); have k1 := H1.out.1.1.cell 1; simp only [List.getElem?_toArray, List.getElem?_cons_zero, List.getElem?_cons_succ] at k1; clear hb)
            | ((with_reducible refine (HC2.out _).mono ?_); rintro e w2 ⟨rfl, hb⟩; have H2 := Lib.hid (bx_on H1.out hb); clear hb k1; obtain ⟨c0, c1, c2, c3, c4, c5, c6, c7, c8⟩ := H2.out.1.1.im; have a2 : ∀ o, (w2.alloc o).cell? ⟨w.heap.size, 2, none⟩ = some (.int .u8 x.kind.toNat) := (fun o => (H2.out.1.1.alloc o).cell 2); have a5 : ∀ o, (w2.alloc o).cell? ⟨w.heap.size, 5, none⟩ = some (.int .u32 x.mx.toNat) := (fun o => (H2.out.1.1.alloc o).cell 5); have a6 : ∀ o, (w2.alloc o).cell? ⟨w.heap.size, 6, none⟩ = some (.bool x.bd) := (fun o => (H2.out.1.1.alloc o).cell 6); have a7 : ∀ o, (w2.alloc o).cell? ⟨w.heap.size, 7, none⟩ = some (.int .u8 x.gt.toNat) := (fun o => (H2.out.1.1.alloc o).cell 7)))))
        all_goals
          go_ret
          exact ⟨rfl, (bx_bel H2.out).alloc (bx_bel H2.out).size _⟩
      · go_enter Tryd.func19, Tryd.ntmps19
        go_wp2_with (first
          | (go_at_call 69; go_must (first
            | ((with_reducible refine HC1.out.mono ?_); rintro e w1 ⟨rfl, hb⟩; have H1 := Lib.hid (bx_on H0.out hb); have k1 := H1.out.1.1.cell 1; simp only [List.getElem?_toArray, List.getElem?_cons_zero, List.getElem?_cons_succ] at k1; clear hb)
            | ((with_reducible refine (HC2.out _).mono ?_); rintro e w2 ⟨rfl, hb⟩; have H2 := Lib.hid (bx_on H1.out hb); clear hb k1; obtain ⟨c0, c1, c2, c3, c4, c5, c6, c7, c8⟩ := H2.out.1.1.im; have a2 : ∀ o, (w2.alloc o).cell? ⟨w.heap.size, 2, none⟩ = some (.int .u8 x.kind.toNat) := (fun o => (H2.out.1.1.alloc o).cell 2); have a5 : ∀ o, (w2.alloc o).cell? ⟨w.heap.size, 5, none⟩ = some (.int .u32 x.mx.toNat) := (fun o => (H2.out.1.1.alloc o).cell 5); have a6 : ∀ o, (w2.alloc o).cell? ⟨w.heap.size, 6, none⟩ = some (.bool x.bd) := (fun o => (H2.out.1.1.alloc o).cell 6); have a7 : ∀ o, (w2.alloc o).cell? ⟨w.heap.size, 7, none⟩ = some (.int .u8 x.gt.toNat) := (fun o => (H2.out.1.1.alloc o).cell 7)))))
        all_goals
          go_ret
          exact ⟨rfl, (bx_bel H2.out).alloc (bx_bel H2.out).size _⟩
  · have hty : ((x.typ.toNat : Int) != 0) = true := nb_of (by simp; exact fun h => eT (z32.1 (by omega)))
    rw [if_pos (.inl (fun h => eT (ho.1 h).1))]
    clear eT ho q0 q3 k3 hml hmg
    rcases hk12 with rfl | ⟨rfl, rfl⟩
    · go_enter Tryd.func19, Tryd.ntmps19
      go_wp2_with (first
        | (go_at_call 69; go_must (first
          | ((with_reducible refine HC1.out.mono ?_); rintro e w1 ⟨rfl, hb⟩; have H1 := Lib.hid (bx_on H0.out hb); have k1 := H1.out.1.1.cell 1; simp only [List.getElem?_toArray, List.getElem?_cons_zero, List.getElem?_cons_succ] at k1; clear hb)
          | ((with_reducible refine (HC2.out _).mono ?_); rintro e w2 ⟨rfl, hb⟩; have H2 := Lib.hid (bx_on H1.out hb); clear hb k1; obtain ⟨c0, c1, c2, c3, c4, c5, c6, c7, c8⟩ := H2.out.1.1.im; have a2 : ∀ o, (w2.alloc o).cell? ⟨w.heap.size, 2, none⟩ = some (.int .u8 x.kind.toNat) := (fun o => (H2.out.1.1.alloc o).cell 2); have a5 : ∀ o, (w2.alloc o).cell? ⟨w.heap.size, 5, none⟩ = some (.int .u32 x.mx.toNat) := (fun o => (H2.out.1.1.alloc o).cell 5); have a6 : ∀ o, (w2.alloc o).cell? ⟨w.heap.size, 6, none⟩ = some (.bool x.bd) := (fun o => (H2.out.1.1.alloc o).cell 6); have a7 : ∀ o, (w2.alloc o).cell? ⟨w.heap.size, 7, none⟩ = some (.int .u8 x.gt.toNat) := (fun o => (H2.out.1.1.alloc o).cell 7)))))
      all_goals
        go_ret
        exact ⟨rfl, (bx_bel H2.out).alloc (bx_bel H2.out).size _⟩
    · go_enter Tryd.func19, Tryd.ntmps19
      go_wp2_with (first
        | (go_at_call 69; go_must (first
          | ((with_reducible refine HC1.out.mono ?_); rintro e w1 ⟨rfl, hb⟩; have H1 := Lib.hid (bx_on H0.out hb); have k1 := H1.out.1.1.cell 1; simp only [List.getElem?_toArray, List.getElem?_cons_zero, List.getElem?_cons_succ] at k1; clear hb)
          | ((with_reducible refine (HC2.out _).mono ?_); rintro e w2 ⟨rfl, hb⟩; have H2 := Lib.hid (bx_on H1.out hb); clear hb k1; obtain ⟨c0, c1, c2, c3, c4, c5, c6, c7, c8⟩ := H2.out.1.1.im; have a2 : ∀ o, (w2.alloc o).cell? ⟨w.heap.size, 2, none⟩ = some (.int .u8 x.kind.toNat) := (fun o => (H2.out.1.1.alloc o).cell 2); have a5 : ∀ o, (w2.alloc o).cell? ⟨w.heap.size, 5, none⟩ = some (.int .u32 x.mx.toNat) := (fun o => (H2.out.1.1.alloc o).cell 5); have a6 : ∀ o, (w2.alloc o).cell? ⟨w.heap.size, 6, none⟩ = some (.bool x.bd) := (fun o => (H2.out.1.1.alloc o).cell 6); have a7 : ∀ o, (w2.alloc o).cell? ⟨w.heap.size, 7, none⟩ = some (.int .u8 x.gt.toNat) := (fun o => (H2.out.1.1.alloc o).cell 7)))))
      all_goals
        go_ret
        exact ⟨rfl, (bx_bel H2.out).alloc (bx_bel H2.out).size _⟩
set_option maxHeartbeats 2000000 in
theorem rright_im (x : Im) (w : World) (h1 : x.mod.length ≤ 1000000) (h2 : x.nam.length ≤ 1000000) :
    Calls Tryd.prog 19 #[imV x] w fun e w' => e = .returned (.int .i64 (rZ x)) ∧ Below w.heap.size w w' := by
  by_cases z1 : checkZ x.mod = 0
  · by_cases z2 : checkZ x.nam = 0
    · by_cases k3 : 3 < x.kind.toNat
      · have hr : rZ x = 43 := by unfold rZ; rw [if_neg (by simpa using z1), if_neg (by simpa using z2), if_pos k3]
        have HC1 := Lib.hid (rcheck_im x.mod (w.alloc (.cells (imC x) 49)) h1)
        have HC2 := Lib.hid (fun W => rcheck_im x.nam W h2)
        rw [z1] at HC1
        rw [z2] at HC2
        have H0 := Lib.hid (bx_start w x)
        rw [hr]
        have d3 : decide ((3 : Int) < (x.kind.toNat : Int)) = true := decide_eq_true (by omega)
        clear hr k3 z1 z2 h1 h2
        go_enter Tryd.func19, Tryd.ntmps19
        go_wp2_with (go_at_call 69; go_must (first
          | ((with_reducible refine HC1.out.mono ?_); rintro e w1 ⟨rfl, hb⟩; have H1 := Lib.hid (bx_on H0.out hb); have k1 := H1.out.1.1.cell 1; simp only [List.getElem?_toArray, List.getElem?_cons_zero, List.getElem?_cons_succ] at k1; clear hb)
          | ((with_reducible refine (HC2.out _).mono ?_); rintro e w2 ⟨rfl, hb⟩; have H2 := Lib.hid (bx_on H1.out hb); clear hb k1; obtain ⟨c0, c1, c2, c3, c4, c5, c6, c7, c8⟩ := H2.out.1.1.im)))
        go_ret
        exact ⟨rfl, bx_bel H2.out⟩
      · exact rright_ok x w h1 h2 z1 z2 k3
    · have hr : rZ x = checkZ x.nam := by unfold rZ; rw [if_neg (by simpa using z1), if_pos z2]
      have HC1 := Lib.hid (rcheck_im x.mod (w.alloc (.cells (imC x) 49)) h1)
      have HC2 := Lib.hid (fun W => rcheck_im x.nam W h2)
      rw [z1] at HC1
      have H0 := Lib.hid (bx_start w x)
      rw [hr]
      have d3 : (checkZ x.nam != 0) = true := zb_of (by simpa using z2)
      clear hr z1 z2 h1 h2
      generalize checkZ x.nam = z at *
      go_enter Tryd.func19, Tryd.ntmps19
      go_wp2_with (go_at_call 69; go_must (first
          | ((with_reducible refine HC1.out.mono ?_); rintro e w1 ⟨rfl, hb⟩; have H1 := Lib.hid (bx_on H0.out hb); have k1 := H1.out.1.1.cell 1; simp only [List.getElem?_toArray, List.getElem?_cons_zero, List.getElem?_cons_succ] at k1; clear hb)
          | ((with_reducible refine (HC2.out _).mono ?_); rintro e w2 ⟨rfl, hb⟩; have H2 := Lib.hid (bx_on H1.out hb); clear hb k1)))
      go_ret
      exact ⟨rfl, bx_bel H2.out⟩
  · have hr : rZ x = checkZ x.mod := by unfold rZ; rw [if_pos z1]
    have HC1 := Lib.hid (rcheck_im x.mod (w.alloc (.cells (imC x) 49)) h1)
    have H0 := Lib.hid (bx_start w x)
    rw [hr]
    have d3 : (checkZ x.mod != 0) = true := zb_of (by simpa using z1)
    clear hr z1 h1 h2
    generalize checkZ x.mod = z at *
    go_enter Tryd.func19, Tryd.ntmps19
    go_wp2_with (go_at_call 69; go_must ((with_reducible refine HC1.out.mono ?_); rintro e w1 ⟨rfl, hb⟩; have H1 := Lib.hid (bx_on H0.out hb); clear hb))
    go_ret
    exact ⟨rfl, bx_bel H1.out⟩
end Go.Proofs.YtanddfkhokcepaaDoor
