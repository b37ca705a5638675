/- abort.Value of a function that ends well, whatever it hands back: api.Export. (By gen/genVal.py.) -/
import Derived.Test.YtihpnplfklbgjaaDoorQd13
import Derived.Test.YtihpnplfklbgjaaDoorQd02
import Derived.RegionTactic
import Derived.Deep.LoopGhost
import Derived.Maps.OwnSet
import Derived.Maps.AppendAt
import Derived.StringKeys
import Derived.Deep.QuietTactic
import Derived.BigQuiet
import Derived.StillTailTactics
import Derived.Deep.DeepMust
import Derived.Test.YtihpnplfklbgjaaDoorQd07
import Derived.Test.YtihpnplfklbgjaaDoorQd10
namespace Go.Proofs.YtihpnplfklbgjaaDoor
open Go.RowKit
set_option linter.unusedVariables false
set_option maxRecDepth 100000

section
variable {T : Ex → World → Prop}
/-- What Value's closure leaves behind, seen from Value's beginning. -/
structure VSX (T : Ex → World → Prop) (w : World) (q : Nat) (x : Ex) (w1 : World) : Prop where
  kept : T x w1
  grown : w.grownBy w1 (some q)
  val : Whole w1 (w.heap.size + 3) 64 #[.string (S x.nam), .int .u8 x.kind.toNat, .int .u32 x.idx.toNat]
  r1 : Whole w1 (w.heap.size + 1) 64 #[.string { data := #[] }, .int .u8 0, .int .u32 0]
  r2 : Whole w1 (w.heap.size + 2) 37 #[.int .i64 0, .int .i64 0]
end
end Go.Proofs.YtihpnplfklbgjaaDoor

/- abort.Value of a function that ends well, whatever it hands back: []api.Export. -/
namespace Go.Proofs.YtihpnplfklbgjaaDoor
open Go.RowKit
set_option linter.unusedVariables false
set_option maxRecDepth 100000

theorem cfVY (cap : Array Value) (w : World) : (callFunc 69 cap).run Tryd.prog w = .ok (.enter 69 cap) w := by kernel_rfl
section
variable {T : (Option Addr × Nat × Nat) → World → Prop}
/-- Value's own closure: what the step hands back lies in its cell. -/
theorem valClosY {g : FuncId} {cap : Array Value} {b1 b4 q : Nat} {w : World} {z : Array Value} (hz : z.size = 1) (hcf : ∀ w : World, (callFunc g cap).run Tryd.prog w = .ok (.enter g cap) w)
    (h1 : Whole w b1 71 #[.func (.func g) #[] cap]) (h4 : Whole w b4 62 #[.slice none 0 0]) (hb : q < b4) (hT : ∀ x W W', T x W → W.grownBy W' (some b4) → T x W')
    (h : Calls Tryd.prog g cap w fun e w' => ∃ x, e = .returned (.slice x.1 x.2.1 x.2.2) ∧ T x w' ∧ w.grownBy w' (some q)) :
    Calls Tryd.prog 69 #[.pointer (some ⟨b1, 0, none⟩), .pointer (some ⟨b4, 0, none⟩)] w fun e w' =>
      e = .returned (.tuple #[]) ∧ ∃ x, T x w' ∧ Whole w' b4 62 #[.slice x.1 x.2.1 x.2.2] ∧ ∃ w1, w.grownBy w1 (some q) ∧ w1.grownBy w' (some b4) := by
  have hnil : ∀ w : World, (binOp BinOp.neq 71 (.func (.func g) #[] cap) .nilFunc).run Tryd.prog w = .ok (.bool true) w := fun _ => by kernel_rfl
  have c1 := h1.cell 0
  simp only [List.getElem?_toArray, List.getElem?_cons_zero] at c1
  have HH := Lib.hid h
  have H4 := Lib.hid h4
  have HT := Lib.hid hT
  clear h h1 h4 hT
  go_enter Tryd.func69, Tryd.ntmps69
  go_wp2_with fail
  refine HH.out.mono ?_
  rintro e w1 ⟨x, rfl, hs, hg⟩
  have HW := H4.out.grown hg (by simp only [ne_eq, Option.some.injEq]; omega)
  have k0 := HW.cell 0
  have f0 := HW.frozen 0
  simp only [List.getElem?_toArray, List.getElem?_cons_zero] at k0
  obtain ⟨p1, p2⟩ := put1 (u0 := .slice x.1 x.2.1 x.2.2) HW
  have F : Hid (T x (w1.setCell ⟨b4, 0, none⟩ (.slice x.1 x.2.1 x.2.2))) := HT.out _ _ _ hs p2
  have P1 := Lib.hid p1
  have P2 := Lib.hid p2
  have HG := Lib.hid hg
  clear p1 p2 hs hg HW hcf
  go_wp2_with fail
  go_end0
  exact ⟨rfl, x, F.out, P1.out, w1, HG.out, P2.out⟩
/-- What Value's closure leaves behind, seen from Value's beginning. -/
structure VSY (T : (Option Addr × Nat × Nat) → World → Prop) (w : World) (q : Nat) (x : (Option Addr × Nat × Nat)) (w1 : World) : Prop where
  kept : T x w1
  grown : w.grownBy w1 (some q)
  val : Whole w1 (w.heap.size + 2) 62 #[.slice x.1 x.2.1 x.2.2]
  r2 : Whole w1 (w.heap.size + 1) 37 #[.int .i64 0, .int .i64 0]
/-- The world in which Value calls Out. -/
def vWorldY (g : FuncId) (cap : Array Value) (w : World) : World :=
  ((w.alloc (.cells #[.func (.func g) #[] cap] 71)).alloc (.cells #[.int .i64 0, .int .i64 0] 37)).alloc (.cells #[.slice none 0 0] 62)
theorem vWorld_factsY (g : FuncId) (cap : Array Value) (w : World) : (vWorldY g cap w).heap.size = w.heap.size + 3 ∧ Whole (vWorldY g cap w) w.heap.size 71 #[.func (.func g) #[] cap] ∧
    Whole (vWorldY g cap w) (w.heap.size + 1) 37 #[.int .i64 0, .int .i64 0] ∧
    Whole (vWorldY g cap w) (w.heap.size + 2) 62 #[.slice none 0 0] ∧ Below w.heap.size w (vWorldY g cap w) := by
  have b1 := Whole.made w 71 #[.func (.func g) #[] cap]
  have b3 := Whole.made (w.alloc (.cells #[.func (.func g) #[] cap] 71)) 37 #[.int .i64 0, .int .i64 0]
  have b4 := Whole.made ((w.alloc (.cells #[.func (.func g) #[] cap] 71)).alloc (.cells #[.int .i64 0, .int .i64 0] 37)) 62 #[.slice none 0 0]
  simp only [World.size_alloc] at b3 b4
  exact ⟨by simp [vWorldY], (b1.alloc _).alloc _, b3.alloc _, b4,
    (((Below.refl _ _).alloc (Nat.le_refl _) _).alloc (by simp) _).alloc (by simp; omega) _⟩
theorem value_outY {g : FuncId} {cap : Array Value} {q : Nat} {w : World} (hcf : ∀ w : World, (callFunc g cap).run Tryd.prog w = .ok (.enter g cap) w) (hq : q < w.heap.size)
    (hT : ∀ x W W' b, w.heap.size ≤ b → b < w.heap.size + 4 → T x W → W.grownBy W' (some b) → T x W')
    (h : ∀ W, Below w.heap.size w W → w.heap.size + 4 ≤ W.heap.size → Calls Tryd.prog g cap W fun e w' => ∃ x, e = .returned (.slice x.1 x.2.1 x.2.2) ∧ T x w' ∧ W.grownBy w' (some q)) :
    Calls Tryd.prog 45 #[.func (.func 69) #[] #[.pointer (some ⟨w.heap.size, 0, none⟩), .pointer (some ⟨w.heap.size + 2, 0, none⟩)]] (vWorldY g cap w) fun e w' => e = .returned (.agg #[.int .i64 0, .int .i64 0]) ∧ ∃ x, VSY T w q x w' := by
  obtain ⟨hz, b1, b3, b4, hbe⟩ := vWorld_factsY g cap w
  have b5 := Whole.made (vWorldY g cap w) 37 #[.int .i64 0, .int .i64 0]
  have hbe2 : Below w.heap.size w ((vWorldY g cap w).alloc (.cells #[.int .i64 0, .int .i64 0] 37)) := hbe.alloc (by omega) _
  have hc := valClosY (T := T) (z := #[.slice none 0 0]) rfl hcf (b1.alloc (.cells #[.int .i64 0, .int .i64 0] 37)) (b4.alloc _) (by omega : q < w.heap.size + 2) (fun x W W' => hT x W W' _ (by omega) (by omega)) (h _ hbe2 (by rw [size_box]; omega))
  refine (out_any _ _ 0 0 (vWorldY g cap w) (fun w1 => (∃ x, VSY T w q x w1) ∧ Whole w1 (vWorldY g cap w).heap.size 37 #[.int .i64 0, .int .i64 0]) (cfVY _) (hc.mono ?_) (fun _ h => h.2)).mono ?_
  · rintro e w' ⟨rfl, x, hs, hv, w1, hg1, hg2⟩
    have hz2 : w.heap.size + 4 ≤ w1.heap.size := by have := hg1.size; simp only [World.size_alloc] at this; omega
    refine ⟨.inl ⟨rfl, rfl, rfl⟩, ⟨x, hs, ?_, hv, ?_⟩, ?_⟩
    · exact gb_before (gb_trans (gb_of_below (some q) hbe2) hg1) hg2 (fun g e => .inr (by injection e with e; omega))
    · exact ((b3.alloc _).grown hg1 (by simp only [ne_eq, Option.some.injEq]; omega)).grown hg2 (by simp only [ne_eq, Option.some.injEq]; omega)
    · exact (b5.grown hg1 (by simp only [ne_eq, Option.some.injEq]; omega)).grown hg2 (by simp only [ne_eq, Option.some.injEq]; omega)
  · rintro e w' ⟨rfl, w1, ⟨⟨x, hs⟩, _⟩, hg⟩
    rw [hz] at hg
    exact ⟨rfl, x, hT x _ _ _ (by omega) (by omega) hs.kept hg, gb_before hs.grown hg (fun g e => .inr (by injection e with e; omega)), hs.val.grown hg (by simp only [ne_eq, Option.some.injEq]; omega), hs.r2.grown hg (by simp only [ne_eq, Option.some.injEq]; omega)⟩

set_option maxHeartbeats 800000 in
/-- Value of a function that ends well. -/
theorem valueY_ok {g : FuncId} {cap : Array Value} {q : Nat} {w : World} (hcf : ∀ w : World, (callFunc g cap).run Tryd.prog w = .ok (.enter g cap) w) (hq : q < w.heap.size)
    (hT : ∀ x W W' b, w.heap.size ≤ b → b < w.heap.size + 4 → T x W → W.grownBy W' (some b) → T x W')
    (h : ∀ W, Below w.heap.size w W → w.heap.size + 4 ≤ W.heap.size → Calls Tryd.prog g cap W fun e w' => ∃ x, e = .returned (.slice x.1 x.2.1 x.2.2) ∧ T x w' ∧ W.grownBy w' (some q)) :
    Calls Tryd.prog 32 #[.func (.func g) #[] cap] w fun e w' => ∃ x, e = .returned (.tuple #[.slice x.1 x.2.1 x.2.2, .agg #[.int .i64 0, .int .i64 0]]) ∧ T x w' ∧ w.grownBy w' (some q) := by
  have hv := value_outY hcf hq hT h
  unfold vWorldY at hv
  have HV := Lib.hid hv
  have HT := Lib.hid hT
  have hmf : ∀ (fn : Fn) (first cap : Array Value) (w : World), (Instr.makeFunc fn first cap).run Tryd.prog w = .ok (.func fn first cap) w := fun _ _ _ _ => rfl
  clear h hv hcf hT
  go_enter Tryd.func32, Tryd.ntmps32
  go_wp2_with (go_at_call 45; go_must (refine HV.out.mono ?_; rintro e w2 ⟨rfl, x, hl⟩; have k0 := fun o => (hl.val.alloc o).cell 0; have f8 := fun o => (hl.r2.alloc o).frozen 0; have f9 := fun o => (hl.r2.alloc o).frozen 1; have m8 := fun o => (hl.r2.alloc o).cell 0; have m9 := fun o => (hl.r2.alloc o).cell 1; simp only [List.getElem?_toArray, List.getElem?_cons_zero, List.getElem?_cons_succ] at k0 m8 m9; have hz := hl.grown.size; have HL := Lib.hid hl; clear hl))
  obtain ⟨p2, g2⟩ := put2 (u0 := .int .i64 0) (u1 := .int .i64 0) (HL.out.r2.alloc (.cells #[.int .i64 0, .int .i64 0] 37))
  have q8 := p2.cell 0
  have q9 := p2.cell 1
  simp only [List.getElem?_toArray, List.getElem?_cons_zero, List.getElem?_cons_succ] at q8 q9
  refine bodyPost_ret (v := .tuple #[.slice x.1 x.2.1 x.2.2, .agg #[.int .i64 0, .int .i64 0]]) (by simp [results, Tryd.results32, go_sem, q8, q9]) rfl ⟨x, rfl, ?_, ?_⟩
  · exact HT.out _ _ _ _ (by omega) (by omega) (HT.out _ _ _ w.heap.size (Nat.le_refl _) (by omega) HL.out.kept (gb_alloc (gb_refl _ _) _)) g2
  · exact gb_before (gb_alloc HL.out.grown _) g2 (fun g e => .inr (by injection e with e; omega))
end
end Go.Proofs.YtihpnplfklbgjaaDoor

/- exports.GetAll of a list's bytes; the laws' closures. -/
namespace Go.Proofs.YtihpnplfklbgjaaDoor
open Go.RowKit
set_option linter.unusedVariables false
set_option maxRecDepth 100000

/-- What holds at the head of GetAll's loop. -/
structure AInE (w : World) (p : Nat) (l : List UInt8) (k : Nat) (xs : List Ex) (v : Value) (W : World) : Prop where
  sc : Sc W p l k
  g : w.grownBy W (some p)
  r : RowE W w.heap.size v xs
  tb : TbN p W
section
variable {w W W' : World} {p : Nat} {l : List UInt8} {k k' : Nat} {xs : List Ex} {x : Ex} {v v' : Value}
theorem AInE.step (h : AInE w p l k xs v W) (hp : p < w.heap.size) (hg : W.grownBy W' (some p)) (hs : Sc W' p l k') : AInE w p l k' xs v W' :=
  ⟨hs, gb_trans h.g hg, h.r.past hg hp, h.tb.keep hg (Nat.le_refl _)⟩
theorem AInE.alloc (h : AInE w p l k xs v W) (hp : p < w.heap.size) (o : Obj) : AInE w p l k xs v (W.alloc o) := h.step hp (gb_alloc (gb_refl _ _) o) (h.sc.alloc o)
theorem AInE.more (h : AInE w p l k xs v W) (hp : p < w.heap.size) (hg : W.grownBy W' v.ownBlock) (hr : RowE W' w.heap.size v' (xs ++ [x])) : AInE w p l k (xs ++ [x]) v' W' := by
  have hlt := World.ownsRow.lt h.r
  refine ⟨h.sc.grown hg (fun e => by have := hlt p e.symm; omega) (fun g e => by have := hlt g e; omega), gb_before h.g hg (fun g e => .inr (hlt g e).1), hr, ?_⟩
  obtain ⟨⟨h1, h2⟩, h3, h4, h5⟩ := h.tb
  have key : ∀ b o, b < p → W'.cell? ⟨b, o, none⟩ = W.cell? ⟨b, o, none⟩ := fun b o hb => by
    unfold World.cell?
    rw [hg.block b (by omega) (fun e => by have := hlt b e.symm; omega)]
  exact ⟨⟨fun c hc => (key _ _ h3).trans (h1 c hc), fun i hi => ⟨(key _ _ h4).trans (h2 i hi).1, (key _ _ h4).trans (h2 i hi).2⟩⟩, h3, h4, Nat.le_trans h5 hg.size⟩
end
/-- The list that was read. -/
def GotAllE (p : Nat) (l : List UInt8) (xs : List Ex) (w : World) (e : Ending) (w' : World) : Prop := ∃ v, e = .returned v ∧ RowE w' w.heap.size v xs ∧ Sc w' p l l.length ∧ w.grownBy w' (some p)
theorem cfEG (a : Array Value) (w : World) : (callFunc 71 a).run Tryd.prog w = .ok (.enter 71 a) w := by kernel_rfl
set_option maxHeartbeats 4000000 in
theorem wgetitems_ex {w : World} {p : Nat} {l : List UInt8} {xs : List Ex} (h : Sc w p l 0) (hT : TbN p w) (hd : l = allE xs) (hz : errE xs = 0) (hn1 : xs.length ≤ 1000) :
    Calls Tryd.prog 100 #[.pointer (some ⟨p, 0, none⟩), .func (.func 71) #[] #[]] w (GotAllE p l xs w) := by
  have hp := h.lt
  have hd0 : l.drop 0 = lebL (xs.length : Int) ++ eputsL xs := by rw [hd]; rfl
  have hc := count_scan h
  rw [countR_at hd0 (by omega) (by omega)] at hc
  have hd1 := drop_past hd0
  rw [Nat.zero_add] at hc hd1
  have HC := Lib.hid hc
  obtain ⟨n, hn⟩ : ∃ n, n = xs.length := ⟨_, rfl⟩
  rw [← hn] at HC hn1
  have HN := Lib.hid hn
  have HE := Lib.hid (show xs.take n = xs ∧ xs.drop n = [] by rw [hn]; exact ⟨List.take_length, List.drop_length⟩)
  have HM := Lib.hid (errE_mem hz)
  have HT := Lib.hid hT
  obtain ⟨k0, hk0⟩ : ∃ k0, k0 = (lebL (n : Int)).length := ⟨_, rfl⟩
  rw [← hn, ← hk0] at hd1
  rw [← hk0] at HC
  have HD := Lib.hid hd1
  have hcf := cfEG
  clear h hT hd hd0 hc hz hn hd1 hk0
  go_enter Tryd.func100, Tryd.ntmps100
  go_wp2_with (go_at_call 111; go_must ((with_reducible refine HC.out.mono ?_); rintro e w1 ⟨rfl, hs, hg⟩; have HS := Lib.hid hs; have HG := Lib.hid hg; clear hs hg))
  go_loopw [5, 8] (fun v i wr => ∃ j k : Nat, j ≤ n ∧ i = .int .i64 j ∧ AInE w p l k (xs.take j) v wr ∧ l.drop k = eputsL (xs.drop j)) (fun _ i _ => n - (intOf i).toNat)
  case atStart => exact ⟨0, k0, Nat.zero_le _, rfl, ⟨HS.out, HG.out, RowE.nil _ _, HT.out.keep HG.out (Nat.le_refl _)⟩, HD.out⟩
  case round =>
    obtain ⟨j, k, hj, rfl, ha, hdk⟩ := hrel
    by_cases hlt : j < n
    · obtain ⟨x, hx⟩ : ∃ x, xs[j]? = some x := ⟨_, List.getElem?_eq_getElem (by rw [← HN.out]; exact hlt)⟩
      have hj2 : j < xs.length := by rw [← HN.out]; exact hlt
      have hdx : xs.drop j = x :: xs.drop (j + 1) := by
        obtain ⟨q1, q2⟩ := List.getElem?_eq_some_iff.1 hx
        rw [List.drop_eq_getElem_cons q1, q2]
      have hdk2 : l.drop k = exputL x ++ eputsL (xs.drop (j + 1)) := by rw [hdk, hdx]; unfold eputsL; rw [List.flatMap_cons]
      have HGe := Lib.hid (get_ex ha.sc ha.tb hdk2 (HM.out x (List.mem_of_getElem? hx)))
      have HDK := Lib.hid (drop_past hdk2)
      have HTk := Lib.hid (show xs.take (j + 1) = xs.take j ++ [x] by rw [List.take_add_one, hx]; rfl)
      have HA := Lib.hid ha
      have hle : (xs.take j).length ≤ 10000 := by rw [List.length_take]; omega
      clear ha hdk hdk2 hdx hx hj2
      go_wp2_with (first
        | (go_at_call 71; go_must ((with_reducible refine HGe.out.mono ?_); rintro e w2 ⟨rfl, hs, hg⟩; have HA2 := Lib.hid (HA.out.step hp hg hs); have hz2 := HA2.out.g.size; have HX := Lib.hid (Whole.made w2 64 (exC x)); clear hs hg))
        | (at_builtin; (refine rowE_new rfl _ _ rfl w.heap.size _ (xs.take j) rfl (HA2.out.alloc hp _).r w2.heap.size x rfl HX.out hle (Nat.le_trans hz2 (below_box w2 _).size) ?_; intro v3 w3 hr3 hg3; have HA3 := Lib.hid ((HA2.out.alloc hp _).more hp hg3 hr3); clear hr3 hg3)))
      go_roundw
      case rel => exact ⟨j + 1, k + (exputL x).length, by omega, by go_num, by rw [HTk.out]; exact HA3.out, HDK.out⟩
      case measure => simp [intOf]; omega
    · obtain rfl : j = n := by omega
      rw [HE.out.1] at ha
      rw [HE.out.2] at hdk
      have hkl : k = l.length := by
        have e := congrArg List.length hdk
        rw [List.length_drop] at e
        have := ha.sc.le.1
        simp [eputsL] at e
        omega
      subst hkl
      have HA := Lib.hid ha
      clear ha hdk
      go_wp2
      go_ret
      exact ⟨_, rfl, HA.out.r, HA.out.sc, HA.out.g⟩
theorem wgetall_ex {w : World} {p : Nat} {l : List UInt8} {xs : List Ex} (h : Sc w p l 0) (hT : TbN p w) (hd : l = allE xs) (hz : errE xs = 0) (hn1 : xs.length ≤ 1000) :
    Calls Tryd.prog 70 #[.pointer (some ⟨p, 0, none⟩), .func (.func 71) #[] #[]] w (GotAllE p l xs w) := by
  have hp := h.lt
  have HI := Lib.hid (wgetitems_ex h hT hd hz hn1)
  unfold GotAllE at HI
  clear h hT hd hz hn1
  go_enter Tryd.func70, Tryd.ntmps70
  go_wp2_with (first
    | (go_at_call 100; go_must ((with_reducible refine HI.out.mono ?_); intro e w1 hq; obtain ⟨v, rfl, hr, hs, hg⟩ := hq; have HR := Lib.hid hr; have HS := Lib.hid hs; have HG := Lib.hid hg; have HEn := Lib.hid (end_ok hs); clear hr hs hg))
    | (go_at_call 94; go_must ((with_reducible refine HEn.out.mono ?_); rintro e w2 ⟨rfl, m, rfl⟩)))
  go_ret
  exact ⟨_, rfl, HR.out.past (gb_drewN (gb_refl _ (some p)) m) hp, HS.out.drewN m, gb_trans HG.out (gb_drewN (gb_refl _ _) m)⟩
theorem getall_ex {w : World} {p : Nat} {l : List UInt8} {xs : List Ex} (h : Sc w p l 0) (hT : TbN p w) (hd : l = allE xs) (hz : errE xs = 0) (hn1 : xs.length ≤ 1000) :
    Calls Tryd.prog 34 #[.pointer (some ⟨p, 0, none⟩)] w (GotAllE p l xs w) := by
  have HP := Lib.hid (wgetall_ex h hT hd hz hn1)
  unfold GotAllE at HP
  clear h hT hd hz hn1
  go_enter Tryd.func34, Tryd.ntmps34
  go_wp2_with (go_at_call 70; go_must ((with_reducible refine HP.out.mono ?_); intro e w1 hq; obtain ⟨v, rfl, hr, hs, hg⟩ := hq; have HR := Lib.hid hr; have HS := Lib.hid hs; have HG := Lib.hid hg; clear hr hs hg))
  go_ret
  exact ⟨_, rfl, HR.out, HS.out, HG.out⟩
theorem cfE2 (cap : Array Value) (w : World) : (callFunc 33 cap).run Tryd.prog w = .ok (.enter 33 cap) w := by kernel_rfl
theorem closE2 {w : World} {p b : Nat} {l : List UInt8} {xs : List Ex} (hb : Whole w b 34 #[.pointer (some ⟨p, 0, none⟩)])
    (hG : Calls Tryd.prog 34 #[.pointer (some ⟨p, 0, none⟩)] w (GotAllE p l xs w)) :
    Calls Tryd.prog 33 #[.pointer (some ⟨b, 0, none⟩)] w (GotAllE p l xs w) := by
  have c0 := hb.cell 0
  simp only [List.getElem?_toArray, List.getElem?_cons_zero] at c0
  have HGt := Lib.hid hG
  clear hb hG
  go_enter Tryd.func33, Tryd.ntmps33
  go_wp2_with (go_at_call 34; go_must ((with_reducible refine HGt.out.mono ?_); intro e w1 hq; obtain ⟨v, rfl, hr, hs, hg⟩ := hq; have HR := Lib.hid hr; have HS := Lib.hid hs; have HG := Lib.hid hg; clear hr hs hg))
  go_ret
  exact ⟨_, rfl, HR.out, HS.out, HG.out⟩
end Go.Proofs.YtihpnplfklbgjaaDoor

/- exports.Find, Twice (with its set of names), Names; creelref11.Twice, Names, SameTexts. -/
namespace Go.Proofs.YtihpnplfklbgjaaDoor
open Go.RowKit Go.Maps
set_option linter.unusedVariables false
set_option maxRecDepth 100000

/-- The first of a name. -/
def fdE (nm : List UInt8) : List Ex → Option Ex
  | [] => none
  | x :: r => if x.nam = nm then some x else fdE nm r
theorem fdE_drop {nm : List UInt8} {l : List Ex} {k : Nat} {x : Ex} (h : l[k]? = some x) : fdE nm (l.drop k) = if x.nam = nm then some x else fdE nm (l.drop (k + 1)) := by
  obtain ⟨h1, h2⟩ := List.getElem?_eq_some_iff.1 h
  rw [List.drop_eq_getElem_cons h1, h2]
  rfl
def fdV (r : Option Ex) : Value := match r with
  | some x => .tuple #[exV x, .bool true]
  | none => .tuple #[.agg #[.string { data := #[] }, .int .u8 0, .int .u32 0], .bool false]
/-! ### Twice -/
theorem lawStr : Keyed Tryd.prog 9 := string_keyed Tryd.underlying9
/-- The set of these names, as the map reads. -/
def setN (seen : List (List UInt8)) : DataW Unit := setOf (.agg []) (seen.map Lit.string)
theorem any_str (s : List UInt8) : ∀ l : List (List UInt8), (l.map Lit.string).any (fun y => y.sameKey (.string s)) = decide (s ∈ l)
  | [] => rfl
  | a :: r => by
    rw [List.map_cons, List.any_cons, any_str s r]
    have e1 : (Lit.string a).sameKey (.string s) = decide (s = a) := by
      show (a == s) = decide (s = a)
      by_cases e : a = s
      · subst e; simp
      · have e2 : ¬ s = a := fun h => e h.symm
        simp [e, e2]
    rw [e1]
    by_cases h1 : s = a <;> by_cases h2 : s ∈ r <;> simp [h1, h2]
theorem has_setN (seen : List (List UInt8)) (s : List UInt8) : Maps.has (setN seen) (.string s) = decide (s ∈ seen) := by
  unfold setN
  rw [has_setOf _ _ _ (fun y hy => by obtain ⟨_, _, rfl⟩ := List.mem_map.1 hy; trivial)]
  exact any_str s seen
theorem setN_snoc (seen : List (List UInt8)) (s : List UInt8) : setN (seen ++ [s]) = (setN seen).put (.string s) (.agg []) := by
  unfold setN
  rw [List.map_append, List.map_singleton, setOf_snoc]
/-- The first name that is there already. -/
def twG (seen : List (List UInt8)) : List Ex → Option (List UInt8)
  | [] => none
  | x :: r => if x.nam ∈ seen then some x.nam else twG (seen ++ [x.nam]) r
/-- .. and where it stands. -/
def twN (seen : List (List UInt8)) (i : Nat) : List Ex → Option Nat
  | [] => none
  | x :: r => if x.nam ∈ seen then some i else twN (seen ++ [x.nam]) (i + 1) r
def nms (l : List Ex) : List (List UInt8) := l.map (·.nam)
theorem nms_take {l : List Ex} {k : Nat} {x : Ex} (h : l[k]? = some x) : nms (l.take (k + 1)) = nms (l.take k) ++ [x.nam] := by
  unfold nms
  rw [List.take_add_one, h, List.map_append]
  rfl
theorem twG_drop {l : List Ex} {k : Nat} {x : Ex} (h : l[k]? = some x) (seen : List (List UInt8)) : twG seen (l.drop k) = if x.nam ∈ seen then some x.nam else twG (seen ++ [x.nam]) (l.drop (k + 1)) := by
  obtain ⟨h1, h2⟩ := List.getElem?_eq_some_iff.1 h
  rw [List.drop_eq_getElem_cons h1, h2]
  rfl
theorem twN_drop {l : List Ex} {k : Nat} {x : Ex} (h : l[k]? = some x) (seen : List (List UInt8)) (i : Nat) : twN seen i (l.drop k) = if x.nam ∈ seen then some i else twN (seen ++ [x.nam]) (i + 1) (l.drop (k + 1)) := by
  obtain ⟨h1, h2⟩ := List.getElem?_eq_some_iff.1 h
  rw [List.drop_eq_getElem_cons h1, h2]
  rfl
/-- The two tell the same. -/
theorem tw_both : ∀ (r : List Ex) (seen : List (List UInt8)) (i : Nat), (twN seen i r = none ∧ twG seen r = none) ∨ ∃ j x, twN seen i r = some (i + j) ∧ r[j]? = some x ∧ twG seen r = some x.nam
  | [], _, _ => .inl ⟨rfl, rfl⟩
  | y :: r, seen, i => by
    by_cases h : y.nam ∈ seen
    · exact .inr ⟨0, y, by simp [twN, h], rfl, by simp [twG, h]⟩
    · rcases tw_both r (seen ++ [y.nam]) (i + 1) with ⟨h1, h2⟩ | ⟨j, x, h1, h2, h3⟩
      · exact .inl ⟨by simp [twN, h, h1], by simp [twG, h, h2]⟩
      · refine .inr ⟨j + 1, x, ?_, by simpa using h2, by simp [twG, h, h3]⟩
        simp [twN, h, h1]
        omega
def twV (r : Option (List UInt8)) : Value := match r with
  | some s => .tuple #[.string (S s), .bool true]
  | none => .tuple #[.string { data := #[] }, .bool false]
/-- The names are no longer than a string can be. -/
def FitsE (l : List Ex) : Prop := ∀ x ∈ l, x.nam.length ≤ maxLen
def twZ (r : Option Nat) : Int := match r with
  | some i => i
  | none => -1
end Go.Proofs.YtihpnplfklbgjaaDoor

/- exports.Names; creelref11.Names, SameTexts. -/
namespace Go.Proofs.YtihpnplfklbgjaaDoor
open Go.RowKit
set_option linter.unusedVariables false
set_option maxRecDepth 100000

/-- The names of those of a kind. -/
def nmsK (kd : Int) (l : List Ex) : List (List UInt8) := (l.filter fun x => decide ((x.kind.toNat : Int) = kd)).map (·.nam)
theorem nmsK_take {kd : Int} {l : List Ex} {k : Nat} {x : Ex} (h : l[k]? = some x) : nmsK kd (l.take (k + 1)) = if (x.kind.toNat : Int) = kd then nmsK kd (l.take k) ++ [x.nam] else nmsK kd (l.take k) := by
  unfold nmsK
  rw [List.take_add_one, h, List.filter_append]
  by_cases e : (x.kind.toNat : Int) = kd <;> simp [e]
theorem nmsK_len (kd : Int) (l : List Ex) (k : Nat) : (nmsK kd (l.take k)).length ≤ k := by
  unfold nmsK
  rw [List.length_map]
  have h1 : ((l.take k).filter fun x => decide ((x.kind.toNat : Int) = kd)).length ≤ (l.take k).length := List.length_filter_le _ _
  rw [List.length_take] at h1
  omega
end Go.Proofs.YtihpnplfklbgjaaDoor

/- awake; the walk of ExportsFinds. -/
namespace Go.Proofs.YtihpnplfklbgjaaDoor
open Go.RowKit
set_option linter.unusedVariables false
set_option maxRecDepth 100000

/-- The chapter's example. -/
def exE : Ex := ⟨[102], 0, 3⟩
theorem exE_right : rE exE = 0 := by decide +kernel
theorem exE_put : exputL exE = [1, 102, 0, 3] := by
  have e1 : lebL (exE.nam.length : Int) = [1] := lebL_sm 1 (by omega) (by omega)
  have e3 : lebL (exE.idx.toNat : Int) = [3] := lebL_sm 3 (by omega) (by omega)
  unfold exputL nmL
  rw [e1, e3]
  rfl
theorem awake_ex (w : World) (hT : TabsU w) : Calls Tryd.prog 27 #[] w fun e w' => e = .returned (.bool true) ∧ Below w.heap.size w w' := by
  have hp := put_ex exE w hT (by decide)
  obtain ⟨l, hl⟩ : ∃ l : List UInt8, l = [1, 102, 0, 3] := ⟨_, rfl⟩
  have HP := Lib.hid (show Calls Tryd.prog 67 #[.agg #[.string { data := #[102] }, .int .u8 0, .int .u32 3]] w fun e w' => ∃ v, e = .returned (.tuple #[v, .int .i64 0]) ∧ Row w' w.heap.size v l ∧ Below w.heap.size w w' from hp.mono fun e w' ⟨v, h1, h2, h3⟩ => ⟨v, by rw [exE_right] at h1; exact h1, by rw [if_pos exE_right, exE_put] at h2; rw [hl]; exact h2, h3⟩)
  have hcmp : ((S l).toList == [1, 102, 0, 3]) = true := by rw [S_toList, hl]; rfl
  clear hl
  clear hp hT
  go_enter Tryd.func27, Tryd.ntmps27
  go_wp2_with (go_at_call 67; go_must ((with_reducible refine HP.out.mono ?_); intro e w1 h; obtain ⟨v, rfl, hr, hb⟩ := h; obtain ⟨A, c, rfl, hcv⟩ := hr.str; have hcv2 := hcv 9 Tryd.underlying9; have HB := Lib.hid hb; clear hb hr hcv))
  go_ret
  exact ⟨rfl, HB.out⟩
/-- Where the first of a name stands. -/
def fdN (nm : List UInt8) (i : Nat) : List Ex → Option Nat
  | [] => none
  | x :: r => if x.nam = nm then some i else fdN nm (i + 1) r
theorem fdN_drop {nm : List UInt8} {l : List Ex} {k : Nat} {x : Ex} (h : l[k]? = some x) (i : Nat) : fdN nm i (l.drop k) = if x.nam = nm then some i else fdN nm (i + 1) (l.drop (k + 1)) := by
  obtain ⟨h1, h2⟩ := List.getElem?_eq_some_iff.1 h
  rw [List.drop_eq_getElem_cons h1, h2]
  rfl
/-- The two tell the same. -/
theorem fd_both (nm : List UInt8) : ∀ (r : List Ex) (i : Nat), (fdN nm i r = none ∧ fdE nm r = none) ∨ ∃ j x, fdN nm i r = some (i + j) ∧ r[j]? = some x ∧ fdE nm r = some x
  | [], _ => .inl ⟨rfl, rfl⟩
  | y :: r, i => by
    by_cases h : y.nam = nm
    · exact .inr ⟨0, y, by simp [fdN, h], rfl, by simp [fdE, h]⟩
    · rcases fd_both nm r (i + 1) with ⟨h1, h2⟩ | ⟨j, x, h1, h2, h3⟩
      · exact .inl ⟨by simp [fdN, h, h1], by simp [fdE, h, h2]⟩
      · refine .inr ⟨j + 1, x, ?_, by simpa using h2, by simp [fdE, h, h3]⟩
        simp [fdN, h, h1]
        omega
theorem fdV_none : fdV none = .tuple #[.agg #[.string { data := #[] }, .int .u8 0, .int .u32 0], .bool false] := rfl
theorem fdV_some (x : Ex) : fdV (some x) = .tuple #[exV x, .bool true] := rfl
theorem twV_none : twV none = .tuple #[.string { data := #[] }, .bool false] := rfl
theorem twV_some (s : List UInt8) : twV (some s) = .tuple #[.string (S s), .bool true] := rfl
theorem twZ_none : twZ none = -1 := rfl
theorem twZ_some (k : Nat) : twZ (some k) = k := rfl
end Go.Proofs.YtihpnplfklbgjaaDoor

/- creelref11.Count, Right, Put. -/
namespace Go.Proofs.YtihpnplfklbgjaaDoor
open Go.RowKit Go.Lib
set_option linter.unusedVariables false
set_option maxRecDepth 100000

theorem rcount_ex (n : Nat) (w : World) (hn : n ≤ 1000000) : Calls Tryd.prog 28 #[.int .i64 n] w (Strs (lebL n) w) := by
  have HC := Lib.hid (fun w => count_any (n : Int) w (by omega) (by omega))
  generalize lebL (n : Int) = y at *
  go_enter Tryd.func28, Tryd.ntmps28
  go_wp2_with (go_at_call 56; go_must ((with_reducible refine (HC.out _).mono ?_); rintro e w1 ⟨rfl, hb⟩; have HB := Lib.hid hb; clear hb))
  go_ret
  exact ⟨rfl, HB.out⟩
set_option maxHeartbeats 2000000 in
theorem rright_ex (x : Ex) (w : World) (hs : x.nam.length ≤ 1000000) : Calls Tryd.prog 29 #[exV x] w fun e w' => e = .returned (.int .i64 (rE x)) ∧ Below w.heap.size w w' := by
  have hsz := S_size x.nam
  have H0 := Lib.hid (bxE_start w x)
  by_cases h2 : 200 < x.nam.length
  · have e : rE x = 13 := by unfold rE checkZ; rw [if_pos h2, if_pos (by decide)]
    rw [e]
    have hs2 : decide ((200 : Int) < (x.nam.length : Int)) = true := decide_eq_true (by omega)
    clear e h2
    go_enter Tryd.func29, Tryd.ntmps29
    go_wp2
    go_ret
    exact ⟨rfl, bxE_bel H0.out⟩
  · have hd : decide ((200 : Int) < (x.nam.length : Int)) = false := decide_eq_false (by omega)
    have HC := Lib.hid (fun w => refCount_any x.nam w hs)
    by_cases hv : validD x.nam = true
    · have hc : countZ x.nam = (runeCountL x.nam : Int) := by unfold countZ; rw [if_pos hv]
      have hd2 : decide (countZ x.nam < 0) = false := decide_eq_false (by rw [hc]; omega)
      have hz : checkZ x.nam = 0 := by unfold checkZ; rw [if_neg h2, if_pos hv]
      generalize countZ x.nam = z at *
      by_cases k3 : 3 < x.kind.toNat
      · have e : rE x = 43 := by unfold rE; rw [if_neg (by simpa using hz), if_pos k3]
        rw [e]
        have d3 : decide ((3 : Int) < (x.kind.toNat : Int)) = true := decide_eq_true (by omega)
        clear e h2 hv hc hz k3
        go_enter Tryd.func29, Tryd.ntmps29
        go_wp2_with (go_at_call 36; go_must ((with_reducible refine (HC.out _).mono ?_); rintro e w1 ⟨rfl, hb⟩; have H1 := Lib.hid (bxE_on H0.out hb); have c1 := H1.out.1.1.cell 1; simp only [List.getElem?_toArray, List.getElem?_cons_zero, List.getElem?_cons_succ] at c1; clear hb))
        go_ret
        exact ⟨rfl, bxE_bel H1.out⟩
      · have e : rE x = 0 := by unfold rE; rw [if_neg (by simpa using hz), if_neg k3]
        rw [e]
        have d3 : decide ((3 : Int) < (x.kind.toNat : Int)) = false := decide_eq_false (by omega)
        clear e h2 hv hc hz k3
        go_enter Tryd.func29, Tryd.ntmps29
        go_wp2_with (go_at_call 36; go_must ((with_reducible refine (HC.out _).mono ?_); rintro e w1 ⟨rfl, hb⟩; have H1 := Lib.hid (bxE_on H0.out hb); have c1 := H1.out.1.1.cell 1; simp only [List.getElem?_toArray, List.getElem?_cons_zero, List.getElem?_cons_succ] at c1; clear hb))
        go_ret
        exact ⟨rfl, bxE_bel H1.out⟩
    · have hc : countZ x.nam = -1 := by unfold countZ; rw [if_neg hv]
      have hd2 : decide (countZ x.nam < 0) = true := decide_eq_true (by rw [hc]; omega)
      have e : rE x = 4 := by unfold rE checkZ; rw [if_neg h2, if_neg hv, if_pos (by decide)]
      rw [e]
      clear e h2 hv hc
      generalize countZ x.nam = z at *
      go_enter Tryd.func29, Tryd.ntmps29
      go_wp2_with (go_at_call 36; go_must ((with_reducible refine (HC.out _).mono ?_); rintro e w1 ⟨rfl, hb⟩; have H1 := Lib.hid (bxE_on H0.out hb); clear hb))
      go_ret
      exact ⟨rfl, bxE_bel H1.out⟩
theorem S_app4 (a b c d : List UInt8) : S a ++ S b ++ S c ++ S d = S (a ++ b ++ c ++ d) := by rw [S_append, S_append, S_append]
set_option maxHeartbeats 8000000 in
theorem rput_ex (x : Ex) (w : World) (h1 : x.nam.length ≤ 100000) :
    Calls Tryd.prog 30 #[exV x] w (Strs (exputL x) w) := by
  have hB0 := bxE_start w x
  have hn1 := lebL_len (x.nam.length : Int) (by omega)
  have hn3 := lebL_len (x.idx.toNat : Int) (by have := u32_le x.idx; omega)
  have hx : exputL x = lebL x.nam.length ++ x.nam ++ [x.kind] ++ lebL x.idx.toNat := rfl
  have HC1 := Lib.hid (fun w => count_any (x.nam.length : Int) w (by omega) (by omega))
  have HC2 := Lib.hid (fun w => count_any (x.idx.toNat : Int) w (by omega) (by have := u32_le x.idx; omega))
  have wt : IntKind.i64.wrap (x.idx.toNat : Int) = x.idx.toNat := by rw [IntKind.wrap_i64]; have := u32_le x.idx; omega
  generalize lebL (x.nam.length : Int) = y1 at *
  generalize lebL (x.idx.toNat : Int) = y3 at *
  have hsz := S_size x.nam
  have sy1 := S_size y1
  have sy3 := S_size y3
  have sk := S_size [x.kind]
  rw [List.length_singleton] at sk
  have q1 : ¬ 9223372036854775807 < (S y1).size + x.nam.length := by omega
  have q2 : ¬ 9223372036854775807 < (S y1).size + x.nam.length + (S [x.kind]).size := by omega
  have q3 : ¬ 9223372036854775807 < (S y1).size + x.nam.length + (S [x.kind]).size + (S y3).size := by omega
  rw [hx]
  have HPs := Lib.hid (S_app4 y1 x.nam [x.kind] y3)
  obtain ⟨P, hP⟩ : ∃ P, P = y1 ++ x.nam ++ [x.kind] ++ y3 := ⟨_, rfl⟩
  rw [← hP] at HPs ⊢
  clear hx hP sy1 sy3 sk hn1 hn3 h1
  go_enter Tryd.func30, Tryd.ntmps30
  go_upto_region 1 with fail
  generalize w.alloc (.cells (exC x) 64) = W0 at *
  refine wp_region_noPanic ?_
  refine wp_region_held_drew (S := fun W => BxE w w.heap.size x W) (by kernel_rfl) (bxE_on hB0 (Below.refl _ _).drew) (fun hHeld => ?_)
  clear hB0
  (refine heldTake (i := 0) (oi := { dst := some 3, op := Op.fieldAddr 64 (Operand.tmp 1) 0, type := 0, pos := "ref.go:30", after := #[], guard := none }) (v := ?_) rfl (by kernel_rfl) (by kernel_rfl) (by kernel_rfl) (by assumption) ?_ ?_; rotate_left; focus (refine .inl ⟨by kernel_rfl, ?_⟩; intro w hSw; (try dsimp only at hSw); go_simp; (try with_reducible rfl)); skip)
  (try simp only [Act.put, List.setIfInBounds_toArray, List.set_cons_zero, List.set_cons_succ])
  (refine heldTake (i := 1) (oi := { dst := some 4, op := Op.load 9 (Operand.tmp 3), type := 9, pos := "ref.go:30", after := #[{ on := 0, ground := Ground.data }], guard := none }) (v := ?_) rfl (by kernel_rfl) (by kernel_rfl) (by kernel_rfl) (by assumption) ?_ ?_; rotate_left; focus (refine .inl ⟨by kernel_rfl, ?_⟩; intro w hSw; (try dsimp only at hSw); go_simp; (try with_reducible rfl)); skip)
  (try simp only [Act.put, List.setIfInBounds_toArray, List.set_cons_zero, List.set_cons_succ])
  (refine heldTake (i := 2) (oi := { dst := some 5, op := Op.call { callee := Callee.builtin Builtin.len, args := #[Operand.tmp 4], argTypes := #[9] }, type := 3, pos := "ref.go:30", after := #[{ on := 1, ground := Ground.data }], guard := none }) (v := ?_) rfl (by kernel_rfl) (by kernel_rfl) (by kernel_rfl) (by assumption) ?_ ?_; rotate_left; focus (refine .inl ⟨by kernel_rfl, ?_⟩; intro w hSw; (try dsimp only at hSw); go_simp; (try with_reducible rfl)); skip)
  (try simp only [Act.put, List.setIfInBounds_toArray, List.set_cons_zero, List.set_cons_succ])
  (refine heldTake (i := 4) (oi := { dst := some 7, op := Op.fieldAddr 64 (Operand.tmp 1) 0, type := 0, pos := "ref.go:30", after := #[], guard := none }) (v := ?_) rfl (by kernel_rfl) (by kernel_rfl) (by kernel_rfl) (by assumption) ?_ ?_; rotate_left; focus (refine .inl ⟨by kernel_rfl, ?_⟩; intro w hSw; (try dsimp only at hSw); go_simp; (try with_reducible rfl)); skip)
  (try simp only [Act.put, List.setIfInBounds_toArray, List.set_cons_zero, List.set_cons_succ])
  (refine heldTake (i := 5) (oi := { dst := some 8, op := Op.load 9 (Operand.tmp 7), type := 9, pos := "ref.go:30", after := #[{ on := 4, ground := Ground.data }], guard := none }) (v := ?_) rfl (by kernel_rfl) (by kernel_rfl) (by kernel_rfl) (by assumption) ?_ ?_; rotate_left; focus (refine .inl ⟨by kernel_rfl, ?_⟩; intro w hSw; (try dsimp only at hSw); go_simp; (try with_reducible rfl)); skip)
  (try simp only [Act.put, List.setIfInBounds_toArray, List.set_cons_zero, List.set_cons_succ])
  (refine heldTake (i := 7) (oi := { dst := some 10, op := Op.fieldAddr 64 (Operand.tmp 1) 1, type := 0, pos := "ref.go:30", after := #[], guard := none }) (v := ?_) rfl (by kernel_rfl) (by kernel_rfl) (by kernel_rfl) (by assumption) ?_ ?_; rotate_left; focus (refine .inl ⟨by kernel_rfl, ?_⟩; intro w hSw; (try dsimp only at hSw); go_simp; (try with_reducible rfl)); skip)
  (try simp only [Act.put, List.setIfInBounds_toArray, List.set_cons_zero, List.set_cons_succ])
  (refine heldTake (i := 8) (oi := { dst := some 11, op := Op.load 5 (Operand.tmp 10), type := 5, pos := "ref.go:30", after := #[{ on := 7, ground := Ground.data }], guard := none }) (v := ?_) rfl (by kernel_rfl) (by kernel_rfl) (by kernel_rfl) (by assumption) ?_ ?_; rotate_left; focus (refine .inl ⟨by kernel_rfl, ?_⟩; intro w hSw; (try dsimp only at hSw); go_simp; (try with_reducible rfl)); skip)
  (try simp only [Act.put, List.setIfInBounds_toArray, List.set_cons_zero, List.set_cons_succ])
  (refine heldTake (i := 12) (oi := { dst := some 15, op := Op.fieldAddr 64 (Operand.tmp 1) 2, type := 0, pos := "ref.go:30", after := #[], guard := none }) (v := ?_) rfl (by kernel_rfl) (by kernel_rfl) (by kernel_rfl) (by assumption) ?_ ?_; rotate_left; focus (refine .inl ⟨by kernel_rfl, ?_⟩; intro w hSw; (try dsimp only at hSw); go_simp; (try with_reducible rfl)); skip)
  (try simp only [Act.put, List.setIfInBounds_toArray, List.set_cons_zero, List.set_cons_succ])
  (refine heldTake (i := 13) (oi := { dst := some 16, op := Op.load 22 (Operand.tmp 15), type := 22, pos := "ref.go:30", after := #[{ on := 12, ground := Ground.data }], guard := none }) (v := ?_) rfl (by kernel_rfl) (by kernel_rfl) (by kernel_rfl) (by assumption) ?_ ?_; rotate_left; focus (refine .inl ⟨by kernel_rfl, ?_⟩; intro w hSw; (try dsimp only at hSw); go_simp; (try with_reducible rfl)); skip)
  (try simp only [Act.put, List.setIfInBounds_toArray, List.set_cons_zero, List.set_cons_succ])
  (refine heldTake (i := 14) (oi := { dst := some 17, op := Op.convert 22 3 (Operand.tmp 16), type := 3, pos := "ref.go:30", after := #[{ on := 13, ground := Ground.data }], guard := none }) (v := ?_) rfl (by kernel_rfl) (by kernel_rfl) (by kernel_rfl) (by assumption) ?_ ?_; rotate_left; focus (refine .inl ⟨by kernel_rfl, ?_⟩; intro w hSw; (try dsimp only at hSw); go_simp; (try with_reducible rfl)); skip)
  (try simp only [Act.put, List.setIfInBounds_toArray, List.set_cons_zero, List.set_cons_succ])
  refine wpAnyH_ready (rs := [3, 9]) (by kernel_rfl) (by simp) ?_
  refine (AllReadyH.cons (o := { dst := some 6, op := Op.call { callee := Callee.value (Operand.func 56), args := #[Operand.tmp 5], argTypes := #[3] }, type := 9, pos := "ref.go:30", after := #[{ on := 2, ground := Ground.data }], guard := none }) rfl (fun K hK => ?_) (AllReadyH.cons (o := { dst := some 12, op := Op.buildSlice 29 1 #[(0, Operand.tmp 11)], type := 29, pos := "ref.go:30", after := #[{ on := 8, ground := Ground.data }], guard := none }) rfl (fun K hK => ?_) AllReadyH.nil))
  · go_simp
    (go_at_call 56; (with_reducible refine (HC1.out _).mono ?_); rintro e w2 ⟨rfl, hb2⟩; have HB3 := Lib.hid hb2; clear hb2)
    refine hK.out _ _ (bxE_on hHeld HB3.out) (fun hHeld3 => ?_)
    clear hK K hHeld
    (try simp only [Act.put, List.setIfInBounds_toArray, List.set_cons_zero, List.set_cons_succ])
    (refine heldTake (i := 6) (oi := { dst := some 9, op := Op.binOp BinOp.add 9 (Operand.tmp 6) (Operand.tmp 8) 9, type := 9, pos := "ref.go:30", after := #[{ on := 3, ground := Ground.data }, { on := 5, ground := Ground.data }], guard := none }) (v := ?_) rfl (by kernel_rfl) (by kernel_rfl) (by kernel_rfl) (by assumption) ?_ ?_; rotate_left; focus (refine .inl ⟨by kernel_rfl, ?_⟩; intro w hSw; (try dsimp only at hSw); go_simp; (try with_reducible rfl)); skip)
    (try simp only [Act.put, List.setIfInBounds_toArray, List.set_cons_zero, List.set_cons_succ])
    refine wpAnyH_ready (rs := [9, 15]) (by kernel_rfl) (by simp) ?_
    refine (AllReadyH.cons (o := { dst := some 12, op := Op.buildSlice 29 1 #[(0, Operand.tmp 11)], type := 29, pos := "ref.go:30", after := #[{ on := 8, ground := Ground.data }], guard := none }) rfl (fun K hK => ?_) (AllReadyH.cons (o := { dst := some 18, op := Op.call { callee := Callee.value (Operand.func 56), args := #[Operand.tmp 17], argTypes := #[3] }, type := 9, pos := "ref.go:30", after := #[{ on := 14, ground := Ground.data }, { on := 3, ground := Ground.chain }], guard := none }) rfl (fun K hK => ?_) AllReadyH.nil))
    · refine step_build1 rfl _ rfl x.kind rfl ?_; intro g9 wa9 hg9 hb9 hp9; have HB9 := Lib.hid hb9; have HP9 := Lib.hid hp9; clear hb9 hp9
      refine hK.out _ _ (bxE_on hHeld3 HB9.out) (fun hHeld9 => ?_)
      clear hK K hHeld3
      (try simp only [Act.put, List.setIfInBounds_toArray, List.set_cons_zero, List.set_cons_succ])
      refine wpAnyH_ready (rs := [10, 15]) (by kernel_rfl) (by simp) ?_
      refine (AllReadyH.cons (o := { dst := some 13, op := Op.convert 29 9 (Operand.tmp 12), type := 9, pos := "ref.go:30", after := #[{ on := 9, ground := Ground.data }], guard := none }) rfl (fun K hK => ?_) (AllReadyH.cons (o := { dst := some 18, op := Op.call { callee := Callee.value (Operand.func 56), args := #[Operand.tmp 17], argTypes := #[3] }, type := 9, pos := "ref.go:30", after := #[{ on := 14, ground := Ground.data }, { on := 3, ground := Ground.chain }], guard := none }) rfl (fun K hK => ?_) AllReadyH.nil))
      · go_simp; refine upon_str (l := [x.kind]) (HP9.out) ?_; have HB10 := Lib.hid (Below.refl 0 w)
        refine hK.out _ _ hHeld9 (fun hHeld10 => ?_)
        clear hK K hHeld9
        (try simp only [Act.put, List.setIfInBounds_toArray, List.set_cons_zero, List.set_cons_succ])
        (refine heldTake (i := 11) (oi := { dst := some 14, op := Op.binOp BinOp.add 9 (Operand.tmp 9) (Operand.tmp 13) 9, type := 9, pos := "ref.go:30", after := #[{ on := 6, ground := Ground.data }, { on := 10, ground := Ground.data }], guard := none }) (v := ?_) rfl (by kernel_rfl) (by kernel_rfl) (by kernel_rfl) (by assumption) ?_ ?_; rotate_left; focus (refine .inl ⟨by kernel_rfl, ?_⟩; intro w hSw; (try dsimp only at hSw); go_simp; (try with_reducible rfl)); skip)
        (try simp only [Act.put, List.setIfInBounds_toArray, List.set_cons_zero, List.set_cons_succ])
        refine wpAnyH_ready (rs := [15]) (by kernel_rfl) (by simp) ?_
        refine (AllReadyH.cons (o := { dst := some 18, op := Op.call { callee := Callee.value (Operand.func 56), args := #[Operand.tmp 17], argTypes := #[3] }, type := 9, pos := "ref.go:30", after := #[{ on := 14, ground := Ground.data }, { on := 3, ground := Ground.chain }], guard := none }) rfl (fun K hK => ?_) AllReadyH.nil)
        go_simp
        (go_at_call 56; (with_reducible refine (HC2.out _).mono ?_); rintro e w5 ⟨rfl, hb5⟩; have HB15 := Lib.hid hb5; clear hb5)
        refine hK.out _ _ (bxE_on hHeld10 HB15.out) (fun hHeld15 => ?_)
        clear hK K hHeld10
        (try simp only [Act.put, List.setIfInBounds_toArray, List.set_cons_zero, List.set_cons_succ])
        (refine heldTake (i := 16) (oi := { dst := some 19, op := Op.binOp BinOp.add 9 (Operand.tmp 14) (Operand.tmp 18) 9, type := 9, pos := "ref.go:30", after := #[{ on := 11, ground := Ground.data }, { on := 15, ground := Ground.data }], guard := none }) (v := ?_) rfl (by kernel_rfl) (by kernel_rfl) (by kernel_rfl) (by assumption) ?_ ?_; rotate_left; focus (refine .inl ⟨by kernel_rfl, ?_⟩; intro w hSw; (try dsimp only at hSw); go_simp; (try with_reducible rfl)); skip)
        (try simp only [Act.put, List.setIfInBounds_toArray, List.set_cons_zero, List.set_cons_succ])
        (refine heldTake (i := 17) (oi := { dst := some 2, op := Op.assign (Operand.tmp 19), type := 9, pos := "ref.go:30", after := #[{ on := 16, ground := Ground.data }, { on := 15, ground := Ground.chain }, { on := 0, ground := Ground.phase }, { on := 1, ground := Ground.phase }, { on := 2, ground := Ground.phase }, { on := 3, ground := Ground.phase }, { on := 4, ground := Ground.phase }, { on := 5, ground := Ground.phase }, { on := 6, ground := Ground.phase }, { on := 7, ground := Ground.phase }, { on := 8, ground := Ground.phase }, { on := 9, ground := Ground.phase }, { on := 10, ground := Ground.phase }, { on := 11, ground := Ground.phase }, { on := 12, ground := Ground.phase }, { on := 13, ground := Ground.phase }, { on := 14, ground := Ground.phase }, { on := 15, ground := Ground.phase }, { on := 16, ground := Ground.phase }], guard := none }) (v := ?_) rfl (by kernel_rfl) (by kernel_rfl) (by kernel_rfl) (by assumption) ?_ ?_; rotate_left; focus (refine .inl ⟨by kernel_rfl, ?_⟩; intro w hSw; (try dsimp only at hSw); go_simp; (try with_reducible rfl)); skip)
        (try simp only [Act.put, List.setIfInBounds_toArray, List.set_cons_zero, List.set_cons_succ])
        refine wpAnyH_done (by kernel_rfl) ?_ _
        refine NoPanic.normal ?_
        have hLast := hHeld15
        clear hHeld15
        go_wp2
        go_ret
        exact ⟨congrArg (fun b => Ending.returned (Value.string b)) HPs.out, hLast.1.2⟩
      · go_simp
        (go_at_call 56; (with_reducible refine (HC2.out _).mono ?_); rintro e w5 ⟨rfl, hb5⟩; have HB15 := Lib.hid hb5; clear hb5)
        refine hK.out _ _ (bxE_on hHeld9 HB15.out) (fun hHeld15 => ?_)
        clear hK K hHeld9
        (try simp only [Act.put, List.setIfInBounds_toArray, List.set_cons_zero, List.set_cons_succ])
        refine wpAnyH_ready (rs := [10]) (by kernel_rfl) (by simp) ?_
        refine (AllReadyH.cons (o := { dst := some 13, op := Op.convert 29 9 (Operand.tmp 12), type := 9, pos := "ref.go:30", after := #[{ on := 9, ground := Ground.data }], guard := none }) rfl (fun K hK => ?_) AllReadyH.nil)
        go_simp; refine upon_str (l := [x.kind]) (((HP9.out).below HB15.out)) ?_; have HB10 := Lib.hid (Below.refl 0 w)
        refine hK.out _ _ hHeld15 (fun hHeld10 => ?_)
        clear hK K hHeld15
        (try simp only [Act.put, List.setIfInBounds_toArray, List.set_cons_zero, List.set_cons_succ])
        (refine heldTake (i := 11) (oi := { dst := some 14, op := Op.binOp BinOp.add 9 (Operand.tmp 9) (Operand.tmp 13) 9, type := 9, pos := "ref.go:30", after := #[{ on := 6, ground := Ground.data }, { on := 10, ground := Ground.data }], guard := none }) (v := ?_) rfl (by kernel_rfl) (by kernel_rfl) (by kernel_rfl) (by assumption) ?_ ?_; rotate_left; focus (refine .inl ⟨by kernel_rfl, ?_⟩; intro w hSw; (try dsimp only at hSw); go_simp; (try with_reducible rfl)); skip)
        (try simp only [Act.put, List.setIfInBounds_toArray, List.set_cons_zero, List.set_cons_succ])
        (refine heldTake (i := 16) (oi := { dst := some 19, op := Op.binOp BinOp.add 9 (Operand.tmp 14) (Operand.tmp 18) 9, type := 9, pos := "ref.go:30", after := #[{ on := 11, ground := Ground.data }, { on := 15, ground := Ground.data }], guard := none }) (v := ?_) rfl (by kernel_rfl) (by kernel_rfl) (by kernel_rfl) (by assumption) ?_ ?_; rotate_left; focus (refine .inl ⟨by kernel_rfl, ?_⟩; intro w hSw; (try dsimp only at hSw); go_simp; (try with_reducible rfl)); skip)
        (try simp only [Act.put, List.setIfInBounds_toArray, List.set_cons_zero, List.set_cons_succ])
        (refine heldTake (i := 17) (oi := { dst := some 2, op := Op.assign (Operand.tmp 19), type := 9, pos := "ref.go:30", after := #[{ on := 16, ground := Ground.data }, { on := 15, ground := Ground.chain }, { on := 0, ground := Ground.phase }, { on := 1, ground := Ground.phase }, { on := 2, ground := Ground.phase }, { on := 3, ground := Ground.phase }, { on := 4, ground := Ground.phase }, { on := 5, ground := Ground.phase }, { on := 6, ground := Ground.phase }, { on := 7, ground := Ground.phase }, { on := 8, ground := Ground.phase }, { on := 9, ground := Ground.phase }, { on := 10, ground := Ground.phase }, { on := 11, ground := Ground.phase }, { on := 12, ground := Ground.phase }, { on := 13, ground := Ground.phase }, { on := 14, ground := Ground.phase }, { on := 15, ground := Ground.phase }, { on := 16, ground := Ground.phase }], guard := none }) (v := ?_) rfl (by kernel_rfl) (by kernel_rfl) (by kernel_rfl) (by assumption) ?_ ?_; rotate_left; focus (refine .inl ⟨by kernel_rfl, ?_⟩; intro w hSw; (try dsimp only at hSw); go_simp; (try with_reducible rfl)); skip)
        (try simp only [Act.put, List.setIfInBounds_toArray, List.set_cons_zero, List.set_cons_succ])
        refine wpAnyH_done (by kernel_rfl) ?_ _
        refine NoPanic.normal ?_
        have hLast := hHeld10
        clear hHeld10
        go_wp2
        go_ret
        exact ⟨congrArg (fun b => Ending.returned (Value.string b)) HPs.out, hLast.1.2⟩
    · go_simp
      (go_at_call 56; (with_reducible refine (HC2.out _).mono ?_); rintro e w5 ⟨rfl, hb5⟩; have HB15 := Lib.hid hb5; clear hb5)
      refine hK.out _ _ (bxE_on hHeld3 HB15.out) (fun hHeld15 => ?_)
      clear hK K hHeld3
      (try simp only [Act.put, List.setIfInBounds_toArray, List.set_cons_zero, List.set_cons_succ])
      refine wpAnyH_ready (rs := [9]) (by kernel_rfl) (by simp) ?_
      refine (AllReadyH.cons (o := { dst := some 12, op := Op.buildSlice 29 1 #[(0, Operand.tmp 11)], type := 29, pos := "ref.go:30", after := #[{ on := 8, ground := Ground.data }], guard := none }) rfl (fun K hK => ?_) AllReadyH.nil)
      refine step_build1 rfl _ rfl x.kind rfl ?_; intro g9 wa9 hg9 hb9 hp9; have HB9 := Lib.hid hb9; have HP9 := Lib.hid hp9; clear hb9 hp9
      refine hK.out _ _ (bxE_on hHeld15 HB9.out) (fun hHeld9 => ?_)
      clear hK K hHeld15
      (try simp only [Act.put, List.setIfInBounds_toArray, List.set_cons_zero, List.set_cons_succ])
      refine wpAnyH_ready (rs := [10]) (by kernel_rfl) (by simp) ?_
      refine (AllReadyH.cons (o := { dst := some 13, op := Op.convert 29 9 (Operand.tmp 12), type := 9, pos := "ref.go:30", after := #[{ on := 9, ground := Ground.data }], guard := none }) rfl (fun K hK => ?_) AllReadyH.nil)
      go_simp; refine upon_str (l := [x.kind]) (HP9.out) ?_; have HB10 := Lib.hid (Below.refl 0 w)
      refine hK.out _ _ hHeld9 (fun hHeld10 => ?_)
      clear hK K hHeld9
      (try simp only [Act.put, List.setIfInBounds_toArray, List.set_cons_zero, List.set_cons_succ])
      (refine heldTake (i := 11) (oi := { dst := some 14, op := Op.binOp BinOp.add 9 (Operand.tmp 9) (Operand.tmp 13) 9, type := 9, pos := "ref.go:30", after := #[{ on := 6, ground := Ground.data }, { on := 10, ground := Ground.data }], guard := none }) (v := ?_) rfl (by kernel_rfl) (by kernel_rfl) (by kernel_rfl) (by assumption) ?_ ?_; rotate_left; focus (refine .inl ⟨by kernel_rfl, ?_⟩; intro w hSw; (try dsimp only at hSw); go_simp; (try with_reducible rfl)); skip)
      (try simp only [Act.put, List.setIfInBounds_toArray, List.set_cons_zero, List.set_cons_succ])
      (refine heldTake (i := 16) (oi := { dst := some 19, op := Op.binOp BinOp.add 9 (Operand.tmp 14) (Operand.tmp 18) 9, type := 9, pos := "ref.go:30", after := #[{ on := 11, ground := Ground.data }, { on := 15, ground := Ground.data }], guard := none }) (v := ?_) rfl (by kernel_rfl) (by kernel_rfl) (by kernel_rfl) (by assumption) ?_ ?_; rotate_left; focus (refine .inl ⟨by kernel_rfl, ?_⟩; intro w hSw; (try dsimp only at hSw); go_simp; (try with_reducible rfl)); skip)
      (try simp only [Act.put, List.setIfInBounds_toArray, List.set_cons_zero, List.set_cons_succ])
      (refine heldTake (i := 17) (oi := { dst := some 2, op := Op.assign (Operand.tmp 19), type := 9, pos := "ref.go:30", after := #[{ on := 16, ground := Ground.data }, { on := 15, ground := Ground.chain }, { on := 0, ground := Ground.phase }, { on := 1, ground := Ground.phase }, { on := 2, ground := Ground.phase }, { on := 3, ground := Ground.phase }, { on := 4, ground := Ground.phase }, { on := 5, ground := Ground.phase }, { on := 6, ground := Ground.phase }, { on := 7, ground := Ground.phase }, { on := 8, ground := Ground.phase }, { on := 9, ground := Ground.phase }, { on := 10, ground := Ground.phase }, { on := 11, ground := Ground.phase }, { on := 12, ground := Ground.phase }, { on := 13, ground := Ground.phase }, { on := 14, ground := Ground.phase }, { on := 15, ground := Ground.phase }, { on := 16, ground := Ground.phase }], guard := none }) (v := ?_) rfl (by kernel_rfl) (by kernel_rfl) (by kernel_rfl) (by assumption) ?_ ?_; rotate_left; focus (refine .inl ⟨by kernel_rfl, ?_⟩; intro w hSw; (try dsimp only at hSw); go_simp; (try with_reducible rfl)); skip)
      (try simp only [Act.put, List.setIfInBounds_toArray, List.set_cons_zero, List.set_cons_succ])
      refine wpAnyH_done (by kernel_rfl) ?_ _
      refine NoPanic.normal ?_
      have hLast := hHeld10
      clear hHeld10
      go_wp2
      go_ret
      exact ⟨congrArg (fun b => Ending.returned (Value.string b)) HPs.out, hLast.1.2⟩
  · refine step_build1 rfl _ rfl x.kind rfl ?_; intro g9 wa9 hg9 hb9 hp9; have HB9 := Lib.hid hb9; have HP9 := Lib.hid hp9; clear hb9 hp9
    refine hK.out _ _ (bxE_on hHeld HB9.out) (fun hHeld9 => ?_)
    clear hK K hHeld
    (try simp only [Act.put, List.setIfInBounds_toArray, List.set_cons_zero, List.set_cons_succ])
    refine wpAnyH_ready (rs := [3, 10]) (by kernel_rfl) (by simp) ?_
    refine (AllReadyH.cons (o := { dst := some 6, op := Op.call { callee := Callee.value (Operand.func 56), args := #[Operand.tmp 5], argTypes := #[3] }, type := 9, pos := "ref.go:30", after := #[{ on := 2, ground := Ground.data }], guard := none }) rfl (fun K hK => ?_) (AllReadyH.cons (o := { dst := some 13, op := Op.convert 29 9 (Operand.tmp 12), type := 9, pos := "ref.go:30", after := #[{ on := 9, ground := Ground.data }], guard := none }) rfl (fun K hK => ?_) AllReadyH.nil))
    · go_simp
      (go_at_call 56; (with_reducible refine (HC1.out _).mono ?_); rintro e w2 ⟨rfl, hb2⟩; have HB3 := Lib.hid hb2; clear hb2)
      refine hK.out _ _ (bxE_on hHeld9 HB3.out) (fun hHeld3 => ?_)
      clear hK K hHeld9
      (try simp only [Act.put, List.setIfInBounds_toArray, List.set_cons_zero, List.set_cons_succ])
      (refine heldTake (i := 6) (oi := { dst := some 9, op := Op.binOp BinOp.add 9 (Operand.tmp 6) (Operand.tmp 8) 9, type := 9, pos := "ref.go:30", after := #[{ on := 3, ground := Ground.data }, { on := 5, ground := Ground.data }], guard := none }) (v := ?_) rfl (by kernel_rfl) (by kernel_rfl) (by kernel_rfl) (by assumption) ?_ ?_; rotate_left; focus (refine .inl ⟨by kernel_rfl, ?_⟩; intro w hSw; (try dsimp only at hSw); go_simp; (try with_reducible rfl)); skip)
      (try simp only [Act.put, List.setIfInBounds_toArray, List.set_cons_zero, List.set_cons_succ])
      refine wpAnyH_ready (rs := [10, 15]) (by kernel_rfl) (by simp) ?_
      refine (AllReadyH.cons (o := { dst := some 13, op := Op.convert 29 9 (Operand.tmp 12), type := 9, pos := "ref.go:30", after := #[{ on := 9, ground := Ground.data }], guard := none }) rfl (fun K hK => ?_) (AllReadyH.cons (o := { dst := some 18, op := Op.call { callee := Callee.value (Operand.func 56), args := #[Operand.tmp 17], argTypes := #[3] }, type := 9, pos := "ref.go:30", after := #[{ on := 14, ground := Ground.data }, { on := 3, ground := Ground.chain }], guard := none }) rfl (fun K hK => ?_) AllReadyH.nil))
      · go_simp; refine upon_str (l := [x.kind]) (((HP9.out).below HB3.out)) ?_; have HB10 := Lib.hid (Below.refl 0 w)
        refine hK.out _ _ hHeld3 (fun hHeld10 => ?_)
        clear hK K hHeld3
        (try simp only [Act.put, List.setIfInBounds_toArray, List.set_cons_zero, List.set_cons_succ])
        (refine heldTake (i := 11) (oi := { dst := some 14, op := Op.binOp BinOp.add 9 (Operand.tmp 9) (Operand.tmp 13) 9, type := 9, pos := "ref.go:30", after := #[{ on := 6, ground := Ground.data }, { on := 10, ground := Ground.data }], guard := none }) (v := ?_) rfl (by kernel_rfl) (by kernel_rfl) (by kernel_rfl) (by assumption) ?_ ?_; rotate_left; focus (refine .inl ⟨by kernel_rfl, ?_⟩; intro w hSw; (try dsimp only at hSw); go_simp; (try with_reducible rfl)); skip)
        (try simp only [Act.put, List.setIfInBounds_toArray, List.set_cons_zero, List.set_cons_succ])
        refine wpAnyH_ready (rs := [15]) (by kernel_rfl) (by simp) ?_
        refine (AllReadyH.cons (o := { dst := some 18, op := Op.call { callee := Callee.value (Operand.func 56), args := #[Operand.tmp 17], argTypes := #[3] }, type := 9, pos := "ref.go:30", after := #[{ on := 14, ground := Ground.data }, { on := 3, ground := Ground.chain }], guard := none }) rfl (fun K hK => ?_) AllReadyH.nil)
        go_simp
        (go_at_call 56; (with_reducible refine (HC2.out _).mono ?_); rintro e w5 ⟨rfl, hb5⟩; have HB15 := Lib.hid hb5; clear hb5)
        refine hK.out _ _ (bxE_on hHeld10 HB15.out) (fun hHeld15 => ?_)
        clear hK K hHeld10
        (try simp only [Act.put, List.setIfInBounds_toArray, List.set_cons_zero, List.set_cons_succ])
        (refine heldTake (i := 16) (oi := { dst := some 19, op := Op.binOp BinOp.add 9 (Operand.tmp 14) (Operand.tmp 18) 9, type := 9, pos := "ref.go:30", after := #[{ on := 11, ground := Ground.data }, { on := 15, ground := Ground.data }], guard := none }) (v := ?_) rfl (by kernel_rfl) (by kernel_rfl) (by kernel_rfl) (by assumption) ?_ ?_; rotate_left; focus (refine .inl ⟨by kernel_rfl, ?_⟩; intro w hSw; (try dsimp only at hSw); go_simp; (try with_reducible rfl)); skip)
        (try simp only [Act.put, List.setIfInBounds_toArray, List.set_cons_zero, List.set_cons_succ])
        (refine heldTake (i := 17) (oi := { dst := some 2, op := Op.assign (Operand.tmp 19), type := 9, pos := "ref.go:30", after := #[{ on := 16, ground := Ground.data }, { on := 15, ground := Ground.chain }, { on := 0, ground := Ground.phase }, { on := 1, ground := Ground.phase }, { on := 2, ground := Ground.phase }, { on := 3, ground := Ground.phase }, { on := 4, ground := Ground.phase }, { on := 5, ground := Ground.phase }, { on := 6, ground := Ground.phase }, { on := 7, ground := Ground.phase }, { on := 8, ground := Ground.phase }, { on := 9, ground := Ground.phase }, { on := 10, ground := Ground.phase }, { on := 11, ground := Ground.phase }, { on := 12, ground := Ground.phase }, { on := 13, ground := Ground.phase }, { on := 14, ground := Ground.phase }, { on := 15, ground := Ground.phase }, { on := 16, ground := Ground.phase }], guard := none }) (v := ?_) rfl (by kernel_rfl) (by kernel_rfl) (by kernel_rfl) (by assumption) ?_ ?_; rotate_left; focus (refine .inl ⟨by kernel_rfl, ?_⟩; intro w hSw; (try dsimp only at hSw); go_simp; (try with_reducible rfl)); skip)
        (try simp only [Act.put, List.setIfInBounds_toArray, List.set_cons_zero, List.set_cons_succ])
        refine wpAnyH_done (by kernel_rfl) ?_ _
        refine NoPanic.normal ?_
        have hLast := hHeld15
        clear hHeld15
        go_wp2
        go_ret
        exact ⟨congrArg (fun b => Ending.returned (Value.string b)) HPs.out, hLast.1.2⟩
      · go_simp
        (go_at_call 56; (with_reducible refine (HC2.out _).mono ?_); rintro e w5 ⟨rfl, hb5⟩; have HB15 := Lib.hid hb5; clear hb5)
        refine hK.out _ _ (bxE_on hHeld3 HB15.out) (fun hHeld15 => ?_)
        clear hK K hHeld3
        (try simp only [Act.put, List.setIfInBounds_toArray, List.set_cons_zero, List.set_cons_succ])
        refine wpAnyH_ready (rs := [10]) (by kernel_rfl) (by simp) ?_
        refine (AllReadyH.cons (o := { dst := some 13, op := Op.convert 29 9 (Operand.tmp 12), type := 9, pos := "ref.go:30", after := #[{ on := 9, ground := Ground.data }], guard := none }) rfl (fun K hK => ?_) AllReadyH.nil)
        go_simp; refine upon_str (l := [x.kind]) (((((HP9.out).below HB3.out)).below HB15.out)) ?_; have HB10 := Lib.hid (Below.refl 0 w)
        refine hK.out _ _ hHeld15 (fun hHeld10 => ?_)
        clear hK K hHeld15
        (try simp only [Act.put, List.setIfInBounds_toArray, List.set_cons_zero, List.set_cons_succ])
        (refine heldTake (i := 11) (oi := { dst := some 14, op := Op.binOp BinOp.add 9 (Operand.tmp 9) (Operand.tmp 13) 9, type := 9, pos := "ref.go:30", after := #[{ on := 6, ground := Ground.data }, { on := 10, ground := Ground.data }], guard := none }) (v := ?_) rfl (by kernel_rfl) (by kernel_rfl) (by kernel_rfl) (by assumption) ?_ ?_; rotate_left; focus (refine .inl ⟨by kernel_rfl, ?_⟩; intro w hSw; (try dsimp only at hSw); go_simp; (try with_reducible rfl)); skip)
        (try simp only [Act.put, List.setIfInBounds_toArray, List.set_cons_zero, List.set_cons_succ])
        (refine heldTake (i := 16) (oi := { dst := some 19, op := Op.binOp BinOp.add 9 (Operand.tmp 14) (Operand.tmp 18) 9, type := 9, pos := "ref.go:30", after := #[{ on := 11, ground := Ground.data }, { on := 15, ground := Ground.data }], guard := none }) (v := ?_) rfl (by kernel_rfl) (by kernel_rfl) (by kernel_rfl) (by assumption) ?_ ?_; rotate_left; focus (refine .inl ⟨by kernel_rfl, ?_⟩; intro w hSw; (try dsimp only at hSw); go_simp; (try with_reducible rfl)); skip)
        (try simp only [Act.put, List.setIfInBounds_toArray, List.set_cons_zero, List.set_cons_succ])
        (refine heldTake (i := 17) (oi := { dst := some 2, op := Op.assign (Operand.tmp 19), type := 9, pos := "ref.go:30", after := #[{ on := 16, ground := Ground.data }, { on := 15, ground := Ground.chain }, { on := 0, ground := Ground.phase }, { on := 1, ground := Ground.phase }, { on := 2, ground := Ground.phase }, { on := 3, ground := Ground.phase }, { on := 4, ground := Ground.phase }, { on := 5, ground := Ground.phase }, { on := 6, ground := Ground.phase }, { on := 7, ground := Ground.phase }, { on := 8, ground := Ground.phase }, { on := 9, ground := Ground.phase }, { on := 10, ground := Ground.phase }, { on := 11, ground := Ground.phase }, { on := 12, ground := Ground.phase }, { on := 13, ground := Ground.phase }, { on := 14, ground := Ground.phase }, { on := 15, ground := Ground.phase }, { on := 16, ground := Ground.phase }], guard := none }) (v := ?_) rfl (by kernel_rfl) (by kernel_rfl) (by kernel_rfl) (by assumption) ?_ ?_; rotate_left; focus (refine .inl ⟨by kernel_rfl, ?_⟩; intro w hSw; (try dsimp only at hSw); go_simp; (try with_reducible rfl)); skip)
        (try simp only [Act.put, List.setIfInBounds_toArray, List.set_cons_zero, List.set_cons_succ])
        refine wpAnyH_done (by kernel_rfl) ?_ _
        refine NoPanic.normal ?_
        have hLast := hHeld10
        clear hHeld10
        go_wp2
        go_ret
        exact ⟨congrArg (fun b => Ending.returned (Value.string b)) HPs.out, hLast.1.2⟩
    · go_simp; refine upon_str (l := [x.kind]) (HP9.out) ?_; have HB10 := Lib.hid (Below.refl 0 w)
      refine hK.out _ _ hHeld9 (fun hHeld10 => ?_)
      clear hK K hHeld9
      (try simp only [Act.put, List.setIfInBounds_toArray, List.set_cons_zero, List.set_cons_succ])
      refine wpAnyH_ready (rs := [3]) (by kernel_rfl) (by simp) ?_
      refine (AllReadyH.cons (o := { dst := some 6, op := Op.call { callee := Callee.value (Operand.func 56), args := #[Operand.tmp 5], argTypes := #[3] }, type := 9, pos := "ref.go:30", after := #[{ on := 2, ground := Ground.data }], guard := none }) rfl (fun K hK => ?_) AllReadyH.nil)
      go_simp
      (go_at_call 56; (with_reducible refine (HC1.out _).mono ?_); rintro e w2 ⟨rfl, hb2⟩; have HB3 := Lib.hid hb2; clear hb2)
      refine hK.out _ _ (bxE_on hHeld10 HB3.out) (fun hHeld3 => ?_)
      clear hK K hHeld10
      (try simp only [Act.put, List.setIfInBounds_toArray, List.set_cons_zero, List.set_cons_succ])
      (refine heldTake (i := 6) (oi := { dst := some 9, op := Op.binOp BinOp.add 9 (Operand.tmp 6) (Operand.tmp 8) 9, type := 9, pos := "ref.go:30", after := #[{ on := 3, ground := Ground.data }, { on := 5, ground := Ground.data }], guard := none }) (v := ?_) rfl (by kernel_rfl) (by kernel_rfl) (by kernel_rfl) (by assumption) ?_ ?_; rotate_left; focus (refine .inl ⟨by kernel_rfl, ?_⟩; intro w hSw; (try dsimp only at hSw); go_simp; (try with_reducible rfl)); skip)
      (try simp only [Act.put, List.setIfInBounds_toArray, List.set_cons_zero, List.set_cons_succ])
      (refine heldTake (i := 11) (oi := { dst := some 14, op := Op.binOp BinOp.add 9 (Operand.tmp 9) (Operand.tmp 13) 9, type := 9, pos := "ref.go:30", after := #[{ on := 6, ground := Ground.data }, { on := 10, ground := Ground.data }], guard := none }) (v := ?_) rfl (by kernel_rfl) (by kernel_rfl) (by kernel_rfl) (by assumption) ?_ ?_; rotate_left; focus (refine .inl ⟨by kernel_rfl, ?_⟩; intro w hSw; (try dsimp only at hSw); go_simp; (try with_reducible rfl)); skip)
      (try simp only [Act.put, List.setIfInBounds_toArray, List.set_cons_zero, List.set_cons_succ])
      refine wpAnyH_ready (rs := [15]) (by kernel_rfl) (by simp) ?_
      refine (AllReadyH.cons (o := { dst := some 18, op := Op.call { callee := Callee.value (Operand.func 56), args := #[Operand.tmp 17], argTypes := #[3] }, type := 9, pos := "ref.go:30", after := #[{ on := 14, ground := Ground.data }, { on := 3, ground := Ground.chain }], guard := none }) rfl (fun K hK => ?_) AllReadyH.nil)
      go_simp
      (go_at_call 56; (with_reducible refine (HC2.out _).mono ?_); rintro e w5 ⟨rfl, hb5⟩; have HB15 := Lib.hid hb5; clear hb5)
      refine hK.out _ _ (bxE_on hHeld3 HB15.out) (fun hHeld15 => ?_)
      clear hK K hHeld3
      (try simp only [Act.put, List.setIfInBounds_toArray, List.set_cons_zero, List.set_cons_succ])
      (refine heldTake (i := 16) (oi := { dst := some 19, op := Op.binOp BinOp.add 9 (Operand.tmp 14) (Operand.tmp 18) 9, type := 9, pos := "ref.go:30", after := #[{ on := 11, ground := Ground.data }, { on := 15, ground := Ground.data }], guard := none }) (v := ?_) rfl (by kernel_rfl) (by kernel_rfl) (by kernel_rfl) (by assumption) ?_ ?_; rotate_left; focus (refine .inl ⟨by kernel_rfl, ?_⟩; intro w hSw; (try dsimp only at hSw); go_simp; (try with_reducible rfl)); skip)
      (try simp only [Act.put, List.setIfInBounds_toArray, List.set_cons_zero, List.set_cons_succ])
      (refine heldTake (i := 17) (oi := { dst := some 2, op := Op.assign (Operand.tmp 19), type := 9, pos := "ref.go:30", after := #[{ on := 16, ground := Ground.data }, { on := 15, ground := Ground.chain }, { on := 0, ground := Ground.phase }, { on := 1, ground := Ground.phase }, { on := 2, ground := Ground.phase }, { on := 3, ground := Ground.phase }, { on := 4, ground := Ground.phase }, { on := 5, ground := Ground.phase }, { on := 6, ground := Ground.phase }, { on := 7, ground := Ground.phase }, { on := 8, ground := Ground.phase }, { on := 9, ground := Ground.phase }, { on := 10, ground := Ground.phase }, { on := 11, ground := Ground.phase }, { on := 12, ground := Ground.phase }, { on := 13, ground := Ground.phase }, { on := 14, ground := Ground.phase }, { on := 15, ground := Ground.phase }, { on := 16, ground := Ground.phase }], guard := none }) (v := ?_) rfl (by kernel_rfl) (by kernel_rfl) (by kernel_rfl) (by assumption) ?_ ?_; rotate_left; focus (refine .inl ⟨by kernel_rfl, ?_⟩; intro w hSw; (try dsimp only at hSw); go_simp; (try with_reducible rfl)); skip)
      (try simp only [Act.put, List.setIfInBounds_toArray, List.set_cons_zero, List.set_cons_succ])
      refine wpAnyH_done (by kernel_rfl) ?_ _
      refine NoPanic.normal ?_
      have hLast := hHeld15
      clear hHeld15
      go_wp2
      go_ret
      exact ⟨congrArg (fun b => Ending.returned (Value.string b)) HPs.out, hLast.1.2⟩
end Go.Proofs.YtihpnplfklbgjaaDoor
