/- parse and ParseBody of a body's bytes. -/
import Derived.Test.YtebgmfjgapmpfaaDoorQh01
import Derived.Test.YtebgmfjgapmpfaaDoorQh02
import Derived.RegionTactic
namespace Go.Proofs.YtebgmfjgapmpfaaDoor
open Go.RowKit
set_option linter.unusedVariables false
set_option maxRecDepth 100000

theorem cfQ (cap : Array Value) (w : World) : (callFunc 123 cap).run Tryd.prog w = .ok (.enter 123 cap) w := by kernel_rfl
/-- What is kept of a body that was read. -/
def KeepL (p : Nat) (l : List UInt8) (full : List I) (k lo : Nat) (x : Option Addr × Nat × Nat) (W : World) : Prop :=
  x.2.1 = full.length ∧ Sc W p l k ∧ InsF lo W x.1 full
theorem KeepL.on {p : Nat} {l : List UInt8} {full : List I} {k lo : Nat} {x : Option Addr × Nat × Nat} {W W' : World} {b : Nat} (h : KeepL p l full k lo x W) (hg : W.grownBy W' (some b)) (h1 : p < b) (h2 : b < lo) : KeepL p l full k lo x W' := by
  obtain ⟨h3, h4, h5⟩ := h
  exact ⟨h3, h4.grown hg (by simp only [ne_eq, Option.some.injEq]; omega) (fun g e => by injection e with e; omega), h5.keep hg h2⟩
section
variable {full : List I} {p : Nat} {l r : List UInt8}
theorem pclosL {w : World} {b3 b7 k : Nat} (hall : ∀ i ∈ full, i.Ok ∧ rightZ i = 0) (hbody : shapeGo [] (opsOf full) = true) (hn : full.length ≤ 1000) (hs : Sc w p l k) (hT : TbP p w) (hd : l.drop k = bodyL full ++ r)
    (h3 : Whole w b3 128 #[.func (.func 76) #[] #[]]) (h7 : Whole w b7 51 #[.pointer (some ⟨p, 0, none⟩)]) :
    Calls Tryd.prog 123 #[.pointer (some ⟨b3, 0, none⟩), .pointer (some ⟨b7, 0, none⟩)] w fun e w' => ∃ x : Option Addr × Nat × Nat, e = .returned (.slice x.1 x.2.1 x.2.2) ∧ KeepL p l full (k + (bodyL full).length) w.heap.size x w' ∧ w.grownBy w' (some p) := by
  have HG := Lib.hid (getBody_ok hall hbody hn hs hT hd)
  have c3 := h3.cell 0
  have c7 := h7.cell 0
  simp only [List.getElem?_toArray, List.getElem?_cons_zero] at c3 c7
  clear hall hbody hs hT hd h3 h7
  go_enter Tryd.func123, Tryd.ntmps123
  go_wp2_with (go_at_call 76; go_must ((with_reducible refine HG.out.mono ?_); intro e w2 h; obtain ⟨A, c, rows, rfl, hi, hm, hs, hg⟩ := h; have HI := Lib.hid (show InsF w.heap.size w2 A full from by rw [← hm]; exact hi.insF); have HS := Lib.hid hs; have HG2 := Lib.hid hg; clear hi hs hg hm))
  go_ret
  exact ⟨(A, full.length, c), rfl, ⟨rfl, HS.out, HI.out⟩, HG2.out⟩
theorem parse_valueL {w0 w1 : World} {b3 : Nat} (hall : ∀ i ∈ full, i.Ok ∧ rightZ i = 0) (hbody : shapeGo [] (opsOf full) = true) (hn : full.length ≤ 1000) (hs : Sc w1 p l 0) (hT : TbP p w0) (hb : Below w0.heap.size w0 w1) (hz : w0.heap.size ≤ w1.heap.size) (hd : l.drop 0 = bodyL full ++ r)
    (h3 : Whole w0 b3 128 #[.func (.func 76) #[] #[]]) :
    Calls Tryd.prog 122 #[.func (.func 123) #[] #[.pointer (some ⟨b3, 0, none⟩), .pointer (some ⟨w1.heap.size, 0, none⟩)]] (w1.alloc (.cells #[.pointer (some ⟨p, 0, none⟩)] 51)) fun e w' =>
      ∃ x : Option Addr × Nat × Nat, e = .returned (.tuple #[.slice x.1 x.2.1 x.2.2, .agg #[.int .i64 0, .int .i64 0]]) ∧ KeepL p l full (bodyL full).length (w1.heap.size + 5) x w' ∧ (w1.alloc (.cells #[.pointer (some ⟨p, 0, none⟩)] 51)).grownBy w' (some p) := by
  have hlt := hs.lt
  refine valueL_ok (cfQ _) (by rw [size_box]; omega) (fun x W W' b h1 h2 hx hg => hx.on hg (by rw [size_box] at h1; omega) (by rw [size_box] at h2; omega)) (fun W hW hz5 => ?_)
  have hb3 := ((h3.below hb).alloc (.cells #[.pointer (some ⟨p, 0, none⟩)] 51)).below hW
  have hb7 := (Whole.made w1 51 #[.pointer (some ⟨p, 0, none⟩)]).below hW
  have hs2 := (hs.alloc (.cells #[.pointer (some ⟨p, 0, none⟩)] 51)).below hW
  have ht2 : TbP p W := by
    obtain ⟨W0, g1, g2, g3⟩ := hT
    exact ⟨W0, g1, g2, ((g3.trans (hb.mono g3.size)).trans ((below_box w1 _).mono (Nat.le_trans g3.size hz))).trans (hW.mono (by rw [size_box]; have := g3.size; omega))⟩
  refine (pclosL hall hbody hn hs2 ht2 hd hb3 hb7).mono ?_
  rintro e w' ⟨x, rfl, hx, hg⟩
  obtain ⟨g1, g2, g3⟩ := hx
  rw [Nat.zero_add] at g2
  rw [size_box] at hz5
  exact ⟨x, rfl, ⟨g1, g2, g3.mono (by omega)⟩, hg⟩
end
/-- What parse hands back. -/
def ParsedL (full : List I) (n : Nat) (w : World) (e : Ending) (w' : World) : Prop :=
  ∃ A c, e = .returned (.tuple #[.slice A full.length c, .int .i64 n, .agg #[.int .i64 0, .int .i64 0]]) ∧ InsF w.heap.size w' A full ∧ Below w.heap.size w w'
/-- The world in which parse's results are written. -/
structure ParseEndL (A : Option Addr) (p : Nat) (l : List UInt8) (full : List I) (w w1 w2 W : World) (n : Nat) : Prop where
  sc : Sc W p l n
  ins : InsF (w.heap.size + 2) W A full
  bel : Below w.heap.size w W
  ptr : W.cell? ⟨w1.heap.size, 0, none⟩ = some (.pointer (some ⟨p, 0, none⟩))
  stop : W.cell? ⟨w2.heap.size, 0, none⟩ = some (.int .i64 0) ∧ W.cell? ⟨w2.heap.size, 1, none⟩ = some (.int .i64 0)
  res6 : W.cell? ⟨w.heap.size + 1, 0, none⟩ = some (.int .i64 0) ∧ W.cell? ⟨w.heap.size + 1, 1, none⟩ = some (.int .i64 0)
  free6 : W.frozen? ⟨w.heap.size + 1, 0, none⟩ = false ∧ W.frozen? ⟨w.heap.size + 1, 1, none⟩ = false
  w6 : Whole W (w.heap.size + 1) 35 #[.int .i64 0, .int .i64 0]
theorem ParseEndL.of {A : Option Addr} {p : Nat} {l : List UInt8} {full : List I} {w w0 w1 w2 : World} {n : Nat} (h0 : w0.heap.size = w.heap.size + 2) (hb0 : Below w.heap.size w w0) (h6 : Whole w0 (w.heap.size + 1) 35 #[.int .i64 0, .int .i64 0])
    (hb : Below w0.heap.size w0 w1) (hz1 : w0.heap.size ≤ w1.heap.size) (hp : w0.heap.size ≤ p ∧ p < w1.heap.size) (hg : (w1.alloc (.cells #[.pointer (some ⟨p, 0, none⟩)] 51)).grownBy w2 (some p)) (hk : Sc w2 p l n ∧ InsF (w1.heap.size + 5) w2 A full) :
    ParseEndL A p l full w w1 w2 (w2.alloc (.cells #[.int .i64 0, .int .i64 0] 35)) n := by
  have hz2 := hg.size
  rw [size_box] at hz2
  obtain ⟨k1, k2⟩ := hk
  have w6 := (((h6.below hb).alloc (.cells #[.pointer (some ⟨p, 0, none⟩)] 51)).grown hg (by simp only [ne_eq, Option.some.injEq]; omega)).alloc (.cells #[.int .i64 0, .int .i64 0] 35)
  have w7 := ((Whole.made w1 51 #[.pointer (some ⟨p, 0, none⟩)]).grown hg (by simp only [ne_eq, Option.some.injEq]; omega)).alloc (.cells #[.int .i64 0, .int .i64 0] 35)
  have w9 := Whole.made w2 35 #[.int .i64 0, .int .i64 0]
  refine ⟨k1.alloc _, (k2.keep (gb_alloc (gb_refl w2 (some 0)) _) (by omega)).mono (by omega), ?_, w7.cell 0, ⟨w9.cell 0, w9.cell 1⟩, ⟨w6.cell 0, w6.cell 1⟩, ⟨w6.frozen 0, w6.frozen 1⟩, w6⟩
  have b1 : Below w.heap.size w (w1.alloc (.cells #[.pointer (some ⟨p, 0, none⟩)] 51)) := (hb0.trans (hb.mono (by omega))).alloc (by omega) _
  have b2 : Below w.heap.size w w2 := Below.grown b1 hg (by rw [size_box]; omega) (fun g e => by injection e with e; omega)
  exact b2.alloc (by omega) _
theorem ParseEndL.fin {A : Option Addr} {p : Nat} {l : List UInt8} {full : List I} {w w1 w2 W : World} {n : Nat} (h : ParseEndL A p l full w w1 w2 W n) (W6 : World)
    (hW : W6 = (W.setCell ⟨w.heap.size + 1, 0, none⟩ (.int .i64 0)).setCell ⟨w.heap.size + 1, 1, none⟩ (.int .i64 0)) :
    Whole W6 (w.heap.size + 1) 35 #[.int .i64 0, .int .i64 0] ∧ InsF w.heap.size W6 A full ∧ Below w.heap.size w W6 := by
  subst hW
  obtain ⟨p2, g2⟩ := put2 (u0 := .int .i64 0) (u1 := .int .i64 0) h.w6
  have hzw := h.w6.lt
  exact ⟨p2, (h.ins.keep g2 (by omega)).mono (by omega), Below.grown h.bel g2 (by omega) (fun g e => by injection e with e; omega)⟩
theorem parsedL_of {full : List I} {A : Option Addr} {c n m : Nat} {w W : World} (hn : n = m) (h : InsF w.heap.size W A full) (hb : Below w.heap.size w W) : ParsedL full n w (.returned (.tuple #[.slice A full.length c, .int .i64 m, .agg #[.int .i64 0, .int .i64 0]])) W.drew :=
  ⟨A, c, by rw [hn], h, hb.drew⟩
set_option maxHeartbeats 2000000 in
theorem parseL_ok {w : World} {A : Option Addr} {cap : Nat} {l r : List UInt8} {full : List I} (hT : Tabs w) (hall : ∀ i ∈ full, i.Ok ∧ rightZ i = 0) (hbody : shapeGo [] (opsOf full) = true) (hfn : full.length ≤ 1000) (hl : Lies w w.heap.size A (cells (nums l))) (h0 : 0 < l.length) (hc : l.length ≤ 1000000) (hd : l = bodyL full ++ r) :
    Calls Tryd.prog 75 #[.slice A l.length cap, .func (.func 76) #[] #[]] w (ParsedL full (bodyL full).length w) := by
  obtain ⟨w0, hw0⟩ : ∃ w0, w0 = (w.alloc (.cells #[.func (.func 76) #[] #[]] 128)).alloc (.cells #[.int .i64 0, .int .i64 0] 35) := ⟨_, rfl⟩
  have hsz : w0.heap.size = w.heap.size + 2 := by rw [hw0]; simp
  have hb0 : Below w.heap.size w w0 := by rw [hw0]; exact (below_box w _).alloc (by simp) _
  have b3 : Whole w0 w.heap.size 128 #[.func (.func 76) #[] #[]] := by rw [hw0]; exact (Whole.made w _ _).alloc _
  have b6 : Whole w0 (w.heap.size + 1) 35 #[.int .i64 0, .int .i64 0] := by
    rw [hw0]; have := Whole.made (w.alloc (.cells #[.func (.func 76) #[] #[]] 128)) 35 #[.int .i64 0, .int .i64 0]
    rw [size_box] at this
    exact this
  have HO := Lib.hid (over_ok (cap := cap) ((hl.below hb0 (Nat.le_refl _)).more hb0.size) h0 hc)
  have HB3 := Lib.hid b3
  have HB6 := Lib.hid b6
  have HB0 := Lib.hid hb0
  have HTT := Lib.hid (hT.below hb0)
  have HD := Lib.hid (show l.drop 0 = bodyL full ++ r from hd)
  have HALL := Lib.hid hall
  have HBD := Lib.hid hbody
  rw [hw0] at HO
  have HSZ := Lib.hid hsz
  have HW0 := Lib.hid hw0
  clear hl hd hall hbody hT b3 b6 hb0 hsz hw0
  obtain ⟨n, hn⟩ : ∃ n, n = (bodyL full).length := ⟨_, rfl⟩
  have HN := Lib.hid hn
  rw [← hn]
  clear hn
  have hmf : ∀ (fn : Fn) (first cap : Array Value) (w : World), (Instr.makeFunc fn first cap).run Tryd.prog w = .ok (.func fn first cap) w := fun _ _ _ _ => rfl
  go_enter Tryd.func75, Tryd.ntmps75
  go_wp2_with (first
    | (go_at_call 29; go_must ((with_reducible refine HO.out.mono ?_); rw [← HW0.out]; intro e w1 hq; obtain ⟨p, rfl, hp, hs, hb⟩ := hq; have HS := Lib.hid hs; have HB := Lib.hid hb; have hz1 := hb.size; have HP := Lib.hid hp; clear hs hb hp))
    | (go_at_call 122; go_must ((with_reducible refine (parse_valueL HALL.out HBD.out hfn HS.out (TbP.of HTT.out HP.out) HB.out hz1 HD.out HB3.out).mono ?_); rintro e w2 ⟨⟨A2, n2, c2⟩, rfl, hk, hg⟩; obtain rfl : n2 = full.length := hk.1; have HK := Lib.hid hk.2; have HG := Lib.hid hg; have hz2 := hg.size; rw [size_box] at hz2; clear hk hg)))
  have hend : ParseEndL A2 p l full w w1 w2 (w2.alloc (.cells #[.int .i64 0, .int .i64 0] 35)) (bodyL full).length :=
    .of HSZ.out HB0.out HB6.out HB.out hz1 ⟨HP.out, HS.out.lt⟩ HG.out HK.out
  generalize (w2.alloc (.cells #[.int .i64 0, .int .i64 0] 35)) = W at *
  have HE := Lib.hid hend
  obtain ⟨hs, -, hbw, k7, ⟨k8, k9⟩, ⟨s0, s1⟩, ⟨y0, y1⟩, -⟩ := hend
  have hs2 : Sc W.drew p l (bodyL full).length := hs
  have HAT := Lib.hid (at_any hs2)
  have n1 : ¬ w2.heap.size = w.heap.size + 1 := by have := HSZ.out; omega
  clear hs hs2 hbw
  go_region_with (go_at_call 34; (with_reducible refine HAT.out.mono ?_); rintro e w' ⟨rfl, rfl⟩)
  all_goals
    go_wp2
    obtain ⟨p2, p3, p4⟩ := HE.out.fin _ rfl
    have q4 := p2.drew.cell 0
    have q5 := p2.drew.cell 1
    simp only [List.getElem?_toArray, List.getElem?_cons_zero, List.getElem?_cons_succ] at q4 q5
    refine bodyPost_ret (v := .tuple #[.slice A2 full.length c2, .int .i64 (bodyL full).length, .agg #[.int .i64 0, .int .i64 0]]) (by simp [results, Tryd.results75, go_sem, q4, q5]) rfl (parsedL_of HN.out p3 p4)
set_option maxHeartbeats 1000000 in
theorem parseBody_ok {w : World} {A : Option Addr} {cap : Nat} {l r : List UInt8} {full : List I} (hT : Tabs w) (hall : ∀ i ∈ full, i.Ok ∧ rightZ i = 0) (hbody : shapeGo [] (opsOf full) = true) (hfn : full.length ≤ 1000) (hl : Lies w w.heap.size A (cells (nums l))) (h0 : 0 < l.length) (hc : l.length ≤ 1000000) (hd : l = bodyL full ++ r) :
    Calls Tryd.prog 21 #[.slice A l.length cap] w (ParsedL full (bodyL full).length w) := by
  have hb0 := below_box w (.cells #[.int .i64 0, .int .i64 0] 35)
  have HP := Lib.hid (parseL_ok (cap := cap) (hT.below hb0) hall hbody hfn ((hl.below hb0 (Nat.le_refl _)).more hb0.size) h0 hc hd)
  have HB6 := Lib.hid (Whole.made w 35 #[.int .i64 0, .int .i64 0])
  have HB0 := Lib.hid hb0
  clear hT hall hbody hl hd hb0
  obtain ⟨n, hn⟩ : ∃ n, n = (bodyL full).length := ⟨_, rfl⟩
  rw [← hn] at HP ⊢
  clear hn
  go_enter Tryd.func21, Tryd.ntmps21
  go_wp2_with (go_at_call 75; go_must ((with_reducible refine HP.out.mono ?_); intro e w1 hq; obtain ⟨A2, c2, rfl, hla, hb⟩ := hq; have h6 := HB6.out.below hb; have s0 := h6.cell 0; have s1 := h6.cell 1; have y0 := h6.frozen 0; have y1 := h6.frozen 1; simp only [List.getElem?_toArray, List.getElem?_cons_zero, List.getElem?_cons_succ] at s0 s1; have H6 := Lib.hid h6; have HLA := Lib.hid hla; have HB := Lib.hid hb; clear h6 hla hb))
  obtain ⟨p2, g2⟩ := put2 (u0 := .int .i64 0) (u1 := .int .i64 0) H6.out
  have q4 := p2.cell 0
  have q5 := p2.cell 1
  simp only [List.getElem?_toArray, List.getElem?_cons_zero, List.getElem?_cons_succ] at q4 q5
  have hz := HB.out.size
  have hla := HLA.out
  rw [size_box] at hz hla
  have hb1 : Below w.heap.size w w1 := HB0.out.trans (HB.out.mono (by rw [size_box]; omega))
  refine bodyPost_ret (v := .tuple #[.slice A2 full.length c2, .int .i64 n, .agg #[.int .i64 0, .int .i64 0]]) (by simp [results, Tryd.results21, go_sem, q4, q5]) rfl ⟨A2, c2, rfl, (hla.keep g2 (by omega)).mono (by omega), Below.grown hb1 g2 (by omega) (fun g e => by injection e with e; omega)⟩
end Go.Proofs.YtebgmfjgapmpfaaDoor

/- The reference's Walk and Shape. -/
namespace Go.Proofs.YtebgmfjgapmpfaaDoor
open Go.RowKit
set_option linter.unusedVariables false
set_option maxRecDepth 100000

def opc (c : UInt8) : UInt8 := if c = 4 then 105 else if c = 5 then 101 else 98
def opens (n : Nat) : Bool := decide (n = 2 ∨ n = 3 ∨ n = 4)
theorem opens_all : ∀ n, n < 256 → (immR n == 1) = opens n := by decide +kernel
theorem opens_iff {op : UInt8} : immR op.toNat = 1 ↔ (op.toNat = 2 ∨ op.toNat = 3 ∨ op.toNat = 4) := by
  have := opens_all op.toNat op.toNat_lt
  constructor
  · intro h
    have h2 : (immR op.toNat == 1) = true := by simpa using h
    rw [h2] at this
    unfold opens at this
    simpa using this.symm
  · intro h
    have h2 : opens op.toNat = true := by unfold opens; simpa using h
    rw [h2] at this
    simpa using this
/-- Only what opens a block, or an else, stands there. -/
def Clean (st : List UInt8) : Prop := ∀ c ∈ st, c.toNat = 2 ∨ c.toNat = 3 ∨ c.toNat = 4 ∨ c.toNat = 5
theorem clean_add {st st' : List UInt8} {op : UInt8} {en : Bool} (h : Clean st) (ha : addZ st op = some (st', en)) : Clean st' := by
  unfold addZ at ha
  by_cases h1 : immR op.toNat = 1
  · rw [if_pos h1] at ha
    injection ha with ha; injection ha with ha1 ha2
    subst ha1
    intro c hc
    rcases List.mem_append.1 hc with hc | hc
    · exact h c hc
    · rw [List.mem_singleton] at hc
      subst hc
      have := opens_iff.1 h1
      omega
  · rw [if_neg h1] at ha
    by_cases h5 : op = 5
    · rw [if_pos h5] at ha
      by_cases h4 : st.getLast? = some 4
      · rw [if_pos h4] at ha
        injection ha with ha; injection ha with ha1 ha2
        subst ha1
        intro c hc
        rcases List.mem_append.1 hc with hc | hc
        · exact h c ((List.dropLast_sublist st).subset hc)
        · rw [List.mem_singleton] at hc
          subst hc
          exact .inr (.inr (.inr rfl))
      · rw [if_neg h4] at ha; cases ha
    · rw [if_neg h5] at ha
      by_cases h11 : op = 11
      · rw [if_pos h11] at ha
        by_cases h0 : st = []
        · rw [if_pos h0] at ha
          injection ha with ha; injection ha with ha1 ha2
          subst ha1
          exact h
        · rw [if_neg h0] at ha
          injection ha with ha; injection ha with ha1 ha2
          subst ha1
          exact fun c hc => h c ((List.dropLast_sublist st).subset hc)
      · rw [if_neg h11] at ha
        injection ha with ha; injection ha with ha1 ha2
        subst ha1
        exact h
theorem op_is {op : UInt8} {n : Nat} (h : op.toNat = n) (hn : n < 256) : op = UInt8.ofNat n := by
  apply u8_ext
  rw [h, UInt8.toNat_ofNat']
  omega
theorem last_map {st : List UInt8} {x : UInt8} (h : st.getLast? = some x) : (st.map opc)[st.length - 1]? = some (opc x) := by
  rw [List.getElem?_map, ← List.getLast?_eq_getElem?, h]
  rfl
theorem opc_i {st : List UInt8} {x : UInt8} (hc : Clean st) (h : st.getLast? = some x) : (((opc x).toNat : Int) != 105) = decide (x ≠ 4) := by
  have hx : x ∈ st := List.mem_of_getLast? h
  have := hc x hx
  unfold opc
  by_cases h4 : x = 4
  · subst h4; rfl
  · rw [if_neg h4]
    by_cases h5 : x = 5
    · subst h5; rfl
    · rw [if_neg h5]
      simp [h4]
theorem map_dropLast (st : List UInt8) : (st.map opc).take (st.length - 1) = st.dropLast.map opc := by
  rw [← List.map_take, List.dropLast_eq_take]
/-- What Walk tells: is it a body? -/
def WalkPost (l : List I) (w : World) (e : Ending) (w' : World) : Prop :=
  ∃ m x : Int, e = .returned (.tuple #[.int .i64 m, .int .i64 x]) ∧ (shapeGo [] (opsOf l) = true ↔ (m ≠ 0 ∧ m = l.length)) ∧ Below w.heap.size w w'
set_option maxHeartbeats 3000000 in
theorem walk_any {w : World} {A : Option Addr} {c : Nat} {l : List I} (hl : Ins w A l) (hn : l.length ≤ 20000) :
    Calls Tryd.prog 73 #[.slice A l.length c] w (WalkPost l w) := by
  have HL := Lib.hid hl
  obtain ⟨n, hnn⟩ : ∃ n, n = l.length := ⟨_, rfl⟩
  have HNN := Lib.hid hnn
  rw [← hnn] at hn ⊢
  clear hl hnn
  go_enter Tryd.func73, Tryd.ntmps73
  go_wp2
  go_loopw [4, 5] (fun s i wr => ∃ (k : Nat) (st : List UInt8), k ≤ n ∧ i = .int .i64 k ∧ s = .string (S (st.map opc)) ∧ st.length ≤ k ∧ Clean st ∧ Stand l k st false ∧ Below w.heap.size w wr) (fun _ i _ => n - (intOf i).toNat)
  case atStart => exact ⟨0, [], Nat.zero_le _, rfl, rfl, Nat.le_refl _, (fun c h => by cases h), rfl, Below.refl _ _⟩
  case round =>
    obtain ⟨k, st, hk, rfl, rfl, hsl, hcl, hst, hb⟩ := hrel
    have HB := Lib.hid hb
    by_cases hlt : k < n
    · obtain ⟨i, hi⟩ : ∃ i, l[k]? = some i := ⟨_, List.getElem?_eq_getElem (by rw [← HNN.out]; exact hlt)⟩
      obtain ⟨b, off, B, cc, rfl, hbl, ⟨k0, _, _, _⟩, _⟩ := HL.out k i hi
      have m0 := (hb.cell (p := ⟨b, off + k * 4, none⟩) hbl).trans k0
      have hstep := hst.step hi
      obtain ⟨t, ht⟩ : ∃ t, t = st.map opc := ⟨_, rfl⟩
      have htl : t.length = st.length := by rw [ht, List.length_map]
      have hsz := S_size t
      rw [← ht]
      have HTT := Lib.hid ht
      by_cases h23 : i.op.toNat = 2 ∨ i.op.toNat = 3
      · have ha : addZ st i.op = some (st ++ [i.op], false) := by unfold addZ; rw [if_pos (opens_iff.2 (by omega))]
        rw [ha] at hstep
        have hc2 := clean_add hcl ha
        have HS := Lib.hid hstep
        have HC := Lib.hid hc2
        have HO : Hid (S t ++ { data := #[98] } = S ((st ++ [i.op]).map opc)) := by
          show S t ++ S [98] = _
          rw [S_append, List.map_append, HTT.out]
          congr 2
          unfold opc
          rw [List.map_cons, List.map_nil, if_neg (by intro e; rw [e] at h23; revert h23; decide), if_neg (by intro e; rw [e] at h23; revert h23; decide)]
        have q : (S t).size + 1 ≤ 9223372036854775807 := by omega
        clear hst hb k0 hi hstep ha hc2 hcl ht
        rcases h23 with h2 | h2
        all_goals
          rw [h2] at m0
          go_wp2
          go_roundw
          case rel => exact ⟨k + 1, st ++ [i.op], by omega, by go_num, by rw [HO.out], by simp; omega, HC.out, HS.out, HB.out⟩
          case measure => simp [intOf]; omega
      · by_cases h4 : i.op.toNat = 4
        · have ha : addZ st i.op = some (st ++ [i.op], false) := by unfold addZ; rw [if_pos (opens_iff.2 (by omega))]
          rw [ha] at hstep
          have hc2 := clean_add hcl ha
          have HS := Lib.hid hstep
          have HC := Lib.hid hc2
          have HO : Hid (S t ++ { data := #[105] } = S ((st ++ [i.op]).map opc)) := by
            show S t ++ S [105] = _
            rw [S_append, List.map_append, HTT.out, op_is (n := 4) h4 (by decide)]
            rfl
          have q : (S t).size + 1 ≤ 9223372036854775807 := by omega
          clear hst hb k0 hi hstep ha hc2 hcl ht
          rw [h4] at m0
          go_wp2
          go_roundw
          case rel => exact ⟨k + 1, st ++ [i.op], by omega, by go_num, by rw [HO.out], by simp; omega, HC.out, HS.out, HB.out⟩
          case measure => simp [intOf]; omega
        · have d2 : ((i.op.toNat : Int) == 2) = false := by simp; omega
          have d3 : ((i.op.toNat : Int) == 3) = false := by simp; omega
          have d4 : ((i.op.toNat : Int) == 4) = false := by simp; omega
          have himm : ¬ immR i.op.toNat = 1 := fun e => by have := opens_iff.1 e; omega
          by_cases h5 : i.op.toNat = 5
          · have e5 : i.op = 5 := op_is (n := 5) h5 (by decide)
            rw [e5] at hstep himm
            by_cases h0 : st = []
            · have ha : addZ st 5 = none := by unfold addZ; rw [if_neg himm, if_pos rfl, h0, if_neg (by simp)]
              rw [ha] at hstep
              have HS := Lib.hid hstep
              have z0 : (S t).toList.isEmpty = true := by rw [S_toList, HTT.out, h0]; rfl
              clear hst hb k0 hi hstep ha hcl ht h0
              rw [h5] at m0
              go_wp2
              go_ret2
              exact ⟨0, k, rfl, by rw [HS.out]; simp, HB.out⟩
            · obtain ⟨x, hx⟩ : ∃ x, st.getLast? = some x := by cases h : st.getLast? with
                | none => exact absurd (List.getLast?_eq_none_iff.1 h) h0
                | some x => exact ⟨x, rfl⟩
              have z0 : (S t).toList.isEmpty = false := by
                rw [S_toList, HTT.out]
                cases st with
                | nil => exact absurd rfl h0
                | cons a r => rfl
              obtain ⟨u, hu⟩ : ∃ u, st.length = u + 1 := ⟨st.length - 1, by have := List.length_pos_iff.2 h0; omega⟩
              have hsu : (S t).size = u + 1 := by omega
              have hlu : u < (S t).size := by omega
              have hgl : t[u]? = some (opc x) := by have := last_map hx; rw [hu, Nat.add_sub_cancel] at this; rw [HTT.out]; exact this
              have hgx : (S t)[u]'hlu = opc x := by
                rw [S_get t u hlu]
                exact (List.getElem?_eq_some_iff.1 hgl).2
              have hcmp : ((((S t)[u]'hlu).toNat : Int) != 105) = decide (x ≠ 4) := by rw [hgx]; exact opc_i hcl hx
              have e1 : ((u + 1 : Nat) : Int) - 1 = u := by omega
              by_cases hx4 : x = 4
              · have hl4 : st.getLast? = some 4 := by rw [hx, hx4]
                have ha : addZ st 5 = some (st.dropLast ++ [5], false) := by unfold addZ; rw [if_neg himm, if_pos rfl, if_pos hl4]
                rw [ha] at hstep
                have hc2 := clean_add hcl ha
                have HS := Lib.hid hstep
                have HC := Lib.hid hc2
                have hcm : ((((S t)[u]'hlu).toNat : Int) != 105) = false := by rw [hcmp, hx4]; rfl
                have hsl2 : ∀ wx, (Instr.slice 9 (.string (S t)) none (some (.int .i64 (u : Int))) none).run Tryd.prog wx = .ok (.string (S (t.take u))) wx := fun wx => by
                  have := run_slice_string_h (P := Tryd.prog) wx 9 (S t) Tryd.underlying9 .i64 (u : Int) (by omega) (by omega)
                  rw [this, S_extract]
                  simp
                have htk : t.take u = st.dropLast.map opc := by rw [HTT.out, ← map_dropLast, hu, Nat.add_sub_cancel]
                obtain ⟨t2, ht2⟩ : ∃ t2, t2 = t.take u := ⟨_, rfl⟩
                rw [← ht2] at hsl2 htk
                have HTK := Lib.hid htk
                have hs2 := S_size t2
                have hl2 : t2.length ≤ 20000 := by rw [ht2, List.length_take]; omega
                have q : (S t2).size + 1 ≤ 9223372036854775807 := by omega
                have HO : Hid (S t2 ++ { data := #[101] } = S ((st.dropLast ++ [5]).map opc)) := by
                  show S t2 ++ S [101] = _
                  rw [S_append, List.map_append, HTK.out]
                  rfl
                have HLU := Lib.hid hu
                clear hst hb k0 hi hstep ha hc2 hcl ht ht2 htk hx hgl hgx hcmp hl4 h0 hx4
                rw [h5] at m0
                go_wp2
                go_roundw
                case rel => exact ⟨k + 1, st.dropLast ++ [5], by omega, by go_num, by rw [HO.out], by simp; have := HLU.out; omega, HC.out, HS.out, HB.out⟩
                case measure => simp [intOf]; omega
              · have ha : addZ st 5 = none := by unfold addZ; rw [if_neg himm, if_pos rfl, hx, if_neg (by simpa using hx4)]
                rw [ha] at hstep
                have HS := Lib.hid hstep
                have hcm : ((((S t)[u]'hlu).toNat : Int) != 105) = true := by rw [hcmp]; simpa using hx4
                clear hst hb k0 hi hstep ha hcl ht hx hgl hgx hcmp h0 hx4
                rw [h5] at m0
                go_wp2
                go_ret2
                exact ⟨0, k, rfl, by rw [HS.out]; simp, HB.out⟩
          · have d5 : ((i.op.toNat : Int) == 5) = false := by simp; omega
            have n5 : i.op ≠ 5 := fun e => h5 (by rw [e]; rfl)
            by_cases h11 : i.op.toNat = 11
            · have e11 : i.op = 11 := op_is (n := 11) h11 (by decide)
              rw [e11] at hstep himm
              by_cases h0 : st = []
              · have ha : addZ st 11 = some (st, true) := by rw [addZ_11, if_pos h0, if_pos h0]
                rw [ha] at hstep
                have z0 : (S t).toList.isEmpty = true := by rw [S_toList, HTT.out, h0]; rfl
                have HS : Hid (shapeGo [] (opsOf l) = true ↔ (((k : Int) + 1 ≠ 0) ∧ (k : Int) + 1 = n)) := by
                  have h : Stand l (k + 1) st true := hstep
                  unfold Stand at h
                  rw [if_pos rfl] at h
                  show _ ↔ _
                  rw [h, List.isEmpty_iff, List.drop_eq_nil_iff]
                  unfold opsOf
                  rw [List.length_map, ← HNN.out]
                  omega
                clear hst hb k0 hi hstep ha hcl ht h0
                rw [h11] at m0
                go_wp2
                go_ret2
                exact ⟨(k : Int) + 1, -1, rfl, by rw [← HNN.out]; exact HS.out, HB.out⟩
              · have ha : addZ st 11 = some (st.dropLast, false) := by rw [addZ_11, if_neg h0, if_neg h0]
                rw [ha] at hstep
                have hc2 := clean_add hcl ha
                have HS := Lib.hid hstep
                have HC := Lib.hid hc2
                have z0 : (S t).toList.isEmpty = false := by
                  rw [S_toList, HTT.out]
                  cases st with
                  | nil => exact absurd rfl h0
                  | cons a r => rfl
                obtain ⟨u, hu⟩ : ∃ u, st.length = u + 1 := ⟨st.length - 1, by have := List.length_pos_iff.2 h0; omega⟩
                have hsu : (S t).size = u + 1 := by omega
                have e1 : ((u + 1 : Nat) : Int) - 1 = u := by omega
                have hsl2 : ∀ wx, (Instr.slice 9 (.string (S t)) none (some (.int .i64 (u : Int))) none).run Tryd.prog wx = .ok (.string (S (t.take u))) wx := fun wx => by
                  have := run_slice_string_h (P := Tryd.prog) wx 9 (S t) Tryd.underlying9 .i64 (u : Int) (by omega) (by omega)
                  rw [this, S_extract]
                  simp
                have HTK := Lib.hid (show t.take u = st.dropLast.map opc by rw [HTT.out, ← map_dropLast, hu, Nat.add_sub_cancel])
                have HLU := Lib.hid hu
                clear hst hb k0 hi hstep ha hc2 hcl ht h0
                rw [h11] at m0
                go_wp2
                go_roundw
                case rel => exact ⟨k + 1, st.dropLast, by omega, by go_num, by rw [HTK.out], by simp; have := HLU.out; omega, HC.out, HS.out, HB.out⟩
                case measure => simp [intOf]; omega
            · have d11 : ((i.op.toNat : Int) == 11) = false := by simp; omega
              have n11 : i.op ≠ 11 := fun e => h11 (by rw [e]; rfl)
              have ha : addZ st i.op = some (st, false) := by unfold addZ; rw [if_neg himm, if_neg n5, if_neg n11]
              rw [ha] at hstep
              have HS := Lib.hid hstep
              have HC := Lib.hid hcl
              clear hst hb k0 hi hstep ha hcl
              rw [ht]
              go_wp2
              go_roundw
              case rel => exact ⟨k + 1, st, by omega, by go_num, rfl, by omega, HC.out, HS.out, HB.out⟩
              case measure => simp [intOf]; omega
    · obtain rfl : k = n := by omega
      have HS : Hid (shapeGo [] (opsOf l) = false) := by
        have h := hst
        unfold Stand at h
        rw [if_neg (by simp), List.drop_eq_nil_of_le (by unfold opsOf; rw [List.length_map, HNN.out]; exact Nat.le_refl _)] at h
        show _ = _
        rw [h]
        unfold shapeGo
        rfl
      clear hst hb hcl
      go_wp2
      go_ret2
      exact ⟨0, -1, rfl, by rw [HS.out]; simp, HB.out⟩
theorem refShape_any {w : World} {A : Option Addr} {c : Nat} {l : List I} (hl : Ins w A l) (hn : l.length ≤ 20000) :
    Calls Tryd.prog 18 #[.slice A l.length c] w (IntPost (shapeZ l) w) := by
  have HW := Lib.hid (walk_any (c := c) hl hn)
  have g0 : decide (20000 < (l.length : Int)) = false := decide_eq_false (by omega)
  by_cases hs : shapeGo [] (opsOf l) = true
  · have HE := Lib.hid (show shapeZ l = 0 by unfold shapeZ; rw [if_pos hs])
    have HW2 := Lib.hid (show Calls Tryd.prog 73 #[.slice A l.length c] w fun e w' => ∃ m x : Int, e = .returned (.tuple #[.int .i64 m, .int .i64 x]) ∧ (m ≠ 0 ∧ m = l.length) ∧ Below w.heap.size w w' from HW.out.mono fun e w' ⟨m, x, h1, h2, h3⟩ => ⟨m, x, h1, h2.1 hs, h3⟩)
    clear hs hl HW
    go_enter Tryd.func18, Tryd.ntmps18
    go_wp2_with (go_at_call 73; go_must ((with_reducible refine HW2.out.mono ?_); intro e w1 hq; obtain ⟨m, x, rfl, ⟨hm0, hm1⟩, hb⟩ := hq; have z1 : (m == 0) = false := (by simpa using hm0); have z2 : (m != (l.length : Int)) = false := (by simpa using hm1); have HB := Lib.hid hb; clear hb hm0 hm1))
    go_ret
    exact ret_below HE.out.symm HB.out
  · have HE := Lib.hid (show shapeZ l = 30 by unfold shapeZ; rw [if_neg hs])
    have HW2 := Lib.hid (show Calls Tryd.prog 73 #[.slice A l.length c] w fun e w' => ∃ m x : Int, e = .returned (.tuple #[.int .i64 m, .int .i64 x]) ∧ (m = 0 ∨ m ≠ l.length) ∧ Below w.heap.size w w' from HW.out.mono fun e w' ⟨m, x, h1, h2, h3⟩ => ⟨m, x, h1, by
      by_cases g : m = 0
      · exact .inl g
      · exact .inr (fun g2 => hs (h2.2 ⟨g, g2⟩)), h3⟩)
    clear hs hl HW
    go_enter Tryd.func18, Tryd.ntmps18
    go_wp2_with (go_at_call 73; go_must ((with_reducible refine HW2.out.mono ?_); intro e w1 hq; obtain ⟨m, x, rfl, hm, hb⟩ := hq; have HB := Lib.hid hb; clear hb))
    all_goals first
      | (go_ret; exact ret_below HE.out.symm HB.out)
      | (go_wp2; go_ret; exact ret_below HE.out.symm HB.out)
      | (exfalso; rename_i h1 h2; have h3 : m = l.length := (by simpa using h2.2); omega)
end Go.Proofs.YtebgmfjgapmpfaaDoor
