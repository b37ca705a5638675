/- slices.Equal of labels; instr.Same; the reference's Same. -/
import Derived.Test.YtebgmfjgapmpfabGreatDoorQe07
import Derived.RegionTactic
import Derived.Test.YtebgmfjgapmpfabGreatDoorQe12
import Derived.Test.YtebgmfjgapmpfabGreatDoorQe13
import Derived.OwnWalk
import Derived.Test.YtebgmfjgapmpfabGreatDoorQe11
import Derived.Deep.LoopGhost
import Derived.Test.YtebgmfjgapmpfabGreatDoorQe09
namespace Go.Proofs.YtebgmfjgapmpfabGreatDoor
open Go.RowKit
set_option linter.unusedVariables false
set_option maxRecDepth 100000

def LiesL (w : World) (A : Option Addr) (l : List Int) : Prop := Lies w w.heap.size A (cells32 l)
theorem LiesL.below {w w' : World} {A : Option Addr} {l : List Int} (h : LiesL w A l) (hb : Below w.heap.size w w') : LiesL w' A l := (Lies.below h hb (Nat.le_refl _)).more hb.size
theorem LiesL.at {w : World} {A : Option Addr} {l : List Int} (h : LiesL w A l) {i : Nat} {d : Int} (hd : l[i]? = some d) : ∃ b off, A = some ⟨b, off, none⟩ ∧ b < w.heap.size ∧ w.cell? ⟨b, off + i, none⟩ = some (.int .u32 d) := by
  obtain ⟨b, off, e, hb, hc⟩ := h i _ (cells32_get hd)
  exact ⟨b, off, e, hb, hc⟩
/-- The first k of two lists are the same. -/
def Eqs (a b : List Int) (k : Nat) : Prop := ∀ j, j < k → a[j]? = b[j]?
theorem Eqs.all {a b : List Int} {n : Nat} (h : Eqs a b n) (ha : a.length = n) (hb : b.length = n) : a = b := by
  apply List.ext_getElem?
  intro j
  rcases Nat.lt_or_ge j n with g | g
  · exact h j g
  · rw [List.getElem?_eq_none (by omega), List.getElem?_eq_none (by omega)]
def BoolPost (p : Bool) (w : World) (e : Ending) (w' : World) : Prop := e = .returned (.bool p) ∧ Below w.heap.size w w'
/-- Are two instructions the same? -/
def sameZ (i k : I) : Bool := decide (i.op = k.op) && decide (i.a = k.a) && decide (i.b = k.b) && decide (i.l = k.l)
theorem below_twoI (w : World) (i k : I) (A B : Option Addr) (c d : Nat) : Below w.heap.size w ((w.alloc (.cells (insC i A c) 59)).alloc (.cells (insC k B d) 59)) := (below_box w _).alloc (by simp) _
theorem same_no {i k : I} {w W : World} (h : ¬ (i.op = k.op ∧ i.a = k.a ∧ i.b = k.b ∧ i.l = k.l)) (hb : Below w.heap.size w W) : BoolPost (sameZ i k) w (.returned (.bool false)) W := by
  refine ⟨ret_bool ?_, hb⟩
  unfold sameZ
  by_cases h1 : i.op = k.op
  · by_cases h2 : i.a = k.a
    · by_cases h3 : i.b = k.b
      · have h4 : ¬ i.l = k.l := fun e => h ⟨h1, h2, h3, e⟩
        simp [h4]
      · simp [h3]
    · simp [h2]
  · simp [h1]
theorem op_ne {a b : UInt8} (h : a ≠ b) : ((a.toNat : Int) == b.toNat) = false := by
  simp
  intro e
  exact h (UInt8.toNat_inj.1 (by omega))
theorem op_eq (a : UInt8) : ((a.toNat : Int) == a.toNat) = true := by simp
set_option maxHeartbeats 2000000 in
theorem refSame_any {w : World} {A B : Option Addr} {c d : Nat} {i k : I} (ha : LiesL w A i.l) (hb : LiesL w B k.l) (na : i.l.length ≤ 100000) (nb : k.l.length ≤ 100000) :
    Calls Tryz.prog 47 #[insV i A c, insV k B d] w (BoolPost (sameZ i k) w) := by
  have HB2 := Lib.hid (below_twoI w i k A B c d)
  have HA := Lib.hid (ha.below HB2.out)
  have HB := Lib.hid (hb.below HB2.out)
  clear ha hb
  by_cases h1 : i.op = k.op
  · have d1 : ((i.op.toNat : Int) != k.op.toNat) = false := by rw [h1]; simp
    by_cases h2 : i.a = k.a
    · have d2 : (i.a != k.a) = false := by simpa using h2
      by_cases h3 : i.b = k.b
      · have d3 : (i.b != k.b) = false := by simpa using h3
        have HE := Lib.hid (show sameZ i k = decide (i.l = k.l) by unfold sameZ; simp [h1, h2, h3])
        by_cases h4 : i.l.length = k.l.length
        · have d4 : ((i.l.length : Int) != k.l.length) = false := by rw [h4]; simp
          have HL := Lib.hid h4
          clear h1 h2 h3 h4
          go_enter Tryz.func47, Tryz.ntmps47
          go_wp2
          generalize hW : ((w.alloc (.cells (insC i A c) 59)).alloc (.cells (insC k B d) 59)) = W at *
          have x3 : W.cell? ⟨w.heap.size, 3, none⟩ = some (.slice A i.l.length c) := by rw [← hW]; exact ((Whole.made w 59 (insC i A c)).alloc _).cell 3
          have y3 : W.cell? ⟨w.heap.size + 1, 3, none⟩ = some (.slice B k.l.length d) := by
            rw [← hW]
            have := Whole.made (w.alloc (.cells (insC i A c) 59)) 59 (insC k B d)
            rw [size_box] at this
            exact this.cell 3
          clear hW
          go_loopw [5] (fun s wr => ∃ j q : Nat, j ≤ i.l.length ∧ s = .int .i64 j ∧ wr = W.drewN q ∧ Eqs i.l k.l j) (fun s _ => i.l.length - (intOf s).toNat)
          case atStart => exact ⟨0, 0, Nat.zero_le _, rfl, rfl, fun j hj => absurd hj (Nat.not_lt_zero _)⟩
          case round =>
            obtain ⟨j, q, hj, rfl, rfl, heq⟩ := hrel
            by_cases hlt : j < i.l.length
            · obtain ⟨x, hx⟩ : ∃ x, i.l[j]? = some x := ⟨_, List.getElem?_eq_getElem hlt⟩
              obtain ⟨y, hy⟩ : ∃ y, k.l[j]? = some y := ⟨_, List.getElem?_eq_getElem (by rw [← HL.out]; exact hlt)⟩
              obtain ⟨b1, o1, rfl, _, g1⟩ := HA.out.at hx
              obtain ⟨b2, o2, rfl, _, g2⟩ := HB.out.at hy
              have hlt2 : j < k.l.length := by rw [← HL.out]; exact hlt
              have HE2 := Lib.hid heq
              have HX := Lib.hid hx
              have HY := Lib.hid hy
              clear heq hx hy
              by_cases hxy : x = y
              · have HXY := Lib.hid hxy
                have hc : (x != y) = false := by simpa using hxy
                clear hxy
                go_wp2_with fail
                go_region
                go_wp2
                go_roundw
                case measure => simp [intOf]; omega
                case rel =>
                  refine ⟨j + 1, q + 1, by omega, by go_num, rfl, fun u hu => ?_⟩
                  by_cases e : u = j
                  · subst e
                    rw [HX.out, HY.out, HXY.out]
                  · exact HE2.out u (by omega)
              · have HXY := Lib.hid hxy
                have hc : (x != y) = true := by simpa using hxy
                clear hxy
                go_wp2_with fail
                go_region
                go_wp2
                go_ret
                refine ⟨ret_bool ?_, below_drewN HB2.out _⟩
                have : ¬ i.l = k.l := fun e => HXY.out (by have h1 := HX.out; have h2 := HY.out; rw [e, h2] at h1; injection h1 with h1; exact h1.symm)
                rw [HE.out, decide_eq_false this]
            · have hjj : j = i.l.length := by omega
              subst hjj
              have hab : i.l = k.l := heq.all rfl HL.out.symm
              clear heq
              go_wp2
              go_ret
              exact ⟨ret_bool (by rw [HE.out, decide_eq_true hab]), below_drewN HB2.out _⟩
        · have d4 : ((i.l.length : Int) != k.l.length) = true := by simp; omega
          have HNO := Lib.hid (fun W hb => same_no (i := i) (k := k) (w := w) (W := W) (fun h => h4 (by rw [h.2.2.2])) hb)
          clear h1 h2 h3 h4
          go_enter Tryz.func47, Tryz.ntmps47
          go_wp2
          go_ret
          exact HNO.out _ HB2.out
      · have d3 : (i.b != k.b) = true := by simpa using h3
        have HNO := Lib.hid (fun W hb => same_no (i := i) (k := k) (w := w) (W := W) (fun h => h3 h.2.2.1) hb)
        clear h1 h2 h3
        go_enter Tryz.func47, Tryz.ntmps47
        go_wp2
        go_ret
        exact HNO.out _ HB2.out
    · have d2 : (i.a != k.a) = true := by simpa using h2
      have HNO := Lib.hid (fun W hb => same_no (i := i) (k := k) (w := w) (W := W) (fun h => h2 h.2.1) hb)
      clear h1 h2
      go_enter Tryz.func47, Tryz.ntmps47
      go_wp2
      go_ret
      exact HNO.out _ HB2.out
  · have d1 : ((i.op.toNat : Int) != k.op.toNat) = true := by have := op_ne h1; simp at this ⊢; exact this
    have HNO := Lib.hid (fun W hb => same_no (i := i) (k := k) (w := w) (W := W) (fun h => h1 h.1) hb)
    clear h1
    go_enter Tryz.func47, Tryz.ntmps47
    go_wp2
    go_ret
    exact HNO.out _ HB2.out
end Go.Proofs.YtebgmfjgapmpfabGreatDoor

/- segment.Head, elems.Put. -/
namespace Go.Proofs.YtebgmfjgapmpfabGreatDoor
open Go.RowKit
set_option linter.unusedVariables false
set_option maxRecDepth 100000

set_option maxHeartbeats 2000000 in
theorem head_ok (i : I) (A : Option Addr) (c : Nat) (w : World) (h : i.Ok) (hT : Tabs w) (h0 : crightZ i = 0) :
    Calls Tryz.prog 78 #[insV i A c] w fun e w' => ∃ v, e = .returned (.tuple #[v, .int .i64 0]) ∧ Row w' w.heap.size v (0 :: cputL i) ∧ Below w.heap.size w w' := by
  have HB := Lib.hid (BoxI.start w i A c)
  have hcl := cputL_len h h0
  have HP := Lib.hid (fun W (hb : Below w.heap.size w W) => show Calls Tryz.prog 113 #[insV i A c] W fun e w' => ∃ v, e = .returned (.tuple #[v, .int .i64 0]) ∧ Row w' W.heap.size v (cputL i) ∧ Below W.heap.size W w' from
    (cput2_any i A c W h (hT.below hb) h0).mono fun e w' ⟨v, h1, h2, h3⟩ => ⟨v, by rw [h0] at h1; exact h1, by rw [if_pos h0] at h2; exact h2, h3⟩)
  obtain ⟨y, hy⟩ : ∃ y, y = cputL i := ⟨_, rfl⟩
  rw [← hy] at hcl HP ⊢
  have HCC := Lib.hid (fun (W : World) (A2 : Option Addr) (k2 : Nat) (hl : Lies W W.heap.size A2 (cells (nums y))) (hA : A2 = none → k2 = 0) => show Calls Tryz.prog 114 #[.slice (some ⟨W.heap.size + 1, 0, none⟩) 2 2] ((W.alloc (.cells #[.int .u8 0] 5)).alloc (.cells #[.slice (some ⟨W.heap.size, 0, none⟩) 1 1, .slice A2 y.length k2] 32)) (BytesL (0 :: y) ((W.alloc (.cells #[.int .u8 0] 5)).alloc (.cells #[.slice (some ⟨W.heap.size, 0, none⟩) 1 1, .slice A2 y.length k2] 32))) from
    cat2 (op := 0) (g1 := W.heap.size) (W := W.alloc (.cells #[.int .u8 0] 5)) (size_box _ _) (Whole.made W 5 #[.int .u8 0]) (lies_box hl _) hA (by omega))
  clear h hT h0 hy hcl
  go_enter Tryz.func78, Tryz.ntmps78
  go_wp2_with (first
    | (go_at_call 113; go_must ((with_reducible refine (HP.out _ HB.out.bel).mono ?_); intro e w2 hq; obtain ⟨v, rfl, hr, hb⟩ := hq; obtain ⟨A2, k2, rfl, hl2, hA2, _⟩ := hr.liesN; have HL2 := Lib.hid hl2; have HA2 := Lib.hid hA2; have HB2 := Lib.hid (HB.out.on hb); clear hl2 hA2 hr hb))
    | (go_at_call 114; go_must ((with_reducible refine (HCC.out w2 A2 k2 HL2.out HA2.out).mono ?_); intro e w4 hq; obtain ⟨v4, rfl, hr4, hb4⟩ := hq; have HR4 := Lib.hid hr4; have HB4 := Lib.hid ((((below_box w2 (.cells #[.int .u8 0] 5)).alloc (below_box w2 _).size (.cells #[.slice (some ⟨w2.heap.size, 0, none⟩) 1 1, .slice A2 y.length k2] 32))).trans (hb4.mono (by simp; omega))); clear hr4 hb4)))
  go_ret2
  have hz := HB2.out.bel.size
  exact ⟨_, rfl, HR4.out.mono (by simp; omega), HB2.out.bel.trans (HB4.out.mono hz)⟩
/-- Its bytes. -/
noncomputable def eputL (x : El) : List UInt8 := (0 :: cputL x.i) ++ labL x.fs
theorem eputL_len {x : El} (h : x.i.Ok) (h0 : crightZ x.i = 0) (hc : ∀ c ∈ x.fs, 0 ≤ c ∧ c ≤ 4294967295) (hn : x.fs.length ≤ 100) : 3 ≤ (eputL x).length ∧ (eputL x).length ≤ 1043 := by
  have h1 := cputL_len h h0
  have h2 := lebL_len (x.fs.length : Int) (by omega)
  have h3 := labsL_len x.fs hc
  unfold eputL labL
  rw [List.length_append, List.length_append, List.length_cons]
  omega
/-- What Put hands back. -/
def PuttedEl (x : El) (w : World) (e : Ending) (w' : World) : Prop := ∃ v, e = .returned (.tuple #[v, .int .i64 (crightZ x.i)]) ∧ Row w' w.heap.size v (if crightZ x.i = 0 then eputL x else []) ∧ Below w.heap.size w w'
end Go.Proofs.YtebgmfjgapmpfabGreatDoor

/- wire.Sized of a string, datas.Put. -/
namespace Go.Proofs.YtebgmfjgapmpfabGreatDoor
open Go.RowKit
set_option linter.unusedVariables false
set_option maxRecDepth 100000

/-- How many bytes there are, and these. -/
noncomputable def szL (s : List UInt8) : List UInt8 := lebL s.length ++ s
theorem szL_len {s : List UInt8} {n : Nat} (h : s.length ≤ n) (hn : n ≤ 100000) : 1 ≤ (szL s).length ∧ (szL s).length ≤ n + 10 := by
  have := lebL_len (s.length : Int) (by omega)
  unfold szL
  rw [List.length_append]
  omega
theorem sizedS_w (s : List UInt8) (w : World) (hs : s.length ≤ 100000) : Calls Tryz.prog 79 #[.string (S s)] w (BytesL (szL s) w) := by
  have HZ := Lib.hid (fun w => size_w s.length w (by omega))
  have hlen := lebL_len (s.length : Int) (by omega)
  have hsz := S_size s
  unfold szL
  generalize lebL (s.length : Int) = y at *
  go_enter Tryz.func79, Tryz.ntmps79
  go_wp2_with (first
    | (go_at_call 64; go_must ((with_reducible refine (HZ.out _).mono ?_); intro e w1 h; obtain ⟨v, rfl, hr, hb⟩ := h; have HR := Lib.hid hr; have HB := Lib.hid hb; have hz1 := hb.size; clear hr hb))
    | (at_builtin; (refine row_str rfl _ _ rfl w.heap.size _ y rfl HR.out s rfl (by omega) hz1 ?_; intro v2 w2 hr2 hb2; have HR2 := Lib.hid hr2; have HB2 := Lib.hid hb2; clear hr2 hb2)))
  go_ret
  exact ⟨_, rfl, HR2.out, HB.out.trans HB2.out⟩
/-- Its bytes. -/
noncomputable def dputL (x : Da) : List UInt8 := (0 :: cputL x.i) ++ szL x.bs
theorem dputL_len {x : Da} (h : x.i.Ok) (h0 : crightZ x.i = 0) (hn : x.bs.length ≤ 200) : 3 ≤ (dputL x).length ∧ (dputL x).length ≤ 243 := by
  have h1 := cputL_len h h0
  have h2 := szL_len hn (by omega)
  unfold dputL
  rw [List.length_append, List.length_cons]
  omega
/-- What Put hands back. -/
def PuttedDa (x : Da) (w : World) (e : Ending) (w' : World) : Prop := ∃ v, e = .returned (.tuple #[v, .int .i64 (crightZ x.i)]) ∧ Row w' w.heap.size v (if crightZ x.i = 0 then dputL x else []) ∧ Below w.heap.size w w'
set_option maxHeartbeats 8000000 in
theorem put_da (x : Da) (A : Option Addr) (c : Nat) (w : World) (oi : x.i.Ok) (hT : Tabs w) (hl : (x.i.l.length : Int) ≤ 9223372036854775807) (hn : x.bs.length ≤ 200) :
    Calls Tryz.prog 40 #[daV x A c] w (PuttedDa x w) := by
  have H0 := Lib.hid (bxDa_start w x A c)
  have HR := Lib.hid (daright_any x A c _ oi (hT.below (below_box w (.cells (daC x A c) 61))) hl (by omega))
  unfold PuttedDa
  by_cases h0 : crightZ x.i = 0
  · rw [if_pos h0]
    have hel := dputL_len oi h0 hn
    have hsp : dputL x = (0 :: cputL x.i) ++ szL x.bs := rfl
    have HH := Lib.hid (fun W (hb : Below w.heap.size w W) => head_ok x.i A c W oi (hT.below hb) h0)
    have HI := Lib.hid (fun W => sizedS_w x.bs W (by omega))
    rw [h0] at HR ⊢
    rw [hsp] at hel ⊢
    rw [List.length_append] at hel
    obtain ⟨g, hg⟩ : ∃ g, g = 0 :: cputL x.i := ⟨_, rfl⟩
    obtain ⟨y, hy⟩ : ∃ y, y = szL x.bs := ⟨_, rfl⟩
    rw [← hg] at HH hel ⊢
    rw [← hy] at HI hel ⊢
    have hgy : g.length + y.length ≤ 1000000 := by omega
    clear hsp hT h0 oi hl hg hy hn
    go_enter Tryz.func40, Tryz.ntmps40
    go_wp2_with (first
      | (go_at_call 77; go_must ((with_reducible refine HR.out.mono ?_); rintro e w1 ⟨rfl, hb⟩; have H1 := Lib.hid (bxDa_on H0.out hb); obtain ⟨c0, c1, c2, c3, c4⟩ := H1.out.2; clear hb))
      | (go_at_call 78; go_must ((with_reducible refine (HH.out _ (bxDa_bel H1.out)).mono ?_); intro e w2 hq; obtain ⟨v2, rfl, hr, hb⟩ := hq; clear c0 c1 c2 c3 c4; have HR2 := Lib.hid hr; have H2 := Lib.hid (bxDa_on H1.out hb); have hz2 := hb.size; obtain ⟨c0, c1, c2, c3, c4⟩ := H2.out.2; clear hb hr))
      | (go_at_call 79; go_must ((with_reducible refine (HI.out _).mono ?_); intro e w3 hq; obtain ⟨v3, rfl, hr, hb⟩ := hq; obtain ⟨A3, cp3, rfl, hpc⟩ := hr.pc; have H3 := Lib.hid (bxDa_on H2.out hb); have HP3 := Lib.hid hpc; have HR3 := Lib.hid (HR2.out.later hb); have hz3 := hb.size; clear hb hr hpc c0 c1 c2 c3 c4))
      | (at_builtin; (refine row_any rfl _ _ rfl w1.heap.size _ g rfl HR3.out A3 y.length cp3 _ y rfl rfl HP3.out.lies HP3.out.nil hgy (Nat.le_trans hz2 hz3) ?_; intro v4 w4 hr4 hb4; have HR4 := Lib.hid hr4; have HB4 := Lib.hid hb4; clear hr4 hb4)))
    go_ret2
    exact ⟨_, rfl, HR4.out.mono (bxDa_bel H1.out).size, (bxDa_bel H3.out).trans (HB4.out.mono (bxDa_bel H1.out).size)⟩
  · rw [if_neg h0]
    have d0 : (crightZ x.i != 0) = true := zb_of (by simpa using h0)
    obtain ⟨z, hz⟩ : ∃ z, z = crightZ x.i := ⟨_, rfl⟩
    rw [← hz] at HR d0 ⊢
    clear h0 hz hT oi hl hn
    go_enter Tryz.func40, Tryz.ntmps40
    go_wp2_with (go_at_call 77; go_must ((with_reducible refine HR.out.mono ?_); rintro e w1 ⟨rfl, hb⟩; have H1 := Lib.hid (bxDa_on H0.out hb); clear hb))
    go_ret2
    exact ⟨_, rfl, Row.nil _ _, bxDa_bel H1.out⟩
end Go.Proofs.YtebgmfjgapmpfabGreatDoor

/- Globals that lie somewhere; rows of segments of the call's own. -/
namespace Go.Proofs.YtebgmfjgapmpfabGreatDoor
open Go.RowKit
set_option linter.unusedVariables false
set_option maxRecDepth 100000

/-- A global and where its labels lie. -/
abbrev SlotDa := Da × Option Addr × Nat
abbrev hC (x : SlotDa) : Array Value := daC x.1 x.2.1 x.2.2
abbrev hV (x : SlotDa) : Value := .agg (hC x)
def hL9 (x : SlotDa) : List Value := (hC x).toList
theorem infoDa : (Tryz.prog.info? 61).map (fun i => (i.zero, i.size, i.bytes)) = some (some (.agg daZ), 5, 64) := by kernel_rfl
/-- A row of segments of the call's own. -/
def RowDa (W : World) (base : Nat) (v : Value) (rows : List SlotDa) : Prop := W.ownsRow base 61 5 v rows.length (rows.flatMap hL9)
theorem RowDa.nil (W : World) (base : Nat) : RowDa W base (.slice none 0 0) [] := World.ownsRow_nil W base _ 5
theorem RowDa.slice {W : World} {base : Nat} {v : Value} {rows : List SlotDa} (h : RowDa W base v rows) : ∃ A c, v = .slice A rows.length c := by
  rcases h.2 with ⟨rfl, h0⟩ | ⟨g, cap, cur, rfl, _⟩
  · exact ⟨none, 0, by rw [h0]⟩
  · exact ⟨_, cap, rfl⟩
theorem RowDa.past {W W' : World} {base b : Nat} {v : Value} {rows : List SlotDa} (h : RowDa W base v rows) (hg : W.grownBy W' (some b)) (hb : b < base) : RowDa W' base v rows :=
  World.ownsRow.kept h hg (by
    cases hv : v.ownBlock with
    | none => exact .inl rfl
    | some k => exact .inr (by have := (World.ownsRow.lt h k hv).1; simp only [ne_eq, Option.some.injEq]; omega))
theorem RowDa.later {W W' : World} {base : Nat} {v : Value} {rows : List SlotDa} (h : RowDa W base v rows) (hb : Below W.heap.size W W') : RowDa W' base v rows :=
  World.ownsRow.kept h (gb_of_below none hb) (by cases v.ownBlock with
    | none => exact .inl rfl
    | some k => exact .inr (by simp))
theorem RowDa.alloc {W : World} {base : Nat} {v : Value} {rows : List SlotDa} (h : RowDa W base v rows) (o : Obj) : RowDa (W.alloc o) base v rows := World.ownsRow.alloc h o
theorem RowDa.mono {W : World} {base base' : Nat} {v : Value} {rows : List SlotDa} (h : RowDa W base v rows) (hb : base' ≤ base) : RowDa W base' v rows := by
  obtain ⟨h1, h2⟩ := h
  refine ⟨h1, ?_⟩
  rcases h2 with h2 | ⟨g, cap, cur, e, hg, r⟩
  · exact .inl h2
  · exact .inr ⟨g, cap, cur, e, Nat.le_trans hb hg, r⟩
/-- append of a new block of one export. -/
theorem rowDa_new {w : World} {ops : Array Oper} {rest : List Oper} {o : Oper} {a : Act} {Q : Exit → Act → World → Prop} (hgd : o.guard = none) (s x : Operand)
    (ho : o.op = .call { callee := .builtin .append, args := #[s, x], argTypes := #[49, 49] })
    (B : Nat) (v : Value) (l : List SlotDa) (hs : a.eval s = v) (hr : RowDa w B v l) (g : Nat) (r : SlotDa) (hx : a.eval x = .slice (some ⟨g, 0, none⟩) 1 1)
    (hg : Whole w g 61 (hC r)) (hb : l.length ≤ 10000) (hB : B ≤ w.heap.size)
    (h : ∀ v' w', RowDa w' B v' (l ++ [r]) → w.grownBy w' v.ownBlock → wpList Tryz.prog ops Q rest (a.put o.dst v') w') : wpList Tryz.prog ops Q (o :: rest) a w := by
  obtain ⟨i0, hi0, hz0, hz1, hz2⟩ := info_parts infoDa
  refine wpList_append_own _ hgd s x _ ho B 61 i0 _ 5 64 Tryz.underlying49 hi0 hz0 hz1 hz2 rfl (by omega) v _ _ hs hr ⟨g, 0, none⟩ 1 1 (hL9 r) hx rfl ?_ ?_ (by unfold maxLen; omega) (by omega) hB (fun v' w' h2 h3 _ => h v' w' ?_ h3)
  · intro j u hu
    rw [Go.WideShapes.add_plain, Nat.zero_add, hg.cell, ← Array.getElem?_toList]
    exact hu
  · intro u hu
    unfold hL9 at hu
    simp only [List.mem_cons, List.not_mem_nil, or_false] at hu
    rcases hu with rfl | rfl | rfl | rfl | rfl <;> rfl
  · unfold RowDa
    rw [List.length_append, List.flatMap_append]
    simpa using h2
/-- Nothing old has turned, and nothing of the row's own is lost. -/
theorem RowDa.below {w W W' : World} {base : Nat} {v : Value} {rows : List SlotDa} (h : RowDa W base v rows) (hB : base ≤ W.heap.size) (hg : W.grownBy W' v.ownBlock) : Below base W W' :=
  Below.grown (Below.refl _ _) hg hB (fun k hk => (World.ownsRow.lt h k hk).1)

/-- The slice at A reads as these datas. -/
def Das (w : World) (A : Option Addr) (l : List SlotDa) : Prop :=
  ∀ j x, l[j]? = some x → ∃ b off, A = some ⟨b, off, none⟩ ∧ b < w.heap.size ∧ ∀ u, u < 5 → w.cell? ⟨b, off + j * 5 + u, none⟩ = (hL9 x)[u]?
theorem Das.below {w w' : World} {A : Option Addr} {l : List SlotDa} (h : Das w A l) (hb : Below w.heap.size w w') : Das w' A l := fun j x hx => by
  obtain ⟨b, off, e, h1, h2⟩ := h j x hx
  exact ⟨b, off, e, Nat.lt_of_lt_of_le h1 hb.size, fun u hu => (hb.cell (p := ⟨b, _, none⟩) h1).trans (h2 u hu)⟩
/-- The five cells of one of them, as a walk writes them. -/
abbrev FiveDAt (w : World) (b : Nat) (o : Nat) (x : SlotDa) : Prop := w.cell? ⟨b, o, none⟩ = some (.int .u8 x.1.i.op.toNat) ∧ w.cell? ⟨b, o + 1, none⟩ = some (.int .u64 x.1.i.a) ∧ w.cell? ⟨b, o + 2, none⟩ = some (.int .u64 x.1.i.b) ∧ w.cell? ⟨b, o + 3, none⟩ = some (.slice x.2.1 x.1.i.l.length x.2.2) ∧ w.cell? ⟨b, o + 4, none⟩ = some (.string (S x.1.bs))
theorem Das.five {w : World} {A : Option Addr} {l : List SlotDa} (h : Das w A l) {k : Nat} {x : SlotDa} (hx : l[k]? = some x) : ∃ b off, A = some ⟨b, off, none⟩ ∧ b < w.heap.size ∧ FiveDAt w b (off + k * 5) x := by
  obtain ⟨b, off, e, h1, h2⟩ := h k x hx
  exact ⟨b, off, e, h1, h2 0 (by omega), h2 1 (by omega), h2 2 (by omega), h2 3 (by omega), h2 4 (by omega)⟩
theorem flatDa_get : ∀ (l : List SlotDa) (j : Nat) (x : SlotDa) (u : Nat), l[j]? = some x → u < 5 → (l.flatMap hL9)[j * 5 + u]? = (hL9 x)[u]?
  | [], j, x, u, h, _ => by cases h
  | y :: l, 0, x, u, h, hu => by
    injection h with h
    subst h
    rw [List.flatMap_cons, Nat.zero_mul, Nat.zero_add, List.getElem?_append_left (by show u < 5; exact hu)]
  | y :: l, j + 1, x, u, h, hu => by
    rw [List.flatMap_cons, List.getElem?_append_right (by show 5 ≤ _; omega)]
    have e : (j + 1) * 5 + u - (hL9 y).length = j * 5 + u := by show (j + 1) * 5 + u - 5 = _; omega
    rw [e]
    exact flatDa_get l j x u h hu
/-- What a row of segments reads as. -/
theorem RowDa.das {W : World} {base : Nat} {A : Option Addr} {n c : Nat} {rows : List SlotDa} (h : RowDa W base (.slice A n c) rows) : Das W A rows := fun j x hx => by
  have hj := (List.getElem?_eq_some_iff.1 hx).1
  rcases h.2 with ⟨_, h0⟩ | ⟨g, cap, cur, e, _, hg, _, _, _, ht⟩
  · omega
  · injection e with e1 e2 e3
    exact ⟨g, 0, e1, (Array.getElem?_eq_some_iff.1 hg).1, fun u hu => by
      rw [cell_of_row W g (0 + j * 5 + u) cur _ _ hg, ← flatDa_get rows j x u hx hu, ← ht, List.getElem?_take, if_pos (by omega)]
      simp⟩
end Go.Proofs.YtebgmfjgapmpfabGreatDoor

/- datas.PutAll. -/
namespace Go.Proofs.YtebgmfjgapmpfabGreatDoor
open Go.RowKit
set_option linter.unusedVariables false
set_option maxRecDepth 100000

/-- May it be? Its bytes. -/
def rDa (x : SlotDa) : Int := crightZ x.1.i
noncomputable def hputL (x : SlotDa) : List UInt8 := dputL x.1
def PuttedH (x : SlotDa) (w : World) (e : Ending) (w' : World) : Prop := ∃ v, e = .returned (.tuple #[v, .int .i64 (rDa x)]) ∧ Row w' w.heap.size v (if rDa x = 0 then hputL x else []) ∧ Below w.heap.size w w'
/-- The numbers are what their kinds hold; the bytes are no more than two hundred. -/
def OkDs (x : SlotDa) : Prop := x.1.i.Ok ∧ (x.1.i.l.length : Int) ≤ 9223372036854775807 ∧ x.1.bs.length ≤ 200
def OkDa (l : List SlotDa) : Prop := ∀ x ∈ l, OkDs x
theorem put_h (x : SlotDa) (w : World) (hT : Tabs w) (h : OkDs x) : Calls Tryz.prog 40 #[hV x] w (PuttedH x w) := put_da x.1 x.2.1 x.2.2 w h.1 hT h.2.1 h.2.2
theorem hputL_len {x : SlotDa} (h : OkDs x) (h0 : rDa x = 0) : 3 ≤ (hputL x).length ∧ (hputL x).length ≤ 243 := dputL_len h.1 h0 h.2.2
/-- The first error. -/
def errDa : List SlotDa → Int
  | [] => 0
  | x :: r => if rDa x ≠ 0 then rDa x else errDa r
theorem errDa_app : ∀ a b : List SlotDa, errDa (a ++ b) = if errDa a ≠ 0 then errDa a else errDa b
  | [], b => by simp [errDa]
  | x :: a, b => by
    simp only [List.cons_append, errDa]
    by_cases h : rDa x = 0
    · simp only [h, ne_eq, not_true_eq_false, if_false, errDa_app a b]
    · simp [h]
theorem errDa_snoc {l : List SlotDa} {k : Nat} {x : SlotDa} (h : l[k]? = some x) : errDa (l.take (k + 1)) = if errDa (l.take k) ≠ 0 then errDa (l.take k) else rDa x := by
  rw [List.take_add_one, h]
  show errDa (l.take k ++ [x]) = _
  rw [errDa_app]
  by_cases e : rDa x = 0 <;> simp [errDa, e]
theorem errDa_bad {l : List SlotDa} {k : Nat} (h : errDa (l.take k) ≠ 0) : errDa l = errDa (l.take k) := by
  conv => lhs; rw [← List.take_append_drop k l]
  rw [errDa_app, if_pos h]
theorem errDa_mem : ∀ {l : List SlotDa}, errDa l = 0 → ∀ x ∈ l, rDa x = 0
  | [], _, x, hx => by cases hx
  | y :: l, h, x, hx => by
    simp only [errDa] at h
    by_cases e : rDa y = 0
    · simp only [e, ne_eq, not_true_eq_false, if_false] at h
      rcases List.mem_cons.1 hx with rfl | hx
      · exact e
      · exact errDa_mem h x hx
    · simp [e] at h
/-- Many segments' bytes. -/
noncomputable def dputsL (l : List SlotDa) : List UInt8 := l.flatMap hputL
theorem dputsL_snoc {l : List SlotDa} {k : Nat} {x : SlotDa} (h : l[k]? = some x) : dputsL (l.take (k + 1)) = dputsL (l.take k) ++ hputL x := by
  unfold dputsL
  rw [List.take_add_one, h, List.flatMap_append]
  simp
theorem dputsL_len : ∀ {l : List SlotDa}, OkDa l → errDa l = 0 → (dputsL l).length ≤ l.length * 243
  | [], _, _ => by simp [dputsL]
  | x :: r, h, h0 => by
    have h4 := errDa_mem h0 x (by simp)
    have h5 : errDa r = 0 := by simpa [errDa, h4] using h0
    have h1 := dputsL_len (l := r) (fun y hy => h y (List.mem_cons_of_mem _ hy)) h5
    have h2 := h x (by simp)
    have h3 := (hputL_len h2 h4).2
    unfold dputsL at h1 ⊢
    rw [List.flatMap_cons, List.length_append, List.length_cons]
    omega
noncomputable def allDa (l : List SlotDa) : List UInt8 := lebL l.length ++ dputsL l
/-- What PutAll hands back. -/
def PuttedAllDa (l : List SlotDa) (w : World) (e : Ending) (w' : World) : Prop := ∃ v, e = .returned (.tuple #[v, .int .i64 (errDa l)]) ∧ Row w' w.heap.size v (if errDa l = 0 then allDa l else []) ∧ Below w.heap.size w w'
theorem cfDaP (a : Array Value) (w : World) : (callFunc 40 a).run Tryz.prog w = .ok (.enter 40 a) w := by kernel_rfl
set_option maxHeartbeats 4000000 in
theorem wputall_da {w : World} {A : Option Addr} {c : Nat} {l : List SlotDa} (hl : Das w A l) (hT : Tabs w) (hs : OkDa l) (h20 : l.length ≤ 1000) :
    Calls Tryz.prog 50 #[.slice A l.length c, .func (.func 40) #[] #[]] w (PuttedAllDa l w) := by
  have HL := Lib.hid hl
  have HTb := Lib.hid hT
  have HSh := Lib.hid hs
  have hlb := lebL_len (l.length : Int) (by omega)
  have HZ := Lib.hid (fun W => size_w l.length W (by omega))
  obtain ⟨n, hn⟩ : ∃ n, n = l.length := ⟨_, rfl⟩
  obtain ⟨hd, hhd⟩ : ∃ hd, hd = lebL (l.length : Int) := ⟨_, rfl⟩
  rw [← hhd] at HZ hlb
  have HN := Lib.hid hn
  have HE := Lib.hid (show l.take n = l by rw [hn, List.take_length])
  have HAL := Lib.hid (show allDa l = hd ++ dputsL l by rw [hhd]; rfl)
  have HPL := Lib.hid (fun k (h : errDa (l.take k) = 0) => show (dputsL (l.take k)).length ≤ 1000 * 243 from by
    have h1 := dputsL_len (l := l.take k) (fun y hy => hs y (List.mem_of_mem_take hy)) h
    have h2 : (l.take k).length ≤ l.length := by rw [List.length_take]; omega
    omega)
  rw [← hn] at h20 HZ ⊢
  have d10 : decide ((10000 : Int) < (n : Int)) = false := decide_eq_false (by omega)
  have hcf := cfDaP
  clear hl hT hs hn hhd
  go_enter Tryz.func50, Tryz.ntmps50
  go_wp2_with (go_at_call 64; go_must ((with_reducible refine (HZ.out _).mono ?_); intro e w1 h; obtain ⟨v, rfl, hr, hb⟩ := h; have HR := Lib.hid hr; have HB := Lib.hid hb; clear hr hb))
  go_loopw [6, 19] (fun v i wr => ∃ k : Nat, k ≤ n ∧ i = .int .i64 k ∧ errDa (l.take k) = 0 ∧ Row wr w.heap.size v (hd ++ dputsL (l.take k)) ∧ Below w.heap.size w wr) (fun _ i _ => n - (intOf i).toNat)
  case atStart => exact ⟨0, Nat.zero_le _, rfl, rfl, by simpa [dputsL] using HR.out, HB.out⟩
  case round =>
    obtain ⟨k, hk, rfl, he, hr, hb⟩ := hrel
    have hz1 := hb.size
    by_cases hlt : k < n
    · obtain ⟨x, hx⟩ : ∃ x, l[k]? = some x := ⟨_, List.getElem?_eq_getElem (by rw [← HN.out]; exact hlt)⟩
      obtain ⟨b, off, rfl, hbl, m0, m1, m2, m3, m4⟩ := (HL.out.below hb).five hx
      have hxs := HSh.out x (List.mem_of_getElem? hx)
      have hTk := errDa_snoc hx
      have hPk := dputsL_snoc hx
      have HB2 := Lib.hid (hb.alloc hz1 (.cells (hC x) 61))
      have HR2 := Lib.hid (hr.alloc (.cells (hC x) 61))
      have HP := Lib.hid (put_h x (wr.alloc (.cells (hC x) 61)) (HTb.out.below HB2.out) hxs)
      have hzb : wr.heap.size ≤ (wr.alloc (.cells (hC x) 61)).heap.size := (below_box wr _).size
      rw [he] at hTk
      simp only [ne_eq, not_true_eq_false, if_false] at hTk
      unfold PuttedH at HP
      have HTk := Lib.hid hTk
      have HPk := Lib.hid hPk
      by_cases z0 : rDa x = 0
      · rw [if_pos z0, z0] at HP
        have hil := hputL_len hxs z0
        have hsz : (hd ++ dputsL (l.take k)).length + (hputL x).length ≤ 1000000 := by
          have hpl := HPL.out k he
          rw [List.length_append]
          omega
        have HIL := Lib.hid hil
        have HSZ := Lib.hid hsz
        obtain ⟨y, hy⟩ : ∃ y, y = hputL x := ⟨_, rfl⟩
        rw [← hy] at HP HPk HIL HSZ
        have HZ0 := Lib.hid z0
        clear hTk hPk he hr hb z0 hil hsz hy hxs
        go_wp2_with (first
          | (go_at_call 40; go_must ((with_reducible refine HP.out.mono ?_); intro e w3 h; obtain ⟨v3, rfl, hr3, hb3⟩ := h; obtain ⟨A3, c3, rfl, hp3⟩ := hr3.pc; have HP3 := Lib.hid hp3; have HR3 := Lib.hid (HR2.out.later hb3); have HB3 := Lib.hid (HB2.out.trans (hb3.mono HB2.out.size)); have hz3 := HB3.out.size; clear hr3 hb3 hp3))
          | (at_builtin; (refine row_any rfl _ _ rfl w.heap.size _ (hd ++ dputsL (l.take k)) rfl HR3.out A3 y.length c3 w3.heap.size y rfl rfl HP3.out.lies HP3.out.nil HSZ.out hz3 ?_; intro v4 w4 hr4 hb4; have HR4 := Lib.hid hr4; have HB4 := Lib.hid hb4; clear hr4 hb4)))
        go_roundw
        case rel => exact ⟨k + 1, by omega, by go_num, by rw [HTk.out]; exact HZ0.out, by rw [HPk.out, ← List.append_assoc]; exact HR4.out, HB3.out.trans HB4.out⟩
        case measure => simp [intOf]; omega
      · rw [if_neg z0] at HP
        have hbad := errDa_bad (l := l) (k := k + 1) (by rw [hTk]; exact z0)
        rw [hTk] at hbad
        have HBAD := Lib.hid hbad
        have dz : (rDa x != 0) = true := zb_of (by simpa using z0)
        have HZ0 := Lib.hid (show ¬ errDa l = 0 by rw [hbad]; exact z0)
        clear hTk hPk he hr hb z0 hbad hxs
        generalize rDa x = z at *
        go_wp2_with (go_at_call 40; go_must ((with_reducible refine HP.out.mono ?_); intro e w3 h; obtain ⟨v3, rfl, hr3, hb3⟩ := h; have HB3 := Lib.hid (HB2.out.trans (hb3.mono HB2.out.size)); clear hr3 hb3))
        go_ret2
        exact ⟨_, ret_pair HBAD.out.symm, by rw [if_neg HZ0.out]; exact Row.nil _ _, HB3.out⟩
    · obtain rfl : k = n := by omega
      rw [HE.out] at he
      rw [HE.out] at hr
      have HE2 := Lib.hid he
      have HR2 := Lib.hid hr
      have HB2 := Lib.hid hb
      clear hr hb he
      go_wp2
      go_ret2
      exact ⟨_, ret_pair HE2.out.symm, by rw [if_pos HE2.out, HAL.out]; exact HR2.out, HB2.out⟩
theorem putall_da {w : World} {A : Option Addr} {c : Nat} {l : List SlotDa} (hl : Das w A l) (hT : Tabs w) (hs : OkDa l) (h20 : l.length ≤ 1000) :
    Calls Tryz.prog 26 #[.slice A l.length c] w (PuttedAllDa l w) := by
  have HP := Lib.hid (wputall_da (c := c) hl hT hs h20)
  unfold PuttedAllDa at HP
  clear hl hT hs h20
  go_enter Tryz.func26, Tryz.ntmps26
  go_wp2_with (go_at_call 50; go_must ((with_reducible refine HP.out.mono ?_); intro e w1 h; obtain ⟨v, rfl, hr, hb⟩ := h; have HR := Lib.hid hr; have HB := Lib.hid hb; clear hr hb))
  go_ret2
  exact ⟨_, rfl, HR.out, HB.out⟩
end Go.Proofs.YtebgmfjgapmpfabGreatDoor

/- datas.GetAll of any bytes; the laws' closures. -/
namespace Go.Proofs.YtebgmfjgapmpfabGreatDoor
open Go.RowKit
set_option linter.unusedVariables false
set_option maxRecDepth 100000

/-- Globals, one behind the other, behind those that are read. -/
noncomputable def dasK (l : List UInt8) : Nat → Nat → List Da → Res (List Da)
  | 0, q, acc => .ok acc q
  | n + 1, q, acc => (daR l q).bind fun x q2 => dasK l n q2 (acc ++ [x])
theorem dasK_more {l : List UInt8} {n j q : Nat} {acc : List Da} (h : j < n) : dasK l (n - j) q acc = (daR l q).bind fun x q2 => dasK l (n - (j + 1)) q2 (acc ++ [x]) := by
  rw [show n - j = n - (j + 1) + 1 by omega]; rfl
/-- A list, and its end. -/
noncomputable def dasR (l : List UInt8) (k : Nat) : Res (List Da) := (countR l k).bind fun n k1 => (dasK l n.toNat k1 []).bind fun xs k2 => if k2 < l.length then .err 14 k2 else .ok xs k2
/-- Without its end. -/
noncomputable def itDaR (l : List UInt8) (k : Nat) : Res (List Da) := (countR l k).bind fun n k1 => dasK l n.toNat k1 []
theorem itDaR_end (l : List UInt8) (k : Nat) : dasR l k = (itDaR l k).bind fun xs k2 => if k2 < l.length then .err 14 k2 else .ok xs k2 := by
  unfold dasR itDaR
  cases countR l k with
  | err c a => rw [Res.bind_err, Res.bind_err, Res.bind_err]
  | ok n k1 => rw [Res.bind_ok, Res.bind_ok]
/-- What holds at the head of GetAll's loop. -/
structure AInDa (w : World) (p : Nat) (l : List UInt8) (k : Nat) (xs : List SlotDa) (v : Value) (W : World) : Prop where
  sc : Sc W p l k
  g : w.grownBy W (some p)
  r : RowDa W w.heap.size v xs
  tb : TbP p W
section
variable {w W W' : World} {p : Nat} {l : List UInt8} {k k' : Nat} {xs : List SlotDa} {x : SlotDa} {v v' : Value}
theorem AInDa.step (h : AInDa w p l k xs v W) (hp : p < w.heap.size) (hg : W.grownBy W' (some p)) (hs : Sc W' p l k') : AInDa w p l k' xs v W' :=
  ⟨hs, gb_trans h.g hg, h.r.past hg hp, h.tb.self hg⟩
theorem AInDa.alloc (h : AInDa w p l k xs v W) (hp : p < w.heap.size) (o : Obj) : AInDa w p l k xs v (W.alloc o) := h.step hp (gb_alloc (gb_refl _ _) o) (h.sc.alloc o)
theorem AInDa.more (h : AInDa w p l k xs v W) (hp : p < w.heap.size) (hg : W.grownBy W' v.ownBlock) (hr : RowDa W' w.heap.size v' (xs ++ [x])) : AInDa w p l k (xs ++ [x]) v' W' := by
  have hlt := World.ownsRow.lt h.r
  exact ⟨h.sc.grown hg (fun e => by have := hlt p e.symm; omega) (fun g e => by have := hlt g e; omega), gb_before h.g hg (fun g e => .inr (hlt g e).1), hr, h.tb.grown hg (fun g e => by have := hlt g e; omega)⟩
end
/-- The list that was read. -/
def GotAllDa (p : Nat) (l : List UInt8) (r : Res (List Da)) (w : World) (e : Ending) (w' : World) : Prop := match r with
  | .ok xs k => ∃ v rows, e = .returned v ∧ RowDa w' w.heap.size v rows ∧ rows.map (·.1) = xs ∧ Sc w' p l k ∧ w.grownBy w' (some p)
  | .err c a => e = .panicked (stopP c a) ∧ w.grownBy w' (some p)
theorem cfDaG (a : Array Value) (w : World) : (callFunc 43 a).run Tryz.prog w = .ok (.enter 43 a) w := by kernel_rfl
set_option maxHeartbeats 4000000 in
theorem wgetitems_da {w : World} {p : Nat} {l : List UInt8} {k0 : Nat} (h : Sc w p l k0) (hT : TbP p w) (hl : l.length ≤ 1000000) :
    Calls Tryz.prog 80 #[.pointer (some ⟨p, 0, none⟩), .func (.func 43) #[] #[]] w (GotAllDa p l (itDaR l k0) w) := by
  have hp := h.lt
  have hc := count_scan h
  have HT := Lib.hid hT
  have hcf := cfDaG
  unfold itDaR
  cases hr : countR l k0 with
  | err c a =>
    rw [hr] at hc
    rw [Res.bind_err]
    have HC := Lib.hid hc
    clear h hT hc hr
    go_enter Tryz.func80, Tryz.ntmps80
    go_wp2_with (go_at_call 102; go_must ((with_reducible refine HC.out.mono ?_); rintro e w1 ⟨rfl, hg⟩; have HG := Lib.hid hg; clear hg))
    exact ⟨rfl, rfl, HG.out⟩
  | ok c k1 =>
    rw [hr] at hc
    rw [Res.bind_ok]
    obtain ⟨v0, v1⟩ := countR_ok hr
    obtain ⟨n, rfl⟩ : ∃ n : Nat, c = n := ⟨c.toNat, by omega⟩
    rw [Int.toNat_natCast]
    have HC := Lib.hid hc
    obtain ⟨R, hR⟩ : ∃ R, R = dasK l n k1 [] := ⟨_, rfl⟩
    rw [← hR]
    have HR := Lib.hid hR
    clear h hT hc hr hR
    go_enter Tryz.func80, Tryz.ntmps80
    go_wp2_with (go_at_call 102; go_must ((with_reducible refine HC.out.mono ?_); rintro e w1 ⟨rfl, hs, hg⟩; have HS := Lib.hid hs; have HG := Lib.hid hg; clear hs hg))
    go_loopw [5, 8] (fun v i wr => ∃ (j k : Nat) (rows : List SlotDa), j ≤ n ∧ i = .int .i64 j ∧ rows.length = j ∧ AInDa w p l k rows v wr ∧ dasK l (n - j) k (rows.map (·.1)) = R) (fun _ i _ => n - (intOf i).toNat)
    case atStart => exact ⟨0, k1, [], Nat.zero_le _, rfl, rfl, ⟨HS.out, HG.out, RowDa.nil _ _, HT.out.self HG.out⟩, HR.out.symm⟩
    case round =>
      obtain ⟨j, k, rows, hj, rfl, hlen, ha, hgs⟩ := hrel
      by_cases hlt : j < n
      · rw [dasK_more hlt] at hgs
        have hG := get_da ha.sc ha.tb hl
        cases hg1 : daR l k with
        | err c a =>
          rw [hg1] at hG hgs
          rw [Res.bind_err] at hgs
          have HGe := Lib.hid hG
          have HA := Lib.hid ha
          have HRE := Lib.hid (show R = .err c a from hgs.symm)
          clear ha hG hg1 hlen hgs
          go_wp2_with (go_at_call 43; go_must ((with_reducible refine HGe.out.mono ?_); rintro e w2 ⟨rfl, hg⟩; have HG2 := Lib.hid hg; clear hg))
          exact ⟨rfl, by rw [HRE.out]; exact ⟨rfl, gb_trans HA.out.g HG2.out⟩⟩
        | ok x k2 =>
          rw [hg1] at hG hgs
          rw [Res.bind_ok] at hgs
          have HGe := Lib.hid (show Calls Tryz.prog 43 #[.pointer (some ⟨p, 0, none⟩)] wr (fun e w' => ∃ A c, e = .returned (daV x A c) ∧ Sc w' p l k2 ∧ wr.grownBy w' (some p)) from hG)
          have HA := Lib.hid ha
          have HGS := Lib.hid hgs
          have hle : rows.length ≤ 10000 := by omega
          have HLEN := Lib.hid hlen
          clear ha hG hg1 hgs hlen
          go_wp2_with (first
            | (go_at_call 43; go_must ((with_reducible refine HGe.out.mono ?_); intro e w2 hq; obtain ⟨A, c, rfl, hs, hg⟩ := hq; have HA2 := Lib.hid (HA.out.step hp hg hs); have hz2 := HA2.out.g.size; have HX := Lib.hid (Whole.made w2 61 (hC (x, A, c))); clear hs hg))
            | (at_builtin; (refine rowDa_new rfl _ _ rfl w.heap.size _ rows rfl (HA2.out.alloc hp _).r w2.heap.size (x, A, c) rfl HX.out hle (Nat.le_trans hz2 (below_box w2 _).size) ?_; intro v3 w3 hr3 hg3; have HA3 := Lib.hid ((HA2.out.alloc hp _).more hp hg3 hr3); clear hr3 hg3)))
          go_roundw
          case rel => exact ⟨j + 1, k2, rows ++ [(x, A, c)], by omega, by go_num, by rw [List.length_append, HLEN.out, List.length_singleton], HA3.out, by rw [List.map_append]; exact HGS.out⟩
          case measure => simp [intOf]; omega
      · obtain rfl : j = n := by omega
        rw [Nat.sub_self] at hgs
        have HA := Lib.hid ha
        have HRE := Lib.hid (show R = .ok (rows.map (·.1)) k from hgs.symm)
        clear ha hgs
        go_wp2
        go_ret
        rw [HRE.out]
        exact ⟨_, rows, rfl, HA.out.r, rfl, HA.out.sc, HA.out.g⟩
theorem wgetall_da {w : World} {p : Nat} {l : List UInt8} {k0 : Nat} (h : Sc w p l k0) (hT : TbP p w) (hl : l.length ≤ 1000000) :
    Calls Tryz.prog 42 #[.pointer (some ⟨p, 0, none⟩), .func (.func 43) #[] #[]] w (GotAllDa p l (dasR l k0) w) := by
  have hp := h.lt
  have HI := wgetitems_da h hT hl
  rw [itDaR_end]
  clear h hT hl
  cases hr : itDaR l k0 with
  | err c a =>
    rw [hr] at HI
    rw [Res.bind_err]
    have HI := Lib.hid HI
    clear hr
    go_enter Tryz.func42, Tryz.ntmps42
    go_wp2_with (go_at_call 80; go_must ((with_reducible refine HI.out.mono ?_); rintro e w1 ⟨rfl, hg⟩; have HG := Lib.hid hg; clear hg))
    exact ⟨rfl, rfl, HG.out⟩
  | ok xs k =>
    rw [hr] at HI
    rw [Res.bind_ok]
    have HI := Lib.hid (show Calls Tryz.prog 80 _ w (fun e w' => ∃ v rows, e = .returned v ∧ RowDa w' w.heap.size v rows ∧ rows.map (·.1) = xs ∧ Sc w' p l k ∧ w.grownBy w' (some p)) from HI)
    clear hr
    by_cases hk : k < l.length
    · rw [if_pos hk]
      have HEn := Lib.hid (fun W (hs : Sc W p l k) => end_bad hs hk)
      clear hk
      go_enter Tryz.func42, Tryz.ntmps42
      go_wp2_with (first
        | (go_at_call 80; go_must ((with_reducible refine HI.out.mono ?_); intro e w1 hq; obtain ⟨v, rows, rfl, hr, hm, hs, hg⟩ := hq; have HS := Lib.hid hs; have HG := Lib.hid hg; clear hr hs hg hm))
        | (go_at_call 69; go_must ((with_reducible refine (HEn.out _ HS.out).mono ?_); rintro e w2 ⟨rfl, hg⟩; have HG2 := Lib.hid hg; clear hg)))
      exact ⟨rfl, rfl, gb_trans HG.out HG2.out⟩
    · rw [if_neg hk]
      have HEn := Lib.hid (fun W (hs : Sc W p l k) => show Calls Tryz.prog 69 #[.pointer (some ⟨p, 0, none⟩)] W (fun e w' => e = .returned (.tuple #[]) ∧ ∃ m, w' = W.drewN m) from by
        have hle := hs.le.1
        obtain rfl : k = l.length := by omega
        exact end_ok hs)
      clear hk
      go_enter Tryz.func42, Tryz.ntmps42
      go_wp2_with (first
        | (go_at_call 80; go_must ((with_reducible refine HI.out.mono ?_); intro e w1 hq; obtain ⟨v, rows, rfl, hr, hm, hs, hg⟩ := hq; have HR := Lib.hid hr; have HM := Lib.hid hm; have HS := Lib.hid hs; have HG := Lib.hid hg; clear hr hs hg hm))
        | (go_at_call 69; go_must ((with_reducible refine (HEn.out _ HS.out).mono ?_); rintro e w2 ⟨rfl, m, rfl⟩)))
      go_ret
      exact ⟨_, rows, rfl, HR.out.past (gb_drewN (gb_refl _ (some p)) m) hp, HM.out, HS.out.drewN m, gb_trans HG.out (gb_drewN (gb_refl _ _) m)⟩
theorem getall_da {w : World} {p : Nat} {l : List UInt8} {k0 : Nat} (h : Sc w p l k0) (hT : TbP p w) (hl : l.length ≤ 1000000) :
    Calls Tryz.prog 20 #[.pointer (some ⟨p, 0, none⟩)] w (GotAllDa p l (dasR l k0) w) := by
  have HP := wgetall_da h hT hl
  clear h hT
  cases hr : dasR l k0 with
  | err c a =>
    rw [hr] at HP
    have HP := Lib.hid HP
    clear hr
    go_enter Tryz.func20, Tryz.ntmps20
    go_wp2_with (go_at_call 42; go_must ((with_reducible refine HP.out.mono ?_); rintro e w1 ⟨rfl, hg⟩; have HG := Lib.hid hg; clear hg))
    exact ⟨rfl, rfl, HG.out⟩
  | ok xs k =>
    rw [hr] at HP
    have HP := Lib.hid (show Calls Tryz.prog 42 #[.pointer (some ⟨p, 0, none⟩), .func (.func 43) #[] #[]] w (fun e w' => ∃ v rows, e = .returned v ∧ RowDa w' w.heap.size v rows ∧ rows.map (·.1) = xs ∧ Sc w' p l k ∧ w.grownBy w' (some p)) from HP)
    clear hr
    go_enter Tryz.func20, Tryz.ntmps20
    go_wp2_with (go_at_call 42; go_must ((with_reducible refine HP.out.mono ?_); intro e w1 hq; obtain ⟨v, rows, rfl, hr, hm, hs, hg⟩ := hq; have HR := Lib.hid hr; have HS := Lib.hid hs; have HG := Lib.hid hg; have HM := Lib.hid hm; clear hr hs hg hm))
    go_ret
    exact ⟨_, rows, rfl, HR.out, HM.out, HS.out, HG.out⟩
end Go.Proofs.YtebgmfjgapmpfabGreatDoor

/- The walk of ConstsPuts. -/
namespace Go.Proofs.YtebgmfjgapmpfabGreatDoor
open Go.RowKit
set_option linter.unusedVariables false
set_option maxRecDepth 100000

/-- What the laws keep of an instruction: its box, its labels; the tables. -/
structure CSt (w : World) (i : I) (A : Option Addr) (c : Nat) (W : World) : Prop where
  tb : Tabs W
  box : BoxI w W i A c
  li : LiesL W A i.l
section
variable {w W W' : World} {i : I} {A : Option Addr} {c : Nat} {v : Value} {xs : List UInt8}
theorem CSt.on (h : CSt w i A c W) (hb : Below W.heap.size W W') : CSt w i A c W' := ⟨h.tb.below hb, h.box.on hb, h.li.below hb⟩
theorem CSt.start (hT : Tabs w) (hi : LiesL w A i.l) : CSt w i A c (w.alloc (.cells (insC i A c) 59)) :=
  ⟨hT.below (below_box _ _), BoxI.start w i A c, hi.below (below_box _ _)⟩
theorem CSt.bel (h : CSt w i A c W) : Below w.heap.size w W := h.box.2
/-- .. and bytes that were made. -/
structure CLb (w : World) (i : I) (A : Option Addr) (c : Nat) (v : Value) (xs : List UInt8) (W : World) : Prop where
  a : CSt w i A c W
  r : Row W w.heap.size v xs
theorem CLb.on (h : CLb w i A c v xs W) (hb : Below W.heap.size W W') : CLb w i A c v xs W' := ⟨h.a.on hb, h.r.later hb⟩
abbrev Five (w : World) (i : I) (A : Option Addr) (c : Nat) (Ab : Option Addr) (cb : Nat) (xs : List UInt8) (W : World) : Prop :=
  (W.cell? ⟨w.heap.size, 0, none⟩ = some (.int .u8 i.op.toNat) ∧ W.cell? ⟨w.heap.size, 1, none⟩ = some (.int .u64 i.a) ∧ W.cell? ⟨w.heap.size, 2, none⟩ = some (.int .u64 i.b) ∧ W.cell? ⟨w.heap.size, 3, none⟩ = some (.slice A i.l.length c)) ∧
  (convert 32 9 (.slice Ab xs.length cb)).run Tryz.prog W = .ok (.string (S xs)) W
theorem CLb.five {Ab : Option Addr} {cb : Nat} (h : CLb w i A c (.slice Ab xs.length cb) xs W) : CLb w i A c (.slice Ab xs.length cb) xs W ∧ Five w i A c Ab cb xs W := by
  obtain ⟨A', c', e, hc⟩ := h.r.str
  injection e with e1 e2 e3
  subst e1; subst e3
  exact ⟨h, ⟨h.a.box.c0, h.a.box.c1, h.a.box.c2, h.a.box.c3⟩, hc 9 Tryz.underlying9⟩
end
theorem same_self (i : I) : sameZ i i = true := by unfold sameZ; simp
theorem gIns_same (n : Int) (w : World) : Calls Tryz.prog 47 #[.agg #[.int .u8 35, .int .u64 n, .int .u64 0, .slice none 0 0], .agg #[.int .u8 35, .int .u64 n, .int .u64 0, .slice none 0 0]] w (BoolPost true w) := by
  have := refSame_any (w := w) (A := none) (B := none) (c := 0) (d := 0) (i := gIns n) (k := gIns n) (fun j v hv => by simp [cells32] at hv) (fun j v hv => by simp [cells32] at hv) (by simp) (by simp)
  rw [same_self] at this
  exact this

end Go.Proofs.YtebgmfjgapmpfabGreatDoor

/- creelref15.GetAll of any bytes; creelref15.Same. -/
namespace Go.Proofs.YtebgmfjgapmpfabGreatDoor
open Go.RowKit
set_option linter.unusedVariables false
set_option maxRecDepth 100000

/-- What holds at the head of the reference's loop. -/
structure BInDa (w : World) (q : Nat) (l : List UInt8) (s : RSt) (xs : List SlotDa) (v : Value) (W : World) : Prop where
  rs : Rs W q l s
  g : w.grownBy W (some q)
  r : RowDa W w.heap.size v xs
section
variable {w W W' : World} {q : Nat} {l : List UInt8} {s s' : RSt} {xs : List SlotDa} {x : SlotDa} {v v' : Value}
theorem BInDa.step (h : BInDa w q l s xs v W) (hq : q < w.heap.size) (hg : W.grownBy W' (some q)) (hs : Rs W' q l s') : BInDa w q l s' xs v W' :=
  ⟨hs, gb_trans h.g hg, h.r.past hg hq⟩
theorem BInDa.alloc (h : BInDa w q l s xs v W) (hq : q < w.heap.size) (o : Obj) : BInDa w q l s xs v (W.alloc o) := h.step hq (gb_alloc (gb_refl _ _) o) (h.rs.alloc o)
theorem BInDa.more (h : BInDa w q l s xs v W) (hq : q < w.heap.size) (hg : W.grownBy W' v.ownBlock) (hr : RowDa W' w.heap.size v' (xs ++ [x])) : BInDa w q l s (xs ++ [x]) v' W' := by
  have hlt := World.ownsRow.lt h.r
  exact ⟨h.rs.grown hg (fun e => by have := hlt q e.symm; omega) (fun g e => by have := hlt g e; omega), gb_before h.g hg (fun g e => .inr (hlt g e).1), hr⟩
end
/-- How far the list is. -/
def DaInv (l : List UInt8) (n j : Nat) (s : RSt) (rows : List SlotDa) (R : Res (List Da)) : Prop := match s with
  | .at k => dasK l (n - j) k (rows.map (·.1)) = R
  | .bad c a => R = .err c a
theorem DaInv.step {l : List UInt8} {n j k : Nat} {rows : List SlotDa} {R : Res (List Da)} (h : DaInv l n j (.at k) rows R) (hlt : j < n) {x : Da} {A : Option Addr} {c : Nat} (hv : ∀ y k2, daR l k = .ok y k2 → x = y) :
    DaInv l n (j + 1) (stOf (daR l k)) (rows ++ [(x, A, c)]) R := by
  have h1 : dasK l (n - j) k (rows.map (·.1)) = R := h
  rw [dasK_more hlt] at h1
  cases hg : daR l k with
  | err c a =>
    rw [hg, Res.bind_err] at h1
    exact h1.symm
  | ok y k2 =>
    rw [hg, Res.bind_ok] at h1
    obtain rfl := hv y k2 hg
    show dasK l (n - (j + 1)) k2 ((rows ++ [(x, A, c)]).map (·.1)) = R
    rw [List.map_append]
    exact h1
/-- What creelref15.GetAll leaves behind. -/
def RGotAllDa (q : Nat) (l : List UInt8) (r : Res (List Da)) (w : World) (e : Ending) (w' : World) : Prop := match r with
  | .ok xs k => ∃ v rows, e = .returned v ∧ RowDa w' w.heap.size v rows ∧ rows.map (·.1) = xs ∧ Rs w' q l (.at k) ∧ w.grownBy w' (some q)
  | .err c a => e = .returned (.slice none 0 0) ∧ Rs w' q l (.bad c a) ∧ w.grownBy w' (some q)
set_option maxHeartbeats 4000000 in
theorem rgetall_da {w : World} {q : Nat} {l : List UInt8} {k0 : Nat} (h : Rs w q l (.at k0)) :
    Calls Tryz.prog 21 #[.pointer (some ⟨q, 0, none⟩)] w (RGotAllDa q l (dasR l k0) w) := by
  have hq := h.lt
  have hC := count_ref h
  have key : ∃ (n : Nat) (s0 : RSt) (R : Res (List Da)), vZ (countR l k0) = n ∧ n ≤ 10000 ∧ stOf (countR l k0) = s0 ∧ DaInv l n 0 s0 [] R ∧ dasR l k0 = R.bind fun xs k2 => if k2 < l.length then .err 14 k2 else .ok xs k2 := by
    unfold dasR
    cases hr : countR l k0 with
    | err c a => exact ⟨0, .bad c a, .err c a, rfl, by omega, rfl, rfl, rfl⟩
    | ok v k1 =>
      obtain ⟨v0, v1⟩ := countR_ok hr
      obtain ⟨n, rfl⟩ : ∃ n : Nat, v = n := ⟨v.toNat, by omega⟩
      exact ⟨n, .at k1, dasK l n k1 [], rfl, by omega, rfl, rfl, by rw [Res.bind_ok, Int.toNat_natCast]⟩
  obtain ⟨n, s0, R, e1, e2, e3, hiv, hT⟩ := key
  rw [e1, e3] at hC
  obtain ⟨T, hTe⟩ : ∃ T, T = dasR l k0 := ⟨_, rfl⟩
  rw [← hTe] at hT ⊢
  have HC := Lib.hid hC
  have HTE := Lib.hid hT
  have HIV := Lib.hid hiv
  clear h hC e1 e3 hiv hT hTe
  go_enter Tryz.func21, Tryz.ntmps21
  go_wp2_with (go_at_call 44; go_must ((with_reducible refine HC.out.mono ?_); rintro e w1 ⟨rfl, hs, hg⟩; have HS := Lib.hid hs; have HG := Lib.hid hg; clear hs hg))
  go_loopw [4, 5] (fun v i wr => ∃ (j : Nat) (s : RSt) (rows : List SlotDa), j ≤ n ∧ i = .int .i64 j ∧ rows.length = j ∧ BInDa w q l s rows v wr ∧ DaInv l n j s rows R) (fun _ i _ => n - (intOf i).toNat)
  case atStart => exact ⟨0, s0, [], Nat.zero_le _, rfl, rfl, ⟨HS.out, HG.out, RowDa.nil _ _⟩, HIV.out⟩
  case round =>
    obtain ⟨j, s, rows, hj, rfl, hlen, hb, hiv⟩ := hrel
    have HB := Lib.hid hb
    have HLEN := Lib.hid hlen
    have hle : rows.length ≤ 10000 := by omega
    cases s with
    | bad c a =>
      have x2 := why_bad hb.rs
      have dw : (c != 0) = true := by simpa using hb.rs.nz
      have dw2 : (c == 0) = false := by simpa using hb.rs.nz
      have HRE := Lib.hid (show T = .err c a by rw [HTE.out, show R = .err c a from hiv, Res.bind_err])
      have HEn := Lib.hid (fun W (g : Rs W q l (.bad c a)) => show Calls Tryz.prog 46 #[.pointer (some ⟨q, 0, none⟩)] W fun e w' => e = .returned (.tuple #[]) ∧ Rs w' q l (.bad c a) ∧ W.grownBy w' (some q) from end_ref g)
      clear hb hiv hlen hle
      by_cases hlt : j < n
      all_goals
        go_wp2_with (go_at_call 46; go_must ((with_reducible refine (HEn.out _ HB.out.rs).mono ?_); rintro e w2 ⟨rfl, hs, hg⟩; clear x2; have x2 := why_bad hs; have HS2 := Lib.hid hs; have HG2 := Lib.hid hg; clear hs hg))
        go_ret
        rw [HRE.out]
        exact ⟨rfl, HS2.out, gb_trans HB.out.g HG2.out⟩
    | «at» k =>
      have x2 := why_at hb.rs
      by_cases hlt : j < n
      · have HG := Lib.hid (show Calls Tryz.prog 45 #[.pointer (some ⟨q, 0, none⟩)] wr (fun e w' => ∃ (x : Da) (A : Option Addr) (c : Nat), e = .returned (daV x A c) ∧ Rs w' q l (stOf (daR l k)) ∧ (∀ y k2, daR l k = .ok y k2 → x = y) ∧ wr.grownBy w' (some q)) from rget_da hb.rs)
        have HST := Lib.hid (fun (x : Da) (A : Option Addr) (c : Nat) (hv : ∀ y k2, daR l k = .ok y k2 → x = y) => DaInv.step (A := A) (c := c) hiv hlt hv)
        clear hb hiv hlen
        go_wp2_with (first
          | (go_at_call 45; go_must ((with_reducible refine HG.out.mono ?_); intro e w2 hqq; obtain ⟨x, A, c, rfl, hs, hv, hg⟩ := hqq; have HV := Lib.hid hv; have HA2 := Lib.hid (HB.out.step hq hg hs); have hz2 := HA2.out.g.size; have HX := Lib.hid (Whole.made w2 61 (hC (x, A, c))); clear hs hg hv x2))
          | (at_builtin; (refine rowDa_new rfl _ _ rfl w.heap.size _ rows rfl (HA2.out.alloc hq _).r w2.heap.size (x, A, c) rfl HX.out hle (Nat.le_trans hz2 (below_box w2 _).size) ?_; intro v3 w3 hr3 hg3; have HA3 := Lib.hid ((HA2.out.alloc hq _).more hq hg3 hr3); clear hr3 hg3)))
        go_roundw
        case rel => exact ⟨j + 1, _, rows ++ [(x, A, c)], by omega, by go_num, by rw [List.length_append, HLEN.out, List.length_singleton], HA3.out, HST.out x A c HV.out⟩
        case measure => simp [intOf]; omega
      · obtain rfl : j = n := by omega
        have hR : R = .ok (rows.map (·.1)) k := by
          have h1 : dasK l (j - j) k (rows.map (·.1)) = R := hiv
          rw [Nat.sub_self] at h1
          exact h1.symm
        by_cases hk : k < l.length
        · have HRE := Lib.hid (show T = .err 14 k by rw [HTE.out, hR, Res.bind_ok, if_pos hk])
          have HEn := Lib.hid (fun W (g : Rs W q l (.at k)) => show Calls Tryz.prog 46 #[.pointer (some ⟨q, 0, none⟩)] W fun e w' => e = .returned (.tuple #[]) ∧ Rs w' q l (.bad 14 k) ∧ W.grownBy w' (some q) from by have := end_ref g; rw [show endS l (.at k) = .bad 14 k from if_pos hk] at this; exact this)
          clear hb hiv hlen hle hR hk
          go_wp2_with (go_at_call 46; go_must ((with_reducible refine (HEn.out _ HB.out.rs).mono ?_); rintro e w2 ⟨rfl, hs, hg⟩; clear x2; have x2 := why_bad hs; have HS2 := Lib.hid hs; have HG2 := Lib.hid hg; clear hs hg))
          go_ret
          rw [HRE.out]
          exact ⟨rfl, HS2.out, gb_trans HB.out.g HG2.out⟩
        · have HRE := Lib.hid (show T = .ok (rows.map (·.1)) k by rw [HTE.out, hR, Res.bind_ok, if_neg hk])
          have HEn := Lib.hid (fun W (g : Rs W q l (.at k)) => show Calls Tryz.prog 46 #[.pointer (some ⟨q, 0, none⟩)] W fun e w' => e = .returned (.tuple #[]) ∧ Rs w' q l (.at k) ∧ W.grownBy w' (some q) from by have := end_ref g; rw [show endS l (.at k) = .at k from if_neg hk] at this; exact this)
          clear hb hiv hlen hle hR hk
          go_wp2_with (go_at_call 46; go_must ((with_reducible refine (HEn.out _ HB.out.rs).mono ?_); rintro e w2 ⟨rfl, hs, hg⟩; clear x2; have x2 := why_at hs; have HB2 := Lib.hid (HB.out.step hq hg hs); clear hs hg))
          go_ret
          rw [HRE.out]
          exact ⟨_, rows, rfl, HB2.out.r, rfl, HB2.out.rs, HB2.out.g⟩
end Go.Proofs.YtebgmfjgapmpfabGreatDoor

/- abort.Value of a function that ends well, whatever it hands back: []api.Data. Value of one that aborts. -/
namespace Go.Proofs.YtebgmfjgapmpfabGreatDoor
open Go.RowKit
set_option linter.unusedVariables false
set_option maxRecDepth 100000

theorem cfVDas (cap : Array Value) (w : World) : (callFunc 41 cap).run Tryz.prog w = .ok (.enter 41 cap) w := by kernel_rfl
section
variable {T : (Option Addr × Nat × Nat) → World → Prop}
/-- Value's own closure: what the step hands back lies in its cell. -/
theorem valClosDas {g : FuncId} {cap : Array Value} {b1 b4 q : Nat} {w : World} {z : Array Value} (hz : z.size = 1) (hcf : ∀ w : World, (callFunc g cap).run Tryz.prog w = .ok (.enter g cap) w)
    (h1 : Whole w b1 53 #[.func (.func g) #[] cap]) (h4 : Whole w b4 49 #[.slice none 0 0]) (hb : q < b4) (hT : ∀ x W W', T x W → W.grownBy W' (some b4) → T x W')
    (h : Calls Tryz.prog g cap w fun e w' => ∃ x, e = .returned (.slice x.1 x.2.1 x.2.2) ∧ T x w' ∧ w.grownBy w' (some q)) :
    Calls Tryz.prog 41 #[.pointer (some ⟨b1, 0, none⟩), .pointer (some ⟨b4, 0, none⟩)] w fun e w' =>
      e = .returned (.tuple #[]) ∧ ∃ x, T x w' ∧ Whole w' b4 49 #[.slice x.1 x.2.1 x.2.2] ∧ ∃ w1, w.grownBy w1 (some q) ∧ w1.grownBy w' (some b4) := by
  have hnil : ∀ w : World, (binOp BinOp.neq 53 (.func (.func g) #[] cap) .nilFunc).run Tryz.prog w = .ok (.bool true) w := fun _ => by kernel_rfl
  have c1 := h1.cell 0
  simp only [List.getElem?_toArray, List.getElem?_cons_zero] at c1
  have HH := Lib.hid h
  have H4 := Lib.hid h4
  have HT := Lib.hid hT
  clear h h1 h4 hT
  go_enter Tryz.func41, Tryz.ntmps41
  go_wp2_with fail
  refine HH.out.mono ?_
  rintro e w1 ⟨x, rfl, hs, hg⟩
  have HW := H4.out.grown hg (by simp only [ne_eq, Option.some.injEq]; omega)
  have k0 := HW.cell 0
  have f0 := HW.frozen 0
  simp only [List.getElem?_toArray, List.getElem?_cons_zero] at k0
  obtain ⟨p1, p2⟩ := put1 (u0 := .slice x.1 x.2.1 x.2.2) HW
  have F : Hid (T x (w1.setCell ⟨b4, 0, none⟩ (.slice x.1 x.2.1 x.2.2))) := HT.out _ _ _ hs p2
  have P1 := Lib.hid p1
  have P2 := Lib.hid p2
  have HG := Lib.hid hg
  clear p1 p2 hs hg HW hcf
  go_wp2_with fail
  go_end0
  exact ⟨rfl, x, F.out, P1.out, w1, HG.out, P2.out⟩
/-- What Value's closure leaves behind, seen from Value's beginning. -/
structure VSDas (T : (Option Addr × Nat × Nat) → World → Prop) (w : World) (q : Nat) (x : (Option Addr × Nat × Nat)) (w1 : World) : Prop where
  kept : T x w1
  grown : w.grownBy w1 (some q)
  val : Whole w1 (w.heap.size + 2) 49 #[.slice x.1 x.2.1 x.2.2]
  r2 : Whole w1 (w.heap.size + 1) 39 #[.int .i64 0, .int .i64 0]
/-- The world in which Value calls Out. -/
def vWorldDas (g : FuncId) (cap : Array Value) (w : World) : World :=
  ((w.alloc (.cells #[.func (.func g) #[] cap] 53)).alloc (.cells #[.int .i64 0, .int .i64 0] 39)).alloc (.cells #[.slice none 0 0] 49)
theorem vWorld_factsDas (g : FuncId) (cap : Array Value) (w : World) : (vWorldDas g cap w).heap.size = w.heap.size + 3 ∧ Whole (vWorldDas g cap w) w.heap.size 53 #[.func (.func g) #[] cap] ∧
    Whole (vWorldDas g cap w) (w.heap.size + 1) 39 #[.int .i64 0, .int .i64 0] ∧
    Whole (vWorldDas g cap w) (w.heap.size + 2) 49 #[.slice none 0 0] ∧ Below w.heap.size w (vWorldDas g cap w) := by
  have b1 := Whole.made w 53 #[.func (.func g) #[] cap]
  have b3 := Whole.made (w.alloc (.cells #[.func (.func g) #[] cap] 53)) 39 #[.int .i64 0, .int .i64 0]
  have b4 := Whole.made ((w.alloc (.cells #[.func (.func g) #[] cap] 53)).alloc (.cells #[.int .i64 0, .int .i64 0] 39)) 49 #[.slice none 0 0]
  simp only [World.size_alloc] at b3 b4
  exact ⟨by simp [vWorldDas], (b1.alloc _).alloc _, b3.alloc _, b4,
    (((Below.refl _ _).alloc (Nat.le_refl _) _).alloc (by simp) _).alloc (by simp; omega) _⟩
theorem value_outDas {g : FuncId} {cap : Array Value} {q : Nat} {w : World} (hcf : ∀ w : World, (callFunc g cap).run Tryz.prog w = .ok (.enter g cap) w) (hq : q < w.heap.size)
    (hT : ∀ x W W' b, w.heap.size ≤ b → b < w.heap.size + 4 → T x W → W.grownBy W' (some b) → T x W')
    (h : ∀ W, Below w.heap.size w W → w.heap.size + 4 ≤ W.heap.size → Calls Tryz.prog g cap W fun e w' => ∃ x, e = .returned (.slice x.1 x.2.1 x.2.2) ∧ T x w' ∧ W.grownBy w' (some q)) :
    Calls Tryz.prog 35 #[.func (.func 41) #[] #[.pointer (some ⟨w.heap.size, 0, none⟩), .pointer (some ⟨w.heap.size + 2, 0, none⟩)]] (vWorldDas g cap w) fun e w' => e = .returned (.agg #[.int .i64 0, .int .i64 0]) ∧ ∃ x, VSDas T w q x w' := by
  obtain ⟨hz, b1, b3, b4, hbe⟩ := vWorld_factsDas g cap w
  have b5 := Whole.made (vWorldDas g cap w) 39 #[.int .i64 0, .int .i64 0]
  have hbe2 : Below w.heap.size w ((vWorldDas g cap w).alloc (.cells #[.int .i64 0, .int .i64 0] 39)) := hbe.alloc (by omega) _
  have hc := valClosDas (T := T) (z := #[.slice none 0 0]) rfl hcf (b1.alloc (.cells #[.int .i64 0, .int .i64 0] 39)) (b4.alloc _) (by omega : q < w.heap.size + 2) (fun x W W' => hT x W W' _ (by omega) (by omega)) (h _ hbe2 (by rw [size_box]; omega))
  refine (out_any _ _ 0 0 (vWorldDas g cap w) (fun w1 => (∃ x, VSDas T w q x w1) ∧ Whole w1 (vWorldDas g cap w).heap.size 39 #[.int .i64 0, .int .i64 0]) (cfVDas _) (hc.mono ?_) (fun _ h => h.2)).mono ?_
  · rintro e w' ⟨rfl, x, hs, hv, w1, hg1, hg2⟩
    have hz2 : w.heap.size + 4 ≤ w1.heap.size := by have := hg1.size; simp only [World.size_alloc] at this; omega
    refine ⟨.inl ⟨rfl, rfl, rfl⟩, ⟨x, hs, ?_, hv, ?_⟩, ?_⟩
    · exact gb_before (gb_trans (gb_of_below (some q) hbe2) hg1) hg2 (fun g e => .inr (by injection e with e; omega))
    · exact ((b3.alloc _).grown hg1 (by simp only [ne_eq, Option.some.injEq]; omega)).grown hg2 (by simp only [ne_eq, Option.some.injEq]; omega)
    · exact (b5.grown hg1 (by simp only [ne_eq, Option.some.injEq]; omega)).grown hg2 (by simp only [ne_eq, Option.some.injEq]; omega)
  · rintro e w' ⟨rfl, w1, ⟨⟨x, hs⟩, _⟩, hg⟩
    rw [hz] at hg
    exact ⟨rfl, x, hT x _ _ _ (by omega) (by omega) hs.kept hg, gb_before hs.grown hg (fun g e => .inr (by injection e with e; omega)), hs.val.grown hg (by simp only [ne_eq, Option.some.injEq]; omega), hs.r2.grown hg (by simp only [ne_eq, Option.some.injEq]; omega)⟩

set_option maxHeartbeats 800000 in
/-- Value of a function that ends well. -/
theorem valueDas_ok {g : FuncId} {cap : Array Value} {q : Nat} {w : World} (hcf : ∀ w : World, (callFunc g cap).run Tryz.prog w = .ok (.enter g cap) w) (hq : q < w.heap.size)
    (hT : ∀ x W W' b, w.heap.size ≤ b → b < w.heap.size + 4 → T x W → W.grownBy W' (some b) → T x W')
    (h : ∀ W, Below w.heap.size w W → w.heap.size + 4 ≤ W.heap.size → Calls Tryz.prog g cap W fun e w' => ∃ x, e = .returned (.slice x.1 x.2.1 x.2.2) ∧ T x w' ∧ W.grownBy w' (some q)) :
    Calls Tryz.prog 18 #[.func (.func g) #[] cap] w fun e w' => ∃ x, e = .returned (.tuple #[.slice x.1 x.2.1 x.2.2, .agg #[.int .i64 0, .int .i64 0]]) ∧ T x w' ∧ w.grownBy w' (some q) := by
  have hv := value_outDas hcf hq hT h
  unfold vWorldDas at hv
  have HV := Lib.hid hv
  have HT := Lib.hid hT
  have hmf : ∀ (fn : Fn) (first cap : Array Value) (w : World), (Instr.makeFunc fn first cap).run Tryz.prog w = .ok (.func fn first cap) w := fun _ _ _ _ => rfl
  clear h hv hcf hT
  go_enter Tryz.func18, Tryz.ntmps18
  go_wp2_with (go_at_call 35; go_must (refine HV.out.mono ?_; rintro e w2 ⟨rfl, x, hl⟩; have k0 := fun o => (hl.val.alloc o).cell 0; have f8 := fun o => (hl.r2.alloc o).frozen 0; have f9 := fun o => (hl.r2.alloc o).frozen 1; have m8 := fun o => (hl.r2.alloc o).cell 0; have m9 := fun o => (hl.r2.alloc o).cell 1; simp only [List.getElem?_toArray, List.getElem?_cons_zero, List.getElem?_cons_succ] at k0 m8 m9; have hz := hl.grown.size; have HL := Lib.hid hl; clear hl))
  obtain ⟨p2, g2⟩ := put2 (u0 := .int .i64 0) (u1 := .int .i64 0) (HL.out.r2.alloc (.cells #[.int .i64 0, .int .i64 0] 39))
  have q8 := p2.cell 0
  have q9 := p2.cell 1
  simp only [List.getElem?_toArray, List.getElem?_cons_zero, List.getElem?_cons_succ] at q8 q9
  refine bodyPost_ret (v := .tuple #[.slice x.1 x.2.1 x.2.2, .agg #[.int .i64 0, .int .i64 0]]) (by simp [results, Tryz.results18, go_sem, q8, q9]) rfl ⟨x, rfl, ?_, ?_⟩
  · exact HT.out _ _ _ _ (by omega) (by omega) (HT.out _ _ _ w.heap.size (Nat.le_refl _) (by omega) HL.out.kept (gb_alloc (gb_refl _ _) _)) g2
  · exact gb_before (gb_alloc HL.out.grown _) g2 (fun g e => .inr (by injection e with e; omega))
end
/-- Value's own closure: what aborts goes on. -/
theorem valClosDasE {g : FuncId} {cap : Array Value} {b1 b4 q : Nat} {w : World} {c a : Int} (hcf : ∀ w : World, (callFunc g cap).run Tryz.prog w = .ok (.enter g cap) w)
    (h1 : Whole w b1 53 #[.func (.func g) #[] cap])
    (h : Calls Tryz.prog g cap w fun e w' => e = .panicked (stopP c a) ∧ w.grownBy w' (some q)) :
    Calls Tryz.prog 41 #[.pointer (some ⟨b1, 0, none⟩), .pointer (some ⟨b4, 0, none⟩)] w fun e w' => e = .panicked (stopP c a) ∧ w.grownBy w' (some q) := by
  have hnil : ∀ w : World, (binOp BinOp.neq 53 (.func (.func g) #[] cap) .nilFunc).run Tryz.prog w = .ok (.bool true) w := fun _ => by kernel_rfl
  have c1 := h1.cell 0
  simp only [List.getElem?_toArray, List.getElem?_cons_zero] at c1
  have HH := Lib.hid h
  clear h h1
  go_enter Tryz.func41, Tryz.ntmps41
  go_wp2_with fail
  refine HH.out.mono ?_
  rintro e w1 ⟨rfl, hg⟩
  exact ⟨rfl, rfl, hg⟩
theorem value_outDasE {g : FuncId} {cap : Array Value} {q : Nat} {w : World} {c a : Int} (hc : ¬ c = 0) (hcf : ∀ w : World, (callFunc g cap).run Tryz.prog w = .ok (.enter g cap) w) (hq : q < w.heap.size)
    (h : ∀ W, Below w.heap.size w W → w.heap.size + 4 ≤ W.heap.size → Calls Tryz.prog g cap W fun e w' => e = .panicked (stopP c a) ∧ W.grownBy w' (some q)) :
    Calls Tryz.prog 35 #[.func (.func 41) #[] #[.pointer (some ⟨w.heap.size, 0, none⟩), .pointer (some ⟨w.heap.size + 2, 0, none⟩)]] (vWorldDas g cap w) fun e w' => e = .returned (.agg #[.int .i64 c, .int .i64 a]) ∧
      w.grownBy w' (some q) ∧ w.heap.size + 3 ≤ w'.heap.size ∧ Whole w' (w.heap.size + 2) 49 #[.slice none 0 0] ∧ Whole w' (w.heap.size + 1) 39 #[.int .i64 0, .int .i64 0] := by
  obtain ⟨hz, b1, b3, b4, hbe⟩ := vWorld_factsDas g cap w
  have b5 := Whole.made (vWorldDas g cap w) 39 #[.int .i64 0, .int .i64 0]
  have hbe2 : Below w.heap.size w ((vWorldDas g cap w).alloc (.cells #[.int .i64 0, .int .i64 0] 39)) := hbe.alloc (by omega) _
  have hcl := valClosDasE (b4 := w.heap.size + 2) hcf (b1.alloc (.cells #[.int .i64 0, .int .i64 0] 39)) (h _ hbe2 (by rw [size_box]; omega))
  refine (out_any _ _ c a (vWorldDas g cap w) (fun w1 => ((vWorldDas g cap w).alloc (.cells #[.int .i64 0, .int .i64 0] 39)).grownBy w1 (some q)) (cfVDas _) (hcl.mono ?_) (fun w1 hg => b5.grown hg (by simp only [ne_eq, Option.some.injEq]; omega))).mono ?_
  · rintro e w' ⟨rfl, hg⟩
    exact ⟨.inr ⟨hc, rfl⟩, hg⟩
  · rintro e w' ⟨rfl, w1, hg1, hg2⟩
    have z1 := hg1.size
    have z2 := hg2.size
    rw [size_box] at z1
    rw [hz] at hg2
    exact ⟨rfl, gb_before (gb_trans (gb_of_below (some q) hbe2) hg1) hg2 (fun g e => .inr (by injection e with e; omega)), by omega,
      ((b4.alloc _).grown hg1 (by simp only [ne_eq, Option.some.injEq]; omega)).grown hg2 (by simp only [ne_eq, Option.some.injEq]; omega),
      ((b3.alloc _).grown hg1 (by simp only [ne_eq, Option.some.injEq]; omega)).grown hg2 (by simp only [ne_eq, Option.some.injEq]; omega)⟩
set_option maxHeartbeats 4000000 in
/-- Value of a function that aborts. -/
theorem valueDasE_any {g : FuncId} {cap : Array Value} {q : Nat} {w : World} {c a : Int} (hc : ¬ c = 0) (hcf : ∀ w : World, (callFunc g cap).run Tryz.prog w = .ok (.enter g cap) w) (hq : q < w.heap.size)
    (h : ∀ W, Below w.heap.size w W → w.heap.size + 4 ≤ W.heap.size → Calls Tryz.prog g cap W fun e w' => e = .panicked (stopP c a) ∧ W.grownBy w' (some q)) :
    Calls Tryz.prog 18 #[.func (.func g) #[] cap] w fun e w' => e = .returned (.tuple #[.slice none 0 0, .agg #[.int .i64 c, .int .i64 a]]) ∧ w.grownBy w' (some q) := by
  have hv := value_outDasE hc hcf hq h
  unfold vWorldDas at hv
  have HV := Lib.hid hv
  have dc : (c == 0) = false := by simpa using hc
  have hmf : ∀ (fn : Fn) (first cap : Array Value) (w : World), (Instr.makeFunc fn first cap).run Tryz.prog w = .ok (.func fn first cap) w := fun _ _ _ _ => rfl
  clear h hv hcf hc
  go_enter Tryz.func18, Tryz.ntmps18
  go_wp2_with (go_at_call 35; go_must (refine HV.out.mono ?_; rintro e w2 ⟨rfl, hg, hz, hv, hr2⟩; have HL := Lib.hid (show w.grownBy w2 (some q) ∧ w.heap.size + 3 ≤ w2.heap.size ∧ Whole w2 (w.heap.size + 2) 49 #[.slice none 0 0] ∧ Whole w2 (w.heap.size + 1) 39 #[.int .i64 0, .int .i64 0] from ⟨hg, hz, hv, hr2⟩); clear hg hz hv hr2))
  generalize hW : w2.alloc (.cells #[.int .i64 c, .int .i64 a] 39) = W at *
  have hz2 := HL.out.2.1
  have k3 : Whole W (w.heap.size + 2) 49 #[.slice none 0 0] := by rw [← hW]; exact HL.out.2.2.1.alloc _
  have k2 : Whole W (w.heap.size + 1) 39 #[.int .i64 0, .int .i64 0] := by rw [← hW]; exact HL.out.2.2.2.alloc _
  have k5 : Whole W w2.heap.size 39 #[.int .i64 c, .int .i64 a] := by rw [← hW]; exact Whole.made _ _ _
  have hgW : w.grownBy W (some q) := by rw [← hW]; exact gb_alloc HL.out.1 _
  clear hW
  have K2 := Lib.hid k2
  have KG := Lib.hid hgW
  have v0 := k3.cell 0
  have s0 := k5.cell 0
  have s1 := k5.cell 1
  have n0 := k2.cell 0
  have n1 := k2.cell 1
  have g0 := k2.frozen 0
  have g1 := k2.frozen 1
  have e2 : ¬ w2.heap.size = w.heap.size + 1 := by omega
  simp only [List.getElem?_toArray, List.getElem?_cons_zero, List.getElem?_cons_succ] at v0 s0 s1 n0 n1
  clear k2 k3 k5 hgW
  go_region
  all_goals
    go_wp2
    obtain ⟨p2, j2⟩ := put2 (u0 := .int .i64 c) (u1 := .int .i64 a) K2.out
    have q8 := p2.cell 0
    have q9 := p2.cell 1
    simp only [List.getElem?_toArray, List.getElem?_cons_zero, List.getElem?_cons_succ] at q8 q9
    have hfin := gb_before KG.out j2 (fun g e => .inr (by injection e with e; omega))
    refine bodyPost_ret (v := .tuple #[.slice none 0 0, .agg #[.int .i64 c, .int .i64 a]]) (by simp [results, Tryz.results18, go_sem, q8, q9]) rfl ⟨rfl, ?_⟩
    first | exact hfin | exact gb_drew hfin | exact ⟨hfin.os, hfin.tape, hfin.output, hfin.size, hfin.block⟩
end Go.Proofs.YtebgmfjgapmpfabGreatDoor
