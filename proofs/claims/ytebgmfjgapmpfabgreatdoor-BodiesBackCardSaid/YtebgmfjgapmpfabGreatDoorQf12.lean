/- abort.Value of a function that ends well, whatever it hands back: api.Code. (By gen/genVal.py.) -/
import Derived.Test.YtebgmfjgapmpfabGreatDoorQf09
import Derived.Test.YtebgmfjgapmpfabGreatDoorQf05
import Derived.Test.YtebgmfjgapmpfabGreatDoorQf01
import Derived.Test.YtebgmfjgapmpfabGreatDoorQf11
import Derived.Test.YtebgmfjgapmpfabGreatDoorQf08
import Derived.Deep.CutBlock
import Derived.Deep.DeepCutAuto
import Derived.Test.YtebgmfjgapmpfabGreatDoorQe05
import Derived.Test.YtebgmfjgapmpfabGreatDoorTie
import Derived.Lib.LaidIn
import Derived.Lib.LaidU8
import Derived.LaidMore
import Derived.MakeChecks
import Derived.Stop.Joined
import Derived.OpenShut
import Derived.Test.YtebgmfjgapmpfabGreatDoorQf03
import Derived.ProofKit
import Derived.ShutString
import Derived.ChangeOld
import Derived.Deep.Slices
import Derived.Lib.SmallJoins
namespace Go.Proofs.YtebgmfjgapmpfabGreatDoor
open Go.RowKit
set_option linter.unusedVariables false
set_option maxRecDepth 100000

section
variable {T : SlotBd → World → Prop}
/-- What Value's closure leaves behind, seen from Value's beginning. -/
structure VSBd (T : SlotBd → World → Prop) (w : World) (q : Nat) (x : SlotBd) (w1 : World) : Prop where
  kept : T x w1
  grown : w.grownBy w1 (some q)
  val : Whole w1 (w.heap.size + 3) 28 #[.slice x.2.1.1 x.1.ls.length x.2.1.2, .slice x.2.2.1 x.1.b.length x.2.2.2]
  r1 : Whole w1 (w.heap.size + 1) 28 #[.slice none 0 0, .slice none 0 0]
  r2 : Whole w1 (w.heap.size + 2) 39 #[.int .i64 0, .int .i64 0]
end
end Go.Proofs.YtebgmfjgapmpfabGreatDoor

/- awake; the laws' closures; two lists side by side. -/
namespace Go.Proofs.YtebgmfjgapmpfabGreatDoor
open Go.RowKit
set_option linter.unusedVariables false
set_option maxRecDepth 100000

/-- The page's example: an end alone. -/
def eEnd : I := ⟨11, 0, 0, []⟩
theorem eEnd_ok : eEnd.Ok := ⟨by decide, by decide, by decide, by decide, fun c h => by cases h⟩
theorem eEnd_imm : immR eEnd.n = 0 := by decide +kernel
theorem eEnd_put : putL eEnd = [11] := by
  unfold putL immL immB
  rw [eEnd_imm]
  rfl
def bEg : Bd := ⟨[], [eEnd]⟩
theorem bEg_zero : brZ bEg = 0 := by decide +kernel
theorem bEg_code : codeL bEg = [2, 0, 11] := by
  have hb : bputL bEg = [0, 11] := by
    unfold bputL losL bodyL
    show (lebL 0 ++ []) ++ [eEnd].flatMap putL = _
    rw [List.flatMap_cons, List.flatMap_nil, eEnd_put, lebL_sm 0 (by omega) (by omega)]
    rfl
  unfold codeL
  rw [hb]
  show lebL 2 ++ [0, 11] = _
  rw [lebL_sm 2 (by omega) (by omega)]
  rfl
theorem ins_end (w : World) : Ins (w.alloc (.cells #[.int .u8 11, .int .u64 0, .int .u64 0, .slice none 0 0] 59)) (some ⟨w.heap.size, 0, none⟩) [eEnd] := fun j i hij => by
  have hw := Whole.made w 59 #[.int .u8 11, .int .u64 0, .int .u64 0, .slice none 0 0]
  match j, hij with
  | 0, hij =>
    injection hij with hij
    subst hij
    exact ⟨w.heap.size, 0, none, 0, rfl, hw.lt, ⟨hw.cell 0, hw.cell 1, hw.cell 2, hw.cell 3⟩, fun j v hv => by simp [cells32, eEnd] at hv⟩
  | j + 1, hij => simp at hij
theorem bdawake_any (w : World) (hT : Tabs w) : Calls Tryz.prog 6 #[] w fun e w' => e = .returned (.bool true) ∧ Below w.heap.size w w' := by
  have hb0 := below_box w (.cells #[.int .u8 11, .int .u64 0, .int .u64 0, .slice none 0 0] 59)
  have hp := put_bd (x := bEg) (L := none) (l := 0) (B := some ⟨w.heap.size, 0, none⟩) (c := 1) (hT.below hb0) (fun j x hx => by cases hx) (ins_end w) (by decide) (by decide) (fun i hi => by rw [List.mem_singleton.1 (show i ∈ [eEnd] from hi)]; exact ⟨eEnd_ok, by decide⟩)
  obtain ⟨l, hl⟩ : ∃ l : List UInt8, l = [2, 0, 11] := ⟨_, rfl⟩
  have HP := Lib.hid (show Calls Tryz.prog 28 #[.agg #[.slice none 0 0, .slice (some ⟨w.heap.size, 0, none⟩) 1 1]] (w.alloc (.cells #[.int .u8 11, .int .u64 0, .int .u64 0, .slice none 0 0] 59)) fun e w' => ∃ v, e = .returned (.tuple #[v, .int .i64 0]) ∧ Row w' (w.alloc (.cells #[.int .u8 11, .int .u64 0, .int .u64 0, .slice none 0 0] 59)).heap.size v l ∧ Below (w.alloc (.cells #[.int .u8 11, .int .u64 0, .int .u64 0, .slice none 0 0] 59)).heap.size (w.alloc (.cells #[.int .u8 11, .int .u64 0, .int .u64 0, .slice none 0 0] 59)) w' from hp.mono fun e w' ⟨v, h1, h2, h3⟩ => ⟨v, by rw [bEg_zero] at h1; exact h1, by rw [if_pos bEg_zero, bEg_code] at h2; rw [hl]; exact h2, h3⟩)
  have hcmp : ((S l).toList == [2, 0, 11]) = true := by rw [S_toList, hl]; rfl
  have HB0 := Lib.hid hb0
  clear hl
  clear hp hT hb0
  go_enter Tryz.func6, Tryz.ntmps6
  go_wp2_with (go_at_call 28; go_must ((with_reducible refine HP.out.mono ?_); intro e w1 h; obtain ⟨v, rfl, hr, hb⟩ := h; obtain ⟨A, c, rfl, hcv⟩ := hr.str; have hcv2 := hcv 9 Tryz.underlying9; have HB := Lib.hid (HB0.out.trans (hb.mono HB0.out.size)); clear hb hr hcv))
  go_ret
  exact ⟨rfl, HB.out⟩
theorem cfBd2 (cap : Array Value) (w : World) : (callFunc 14 cap).run Tryz.prog w = .ok (.enter 14 cap) w := by kernel_rfl
theorem closBd2 {w : World} {p b : Nat} {xs : List SlotBd} (hb : Whole w b 36 #[.pointer (some ⟨p, 0, none⟩)]) (hs : Sc w p (allBd xs) 0) (hT : TbP p w) (ho : OkBds xs) (h0 : errBd xs = 0) (h20 : xs.length ≤ 20) :
    Calls Tryz.prog 14 #[.pointer (some ⟨b, 0, none⟩)] w (GotAllBd p (xs.map (·.1)) w) := by
  have c0 := hb.cell 0
  simp only [List.getElem?_toArray, List.getElem?_cons_zero] at c0
  have HG := Lib.hid (getall_bd hs hT ho h0 h20)
  unfold GotAllBd at HG ⊢
  clear hb hs hT ho h0 h20
  go_enter Tryz.func14, Tryz.ntmps14
  go_wp2_with (go_at_call 15; go_must ((with_reducible refine HG.out.mono ?_); intro e w1 hq; obtain ⟨v, rows, rfl, hr, hm, hg⟩ := hq; have HR := Lib.hid hr; have HG1 := Lib.hid hg; have HM := Lib.hid hm; clear hr hg hm))
  go_ret
  exact ⟨_, rows, rfl, HR.out, HM.out, HG1.out⟩

/-- The two cells of a body, by its parts. -/
abbrev TwoL (w : World) (b o : Nat) (g : Bd) (a f : Option Addr × Nat) : Prop := w.cell? ⟨b, o, none⟩ = some (.slice a.1 g.ls.length a.2) ∧ w.cell? ⟨b, o + 1, none⟩ = some (.slice f.1 g.b.length f.2)
/-- One of each of two lists, as a walk reads them; both lists. -/
abbrev TwoBd (w : World) (A A2 : Option Addr) (l l2 : List SlotBd) (b off b2 off2 k : Nat) (g : Bd) (a1 a2 c1 c2 : Option Addr × Nat) (W : World) : Prop :=
  (Below w.heap.size w W ∧ Bds W A l ∧ Bds W A2 l2) ∧ TwoL W b (off + k * 2) g a1 c1 ∧ TwoL W b2 (off2 + k * 2) g a2 c2
section
variable {w W W' : World} {A A2 : Option Addr} {l l2 : List SlotBd} {b off b2 off2 k : Nat} {g : Bd} {a1 a2 c1 c2 : Option Addr × Nat}
theorem twoBd_of (h1 : Below w.heap.size w W) (h2 : Bds W A l) (h3 : Bds W A2 l2) (hA : A = some ⟨b, off, none⟩) (hA2 : A2 = some ⟨b2, off2, none⟩) (hx : l[k]? = some (g, a1, c1)) (hy : l2[k]? = some (g, a2, c2)) : TwoBd w A A2 l l2 b off b2 off2 k g a1 a2 c1 c2 W := by
  obtain ⟨d1, o1, e1, _, p⟩ := h2.two hx
  obtain ⟨d2, o2, e2, _, q⟩ := h3.two hy
  rw [hA] at e1
  rw [hA2] at e2
  injection e1 with e1
  injection e2 with e2
  injection e1 with a1 a2
  injection e2 with a3 a4
  subst a1; subst a2; subst a3; subst a4
  exact ⟨⟨h1, h2, h3⟩, p, q⟩
theorem twoBd_on (h : TwoBd w A A2 l l2 b off b2 off2 k g a1 a2 c1 c2 W) (hA : A = some ⟨b, off, none⟩) (hA2 : A2 = some ⟨b2, off2, none⟩) (hx : l[k]? = some (g, a1, c1)) (hy : l2[k]? = some (g, a2, c2)) (hb : Below W.heap.size W W') : TwoBd w A A2 l l2 b off b2 off2 k g a1 a2 c1 c2 W' :=
  twoBd_of (h.1.1.trans (hb.mono h.1.1.size)) (h.1.2.1.below hb) (h.1.2.2.below hb) hA hA2 hx hy
/-- Both have one there, and these are alike. -/
theorem bothBd_at (hm : l.map (·.1) = l2.map (·.1)) (hk : k < l.length) : ∃ g a1 a2 c1 c2, l[k]? = some (g, a1, c1) ∧ l2[k]? = some (g, a2, c2) := by
  obtain ⟨⟨g, a1, c1⟩, hx⟩ : ∃ x, l[k]? = some x := ⟨_, List.getElem?_eq_getElem hk⟩
  have hk2 : k < l2.length := by have := congrArg List.length hm; rw [List.length_map, List.length_map] at this; omega
  obtain ⟨⟨g2, a2, c2⟩, hy⟩ : ∃ y, l2[k]? = some y := ⟨_, List.getElem?_eq_getElem hk2⟩
  have e := congrArg (fun l => l[k]?) hm
  simp only [List.getElem?_map, hx, hy, Option.map_some, Option.some.injEq] at e
  subst e
  exact ⟨g, a1, a2, c1, c2, hx, hy⟩
end
end Go.Proofs.YtebgmfjgapmpfabGreatDoor

/- The walk of BodiesPuts. -/
namespace Go.Proofs.YtebgmfjgapmpfabGreatDoor
open Go.RowKit
set_option linter.unusedVariables false
set_option maxRecDepth 100000

/-- What the law keeps: the box of its input, the bytes, the scanner's cell. -/
structure PKBd (w : World) (x : Bd) (L : Option Addr) (l : Nat) (B : Option Addr) (c : Nat) (p : Nat) (N : Nat) (Ab : Option Addr) (y : List UInt8) (b6 : Nat) (W : World) : Prop where
  bx : Whole W w.heap.size 28 (bdC x L l B c)
  ly : Lies W N Ab (cells (nums y))
  pt : Whole W b6 36 #[.pointer (some ⟨p, 0, none⟩)]
  bel : Below w.heap.size w W
  o1 : w.heap.size < p
  o2 : N ≤ p
  o3 : p < b6
  o4 : N ≤ W.heap.size
section
variable {w W W' : World} {x : Bd} {L : Option Addr} {l : Nat} {B : Option Addr} {c : Nat} {p N b6 k k' q : Nat} {M : List UInt8} {Ab : Option Addr} {y : List UInt8}
theorem PKBd.grown (h : PKBd w x L l B c p N Ab y b6 W) (hg : W.grownBy W' (some q)) (h1 : p ≤ q) (h2 : b6 ≠ q) : PKBd w x L l B c p N Ab y b6 W' := by
  obtain ⟨a1, a2, a3, a4, a5, a6, a7, a8⟩ := h
  exact ⟨a1.grown hg (by simp only [ne_eq, Option.some.injEq]; omega), a2.grown hg a8 (fun g e => by injection e with e; omega), a3.grown hg (by simp only [ne_eq, Option.some.injEq]; omega), below_new a4 hg (by omega), a5, a6, a7, Nat.le_trans a8 hg.size⟩
theorem PKBd.below (h : PKBd w x L l B c p N Ab y b6 W) (hb : Below W.heap.size W W') : PKBd w x L l B c p N Ab y b6 W' := by
  obtain ⟨a1, a2, a3, a4, a5, a6, a7, a8⟩ := h
  exact ⟨a1.below hb, a2.below hb a8, a3.below hb, a4.trans (hb.mono a4.size), a5, a6, a7, Nat.le_trans a8 hb.size⟩
/-- At the law's end. -/
structure PEBd (w : World) (x : Bd) (L : Option Addr) (l : Nat) (B : Option Addr) (c : Nat) (L2 : Option Addr) (l2 : Nat) (B2 : Option Addr) (c2 : Nat) (p : Nat) (N : Nat) (Ab : Option Addr) (y : List UInt8) (b6 g : Nat) (M : List UInt8) (k : Nat) (W : World) : Prop where
  a : PKBd w x L l B c p N Ab y b6 W
  sc : Sc W p M k
  yb : Whole W g 28 (bdC x L2 l2 B2 c2)
  st : Whole W (g + 1) 39 #[.int .i64 0, .int .i64 0]
  ylf : Los W L2 x.ls ∧ Ins W B2 x.b
theorem PEBd.below {g l2 c2 : Nat} {L2 B2 : Option Addr} (h : PEBd w x L l B c L2 l2 B2 c2 p N Ab y b6 g M k W) (hb : Below W.heap.size W W') : PEBd w x L l B c L2 l2 B2 c2 p N Ab y b6 g M k W' := ⟨h.a.below hb, h.sc.below hb, h.yb.below hb, h.st.below hb, h.ylf.1.below hb, h.ylf.2.below hb⟩
/-- .. and what it reads as. -/
abbrev PEBdc (w : World) (x : Bd) (L : Option Addr) (l : Nat) (B : Option Addr) (c : Nat) (L2 : Option Addr) (l2 : Nat) (B2 : Option Addr) (c2 : Nat) (p : Nat) (N : Nat) (Ab : Option Addr) (cb : Nat) (y : List UInt8) (b6 g : Nat) (M : List UInt8) (k : Nat) (W : World) : Prop := PEBd w x L l B c L2 l2 B2 c2 p N Ab y b6 g M k W ∧
  TwoB W w.heap.size x L l B c ∧ TwoB W g x L2 l2 B2 c2 ∧
  W.cell? ⟨g + 1, 0, none⟩ = some (.int .i64 0) ∧ W.cell? ⟨b6, 0, none⟩ = some (.pointer (some ⟨p, 0, none⟩)) ∧ (convert 32 9 (.slice Ab y.length cb)).run Tryz.prog W = .ok (.string (S y)) W
theorem PEBd.all {g l2 c2 : Nat} {L2 B2 : Option Addr} (h : PEBd w x L l B c L2 l2 B2 c2 p N Ab y b6 g M k W) (cb : Nat) : PEBdc w x L l B c L2 l2 B2 c2 p N Ab cb y b6 g M k W :=
  ⟨h, h.a.bx.bd, h.yb.bd, h.st.cell 0, h.a.pt.cell 0, str_any h.a.ly cb 9 Tryz.underlying9⟩
end
/-- The boxed input and the tables. -/
structure PStBd (w : World) (x : Bd) (L : Option Addr) (l : Nat) (B : Option Addr) (c : Nat) (W : World) : Prop where
  tb : Tabs W
  bx : BxBd w w.heap.size x L l B c W
theorem PStBd.on {w W W' : World} {x : Bd} {L : Option Addr} {l : Nat} {B : Option Addr} {c : Nat} (h : PStBd w x L l B c W) (hb : Below W.heap.size W W') : PStBd w x L l B c W' := ⟨h.tb.below hb, bxBd_on h.bx hb⟩
/-- .. seen from a later world, with its cells. -/
abbrev PStB2 (w : World) (x : Bd) (L : Option Addr) (l : Nat) (B : Option Addr) (c : Nat) (W0 W : World) : Prop := (Below W0.heap.size W0 W ∧ PStBd w x L l B c W) ∧ TwoB W w.heap.size x L l B c
theorem pst2_on {w W0 W W' : World} {x : Bd} {L : Option Addr} {l : Nat} {B : Option Addr} {c : Nat} (h : PStB2 w x L l B c W0 W) (hb : Below W.heap.size W W') : PStB2 w x L l B c W0 W' :=
  ⟨⟨h.1.1.trans (hb.mono h.1.1.size), h.1.2.on hb⟩, (bxBd_on h.1.2.bx hb).2⟩
theorem much_no {l : List I} (h : muchZ l = false) : ∀ i ∈ l, i.l.length ≤ 50 := fun i hi => by
  unfold muchZ at h
  have := List.any_eq_false.1 h i hi
  simpa using this
end Go.Proofs.YtebgmfjgapmpfabGreatDoor

/- What the rows list of the tables of package ops, as the walks want it; a world that holds them. -/
namespace Go.Proofs.YtebgmfjgapmpfabGreatDoor
set_option linter.unusedVariables false
open Go.Shelf Go.Lib

theorem laidOut : laidOutB Tryz.prog = true := by kernel_rfl
theorem own : ownKnob Tryz.prog.godebug = none := by kernel_rfl
/-- What the rows list. -/
def listed : List (String × DataW Unit) := [("creel/ops.controlNames", Rows.laid_creel_ops_controlNames), ("creel/ops.memoryNames", Rows.laid_creel_ops_memoryNames), ("creel/ops.testNames", Rows.laid_creel_ops_testNames), ("creel/ops.numberNames", Rows.laid_creel_ops_numberNames), ("creel/ops.convertNames", Rows.laid_creel_ops_convertNames), ("creel/ops.accesses", Rows.laid_creel_ops_accesses)]
theorem listed_plain (W : World) : laidMetH Tryz.prog listed W = laidMet Tryz.prog listed W := Go.MakeChecks.laidMetH_plain _ _ _ (by kernel_rfl)

theorem cInt : Tryz.prog.cellsOf 3 = 1 := by kernel_rfl
theorem cBool : Tryz.prog.cellsOf 4 = 1 := by kernel_rfl
theorem cByte : Tryz.prog.cellsOf 5 = 1 := by kernel_rfl
theorem cStr : Tryz.prog.cellsOf 9 = 1 := by kernel_rfl
theorem cAcc : Tryz.prog.cellsOf 193 = 4 := by kernel_rfl

/-- A list cut into pieces of n. -/
theorem pieces {α : Type} (n : Nat) (g : α → List Value) : ∀ (l : List α) (L : List Value), L.length = l.length * n → (∀ k a, l[k]? = some a → (L.drop (k * n)).take n = g a) → L = l.flatMap g
  | [], L, hl, _ => List.eq_nil_of_length_eq_zero (by simpa using hl)
  | x :: r, L, hl, h => by
    have h0 := h 0 x rfl
    rw [Nat.zero_mul, List.drop_zero] at h0
    have hr := pieces n g r (L.drop n) (by rw [List.length_drop, hl, List.length_cons, Nat.add_mul]; omega) (fun k a hk => by
      have := h (k + 1) a hk
      rw [List.drop_drop, ← this]
      congr 2
      rw [Nat.add_mul]
      omega)
    rw [List.flatMap_cons, ← hr, ← h0, List.take_append_drop]

theorem map_flat {α : Type} (f : α → Value) : ∀ l : List α, l.map f = l.flatMap fun a => [f a]
  | [] => rfl
  | x :: r => by rw [List.map_cons, List.flatMap_cons, map_flat f r]; rfl
section
variable {H : Type} {enc : TypeId × Value → H} {w : World} {base : Nat} {sp : Nat → Bool} {held : Bool} {fuel : Nat}
theorem strs_of {t : TypeId} {n : Nat} {cs : Array Value} {l : List (List UInt8)} {p : List MemPlace} (ht : Tryz.prog.underlying t = some (.array n 9)) (hc : Tryz.prog.cellsOf t = n) (hn : l.length = n)
    (h : DataW.trod enc Tryz.prog w base sp held fuel t cs.toList = some (.agg (l.map fun s => .lit (.string s)), p)) : cs = strs l := by
  obtain ⟨_, _, _, _, hl, _, _⟩ := DataW.trod_array ht h
  apply Array.toList_inj.1
  have e : (strs l).toList = l.flatMap fun s => [.string (S s)] := by
    show l.map _ = _
    exact map_flat _ l
  rw [e]
  refine pieces 1 _ l cs.toList (by omega) (fun k a hk => ?_)
  obtain ⟨hk', rfl⟩ := List.getElem?_eq_some_iff.1 hk
  obtain ⟨f, d, q, h1, h2⟩ := array_elem ht h k (by omega)
  rw [cStr] at h2
  obtain ⟨s, hs, he, _⟩ := DataW.trod_string Tryz.underlying9 h2
  rw [hs]
  rw [List.getElem?_map, hk] at h1
  simp only [Option.map_some, Option.some.injEq] at h1
  rw [Prod.mk.injEq] at he
  rw [← h1] at he
  have e2 : l[k] = s.data.toList := by simpa using he.1
  rw [e2, S_of]
set_option maxRecDepth 100000 in
/-- A part of the table of accesses. -/
theorem quad_of {cs : List Value} {a : AccR} {p : List MemPlace}
    (h : DataW.trod enc Tryz.prog w base sp held fuel 193 cs = some (.agg [.lit (.int .i64 a.n), .lit (.int .u8 a.t), .lit (.bool a.wr), .lit (.bool a.sg)], p)) : cs = [.int .i64 a.n, .int .u8 a.t, .bool a.wr, .bool a.sg] := by
  obtain ⟨xs, m, rfl, hx, hl, hxl, hall⟩ := DataW.trod_struct Tryz.underlying193 h
  rw [cAcc] at hl
  have h0 : DataW.trod enc Tryz.prog w base sp held m 3 ((cs.drop 0).take (Tryz.prog.cellsOf 3)) = xs[0]? := hall 0 _ rfl
  have h1 : DataW.trod enc Tryz.prog w base sp held m 5 ((cs.drop 1).take (Tryz.prog.cellsOf 5)) = xs[1]? := hall 1 _ rfl
  have h2 : DataW.trod enc Tryz.prog w base sp held m 4 ((cs.drop 2).take (Tryz.prog.cellsOf 4)) = xs[2]? := hall 2 _ rfl
  have h3 : DataW.trod enc Tryz.prog w base sp held m 4 ((cs.drop 3).take (Tryz.prog.cellsOf 4)) = xs[3]? := hall 3 _ rfl
  rw [cInt] at h0
  rw [cByte] at h1
  rw [cBool] at h2 h3
  match xs, hxl, cs, hl with
  | [x0, x1, x2, x3], _, [u0, u1, u2, u3], _ =>
    simp only [List.map_cons, List.map_nil, Prod.mk.injEq, DataW.agg.injEq, List.cons.injEq, and_true] at hx
    obtain ⟨⟨e0, e1, e2, e3⟩, _⟩ := hx
    simp only [List.drop_zero, List.drop_succ_cons, List.getElem?_cons_zero, List.getElem?_cons_succ, List.take_succ_cons, List.take_zero] at h0 h1 h2 h3
    obtain ⟨z0, y0, rfl, _⟩ := DataW.trod_int Tryz.underlying3 h0
    obtain ⟨z1, y1, rfl, _⟩ := DataW.trod_int Tryz.underlying5 h1
    obtain ⟨z2, y2, rfl⟩ := DataW.trod_bool Tryz.underlying4 h2
    obtain ⟨z3, y3, rfl⟩ := DataW.trod_bool Tryz.underlying4 h3
    have e0' : (a.n : Int) = z0 := by simpa using e0
    have e1' : (a.t : Int) = z1 := by simpa using e1
    have e2' : a.wr = z2 := by simpa using e2
    have e3' : a.sg = z3 := by simpa using e3
    rw [e0', e1', e2', e3']
    have y0' : u0 = .int .i64 z0 := by simpa using y0
    have y1' : u1 = .int .u8 z1 := by simpa using y1
    have y2' : u2 = .bool z2 := by simpa using y2
    have y3' : u3 = .bool z3 := by simpa using y3
    rw [y0', y1', y2', y3']
theorem acc_of {t : TypeId} {n : Nat} {cs : Array Value} {l : List AccR} {p : List MemPlace} (ht : Tryz.prog.underlying t = some (.array n 193)) (hc : Tryz.prog.cellsOf t = n * 4) (hn : l.length = n)
    (h : DataW.trod enc Tryz.prog w base sp held fuel t cs.toList = some (.agg (l.map fun a => .agg [.lit (.int .i64 a.n), .lit (.int .u8 a.t), .lit (.bool a.wr), .lit (.bool a.sg)]), p)) : cs = accCells l := by
  obtain ⟨_, _, _, _, hl, _, _⟩ := DataW.trod_array ht h
  apply Array.toList_inj.1
  show cs.toList = l.flatMap _
  refine pieces 4 _ l cs.toList (by omega) (fun k a hk => ?_)
  obtain ⟨hk', rfl⟩ := List.getElem?_eq_some_iff.1 hk
  obtain ⟨f, d, q, h1, h2⟩ := array_elem ht h k (by omega)
  rw [cAcc] at h2
  rw [List.getElem?_map, hk] at h1
  simp only [Option.map_some, Option.some.injEq] at h1
  subst h1
  exact quad_of h2
end
theorem heap_of {W : World} {x : String} {g : Nat} {cs : Array Value} (hg : Tryz.prog.globalNamed x = some g) (hv : W.var? Tryz.prog x = some cs) : ∃ t fr, W.heap[g]? = some (.cells cs t fr) := by
  simp only [World.var?, hg, Option.bind_some] at hv
  split at hv
  · rename_i c t fr hb
    cases hv
    exact ⟨t, fr, hb⟩
  · cases hv
theorem n0 : Tryz.prog.globalNamed "creel/ops.controlNames" = some 0 := by kernel_rfl
theorem y0 : (Tryz.prog.globals[0]?).map (·.type) = some 186 := by kernel_rfl
theorem d0 : (Rows.laid_creel_ops_controlNames : DataW Unit) = .agg (tab0.map fun s => .lit (.string s)) := by kernel_rfl
theorem t0 {W : World} (h : laidMet Tryz.prog listed W) : ∃ t fr, W.heap[0]? = some (.cells (strs tab0) t fr) := by
  obtain ⟨g, t, cs, fuel, p, hg, hty, hvar, hd⟩ := Lib.laidMet.reads h (show ("creel/ops.controlNames", Rows.laid_creel_ops_controlNames) ∈ listed from .head _)
  obtain rfl := Option.some.inj (n0.symm.trans hg)
  obtain rfl := Option.some.inj (y0.symm.trans hty)
  rw [d0] at hd
  obtain rfl := strs_of Tryz.underlying186 (by kernel_rfl) (by kernel_rfl) hd
  exact heap_of n0 hvar
theorem n1 : Tryz.prog.globalNamed "creel/ops.memoryNames" = some 1 := by kernel_rfl
theorem y1 : (Tryz.prog.globals[1]?).map (·.type) = some 187 := by kernel_rfl
theorem d1 : (Rows.laid_creel_ops_memoryNames : DataW Unit) = .agg (tab1.map fun s => .lit (.string s)) := by kernel_rfl
theorem t1 {W : World} (h : laidMet Tryz.prog listed W) : ∃ t fr, W.heap[1]? = some (.cells (strs tab1) t fr) := by
  obtain ⟨g, t, cs, fuel, p, hg, hty, hvar, hd⟩ := Lib.laidMet.reads h (show ("creel/ops.memoryNames", Rows.laid_creel_ops_memoryNames) ∈ listed from .tail _ (.head _))
  obtain rfl := Option.some.inj (n1.symm.trans hg)
  obtain rfl := Option.some.inj (y1.symm.trans hty)
  rw [d1] at hd
  obtain rfl := strs_of Tryz.underlying187 (by kernel_rfl) (by kernel_rfl) hd
  exact heap_of n1 hvar
theorem n2 : Tryz.prog.globalNamed "creel/ops.testNames" = some 2 := by kernel_rfl
theorem y2 : (Tryz.prog.globals[2]?).map (·.type) = some 188 := by kernel_rfl
theorem d2 : (Rows.laid_creel_ops_testNames : DataW Unit) = .agg (tab2.map fun s => .lit (.string s)) := by kernel_rfl
theorem t2 {W : World} (h : laidMet Tryz.prog listed W) : ∃ t fr, W.heap[2]? = some (.cells (strs tab2) t fr) := by
  obtain ⟨g, t, cs, fuel, p, hg, hty, hvar, hd⟩ := Lib.laidMet.reads h (show ("creel/ops.testNames", Rows.laid_creel_ops_testNames) ∈ listed from .tail _ (.tail _ (.head _)))
  obtain rfl := Option.some.inj (n2.symm.trans hg)
  obtain rfl := Option.some.inj (y2.symm.trans hty)
  rw [d2] at hd
  obtain rfl := strs_of Tryz.underlying188 (by kernel_rfl) (by kernel_rfl) hd
  exact heap_of n2 hvar
theorem n3 : Tryz.prog.globalNamed "creel/ops.numberNames" = some 3 := by kernel_rfl
theorem y3 : (Tryz.prog.globals[3]?).map (·.type) = some 189 := by kernel_rfl
theorem d3 : (Rows.laid_creel_ops_numberNames : DataW Unit) = .agg (tab3.map fun s => .lit (.string s)) := by kernel_rfl
theorem t3 {W : World} (h : laidMet Tryz.prog listed W) : ∃ t fr, W.heap[3]? = some (.cells (strs tab3) t fr) := by
  obtain ⟨g, t, cs, fuel, p, hg, hty, hvar, hd⟩ := Lib.laidMet.reads h (show ("creel/ops.numberNames", Rows.laid_creel_ops_numberNames) ∈ listed from .tail _ (.tail _ (.tail _ (.head _))))
  obtain rfl := Option.some.inj (n3.symm.trans hg)
  obtain rfl := Option.some.inj (y3.symm.trans hty)
  rw [d3] at hd
  obtain rfl := strs_of Tryz.underlying189 (by kernel_rfl) (by kernel_rfl) hd
  exact heap_of n3 hvar
theorem n4 : Tryz.prog.globalNamed "creel/ops.convertNames" = some 4 := by kernel_rfl
theorem y4 : (Tryz.prog.globals[4]?).map (·.type) = some 190 := by kernel_rfl
theorem d4 : (Rows.laid_creel_ops_convertNames : DataW Unit) = .agg (tab4.map fun s => .lit (.string s)) := by kernel_rfl
theorem t4 {W : World} (h : laidMet Tryz.prog listed W) : ∃ t fr, W.heap[4]? = some (.cells (strs tab4) t fr) := by
  obtain ⟨g, t, cs, fuel, p, hg, hty, hvar, hd⟩ := Lib.laidMet.reads h (show ("creel/ops.convertNames", Rows.laid_creel_ops_convertNames) ∈ listed from .tail _ (.tail _ (.tail _ (.tail _ (.head _)))))
  obtain rfl := Option.some.inj (n4.symm.trans hg)
  obtain rfl := Option.some.inj (y4.symm.trans hty)
  rw [d4] at hd
  obtain rfl := strs_of Tryz.underlying190 (by kernel_rfl) (by kernel_rfl) hd
  exact heap_of n4 hvar
theorem n5 : Tryz.prog.globalNamed "creel/ops.accesses" = some 5 := by kernel_rfl
theorem y5 : (Tryz.prog.globals[5]?).map (·.type) = some 198 := by kernel_rfl
theorem d5 : (Rows.laid_creel_ops_accesses : DataW Unit) = .agg (tabA.map fun a => .agg [.lit (.int .i64 a.n), .lit (.int .u8 a.t), .lit (.bool a.wr), .lit (.bool a.sg)]) := by kernel_rfl
theorem t5 {W : World} (h : laidMet Tryz.prog listed W) : ∃ t fr, W.heap[5]? = some (.cells (accCells tabA) t fr) := by
  obtain ⟨g, t, cs, fuel, p, hg, hty, hvar, hd⟩ := Lib.laidMet.reads h (show ("creel/ops.accesses", Rows.laid_creel_ops_accesses) ∈ listed from .tail _ (.tail _ (.tail _ (.tail _ (.tail _ (.head _))))))
  obtain rfl := Option.some.inj (n5.symm.trans hg)
  obtain rfl := Option.some.inj (y5.symm.trans hty)
  rw [d5] at hd
  obtain rfl := acc_of Tryz.underlying198 (by kernel_rfl) (by kernel_rfl) hd
  exact heap_of n5 hvar
theorem tabs_of {W : World} (h : laidMetH Tryz.prog listed W) : Tabs W := by
  rw [listed_plain] at h
  exact ⟨t0 h, t1 h, t2 h, t3 h, t4 h, t5 h⟩

/-- The settled world, the tables laid. -/
noncomputable def laidWorld (os : Os) : World :=
  let w0 := World.holding Tryz.prog os ⟨#[], #[], []⟩
  let put (h : Array Obj) (g : Nat) (cs : Array Value) : Array Obj := h.modify g fun
    | .cells _ t frozen => .cells cs t frozen
    | o => o
  let h0 := put w0.heap 0 (strs tab0)
  let h1 := put h0 1 (strs tab1)
  let h2 := put h1 2 (strs tab2)
  let h3 := put h2 3 (strs tab3)
  let h4 := put h3 4 (strs tab4)
  { w0 with heap := put h4 5 (accCells tabA) }
theorem laidWorld_met (os : Os) (args : Array Value) : laidMetH Tryz.prog listed ((laidWorld os).forCall (fun _ _ => 0) ⟨#[], args, []⟩).memory := by
  rw [listed_plain]
  exact (LaidIn.of_run (l := listed) [0, 1, 2, 3, 4, 5] 8 (by kernel_rfl) (by kernel_rfl) (by kernel_rfl) (by kernel_rfl)).met
end Go.Proofs.YtebgmfjgapmpfabGreatDoor

/- An instruction by value, its labels, a slice of bytes: opened. -/
namespace Go.Proofs.YtebgmfjgapmpfabGreatDoor
open Go.ChangeShapes Go.WideShapes Go.ChangeAt Go.RowKit Go.Joins
set_option linter.unusedVariables false
set_option maxRecDepth 100000

theorem cellsB : Tryz.prog.cellsOf 5 = 1 := by kernel_rfl
theorem cells4 : Tryz.prog.cellsOf 69 = 1 := by kernel_rfl
section
variable {H : Type} {enc : TypeId × Value → H} {W : World} {sp : Nat → Bool}
theorem ints_lie {k : IntKind} {a : Addr} {len : Nat} {zs : List Int} (hle : len ≤ zs.length) (hcell : ∀ i, i < zs.length → W.cell? (a.add i) = some (.int k (zs.getD i 0))) :
    ∀ j v, ((zs.take len).map (Value.int k))[j]? = some v → ∃ b off, some a = some (⟨b, off, none⟩ : Addr) ∧ b < W.heap.size ∧ W.cell? ⟨b, off + j, none⟩ = some v := by
  intro i v hv
  have hi : i < len := by
    have := (List.getElem?_eq_some_iff.1 hv).1
    rw [List.length_map, List.length_take] at this
    omega
  obtain ⟨b, off, spot⟩ := a
  have hsp : spot = none := by
    have h0 := hcell 0 (by omega)
    simpa [Addr.add] using World.cell?_spot h0
  subst hsp
  have hc := hcell i (by omega)
  rw [Go.WideShapes.add_plain] at hc
  refine ⟨b, off, rfl, block_lt_of_cell hc, ?_⟩
  rw [hc, ← hv, List.getElem?_map, List.getElem?_take, if_pos hi, List.getElem?_eq_getElem (by omega : i < zs.length)]
  simp [List.getD, List.getElem?_eq_getElem (by omega : i < zs.length)]
theorem open_labels {n : Nat} {v : Value} {y : DataW H × List MemPlace} (h : DataW.trod enc Tryz.prog W 0 sp true n 57 [v] = some y) :
    ∃ A c l, v = .slice A l.length c ∧ LiesL W A l ∧ (∀ d ∈ l, 0 ≤ d ∧ d ≤ 4294967295) ∧ (l.length : Int) ≤ 9223372036854775807 := by
  rcases open_ints Tryz.underlying57 Tryz.underlying69 cells4 h with ⟨hcs, _⟩ | ⟨a, l, c, zs, hcs, _, hl, hm, hz, _, hcell, hwf⟩
  · simp at hcs
    exact ⟨none, 0, [], hcs, fun j v hv => by simp [cells32] at hv, by simp, by simp⟩
  · simp at hcs
    subst hcs
    have hle : l ≤ zs.length := by rw [hz]; split <;> omega
    have hlen : (zs.take l).length = l := by rw [List.length_take]; omega
    unfold maxLen at hm
    refine ⟨some a, c, zs.take l, by rw [hlen], ints_lie hle hcell, fun d hd => ?_, by rw [hlen]; omega⟩
    have w0 := hwf d (List.mem_of_mem_take hd)
    simpa [Lit.wf, IntKind.min, IntKind.max, IntKind.signed, IntKind.bits] using w0
theorem nums_ex : ∀ r : List Int, (∀ c ∈ r, 0 ≤ c ∧ c ≤ 255) → ∃ l : List UInt8, nums l = r
  | [], _ => ⟨[], rfl⟩
  | c :: r, h => by
    obtain ⟨l, hl⟩ := nums_ex r (fun d hd => h d (List.mem_cons_of_mem _ hd))
    have hc := h c (by simp)
    refine ⟨UInt8.ofNat c.toNat :: l, ?_⟩
    unfold nums at hl ⊢
    rw [List.map_cons, hl, u8_of hc.1 hc.2]
theorem open_bytes {A : Option Addr} {len cap : Nat} {d : DataW H} {p : List MemPlace} (h : DataW.Trod enc Tryz.prog W 0 sp true 32 (.slice A len cap) d p) :
    ∃ l : List UInt8, l.length = len ∧ Lies W W.heap.size A (cells (nums l)) ∧ (A = none → cap = 0) ∧ (l.length : Int) ≤ 9223372036854775807 := by
  obtain ⟨fuel, hf⟩ := h
  rcases open_ints Tryz.underlying32 Tryz.underlying5 cellsB hf with ⟨hcs, _⟩ | ⟨a, l, c, zs, hcs, _, hl, hm, hz, _, hcell, hwf⟩
  · simp [Value.cells] at hcs
    obtain ⟨rfl, rfl, rfl⟩ := hcs
    exact ⟨[], rfl, Lies.nil, fun _ => rfl, by simp⟩
  · simp [Value.cells] at hcs
    obtain ⟨rfl, rfl, rfl⟩ := hcs
    have hle : len ≤ zs.length := by rw [hz]; split <;> omega
    have hlen : (zs.take len).length = len := by rw [List.length_take]; omega
    obtain ⟨bs, hbs⟩ := nums_ex (zs.take len) (fun d hd => by
      have w0 := hwf d (List.mem_of_mem_take hd)
      simpa [Lit.wf, IntKind.min, IntKind.max, IntKind.signed, IntKind.bits] using w0)
    have hbl : bs.length = len := by rw [← nums_length, hbs, hlen]
    unfold maxLen at hm
    refine ⟨bs, hbl, ?_, (fun e => by cases e), by rw [hbl]; omega⟩
    rw [hbs]
    exact ints_lie hle hcell
/-- The parts of an instruction. -/
theorem open_parts {n : Nat} {v0 v1 v2 v3 : Value} {y0 y1 y2 y3 : DataW H × List MemPlace}
    (h0 : DataW.trod enc Tryz.prog W 0 sp true n 5 [v0] = some y0) (h1 : DataW.trod enc Tryz.prog W 0 sp true n 56 [v1] = some y1) (h2 : DataW.trod enc Tryz.prog W 0 sp true n 56 [v2] = some y2) (h3 : DataW.trod enc Tryz.prog W 0 sp true n 57 [v3] = some y3) :
    ∃ (i : I) (A : Option Addr) (c : Nat), v0 = .int .u8 i.op.toNat ∧ v1 = .int .u64 i.a ∧ v2 = .int .u64 i.b ∧ v3 = .slice A i.l.length c ∧ i.Ok ∧ LiesL W A i.l ∧ (i.l.length : Int) ≤ 9223372036854775807 := by
  obtain ⟨x0, e0, _, w0⟩ := DataW.trod_int Tryz.underlying5 h0
  obtain ⟨x1, e1, _, w1⟩ := DataW.trod_int Tryz.underlying56 h1
  obtain ⟨x2, e2, _, w2⟩ := DataW.trod_int Tryz.underlying56 h2
  obtain ⟨A, c, l, e3, hl, hn, hm⟩ := open_labels h3
  simp only [List.cons.injEq, and_true] at e0 e1 e2
  have b0 : 0 ≤ x0 ∧ x0 ≤ 255 := by simpa [Lit.wf, IntKind.min, IntKind.max, IntKind.signed, IntKind.bits] using w0
  have b1 : 0 ≤ x1 ∧ x1 ≤ 18446744073709551615 := by simpa [Lit.wf, IntKind.min, IntKind.max, IntKind.signed, IntKind.bits] using w1
  have b2 : 0 ≤ x2 ∧ x2 ≤ 18446744073709551615 := by simpa [Lit.wf, IntKind.min, IntKind.max, IntKind.signed, IntKind.bits] using w2
  exact ⟨⟨UInt8.ofNat x0.toNat, x1, x2, l⟩, A, c, by rw [e0, u8_of b0.1 b0.2], e1, e2, e3, ⟨b1.1, b1.2, b2.1, b2.2, hn⟩, hl, hm⟩
theorem open_ins {b0 : Nat} {r : Reach} {v : Value} {d : DataW H} {p : List MemPlace} (hv : Value.okWide Tryz.prog W r b0 59 v) (h : DataW.Trod enc Tryz.prog W 0 sp true 59 v d p) :
    ∃ (i : I) (A : Option Addr) (c : Nat), v = insV i A c ∧ i.Ok ∧ LiesL W A i.l ∧ (i.l.length : Int) ≤ 9223372036854775807 := by
  obtain ⟨v0, v1, v2, v3, y0, y1, y2, y3, n, rfl, _, _, h0, h1, h2, h3⟩ := open_agg4 Tryz.underlying59 (by kernel_rfl) (by kernel_rfl) hv h
  obtain ⟨i, A, c, rfl, rfl, rfl, rfl, ho, hl, hn⟩ := open_parts h0 h1 h2 h3
  exact ⟨i, A, c, rfl, ho, hl, hn⟩
end
end Go.Proofs.YtebgmfjgapmpfabGreatDoor
