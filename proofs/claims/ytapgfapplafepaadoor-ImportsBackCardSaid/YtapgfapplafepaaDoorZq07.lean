/- What is written is read back: numbers, types, limits, globals. Of no program but for what a reading is. -/
import Derived.Test.YtapgfapplafepaaDoorZq06
import Derived.Test.YtapgfapplafepaaDoorZq01
import Derived.Lib.AppendZerosOnto
import Derived.Lib.AppendZeros
import Derived.Deep.DeepAppendWide
import Derived.LoopTactic
import Derived.Test.YtapgfapplafepaaDoorZq02
import Derived.Shelf.Unicode.WordAny
import Derived.Lib.ValidAsc
import Derived.Laws.BitsAllLaws
import Derived.Deep.QuietTactic
import Derived.BigQuiet
import Derived.Deep.LoopGhost
import Derived.Deep.DeepMust
import Derived.Deep.CutBlock
import Derived.Deep.DeepCutAuto
namespace Go.Proofs.YtapgfapplafepaaDoor
set_option maxRecDepth 100000
open Go.RowKit
set_option linter.unusedVariables false

theorem Stop.unique {M : Nat} {r : List Int} {p q : Nat} (h : Stop M r p) (g : Stop M r q) : p = q := by
  have key : ∀ {p q : Nat}, Stop M r p → Stop M r q → ¬ p < q := by
    intro p q h g hlt
    have h1 := g.leM
    have h2 := g.leR
    have e : r[p]? = some r[p] := List.getElem?_eq_getElem (by omega)
    have a := g.on p _ hlt e
    have b := h.off _ (by omega) e
    omega
  have a := key h g
  have b := key g h
  omega
theorem drop_past {l a r : List UInt8} {k : Nat} (h : l.drop k = a ++ r) : l.drop (k + a.length) = r := by
  rw [← List.drop_drop, h, List.drop_left]
theorem byteR_at {l r : List UInt8} {k : Nat} {c : UInt8} (h : l.drop k = c :: r) : byteR l k = .ok c (k + 1) := by
  have e : l[k]? = some c := by
    have := congrArg (·[0]?) h
    simpa using this
  unfold byteR
  rw [e]
theorem uintR_at {l r : List UInt8} {k n : Nat} {x : Int} (h : l.drop k = lebL x ++ r) (h0 : 0 ≤ x) (h1 : x < 2 ^ n) (n1 : 1 ≤ n) (n2 : n ≤ 64) : uintR l k n = .ok x (k + (lebL x).length) := by
  have m64 := mono2 n2
  have e64 : (2 : Int) ^ 64 = 18446744073709551616 := rfl
  have hna := lebN_least x (by omega)
  have hlen := lebL_length x
  have hnl := nums_lebL x
  obtain ⟨p, c, he, hg, hx, c0, c1, hf, hp⟩ := least_u h0 h1 n1 n2 hna
  rw [he] at hlen hnl
  rw [he] at hg
  have hd : (nums l).drop k = grps x p ++ c :: nums r := by
    have : (nums l).drop k = nums (l.drop k) := by unfold nums; rw [List.map_drop]
    rw [this, h, nums_append, hnl, hg]
    simp
  have hq : onN l k n = p := by
    have := onN_stop l k n
    rw [hd] at this
    exact this.unique (grps_stop x p _ c _ c1 (by omega))
  unfold uintR
  rw [if_pos ⟨n1, n2⟩, hq, if_neg (by omega), hd, grps_at]
  simp only
  rw [if_pos hf, grps_take, hlen]
  have e : numU (grps x p) c = x := by unfold numU; rw [low_grps, grps_length]; exact hx
  rw [e]
theorem indexR_at {l r : List UInt8} {k : Nat} {x : Int} (h : l.drop k = lebL x ++ r) (h0 : 0 ≤ x) (h1 : x ≤ 4294967295) : indexR l k = .ok x (k + (lebL x).length) :=
  uintR_at h h0 (by show x < 4294967296; omega) (by omega) (by omega)
theorem countR_at {l r : List UInt8} {k : Nat} {x : Int} (h : l.drop k = lebL x ++ r) (h0 : 0 ≤ x) (h1 : x ≤ 10000) : countR l k = .ok x (k + (lebL x).length) := by
  unfold countR atMostR
  rw [indexR_at h h0 (by omega), Res.bind_ok, if_pos h1]
theorem valR_at {l r : List UInt8} {k : Nat} {c : UInt8} (h : l.drop k = c :: r) (hc : valueZ c.toNat = 0) : valR l k = .ok c (k + 1) := by
  unfold valR
  rw [byteR_at h, Res.bind_ok, if_pos hc]
theorem valuesZ_cons {c : UInt8} {t : List UInt8} (h : valuesZ (c :: t) = 0) : valueZ c.toNat = 0 ∧ valuesZ t = 0 := by
  unfold valuesZ at h
  by_cases hc : valueZ c.toNat = 0
  · rw [if_pos hc] at h; exact ⟨hc, h⟩
  · rw [if_neg hc] at h; exact absurd h hc
theorem valsK_at {l : List UInt8} : ∀ (t r : List UInt8) (k : Nat) (acc : List UInt8), l.drop k = t ++ r → valuesZ t = 0 → valsK l t.length k acc = .ok (acc ++ t) (k + t.length)
  | [], r, k, acc, _, _ => by simp [valsK]
  | c :: t, r, k, acc, h, hv => by
    obtain ⟨h1, h2⟩ := valuesZ_cons hv
    have hd : l.drop (k + 1) = t ++ r := drop_past (a := [c]) (by simpa using h)
    have ih := valsK_at t r (k + 1) (acc ++ [c]) hd h2
    show (valR l k).bind _ = _
    rw [valR_at (by simpa using h) h1, Res.bind_ok, ih, List.append_assoc]
    simp only [List.singleton_append, List.length_cons]
    congr 1
    omega
theorem valsR_at {l t r : List UInt8} {k : Nat} (h : l.drop k = lebL t.length ++ t ++ r) (hv : valuesZ t = 0) (hl : t.length ≤ 10000) : valsR l k = .ok t (k + (lebL t.length).length + t.length) := by
  unfold valsR
  rw [List.append_assoc] at h
  rw [countR_at h (by omega) (by omega), Res.bind_ok, Int.toNat_natCast, valsK_at t r _ [] (drop_past h) hv]
  rfl
theorem funcZ_zero {p r : List UInt8} (h : funcZ p r = 0) : p.length ≤ 1000 ∧ r.length ≤ 1 ∧ valuesZ p = 0 ∧ valuesZ r = 0 := by
  unfold funcZ at h
  by_cases h1 : 1000 < p.length ∨ 1 < r.length
  · rw [if_pos h1] at h; cases h
  · rw [if_neg h1] at h
    by_cases h2 : valuesZ p = 0
    · rw [if_pos h2] at h; exact ⟨by omega, by omega, h2, h⟩
    · rw [if_neg h2] at h; exact absurd h h2
theorem funcR_at {l p r s : List UInt8} {k : Nat} (h : l.drop k = encL p r ++ s) (hz : funcZ p r = 0) : funcR l k = .ok (p, r) (k + (encL p r).length) := by
  obtain ⟨h1, h2, h3, h4⟩ := funcZ_zero hz
  have e : l.drop k = 96 :: ((lebL p.length ++ p ++ (lebL r.length ++ r ++ s))) := by rw [h]; unfold encL; simp
  have d1 : l.drop (k + 1) = lebL p.length ++ p ++ (lebL r.length ++ r ++ s) := drop_past (a := [96]) (by simpa using e)
  have d2 : l.drop (k + 1 + (lebL p.length).length + p.length) = lebL r.length ++ r ++ s := by
    have := drop_past (a := lebL p.length ++ p) d1
    rw [List.length_append, ← Nat.add_assoc] at this
    exact this
  unfold funcR tagR
  rw [byteR_at e, Res.bind_ok, if_pos (by rfl), Res.bind_ok, valsR_at d1 h3 (by omega), Res.bind_ok, valsR_at d2 h4 (by omega), Res.bind_ok, if_pos hz]
  congr 1
  unfold encL
  simp only [List.length_append, List.length_cons, List.length_nil]
  omega
theorem flagR_at {l r : List UInt8} {k : Nat} (m : Bool) (h : l.drop k = (if m then 1 else 0) :: r) : flagR l k = .ok m (k + 1) := by
  unfold flagR
  rw [byteR_at h, Res.bind_ok]
  cases m
  · rfl
  · rfl
theorem limR_at {l s : List UInt8} {k : Nat} {a b : Int} {c : Bool} (h : l.drop k = encLim a b c ++ s) (a0 : 0 ≤ a) (a1 : a ≤ 4294967295) (b0 : 0 ≤ b) (b1 : b ≤ 4294967295) (hc : c = false → b = 0) :
    limR l k = .ok (a, b, c) (k + (encLim a b c).length) := by
  unfold limR
  cases c with
  | false =>
    obtain rfl := hc rfl
    have e : l.drop k = 0 :: (lebL a ++ s) := by rw [h]; unfold encLim; simp
    have d1 : l.drop (k + 1) = lebL a ++ s := drop_past (a := [0]) (by simpa using e)
    rw [flagR_at false (by simpa using e), Res.bind_ok, indexR_at d1 a0 a1, Res.bind_ok, if_neg (by simp)]
    congr 1
    unfold encLim
    simp only [Bool.false_eq_true, if_false, List.length_append, List.length_cons, List.length_nil]
    omega
  | true =>
    have e : l.drop k = 1 :: (lebL a ++ (lebL b ++ s)) := by rw [h]; unfold encLim; simp
    have d1 : l.drop (k + 1) = lebL a ++ (lebL b ++ s) := drop_past (a := [1]) (by simpa using e)
    have d2 := drop_past d1
    rw [flagR_at true (by simpa using e), Res.bind_ok, indexR_at d1 a0 a1, Res.bind_ok, if_pos rfl, indexR_at d2 b0 b1, Res.bind_ok]
    congr 1
    unfold encLim
    simp only [if_true, List.length_append, List.length_cons, List.length_nil]
    omega
theorem globR_at {l s : List UInt8} {k : Nat} {c : UInt8} {m : Bool} (h : l.drop k = encG c.toNat m ++ s) (hc : valueZ c.toNat = 0) : globR l k = .ok (c, m) (k + 2) := by
  have e : l.drop k = c :: ((if m then 1 else 0) :: s) := by rw [h]; unfold encG; simp
  have d1 : l.drop (k + 1) = (if m then 1 else 0) :: s := drop_past (a := [c]) (by simpa using e)
  unfold globR
  rw [valR_at e hc, Res.bind_ok, flagR_at m d1, Res.bind_ok]
end Go.Proofs.YtapgfapplafepaaDoor

/- slices.Grow, slices.Concat of bytes; append of whatever lies. -/
namespace Go.Proofs.YtapgfapplafepaaDoor
open Go.RowKit
set_option linter.unusedVariables false
set_option maxRecDepth 100000

/-- append of whatever lies somewhere, nothing at all too. -/
theorem row_any {w : World} {ops : Array Oper} {rest : List Oper} {o : Oper} {a : Act} {Q : Exit → Act → World → Prop} (hgd : o.guard = none) (s x : Operand)
    (ho : o.op = .call { callee := .builtin .append, args := #[s, x], argTypes := #[31, 31] })
    (B : Nat) (v : Value) (xs : List UInt8) (hs : a.eval s = v) (hr : Row w B v xs)
    (A : Option Addr) (m c B' : Nat) (news : List UInt8) (hx : a.eval x = .slice A m c) (hl : news.length = m) (hn : Lies w B' A (cells (nums news))) (hA : A = none → c = 0)
    (hb : xs.length + news.length ≤ 1000000) (hB : B ≤ w.heap.size)
    (h : ∀ v' w', Row w' B v' (xs ++ news) → Below B w w' → wpList Tryd.prog ops Q rest (a.put o.dst v') w') : wpList Tryd.prog ops Q (o :: rest) a w := by
  by_cases hm : 0 < m
  · exact row_lies hgd s x ho B v xs hs hr A m c B' news hx hl hn hm hb hB h
  · obtain rfl : m = 0 := by omega
    have he : news = [] := List.eq_nil_of_length_eq_zero hl
    subst he
    obtain ⟨i0, hi0, hz0, hz1, hz2⟩ := info_parts infoB
    rcases A with _ | ad
    · obtain rfl := hA rfl
      refine wpList_append_own_none hgd s x 31 ho B 5 i0 1 Tryd.underlying31 hi0 v xs.length (cells (nums xs)) hs hr hx (h v w (by simpa using hr) (Below.refl _ _))
    · refine wpList_append_own w hgd s x 31 ho B 5 i0 _ 1 1 Tryd.underlying31 hi0 hz0 hz1 hz2 rfl (by omega) v xs.length (cells (nums xs)) hs hr ad 0 c [] hx rfl (by intro j u hu; cases hu) (by intro u hu; cases hu) (by unfold maxLen; omega) (by omega) hB (fun v' w' h2 h3 _ => h v' w' ?_ (Row.below hr hB h3))
      show w'.ownsRow B 5 1 v' (xs ++ []).length (cells (nums (xs ++ [])))
      rw [List.append_nil]
      simpa using h2

/-- Grow of nil: room for n bytes, none of them read. -/
def Room (w : World) (e : Ending) (w' : World) : Prop := ∃ v, e = .returned v ∧ Row w' w.heap.size v [] ∧ Below w.heap.size w w'
theorem grow_any (n : Nat) (w : World) (h0 : 0 < n) (hn : n ≤ 1000000) : Calls Tryd.prog 78 #[.slice none 0 0, .int .i64 n] w (Room w) := by
  obtain ⟨i0, hi0, hz0, hz1, hz2⟩ := info_parts infoB
  have hrz : ∀ ty, (Builtin.append_ #[31, 3] ty #[.slice none 0 0, .int .i64 n]).run Tryd.prog w = _ := fun ty =>
    Lib.run_append_grow_zeros w 31 3 ty 5 i0 _ .i64 .i64 Tryd.underlying31 Tryd.underlying3 hi0 hz0 none 0 0 [] (run_firstCells_none w.drew i0.size 0 0 0) n h0 (by omega) (by omega) (by omega) (by rw [hz2]; omega) (growslice_fits_wide (by omega) (by rw [hz2]; omega))
  simp only [Nat.zero_add] at hrz
  have hGn : n ≤ grownCap w n 0 5 := grownCap_ge w _ _ _
  have hG63 : grownCap w n 0 5 ≤ maxLen := grownCap_le_maxLen w n 0 5 (by unfold maxLen; omega)
  obtain ⟨G, hG⟩ : ∃ G, G = grownCap w n 0 5 := ⟨_, rfl⟩
  rw [← hG] at hrz hGn hG63
  clear hG
  have hend : ∀ cs : Array Value, cs.size = G → Row (w.alloc (.cells cs 5)).drew w.heap.size (.slice (some ⟨w.heap.size, 0, none⟩) 0 G) [] := fun cs hc =>
    ⟨rfl, .inr ⟨w.heap.size, G, cs, rfl, Nat.le_refl _, heap_alloc_new w _, by simp, hG63, by simp [hc], by simp [cells, nums]⟩⟩
  have hcs : (Builtin.zeroCells #[Value.int .u8 0] n ++ Builtin.zeroCells #[Value.int .u8 0] (G - n)).size = G := by
    simp only [Array.size_append, size_zeroCells]
    simp
    omega
  have HEND := Lib.hid (hend _ hcs)
  have hG2 : (G : Int) ≤ 9223372036854775807 := by unfold maxLen at hG63; omega
  have n1 : ¬ ((n : Int) < 0) := by omega
  have n2 : (n : Int) > 0 := by omega
  clear hend hcs hG63
  go_enter Tryd.func78, Tryd.ntmps78
  go_wp2_with (at_builtin; refine Lib.wpList_append_run _ rfl _ _ _ _ rfl _ _ rfl rfl _ _ (hrz _) ?_)
  go_ret
  exact ⟨_, rfl, HEND.out, ((Below.refl _ _).alloc (Nat.le_refl _) _).drew⟩

/-- Bytes that lie somewhere lie at a block. -/
theorem no_block {w : World} {B : Nat} {A : Option Addr} {l : List UInt8} (h : Lies w B A (cells (nums l))) (hA : A = none) : ¬ 0 < l.length := fun hl => by
  obtain ⟨b, off, e, _⟩ := h.at_ (i := 0) (by rw [cells_length, nums_length]; exact hl)
  rw [hA] at e
  cases e
set_option maxHeartbeats 800000 in
/-- Concat of two pieces, the first one not empty. -/
theorem concat_any {w : World} {g : Nat} {A1 A2 : Option Addr} {c1 c2 : Nat} {l1 l2 : List UInt8} (hg : Whole w g 31 #[.slice A1 l1.length c1, .slice A2 l2.length c2])
    (h1 : Lies w w.heap.size A1 (cells (nums l1))) (h2 : Lies w w.heap.size A2 (cells (nums l2))) (hA : A2 = none → c2 = 0) (n1 : 0 < l1.length) (n2 : l1.length + l2.length ≤ 1000000) :
    Calls Tryd.prog 50 #[.slice (some ⟨g, 0, none⟩) 2 2] w (BytesL (l1 ++ l2) w) := by
  have g0 : w.cell? ⟨g, 0, none⟩ = some (.slice A1 l1.length c1) := hg.cell 0
  have g1 : w.cell? ⟨g, 1, none⟩ = some (.slice A2 l2.length c2) := hg.cell 1
  obtain ⟨m1, hm1⟩ : ∃ m, m = l1.length := ⟨_, rfl⟩
  obtain ⟨m2, hm2⟩ : ∃ m, m = l2.length := ⟨_, rfl⟩
  rw [← hm1] at g0 n1 n2
  rw [← hm2] at g1 n2
  have HG := Lib.hid hg
  have H1 := Lib.hid h1
  have H2 := Lib.hid h2
  have HA := Lib.hid hA
  have HM1 := Lib.hid hm1
  have HM2 := Lib.hid hm2
  clear hg h1 h2 hA hm1 hm2
  have HGr := Lib.hid (grow_any (m1 + m2) w (by omega) n2)
  go_enter Tryd.func50, Tryd.ntmps50
  go_wp2
  go_loop [3, 11] (fun s i => (s = .int .i64 0 ∧ i = .int .i64 0) ∨ (s = .int .i64 m1 ∧ i = .int .i64 1) ∨ (s = .int .i64 ((m1 + m2 : Nat) : Int) ∧ i = .int .i64 2)) (fun _ i => 2 - (intOf i).toNat)
  case atStart => exact .inl ⟨rfl, rfl⟩
  case round =>
    rcases hrel with ⟨rfl, rfl⟩ | ⟨rfl, rfl⟩ | ⟨rfl, rfl⟩
    · go_wp2
      go_round
      case rel => exact .inr (.inl ⟨by go_num, rfl⟩)
      case measure => simp [intOf]
    · go_wp2
      go_round
      case rel => exact .inr (.inr ⟨by go_num, rfl⟩)
      case measure => simp [intOf]
    · go_wp2_with (go_at_call 78; go_must (refine HGr.out.mono ?_; intro e w1 h; obtain ⟨v1, rfl, hr1, hb1⟩ := h; have HR1 := Lib.hid hr1; have HB1 := Lib.hid hb1; clear hr1 hb1))
      go_loopw [6, 27] (fun v i wr => Below w.heap.size w wr ∧ ((Row wr w.heap.size v [] ∧ i = .int .i64 0) ∨ (Row wr w.heap.size v l1 ∧ i = .int .i64 1) ∨ (Row wr w.heap.size v (l1 ++ l2) ∧ i = .int .i64 2))) (fun _ i _ => 2 - (intOf i).toNat)
      case atStart => exact ⟨HB1.out, .inl ⟨HR1.out, rfl⟩⟩
      case round =>
        obtain ⟨hb, ⟨hr, rfl⟩ | ⟨hr, rfl⟩ | ⟨hr, rfl⟩⟩ := hrel
        · have c0 : wr.cell? ⟨g, 0, none⟩ = some (.slice A1 m1 c1) := by have := (HG.out.below hb).cell 0; rw [HM1.out]; exact this
          have HR := Lib.hid hr
          have HB := Lib.hid hb
          have hz := hb.size
          clear hr hb
          go_wp2_with (at_builtin; (refine row_any rfl _ _ rfl w.heap.size _ [] rfl HR.out A1 m1 c1 w.heap.size l1 rfl HM1.out.symm (H1.out.below HB.out (Nat.le_refl _)) (fun h => absurd n1 (by have := H1.out; cases HM1.out; exact no_block this h)) (by have := HM1.out; simp; omega) hz ?_; intro v2 w2 hr2 hb2; have HR2 := Lib.hid hr2; have HB2 := Lib.hid hb2; clear hr2 hb2))
          go_roundw
          case rel => exact ⟨HB.out.trans HB2.out, .inr (.inl ⟨by simpa using HR2.out, rfl⟩)⟩
          case measure => simp [intOf]
        · have c0 : wr.cell? ⟨g, 1, none⟩ = some (.slice A2 m2 c2) := by have := (HG.out.below hb).cell 1; rw [HM2.out]; exact this
          have HR := Lib.hid hr
          have HB := Lib.hid hb
          have hz := hb.size
          clear hr hb
          go_wp2_with (at_builtin; (refine row_any rfl _ _ rfl w.heap.size _ l1 rfl HR.out A2 m2 c2 w.heap.size l2 rfl HM2.out.symm (H2.out.below HB.out (Nat.le_refl _)) HA.out (by have := HM1.out; have := HM2.out; omega) hz ?_; intro v2 w2 hr2 hb2; have HR2 := Lib.hid hr2; have HB2 := Lib.hid hb2; clear hr2 hb2))
          go_roundw
          case rel => exact ⟨HB.out.trans HB2.out, .inr (.inr ⟨HR2.out, rfl⟩)⟩
          case measure => simp [intOf]
        · have HR := Lib.hid hr
          have HB := Lib.hid hb
          clear hr hb
          go_wp2
          go_ret
          exact ⟨_, rfl, HR.out, HB.out⟩
end Go.Proofs.YtapgfapplafepaaDoor

/- unicode/utf8.word at a slice of bytes; cuts of a slice whose capacity is its length; what is left of a text. -/
namespace Go.Proofs.YtapgfapplafepaaDoor
set_option linter.unusedVariables false
set_option maxRecDepth 100000
open Go.RowKit Go.Lib

/-- The bytes of s lie at b, from off on. -/
def Bya (w : World) (b off : Nat) (s : ByteArray) : Prop := ∀ j, j < s.size → w.cell? ⟨b, off + j, none⟩ = some (.int .u8 ((s.get! j).toNat : Int))
theorem Bya.of_bys {w : World} {b off : Nat} {l : List UInt8} (h : Bys w b off l) : Bya w b off (S l) := fun j hj => by
  have hj' : j < l.length := by rw [S_size] at hj; exact hj
  rw [h j hj', show (S l).get! j = (S l)[j]'hj from Utf8W.get!_of_lt (S l) j hj, S_get]
theorem Bya.below {w w' : World} {b off : Nat} {s : ByteArray} (h : Bya w b off s) (hb : Below w.heap.size w w') (hlt : b < w.heap.size) : Bya w' b off s := fun j hj =>
  (hb.cell (p := ⟨b, off + j, none⟩) hlt).trans (h j hj)
theorem cell_heap {w w' : World} (h : w'.heap = w.heap) (p : Addr) : w'.cell? p = w.cell? p := by unfold World.cell?; rw [h]
/-- One byte, as a number. -/
theorem Bya.byte {w : World} {b off : Nat} {s : ByteArray} (h : Bya w b off s) (j : Nat) (hj : j < s.size) : ∃ a : Nat, a < 256 ∧ (s.get! j).toNat = a ∧ w.cell? ⟨b, off + j, none⟩ = some (.int .u8 (a : Int)) :=
  ⟨_, (s.get! j).toNat_lt, rfl, h j hj⟩

theorem elemB : Tryd.prog.elem 31 = 5 := by kernel_rfl
/-- p[k:] where the capacity is the length. -/
theorem run_cut (s : ByteArray) (k : Nat) (c : Int) (hc : c = (k : Int)) (hk : k ≤ s.size) (b o : Nat) :
    ∃ o', (∀ w, (Instr.slice 31 (.slice (some ⟨b, o, none⟩) s.size s.size) (some (.int .i64 c)) none none).run Tryd.prog w = .ok (.slice (some ⟨b, o', none⟩) (s.extract k s.size).size (s.extract k s.size).size) w) ∧
      ∀ w, Bya w b o s → Bya w b o' (s.extract k s.size) := by
  subst hc
  have hz : (s.extract k s.size).size = s.size - k := Lib.ext_size s k
  have h : ∀ w, _ := fun w => run_slice_l (P := Tryd.prog) w 31 (some ⟨b, o, none⟩) s.size s.size Tryd.underlying31 .i64 (k : Int) (by omega) (by omega)
  by_cases hks : s.size = k
  · refine ⟨o, fun w => ?_, fun w _ j hj => by rw [hz] at hj; omega⟩
    rw [h w, elemB, Tryd.sizeOf5]
    simp [sliced, hks, hz]
  · refine ⟨o + k, fun w => ?_, fun w hp j hj => ?_⟩
    · rw [h w, elemB, Tryd.sizeOf5]
      simp [sliced, hks, hz, Go.WideShapes.add_plain]
    · rw [hz] at hj
      rw [Nat.add_assoc, hp (k + j) (by omega), Lib.tail_get!]
theorem run_full (n cap b o : Nat) (hn : n ≤ cap) (w : World) : (Instr.slice 31 (.slice (some ⟨b, o, none⟩) n cap) none (some (.int .i64 (n : Int))) (some (.int .i64 (n : Int)))).run Tryd.prog w = .ok (.slice (some ⟨b, o, none⟩) n n) w := by
  have h := run_slice_hm (P := Tryd.prog) w 31 (some ⟨b, o, none⟩) n cap Tryd.underlying31 .i64 .i64 (n : Int) (n : Int) (by omega) (by omega) (by omega)
  rw [h, elemB, Tryd.sizeOf5]
  simp [sliced, Go.WideShapes.add_plain]

/-- The number that the first eight bytes spell. -/
def spell (s : ByteArray) : Nat := leNat [s.get! 0, s.get! 1, s.get! 2, s.get! 3, s.get! 4, s.get! 5, s.get! 6, s.get! 7]
set_option maxHeartbeats 8000000 in
set_option maxRecDepth 100000 in
theorem word_any (s : ByteArray) (b off cap : Nat) (w : World) (hs : 8 ≤ s.size) (hp : Bya w b off s) :
    Calls Tryd.prog 113 #[.slice (some ⟨b, off, none⟩) s.size cap] w fun e w' => e = .returned (.int .u64 (spell s : Int)) ∧ ∃ q, w' = w.drewN q := by
  obtain ⟨a0, l0, e0, c0⟩ := hp.byte 0 (by omega)
  obtain ⟨a1, l1, e1, c1⟩ := hp.byte 1 (by omega)
  obtain ⟨a2, l2, e2, c2⟩ := hp.byte 2 (by omega)
  obtain ⟨a3, l3, e3, c3⟩ := hp.byte 3 (by omega)
  obtain ⟨a4, l4, e4, c4⟩ := hp.byte 4 (by omega)
  obtain ⟨a5, l5, e5, c5⟩ := hp.byte 5 (by omega)
  obtain ⟨a6, l6, e6, c6⟩ := hp.byte 6 (by omega)
  obtain ⟨a7, l7, e7, c7⟩ := hp.byte 7 (by omega)
  have hv : (spell s : Int) = (a0 : Int) + (a1 : Int) * 256 + (a2 : Int) * 65536 + (a3 : Int) * 16777216 + (a4 : Int) * 4294967296 + (a5 : Int) * 1099511627776 + (a6 : Int) * 281474976710656 + (a7 : Int) * 72057594037927936 := by
    simp only [spell, leNat, e0, e1, e2, e3, e4, e5, e6, e7]
    omega
  rw [Nat.add_zero] at c0
  have HV := Lib.hid hv
  clear hv hp e0 e1 e2 e3 e4 e5 e6 e7
  have i0 : (0 : Int) < (s.size : Int) := by omega
  have i1 : (1 : Int) < (s.size : Int) := by omega
  have i2 : (2 : Int) < (s.size : Int) := by omega
  have i3 : (3 : Int) < (s.size : Int) := by omega
  have i4 : (4 : Int) < (s.size : Int) := by omega
  have i5 : (5 : Int) < (s.size : Int) := by omega
  have i6 : (6 : Int) < (s.size : Int) := by omega
  have i7 : (7 : Int) < (s.size : Int) := by omega
  go_enter Tryd.func113, Tryd.ntmps113
  go_wp2
  go_quiet (fail)
  go_wp2
  go_ret
  exact ⟨by rw [HV.out]; simp (disch := omega) only [u64_wrap_id, u64_or8, u64_or16, u64_or24, u64_or32, u64_or40, u64_or48, u64_or56]; rfl, _, rfl⟩

/-- What is left to read: t, at o; and what it answers. -/
structure Rest (w : World) (b o : Nat) (t : ByteArray) (ans : Bool) : Prop where
  lies : Bya w b o t
  same : validD t.data.toList = ans
  most : t.size ≤ 1000000
/-- The call of word at t, in every world that has this heap. -/
abbrev Words (wq : World) (b o : Nat) (t : ByteArray) (A : Nat) : Prop := ∀ W : World, W.heap = wq.heap → Calls Tryd.prog 113 #[.slice (some ⟨b, o, none⟩) t.size t.size] W fun e w' => e = .returned (.int .u64 (A : Int)) ∧ ∃ q, w' = W.drewN q
/-- p[k:] at t is t2, at o2. -/
abbrev Cuts (b o : Nat) (t : ByteArray) (k : Int) (o2 : Nat) (t2 : ByteArray) : Prop := ∀ w, (Instr.slice 31 (.slice (some ⟨b, o, none⟩) t.size t.size) (some (.int .i64 k)) none none).run Tryd.prog w = .ok (.slice (some ⟨b, o2, none⟩) t2.size t2.size) w

section
variable {w wq : World} {b o : Nat} {t : ByteArray} {ans : Bool}
theorem Rest.cut (h : Rest w b o t ans) (k : Nat) (c : Int) (hc : c = (k : Int)) (hk : k ≤ t.size) (hv : validD (t.extract k t.size).data.toList = validD t.data.toList) :
    ∃ o' t', Cuts b o t c o' t' ∧ Rest w b o' t' ans ∧ t'.size + k = t.size := by
  obtain ⟨o', h1, h2⟩ := run_cut t k c hc hk b o
  have hz : (t.extract k t.size).size = t.size - k := Lib.ext_size t k
  exact ⟨o', _, h1, ⟨h2 w h.lies, hv.trans h.same, by have := h.most; omega⟩, by omega⟩
theorem Rest.skip (h : Rest w b o t ans) (k : Nat) (c : Int) (hc : c = (k : Int)) (hk : k ≤ t.size) (ha : Asc t k) : ∃ o' t', Cuts b o t c o' t' ∧ Rest w b o' t' ans ∧ t'.size + k = t.size :=
  h.cut k c hc hk (valid_skip t k ha)
theorem words_of (hp : Bya w b o t) (hlt : b < w.heap.size) (hb : Below w.heap.size w wq) (h8 : 8 ≤ t.size) : Words wq b o t (spell t) := fun W hW =>
  word_any t b o t.size W h8 fun j hj => (cell_heap hW _).trans (hp.below hb hlt j hj)
theorem mask_int {A : Nat} (h : A < 18446744073709551616) : bits .and .u64 (A : Int) 9259542123273814144 = ((A &&& 9259542123273814144 : Nat) : Int) := u64_and_nat A 9259542123273814144 h (by omega)
/-- One word: its test says that eight bytes are below 128. -/
theorem Rest.one (h : Rest w b o t ans) (hlt : b < w.heap.size) (hb : Below w.heap.size w wq) (h8 : 8 ≤ t.size) :
    ∃ A Z, Words wq b o t A ∧ bits .and .u64 (A : Int) 9259542123273814144 = ((Z : Nat) : Int) ∧ (Z = 0 → Asc t 8) :=
  ⟨spell t, _, words_of h.lies hlt hb h8, mask_int (word_lt t), (word_asc t h8).1⟩
/-- Two words. -/
theorem Rest.two (h : Rest w b o t ans) (hlt : b < w.heap.size) (hb : Below w.heap.size w wq) (h8 : 16 ≤ t.size) :
    ∃ o2 t2 A B O Z, Cuts b o t 8 o2 t2 ∧ Words wq b o t A ∧ Words wq b o2 t2 B ∧ bits .or .u64 (A : Int) (B : Int) = ((O : Nat) : Int) ∧ bits .and .u64 (O : Int) 9259542123273814144 = ((Z : Nat) : Int) ∧ (Z = 0 → Asc t 16) ∧ t2.size + 8 = t.size ∧ (A < 18446744073709551616 ∧ B < 18446744073709551616 ∧ O < 18446744073709551616) ∧ O &&& 9259542123273814144 = Z := by
  obtain ⟨o2, h1, h2⟩ := run_cut t 8 8 rfl (by omega) b o
  have hz : (t.extract 8 t.size).size = t.size - 8 := Lib.ext_size t 8
  have hO := Nat.or_lt_two_pow (n := 64) (word_lt t) (word_lt (t.extract 8 t.size))
  refine ⟨o2, _, spell t, spell (t.extract 8 t.size), _, _, h1, words_of h.lies hlt hb (by omega), words_of (h2 w h.lies) hlt hb (by omega), u64_or_nat _ _ (word_lt _) (word_lt _), mask_int hO, fun h0 => ?_, by omega, ⟨word_lt _, word_lt _, hO⟩, rfl⟩
  obtain ⟨e1, e2⟩ := (or_mask _ _ _).1 h0
  exact asc_add t 8 8 ((word_asc t (by omega)).1 e1) ((word_asc _ (by omega)).1 e2)
/-- Four words. -/
theorem Rest.four (h : Rest w b o t ans) (hlt : b < w.heap.size) (hb : Below w.heap.size w wq) (h8 : 32 ≤ t.size) :
    ∃ o2 t2 o3 t3 o4 t4 A B C D O1 O2 O3 Z, (Cuts b o t 8 o2 t2 ∧ Cuts b o t 16 o3 t3 ∧ Cuts b o t 24 o4 t4) ∧ (Words wq b o t A ∧ Words wq b o2 t2 B ∧ Words wq b o3 t3 C ∧ Words wq b o4 t4 D) ∧
      (bits .or .u64 (A : Int) (B : Int) = ((O1 : Nat) : Int) ∧ bits .or .u64 (C : Int) (D : Int) = ((O2 : Nat) : Int) ∧ bits .or .u64 (O1 : Int) (O2 : Int) = ((O3 : Nat) : Int) ∧ bits .and .u64 (O3 : Int) 9259542123273814144 = ((Z : Nat) : Int)) ∧
      (Z = 0 → Asc t 32) ∧ (t2.size + 8 = t.size ∧ t3.size + 16 = t.size ∧ t4.size + 24 = t.size) := by
  obtain ⟨o2, t2, A, B, O, Z, h1, h2, h3, h4, _, h6, h7, ⟨_, _, h10⟩, e1⟩ := h.two hlt hb (by omega)
  obtain ⟨o3, k1, k2⟩ := run_cut t 16 16 rfl (by omega) b o
  obtain ⟨o4, m1, m2⟩ := run_cut t 24 24 rfl (by omega) b o
  have z3 : (t.extract 16 t.size).size = t.size - 16 := Lib.ext_size t 16
  have z4 : (t.extract 24 t.size).size = t.size - 24 := Lib.ext_size t 24
  have hO2 := Nat.or_lt_two_pow (n := 64) (word_lt (t.extract 16 t.size)) (word_lt (t.extract 24 t.size))
  refine ⟨o2, t2, o3, _, o4, _, A, B, spell (t.extract 16 t.size), spell (t.extract 24 t.size), O, _, _, _, ⟨h1, k1, m1⟩, ⟨h2, h3, words_of (k2 w h.lies) hlt hb (by omega), words_of (m2 w h.lies) hlt hb (by omega)⟩,
    ⟨h4, u64_or_nat _ _ (word_lt _) (word_lt _), u64_or_nat _ _ h10 hO2, mask_int (Nat.or_lt_two_pow (n := 64) h10 hO2)⟩, fun h0 => ?_, h7, by omega, by omega⟩
  obtain ⟨f1, f2⟩ := (or_mask _ _ _).1 h0
  obtain ⟨f3, f4⟩ := (or_mask _ _ _).1 f2
  have a16 : Asc t 16 := h6 (e1.symm.trans f1)
  have a24 : Asc t 24 := asc_add t 16 8 a16 ((word_asc _ (by omega)).1 f3)
  exact asc_add t 24 8 a24 ((word_asc _ (by omega)).1 f4)
end
end Go.Proofs.YtapgfapplafepaaDoor

/- unicode/utf8.Valid at a slice of bytes. -/
namespace Go.Proofs.YtapgfapplafepaaDoor
set_option maxRecDepth 100000
open Go.RowKit Go.Lib
set_option linter.unusedVariables false

theorem below_drewV {B : Nat} {a w : World} (h : Below B a w) : ∀ q, Below B a (w.drewN q)
  | 0 => h
  | q + 1 => (below_drewV h q).drew
set_option maxRecDepth 100000 in
theorem and7f : ∀ X : Fin 256, bits .and .u8 ((X.val : Nat) : Int) 7 = ((X.val % 8 : Nat) : Int) := by decide
theorem zero_bool {Z : Nat} (h : Z = 0) : ((Z : Int) == 0) = true := by simp [h]
theorem some_bool {Z : Nat} (h : ¬ Z = 0) : ((Z : Int) == 0) = false := by simp; omega

set_option maxHeartbeats 16000000 in
set_option maxRecDepth 1000000 in
theorem valid_slice (s : ByteArray) (b off cap : Nat) (w : World) (hs : s.size ≤ 1000000) (hcap : s.size ≤ cap) (hT : Tabs w) (hp : Bya w b off s) :
    Calls Tryd.prog 104 #[.slice (some ⟨b, off, none⟩) s.size cap] w fun e w' => e = .returned (.bool (validD s.data.toList)) ∧ Below w.heap.size w w' := by
  obtain ⟨ans, hans⟩ : ∃ ans, validD s.data.toList = ans := ⟨_, rfl⟩
  rw [hans]
  have hfull := run_full s.size cap b off hcap
  have R0 := Lib.hid (show Rest w b off s ans from ⟨hp, hans, hs⟩)
  clear hp hans
  go_enter Tryd.func104, Tryd.ntmps104
  go_wp2
  clear hfull
  go_loopg [0] (s.size + 1) (fun gk v wx => Below w.heap.size w wx ∧ ∃ (t : ByteArray) (o : Nat), v = .slice (some ⟨b, o, none⟩) t.size t.size ∧ Rest w b o t ans ∧ t.size < gk)
  case atStart => exact ⟨Below.refl _ _, s, off, rfl, R0.out, by omega⟩
  case round =>
    obtain ⟨hbw, t, o, rfl, hr, hg⟩ := hrel
    clear R0
    have hmost := hr.most
    by_cases h0 : 0 < t.size
    · obtain ⟨g, rfl⟩ : ∃ g, gk = g + 1 := ⟨gk - 1, by omega⟩
      obtain ⟨a0, l0, e0, c0⟩ := hr.lies.byte 0 h0
      rw [Nat.add_zero] at c0
      have hblt : b < w.heap.size := block_lt_of_cell c0
      have hblr : b < wr.heap.size := Nat.lt_of_lt_of_le hblt hbw.size
      have h00 : (0 : Int) < (t.size : Int) := by omega
      replace c0 : wr.cell? ⟨b, o, none⟩ = some (.int .u8 (a0 : Int)) := (hbw.cell (p := ⟨b, o, none⟩) hblt).trans c0
      by_cases hasc : a0 < 128
      · have ha : (a0 : Int) < 128 := by omega
        obtain ⟨o1, t1, hc1, hr1, hz1⟩ := hr.skip 1 1 rfl (by omega) (asc_one t h0 (by rw [e0]; exact hasc))
        have R1 := Lib.hid hr1
        have m1 := hr1.most
        clear hr e0
        by_cases c8 : 8 < t1.size
        · have i8 : (8 : Int) < (t1.size : Int) := by omega
          obtain ⟨A, Z, hwA, hand, hz8⟩ := hr1.one hblt hbw (by omega)
          have HA := Lib.hid hwA
          clear hwA hr1
          by_cases hZ : Z = 0
          · have hZb := zero_bool hZ
            obtain ⟨o2, t2, hc2, hr2, hz2⟩ := R1.out.skip 8 8 rfl (by omega) (hz8 hZ)
            have R2 := Lib.hid hr2
            have m2 := hr2.most
            clear hZ hz8 hr2
            go_wp2_with (go_at_call 113; go_must (refine (HA.out _ rfl).mono ?_; rintro e w1 ⟨rfl, q1, rfl⟩))
            have hb1 : Below w.heap.size w (wr.drewN q1) := below_drewV hbw q1
            generalize wr.drewN q1 = wq at hb1 ⊢
            clear HA hbw hand hZb
            by_cases c16 : 16 < t2.size
            · have i16 : (16 : Int) < (t2.size : Int) := by omega
              have i8' : (8 : Int) ≤ (t2.size : Int) := by omega
              obtain ⟨o3, t3, A, B, O, Z, hc3, hwA, hwB, hor, hand, hz16, hz3, _, _⟩ := R2.out.two hblt hb1 (by omega)
              have HA := Lib.hid hwA
              have HB := Lib.hid hwB
              clear hwA hwB
              by_cases hZ : Z = 0
              · as_aux_lemma =>
                  have hZb := zero_bool hZ
                  obtain ⟨o4, t4, hc4, hr4, hz4⟩ := R2.out.skip 16 16 rfl (by omega) (hz16 hZ)
                  have R4 := Lib.hid hr4
                  have m4 := hr4.most
                  clear hZ hz16 hr4
                  go_quiet (first | (go_at_call 113; (with_reducible refine Calls.quiet_of (HA.out _ ?_)); rfl) | (go_at_call 113; (with_reducible refine Calls.quiet_of (HB.out _ ?_)); rfl))
                  have hb2 : Below w.heap.size w (wq.drewN nq) := below_drewV hb1 nq
                  generalize wq.drewN nq = wq2 at hb2 ⊢
                  clear HA HB hb1 hor hand hZb
                  go_wp2
                  go_loopg [0] (t4.size + 1) (fun gi v wx => Below w.heap.size w wx ∧ ∃ (u : ByteArray) (p : Nat), v = .slice (some ⟨b, p, none⟩) u.size u.size ∧ Rest w b p u ans ∧ u.size < gi ∧ u.size ≤ t4.size)
                  case atStart => exact ⟨hb2, t4, o4, rfl, R4.out, by omega, Nat.le_refl _⟩
                  case round =>
                    obtain ⟨hbu, u, p, rfl, hru, hgi, hut⟩ := hrel
                    have RU := Lib.hid hru
                    have mu := hru.most
                    clear hru
                    by_cases c32 : 32 < u.size
                    · obtain ⟨gi, rfl⟩ : ∃ g2, gk = g2 + 1 := ⟨gk - 1, by omega⟩
                      have i32 : (32 : Int) < (u.size : Int) := by omega
                      have i8 : (8 : Int) ≤ (u.size : Int) := by omega
                      have i16 : (16 : Int) ≤ (u.size : Int) := by omega
                      have i24 : (24 : Int) ≤ (u.size : Int) := by omega
                      obtain ⟨p2, u2, p3, u3, p4, u4, A, B, C, D, O1, O2, O3, Z, ⟨k2, k3, k4⟩, ⟨hwA, hwB, hwC, hwD⟩, ⟨x1, x2, x3, x4⟩, hz32, _⟩ := RU.out.four hblt hbu (by omega)
                      have HA := Lib.hid hwA
                      have HB := Lib.hid hwB
                      have HC := Lib.hid hwC
                      have HD := Lib.hid hwD
                      clear hwA hwB hwC hwD
                      by_cases hZ : Z = 0
                      · have hZb := zero_bool hZ
                        obtain ⟨p5, u5, k5, hr5, hz5⟩ := RU.out.skip 32 32 rfl (by omega) (hz32 hZ)
                        have R5 := Lib.hid hr5
                        clear hZ hz32 hr5
                        go_wp2_with fail
                        go_quiet (first | (go_at_call 113; (with_reducible refine Calls.quiet_of (HA.out _ ?_)); rfl) | (go_at_call 113; (with_reducible refine Calls.quiet_of (HB.out _ ?_)); rfl) | (go_at_call 113; (with_reducible refine Calls.quiet_of (HC.out _ ?_)); rfl) | (go_at_call 113; (with_reducible refine Calls.quiet_of (HD.out _ ?_)); rfl))
                        go_wp2
                        go_roundg gi
                        case measure => omega
                        case rel => exact ⟨below_drewV hbu nq, u5, p5, rfl, R5.out, by omega, by omega⟩
                      · have hZb := some_bool hZ
                        clear hZ hz32
                        go_wp2_with fail
                        go_quiet (first | (go_at_call 113; (with_reducible refine Calls.quiet_of (HA.out _ ?_)); rfl) | (go_at_call 113; (with_reducible refine Calls.quiet_of (HB.out _ ?_)); rfl) | (go_at_call 113; (with_reducible refine Calls.quiet_of (HC.out _ ?_)); rfl) | (go_at_call 113; (with_reducible refine Calls.quiet_of (HD.out _ ?_)); rfl))
                        go_wp2
                        go_roundg g
                        case measure => omega
                        case rel => exact ⟨below_drewV hbu nq, u, p, rfl, RU.out, by omega⟩
                    · have i32 : decide ((32 : Int) < (u.size : Int)) = false := decide_eq_false (by omega)
                      have i32' : ¬ (32 : Int) < (u.size : Int) := by omega
                      go_wp2_with fail
                      go_quiet (fail)
                      go_wp2
                      go_roundg g
                      case measure => omega
                      case rel => exact ⟨below_drewV hbu nq, u, p, rfl, RU.out, by omega⟩
              · have hZb := some_bool hZ
                clear hZ hz16
                go_quiet (first | (go_at_call 113; (with_reducible refine Calls.quiet_of (HA.out _ ?_)); rfl) | (go_at_call 113; (with_reducible refine Calls.quiet_of (HB.out _ ?_)); rfl))
                go_wp2
                go_roundg g
                case measure => omega
                case rel => exact ⟨below_drewV hb1 nq, t2, o2, rfl, R2.out, by omega⟩
            · have i16 : decide ((16 : Int) < (t2.size : Int)) = false := decide_eq_false (by omega)
              have i16' : ¬ (16 : Int) < (t2.size : Int) := by omega
              go_quiet (fail)
              go_wp2
              go_roundg g
              case measure => omega
              case rel => exact ⟨below_drewV hb1 nq, t2, o2, rfl, R2.out, by omega⟩
          · have hZb := some_bool hZ
            clear hZ hz8
            go_wp2_with (go_at_call 113; go_must (refine (HA.out _ rfl).mono ?_; rintro e w1 ⟨rfl, q1, rfl⟩))
            go_roundg g
            case measure => omega
            case rel => exact ⟨below_drewV hbw q1, t1, o1, rfl, R1.out, by omega⟩
        · have i8 : ¬ (8 : Int) < (t1.size : Int) := by omega
          go_wp2
          go_roundg g
          case measure => omega
          case rel => exact ⟨hbw, t1, o1, rfl, R1.out, by omega⟩
      · have ha : ¬ (a0 : Int) < 128 := by omega
        have hne : t.data.toList ≠ [] := fun h => by rw [Lib.size_eq, h] at h0; simp at h0
        have hlead := validD_lead t.data.toList hne (by rw [Lib.getD_get!', e0]; omega)
        rw [Lib.getD_get!', Lib.getD_get!', Lib.getD_get!', Lib.getD_get!', e0, ← Lib.size_eq, hr.same] at hlead
        have hTr : Utf8Tabs 0 1 wr := Utf8Tabs_below hT hbw
        have hX := hTr.1 a0 l0
        have hXlt : firstT a0 < 256 := by rcases firstT_cases a0 with h | h | h | h | h | h | h | h | h <;> omega
        generalize firstT a0 = X at *
        have h7 : bits .and .u8 (X : Int) 7 = ((X % 8 : Nat) : Int) := and7f ⟨X, hXlt⟩
        obtain ⟨hlo, hhi⟩ := hTr.2 (X / 16) (by omega)
        rw [Nat.mul_comm] at hlo hhi
        generalize accLo (X / 16) = LO at *
        generalize accHi (X / 16) = HI at *
        obtain ⟨x1, hx1⟩ : ∃ x, (t.get! 1).toNat = x := ⟨_, rfl⟩
        obtain ⟨x2, hx2⟩ : ∃ x, (t.get! 2).toNat = x := ⟨_, rfl⟩
        obtain ⟨x3, hx3⟩ : ∃ x, (t.get! 3).toNat = x := ⟨_, rfl⟩
        have y1 : x1 < 256 := hx1 ▸ (t.get! 1).toNat_lt
        have y2 : x2 < 256 := hx2 ▸ (t.get! 2).toNat_lt
        have y3 : x3 < 256 := hx3 ▸ (t.get! 3).toNat_lt
        rw [hx1, hx2, hx3] at hlead
        have g1 : 1 < t.size → wr.cell? ⟨b, o + 1, none⟩ = some (.int .u8 (x1 : Int)) := fun h => by rw [← hx1]; exact hr.lies.below hbw hblt 1 h
        have g2 : 2 < t.size → wr.cell? ⟨b, o + 2, none⟩ = some (.int .u8 (x2 : Int)) := fun h => by rw [← hx2]; exact hr.lies.below hbw hblt 2 h
        have g3 : 3 < t.size → wr.cell? ⟨b, o + 3, none⟩ = some (.int .u8 (x3 : Int)) := fun h => by rw [← hx3]; exact hr.lies.below hbw hblt 3 h
        have G1 := Lib.hid g1
        have G2 := Lib.hid g2
        have G3 := Lib.hid g3
        have R := Lib.hid hr
        have HT := Lib.hid hT
        clear g1 g2 g3 hr hTr hT hne hx1 hx2 hx3 e0
        by_cases s2 : X % 8 = 2
        · as_aux_lemma =>
            rw [s2] at hlead h7
            have s2' : (X : Int) % 8 = 2 := by omega
            simp only [checkN, Nat.reduceEqDiff, if_true, if_false] at hlead
            go_upto_region 18 with fail
            go_cut [103] from 85 to 103 (fun c wx => (∃ v, c = .bool v ∧ v = decide (t.size < 2 ∨ x1 < LO ∨ HI < x1)) ∧ Below w.heap.size w wx)
            case first =>
              have ways : ((t.size : Int) < 2) ∨ (¬ (t.size : Int) < 2 ∧ (x1 : Int) < (LO : Int)) ∨ (¬ (t.size : Int) < 2 ∧ ¬ (x1 : Int) < (LO : Int) ∧ (HI : Int) < (x1 : Int)) ∨ (¬ (t.size : Int) < 2 ∧ ¬ (x1 : Int) < (LO : Int) ∧ ¬ (HI : Int) < (x1 : Int)) := by omega
              rcases ways with q0 | ⟨q0, q1⟩ | ⟨q0, q1, q2⟩ | ⟨q0, q1, q2⟩
              · have b : decide (t.size < 2 ∨ x1 < LO ∨ HI < x1) = true := decide_eq_true (by omega)
                have HBO := Lib.hid b
                clear b hlead
                go_quiet (fail)
                go_wp2
                go_meet
                exact ⟨⟨_, rfl, HBO.out.symm⟩, below_drewV (hbw.alloc hbw.size _) _⟩
              · have b : decide (t.size < 2 ∨ x1 < LO ∨ HI < x1) = true := decide_eq_true (by omega)
                have c1 := G1.out (by omega)
                have j1 : (1 : Int) < (t.size : Int) := by omega
                have HBO := Lib.hid b
                clear b hlead
                go_quiet (fail)
                go_wp2
                go_meet
                exact ⟨⟨_, rfl, HBO.out.symm⟩, below_drewV (hbw.alloc hbw.size _) _⟩
              · have b : decide (t.size < 2 ∨ x1 < LO ∨ HI < x1) = true := decide_eq_true (by omega)
                have c1 := G1.out (by omega)
                have j1 : (1 : Int) < (t.size : Int) := by omega
                have HBO := Lib.hid b
                clear b hlead
                go_quiet (fail)
                go_wp2
                go_meet
                exact ⟨⟨_, rfl, HBO.out.symm⟩, below_drewV (hbw.alloc hbw.size _) _⟩
              · have b : decide (t.size < 2 ∨ x1 < LO ∨ HI < x1) = false := decide_eq_false (by omega)
                have c1 := G1.out (by omega)
                have j1 : (1 : Int) < (t.size : Int) := by omega
                have HBO := Lib.hid b
                clear b hlead
                go_quiet (fail)
                go_wp2
                go_meet
                exact ⟨⟨_, rfl, HBO.out.symm⟩, below_drewV (hbw.alloc hbw.size _) _⟩
            case rest =>
              obtain ⟨⟨v, rfl, hv⟩, hbc⟩ := hcut
              by_cases hbad : t.size < 2 ∨ x1 < LO ∨ HI < x1
              · rw [if_pos hbad] at hlead
                rw [decide_eq_true hbad] at hv
                subst hv
                subst hlead
                clear hbad
                go_wp2
                go_ret
                exact ⟨rfl, hbc⟩
              · rw [if_neg hbad] at hlead
                rw [decide_eq_false hbad] at hv
                subst hv
                obtain ⟨o2, t2, hc2, hr2, hz2⟩ := R.out.cut 2 2 rfl (by omega) (by rw [Lib.ext_list]; exact hlead.symm.trans R.out.same.symm)
                have R2 := Lib.hid hr2
                clear hbad hlead hr2
                go_wp2
                go_roundg g
                case measure => omega
                case rel => exact ⟨hbc, t2, o2, rfl, R2.out, by omega⟩
        by_cases s3 : X % 8 = 3
        · as_aux_lemma =>
            rw [s3] at hlead h7
            have s3' : (X : Int) % 8 = 3 := by omega
            simp only [checkN, Nat.reduceEqDiff, if_true, if_false] at hlead
            go_upto_region 22 with fail
            go_cut [138] from 108 to 138 (fun c wx => (∃ v, c = .bool v ∧ v = decide (t.size < 3 ∨ x1 < LO ∨ HI < x1 ∨ x2 < 128 ∨ 191 < x2)) ∧ Below w.heap.size w wx)
            case first =>
              have ways : ((t.size : Int) < 3) ∨ (¬ (t.size : Int) < 3 ∧ (x1 : Int) < (LO : Int)) ∨ (¬ (t.size : Int) < 3 ∧ ¬ (x1 : Int) < (LO : Int) ∧ (HI : Int) < (x1 : Int)) ∨ (¬ (t.size : Int) < 3 ∧ ¬ (x1 : Int) < (LO : Int) ∧ ¬ (HI : Int) < (x1 : Int) ∧ (x2 : Int) < 128) ∨ (¬ (t.size : Int) < 3 ∧ ¬ (x1 : Int) < (LO : Int) ∧ ¬ (HI : Int) < (x1 : Int) ∧ ¬ (x2 : Int) < 128 ∧ (191 : Int) < (x2 : Int)) ∨ (¬ (t.size : Int) < 3 ∧ ¬ (x1 : Int) < (LO : Int) ∧ ¬ (HI : Int) < (x1 : Int) ∧ ¬ (x2 : Int) < 128 ∧ ¬ (191 : Int) < (x2 : Int)) := by omega
              rcases ways with q0 | ⟨q0, q1⟩ | ⟨q0, q1, q2⟩ | ⟨q0, q1, q2, q3⟩ | ⟨q0, q1, q2, q3, q4⟩ | ⟨q0, q1, q2, q3, q4⟩
              · have b : decide (t.size < 3 ∨ x1 < LO ∨ HI < x1 ∨ x2 < 128 ∨ 191 < x2) = true := decide_eq_true (by omega)
                have HBO := Lib.hid b
                clear b hlead
                go_quiet (fail)
                go_wp2
                go_meet
                exact ⟨⟨_, rfl, HBO.out.symm⟩, below_drewV (hbw.alloc hbw.size _) _⟩
              · have b : decide (t.size < 3 ∨ x1 < LO ∨ HI < x1 ∨ x2 < 128 ∨ 191 < x2) = true := decide_eq_true (by omega)
                have c1 := G1.out (by omega)
                have j1 : (1 : Int) < (t.size : Int) := by omega
                have c2 := G2.out (by omega)
                have j2 : (2 : Int) < (t.size : Int) := by omega
                have HBO := Lib.hid b
                clear b hlead
                go_quiet (fail)
                go_wp2
                go_meet
                exact ⟨⟨_, rfl, HBO.out.symm⟩, below_drewV (hbw.alloc hbw.size _) _⟩
              · have b : decide (t.size < 3 ∨ x1 < LO ∨ HI < x1 ∨ x2 < 128 ∨ 191 < x2) = true := decide_eq_true (by omega)
                have c1 := G1.out (by omega)
                have j1 : (1 : Int) < (t.size : Int) := by omega
                have c2 := G2.out (by omega)
                have j2 : (2 : Int) < (t.size : Int) := by omega
                have HBO := Lib.hid b
                clear b hlead
                go_quiet (fail)
                go_wp2
                go_meet
                exact ⟨⟨_, rfl, HBO.out.symm⟩, below_drewV (hbw.alloc hbw.size _) _⟩
              · have b : decide (t.size < 3 ∨ x1 < LO ∨ HI < x1 ∨ x2 < 128 ∨ 191 < x2) = true := decide_eq_true (by omega)
                have c1 := G1.out (by omega)
                have j1 : (1 : Int) < (t.size : Int) := by omega
                have c2 := G2.out (by omega)
                have j2 : (2 : Int) < (t.size : Int) := by omega
                have HBO := Lib.hid b
                clear b hlead
                go_quiet (fail)
                go_wp2
                go_meet
                exact ⟨⟨_, rfl, HBO.out.symm⟩, below_drewV (hbw.alloc hbw.size _) _⟩
              · have b : decide (t.size < 3 ∨ x1 < LO ∨ HI < x1 ∨ x2 < 128 ∨ 191 < x2) = true := decide_eq_true (by omega)
                have c1 := G1.out (by omega)
                have j1 : (1 : Int) < (t.size : Int) := by omega
                have c2 := G2.out (by omega)
                have j2 : (2 : Int) < (t.size : Int) := by omega
                have HBO := Lib.hid b
                clear b hlead
                go_quiet (fail)
                go_wp2
                go_meet
                exact ⟨⟨_, rfl, HBO.out.symm⟩, below_drewV (hbw.alloc hbw.size _) _⟩
              · have b : decide (t.size < 3 ∨ x1 < LO ∨ HI < x1 ∨ x2 < 128 ∨ 191 < x2) = false := decide_eq_false (by omega)
                have c1 := G1.out (by omega)
                have j1 : (1 : Int) < (t.size : Int) := by omega
                have c2 := G2.out (by omega)
                have j2 : (2 : Int) < (t.size : Int) := by omega
                have HBO := Lib.hid b
                clear b hlead
                go_quiet (fail)
                go_wp2
                go_meet
                exact ⟨⟨_, rfl, HBO.out.symm⟩, below_drewV (hbw.alloc hbw.size _) _⟩
            case rest =>
              obtain ⟨⟨v, rfl, hv⟩, hbc⟩ := hcut
              by_cases hbad : t.size < 3 ∨ x1 < LO ∨ HI < x1 ∨ x2 < 128 ∨ 191 < x2
              · rw [if_pos hbad] at hlead
                rw [decide_eq_true hbad] at hv
                subst hv
                subst hlead
                clear hbad
                go_wp2
                go_ret
                exact ⟨rfl, hbc⟩
              · rw [if_neg hbad] at hlead
                rw [decide_eq_false hbad] at hv
                subst hv
                obtain ⟨o2, t2, hc2, hr2, hz2⟩ := R.out.cut 3 3 rfl (by omega) (by rw [Lib.ext_list]; exact hlead.symm.trans R.out.same.symm)
                have R2 := Lib.hid hr2
                clear hbad hlead hr2
                go_wp2
                go_roundg g
                case measure => omega
                case rel => exact ⟨hbc, t2, o2, rfl, R2.out, by omega⟩
        by_cases s4 : X % 8 = 4
        · as_aux_lemma =>
            rw [s4] at hlead h7
            have s4' : (X : Int) % 8 = 4 := by omega
            simp only [checkN, Nat.reduceEqDiff, if_true, if_false] at hlead
            go_upto_region 26 with fail
            go_cut [185] from 143 to 185 (fun c wx => (∃ v, c = .bool v ∧ v = decide (t.size < 4 ∨ x1 < LO ∨ HI < x1 ∨ x2 < 128 ∨ 191 < x2 ∨ x3 < 128 ∨ 191 < x3)) ∧ Below w.heap.size w wx)
            case first =>
              have ways : ((t.size : Int) < 4) ∨ (¬ (t.size : Int) < 4 ∧ (x1 : Int) < (LO : Int)) ∨ (¬ (t.size : Int) < 4 ∧ ¬ (x1 : Int) < (LO : Int) ∧ (HI : Int) < (x1 : Int)) ∨ (¬ (t.size : Int) < 4 ∧ ¬ (x1 : Int) < (LO : Int) ∧ ¬ (HI : Int) < (x1 : Int) ∧ (x2 : Int) < 128) ∨ (¬ (t.size : Int) < 4 ∧ ¬ (x1 : Int) < (LO : Int) ∧ ¬ (HI : Int) < (x1 : Int) ∧ ¬ (x2 : Int) < 128 ∧ (191 : Int) < (x2 : Int)) ∨ (¬ (t.size : Int) < 4 ∧ ¬ (x1 : Int) < (LO : Int) ∧ ¬ (HI : Int) < (x1 : Int) ∧ ¬ (x2 : Int) < 128 ∧ ¬ (191 : Int) < (x2 : Int) ∧ (x3 : Int) < 128) ∨ (¬ (t.size : Int) < 4 ∧ ¬ (x1 : Int) < (LO : Int) ∧ ¬ (HI : Int) < (x1 : Int) ∧ ¬ (x2 : Int) < 128 ∧ ¬ (191 : Int) < (x2 : Int) ∧ ¬ (x3 : Int) < 128 ∧ (191 : Int) < (x3 : Int)) ∨ (¬ (t.size : Int) < 4 ∧ ¬ (x1 : Int) < (LO : Int) ∧ ¬ (HI : Int) < (x1 : Int) ∧ ¬ (x2 : Int) < 128 ∧ ¬ (191 : Int) < (x2 : Int) ∧ ¬ (x3 : Int) < 128 ∧ ¬ (191 : Int) < (x3 : Int)) := by omega
              rcases ways with q0 | ⟨q0, q1⟩ | ⟨q0, q1, q2⟩ | ⟨q0, q1, q2, q3⟩ | ⟨q0, q1, q2, q3, q4⟩ | ⟨q0, q1, q2, q3, q4, q5⟩ | ⟨q0, q1, q2, q3, q4, q5, q6⟩ | ⟨q0, q1, q2, q3, q4, q5, q6⟩
              · have b : decide (t.size < 4 ∨ x1 < LO ∨ HI < x1 ∨ x2 < 128 ∨ 191 < x2 ∨ x3 < 128 ∨ 191 < x3) = true := decide_eq_true (by omega)
                have HBO := Lib.hid b
                clear b hlead
                go_quiet (fail)
                go_wp2
                go_meet
                exact ⟨⟨_, rfl, HBO.out.symm⟩, below_drewV (hbw.alloc hbw.size _) _⟩
              · have b : decide (t.size < 4 ∨ x1 < LO ∨ HI < x1 ∨ x2 < 128 ∨ 191 < x2 ∨ x3 < 128 ∨ 191 < x3) = true := decide_eq_true (by omega)
                have c1 := G1.out (by omega)
                have j1 : (1 : Int) < (t.size : Int) := by omega
                have c2 := G2.out (by omega)
                have j2 : (2 : Int) < (t.size : Int) := by omega
                have c3 := G3.out (by omega)
                have j3 : (3 : Int) < (t.size : Int) := by omega
                have HBO := Lib.hid b
                clear b hlead
                go_quiet (fail)
                go_wp2
                go_meet
                exact ⟨⟨_, rfl, HBO.out.symm⟩, below_drewV (hbw.alloc hbw.size _) _⟩
              · have b : decide (t.size < 4 ∨ x1 < LO ∨ HI < x1 ∨ x2 < 128 ∨ 191 < x2 ∨ x3 < 128 ∨ 191 < x3) = true := decide_eq_true (by omega)
                have c1 := G1.out (by omega)
                have j1 : (1 : Int) < (t.size : Int) := by omega
                have c2 := G2.out (by omega)
                have j2 : (2 : Int) < (t.size : Int) := by omega
                have c3 := G3.out (by omega)
                have j3 : (3 : Int) < (t.size : Int) := by omega
                have HBO := Lib.hid b
                clear b hlead
                go_quiet (fail)
                go_wp2
                go_meet
                exact ⟨⟨_, rfl, HBO.out.symm⟩, below_drewV (hbw.alloc hbw.size _) _⟩
              · have b : decide (t.size < 4 ∨ x1 < LO ∨ HI < x1 ∨ x2 < 128 ∨ 191 < x2 ∨ x3 < 128 ∨ 191 < x3) = true := decide_eq_true (by omega)
                have c1 := G1.out (by omega)
                have j1 : (1 : Int) < (t.size : Int) := by omega
                have c2 := G2.out (by omega)
                have j2 : (2 : Int) < (t.size : Int) := by omega
                have c3 := G3.out (by omega)
                have j3 : (3 : Int) < (t.size : Int) := by omega
                have HBO := Lib.hid b
                clear b hlead
                go_quiet (fail)
                go_wp2
                go_meet
                exact ⟨⟨_, rfl, HBO.out.symm⟩, below_drewV (hbw.alloc hbw.size _) _⟩
              · have b : decide (t.size < 4 ∨ x1 < LO ∨ HI < x1 ∨ x2 < 128 ∨ 191 < x2 ∨ x3 < 128 ∨ 191 < x3) = true := decide_eq_true (by omega)
                have c1 := G1.out (by omega)
                have j1 : (1 : Int) < (t.size : Int) := by omega
                have c2 := G2.out (by omega)
                have j2 : (2 : Int) < (t.size : Int) := by omega
                have c3 := G3.out (by omega)
                have j3 : (3 : Int) < (t.size : Int) := by omega
                have HBO := Lib.hid b
                clear b hlead
                go_quiet (fail)
                go_wp2
                go_meet
                exact ⟨⟨_, rfl, HBO.out.symm⟩, below_drewV (hbw.alloc hbw.size _) _⟩
              · have b : decide (t.size < 4 ∨ x1 < LO ∨ HI < x1 ∨ x2 < 128 ∨ 191 < x2 ∨ x3 < 128 ∨ 191 < x3) = true := decide_eq_true (by omega)
                have c1 := G1.out (by omega)
                have j1 : (1 : Int) < (t.size : Int) := by omega
                have c2 := G2.out (by omega)
                have j2 : (2 : Int) < (t.size : Int) := by omega
                have c3 := G3.out (by omega)
                have j3 : (3 : Int) < (t.size : Int) := by omega
                have HBO := Lib.hid b
                clear b hlead
                go_quiet (fail)
                go_wp2
                go_meet
                exact ⟨⟨_, rfl, HBO.out.symm⟩, below_drewV (hbw.alloc hbw.size _) _⟩
              · have b : decide (t.size < 4 ∨ x1 < LO ∨ HI < x1 ∨ x2 < 128 ∨ 191 < x2 ∨ x3 < 128 ∨ 191 < x3) = true := decide_eq_true (by omega)
                have c1 := G1.out (by omega)
                have j1 : (1 : Int) < (t.size : Int) := by omega
                have c2 := G2.out (by omega)
                have j2 : (2 : Int) < (t.size : Int) := by omega
                have c3 := G3.out (by omega)
                have j3 : (3 : Int) < (t.size : Int) := by omega
                have HBO := Lib.hid b
                clear b hlead
                go_quiet (fail)
                go_wp2
                go_meet
                exact ⟨⟨_, rfl, HBO.out.symm⟩, below_drewV (hbw.alloc hbw.size _) _⟩
              · have b : decide (t.size < 4 ∨ x1 < LO ∨ HI < x1 ∨ x2 < 128 ∨ 191 < x2 ∨ x3 < 128 ∨ 191 < x3) = false := decide_eq_false (by omega)
                have c1 := G1.out (by omega)
                have j1 : (1 : Int) < (t.size : Int) := by omega
                have c2 := G2.out (by omega)
                have j2 : (2 : Int) < (t.size : Int) := by omega
                have c3 := G3.out (by omega)
                have j3 : (3 : Int) < (t.size : Int) := by omega
                have HBO := Lib.hid b
                clear b hlead
                go_quiet (fail)
                go_wp2
                go_meet
                exact ⟨⟨_, rfl, HBO.out.symm⟩, below_drewV (hbw.alloc hbw.size _) _⟩
            case rest =>
              obtain ⟨⟨v, rfl, hv⟩, hbc⟩ := hcut
              by_cases hbad : t.size < 4 ∨ x1 < LO ∨ HI < x1 ∨ x2 < 128 ∨ 191 < x2 ∨ x3 < 128 ∨ 191 < x3
              · rw [if_pos hbad] at hlead
                rw [decide_eq_true hbad] at hv
                subst hv
                subst hlead
                clear hbad
                go_wp2
                go_ret
                exact ⟨rfl, hbc⟩
              · rw [if_neg hbad] at hlead
                rw [decide_eq_false hbad] at hv
                subst hv
                obtain ⟨o2, t2, hc2, hr2, hz2⟩ := R.out.cut 4 4 rfl (by omega) (by rw [Lib.ext_list]; exact hlead.symm.trans R.out.same.symm)
                have R2 := Lib.hid hr2
                clear hbad hlead hr2
                go_wp2
                go_roundg g
                case measure => omega
                case rel => exact ⟨hbc, t2, o2, rfl, R2.out, by omega⟩
        · have n2 : ¬ (X : Int) % 8 = 2 := by omega
          have n3 : ¬ (X : Int) % 8 = 3 := by omega
          have n4 : ¬ (X : Int) % 8 = 4 := by omega
          have m2 : (((X : Int) % 8) == 2) = false := beq_eq_false_iff_ne.2 n2
          have m3 : (((X : Int) % 8) == 3) = false := beq_eq_false_iff_ne.2 n3
          have m4 : (((X : Int) % 8) == 4) = false := beq_eq_false_iff_ne.2 n4
          simp only [checkN, s2, s3, s4, if_false] at hlead
          subst hlead
          go_wp2
          go_ret
          exact ⟨rfl, hbw.alloc hbw.size _⟩
    · have h00 : ¬ (0 : Int) < (t.size : Int) := by omega
      have hsame := hr.same
      rw [show t.data.toList = [] from List.eq_nil_of_length_eq_zero (by rw [← Lib.size_eq]; omega), validD_nil] at hsame
      subst hsame
      clear hr
      go_wp2
      go_ret
      exact ⟨rfl, hbw⟩
end Go.Proofs.YtapgfapplafepaaDoor
