/- wire.GetItems[uint32], GetIndices of any bytes: numbers behind their number, in a row of the call's own; the labels of an instruction that was read. -/
import Derived.Test.YtebgmfjgapmpfabDoorQi04
import Derived.Test.YtebgmfjgapmpfabDoorQi07
import Derived.OwnWalk
namespace Go.Proofs.YtebgmfjgapmpfabDoor
open Go.RowKit
set_option linter.unusedVariables false
set_option maxRecDepth 100000

theorem info32 : (Tryd.prog.info? 61).map (fun i => (i.zero, i.size, i.bytes)) = some (some (.int .u32 0), 1, 4) := by kernel_rfl
/-- Labels: none, or the beginning of a block of their own. -/
def LabT (W : World) (A : Option Addr) (ls : List Int) : Prop := (A = none ∧ ls = []) ∨ ∃ g cur, A = some ⟨g, 0, none⟩ ∧ Whole W g 61 cur ∧ cur.toList.take ls.length = cells32 ls
theorem LabT.keep {W W' : World} {A : Option Addr} {ls : List Int} {row : Option Nat} (h : LabT W A ls) (hg : W.grownBy W' row) (hq : ∀ a, A = some a → some a.block ≠ row) : LabT W' A ls := by
  rcases h with h | ⟨g, cur, rfl, h, ht⟩
  · exact .inl h
  · exact .inr ⟨g, cur, rfl, h.grown hg (hq _ rfl), ht⟩
theorem LabT.lies {W : World} {A : Option Addr} {ls : List Int} (h : LabT W A ls) : Lies W W.heap.size A (cells32 ls) := by
  rcases h with ⟨rfl, rfl⟩ | ⟨g, cur, rfl, h, ht⟩
  · intro j v hv; simp [cells32] at hv
  · intro j v hv
    refine ⟨g, 0, rfl, h.lt, ?_⟩
    rw [h.cell]
    rw [← ht] at hv
    have hj : j < ls.length := by have := (List.getElem?_eq_some_iff.1 hv).1; rw [List.length_take] at this; omega
    rw [List.getElem?_take, if_pos hj] at hv
    simpa using hv
theorem LabT.apart {W : World} {A : Option Addr} {ls : List Int} (h : LabT W A ls) {q : Nat} {t : TypeId} {cs : Array Value} (hw : Whole W q t cs) (ht : t ≠ 61) : ∀ a, A = some a → some a.block ≠ some q := by
  rcases h with ⟨rfl, rfl⟩ | ⟨g, cur, rfl, h, _⟩
  · intro a e; cases e
  · intro a e
    injection e with e
    subst e
    simp only [ne_eq, Option.some.injEq]
    exact fun e => hw.apart h ht e.symm
theorem own_whole {W : World} {b : Nat} {e : TypeId} {s n q : Nat} {v : Value} {xs : List Value} {t : TypeId} {cs : Array Value} (h : W.ownsRow b e s v n xs) (hw : Whole W q t cs) (ht : t ≠ e) : some q ≠ v.ownBlock := by
  rcases h.2 with ⟨rfl, _⟩ | ⟨g, cap, cur, rfl, _, hg, _⟩
  · simp [Value.ownBlock]
  · simp only [Value.ownBlock, ne_eq, Option.some.injEq]
    exact hw.apart (show Whole W g e cur from hg) ht
theorem lab_own {W : World} {b : Nat} {e : TypeId} {s n : Nat} {v : Value} {xs : List Value} {A : Option Addr} {ls : List Int} (hl : LabT W A ls) (h : W.ownsRow b e s v n xs) (ht : 61 ≠ e) : ∀ a, A = some a → some a.block ≠ v.ownBlock := by
  rcases hl with ⟨rfl, _⟩ | ⟨g, cur, rfl, hw, _⟩
  · intro a e; cases e
  · intro a e
    injection e with e
    subst e
    exact own_whole h hw ht
/-- Numbers in a row of the call's own. -/
def Row32 (W : World) (base : Nat) (v : Value) (acc : List Int) : Prop := W.ownsRow base 61 1 v acc.length (cells32 acc)
theorem Row32.nil (W : World) (base : Nat) : Row32 W base (.slice none 0 0) [] := World.ownsRow_nil W base _ 1
theorem Row32.past {W W' : World} {base b : Nat} {v : Value} {acc : List Int} (h : Row32 W base v acc) (hg : W.grownBy W' (some b)) (hb : b < base) : Row32 W' base v acc :=
  World.ownsRow.kept h hg (by
    cases hv : v.ownBlock with
    | none => exact .inl rfl
    | some k => exact .inr (by have := (World.ownsRow.lt h k hv).1; simp only [ne_eq, Option.some.injEq]; omega))
/-- What a row reads as. -/
theorem Row32.labT {W : World} {base : Nat} {v : Value} {acc : List Int} (h : Row32 W base v acc) : ∃ A c, v = .slice A acc.length c ∧ LabT W A acc ∧ ∀ a, A = some a → base ≤ a.block := by
  rcases h.2 with ⟨rfl, h0⟩ | ⟨g, cap, cur, rfl, hb, hg, _, _, _, ht⟩
  · have : acc = [] := List.eq_nil_of_length_eq_zero h0
    subst this
    exact ⟨none, 0, rfl, .inl ⟨rfl, rfl⟩, fun a e => by cases e⟩
  · exact ⟨some ⟨g, 0, none⟩, cap, rfl, .inr ⟨g, cur, rfl, hg, by rw [Nat.mul_one] at ht; exact ht⟩, fun a e => by injection e with e; subst e; exact hb⟩
/-- append of a new block of one number. -/
theorem row32_new {w : World} {ops : Array Oper} {rest : List Oper} {o : Oper} {a : Act} {Q : Exit → Act → World → Prop} (hgd : o.guard = none) (s x : Operand)
    (ho : o.op = .call { callee := .builtin .append, args := #[s, x], argTypes := #[35, 35] })
    (B : Nat) (v : Value) (acc : List Int) (hs : a.eval s = v) (hr : Row32 w B v acc) (g : Nat) (y : Int) (hx : a.eval x = .slice (some ⟨g, 0, none⟩) 1 1)
    (hg : Whole w g 61 #[.int .u32 y]) (hb : acc.length ≤ 10000) (hB : B ≤ w.heap.size)
    (h : ∀ v' w', Row32 w' B v' (acc ++ [y]) → w.grownBy w' v.ownBlock → wpList Tryd.prog ops Q rest (a.put o.dst v') w') : wpList Tryd.prog ops Q (o :: rest) a w := by
  obtain ⟨i0, hi0, hz0, hz1, hz2⟩ := info_parts info32
  refine wpList_append_own _ hgd s x _ ho B 61 i0 _ 1 4 Tryd.underlying35 hi0 hz0 hz1 hz2 rfl (by omega) v _ _ hs hr ⟨g, 0, none⟩ 1 1 [.int .u32 y] hx rfl ?_ ?_ (by unfold maxLen; omega) (by omega) hB (fun v' w' h2 h3 _ => h v' w' ?_ h3)
  · intro j u hu
    rw [Go.WideShapes.add_plain, Nat.zero_add, hg.cell]
    simpa using hu
  · intro u hu
    simp only [List.mem_cons, List.not_mem_nil, or_false] at hu
    subst hu
    rfl
  · unfold Row32
    rw [List.length_append]
    unfold cells32 at *
    rw [List.map_append]
    simpa using h2

/-- Numbers of 32 bits, one behind the other, behind those that are read. -/
noncomputable def idxK (l : List UInt8) : Nat → Nat → List Int → Res (List Int)
  | 0, q, acc => .ok acc q
  | n + 1, q, acc => (indexR l q).bind fun x q2 => idxK l n q2 (acc ++ [x])
theorem idxK_more {l : List UInt8} {n j q : Nat} {acc : List Int} (h : j < n) : idxK l (n - j) q acc = (indexR l q).bind fun x q2 => idxK l (n - (j + 1)) q2 (acc ++ [x]) := by
  rw [show n - j = n - (j + 1) + 1 by omega]; rfl
theorem idxK_at {l : List UInt8} : ∀ (ls : List Int) (k : Nat) (acc : List Int) (r : List UInt8), (∀ c ∈ ls, 0 ≤ c ∧ c ≤ 4294967295) → l.drop k = labsL ls ++ r → idxK l ls.length k acc = .ok (acc ++ ls) (k + (labsL ls).length)
  | [], k, acc, r, _, _ => by simp [idxK, labsL]
  | c :: ls, k, acc, r, hc, h => by
    have hd : l.drop k = lebL c ++ (labsL ls ++ r) := by rw [h]; unfold labsL; rw [List.flatMap_cons, List.append_assoc]
    have hb := hc c (by simp)
    have hi := indexR_at hd hb.1 hb.2
    have ih := idxK_at ls _ (acc ++ [c]) r (fun d hd => hc d (List.mem_cons_of_mem _ hd)) (drop_past hd)
    rw [List.length_cons]
    show (indexR l k).bind (fun x q2 => idxK l ls.length q2 (acc ++ [x])) = _
    rw [hi, Res.bind_ok, ih]
    unfold labsL
    rw [List.flatMap_cons, List.length_append, List.append_assoc, List.singleton_append, Nat.add_assoc]
/-- The labels, their number ahead of them. -/
noncomputable def labelsR (l : List UInt8) (k : Nat) : Res (List Int) := (countR l k).bind fun n k' => idxK l n.toNat k' []
theorem labelsR_at {l r : List UInt8} {k : Nat} {ls : List Int} (h : l.drop k = labL ls ++ r) (hl : ls.length ≤ 10000) (hc : ∀ c ∈ ls, 0 ≤ c ∧ c ≤ 4294967295) : labelsR l k = .ok ls (k + (labL ls).length) := by
  unfold labL at h ⊢
  rw [List.append_assoc] at h
  unfold labelsR
  rw [countR_at h (by omega) (by omega), Res.bind_ok, Int.toNat_natCast, idxK_at ls _ [] r hc (drop_past h), List.nil_append, List.length_append, Nat.add_assoc]
/-- Labels that were read. -/
def Labs (p : Nat) (l : List UInt8) (ls : List Int) (k : Nat) (w : World) (e : Ending) (w' : World) : Prop :=
  ∃ A c, e = .returned (.slice A ls.length c) ∧ (∀ a, A = some a → w.heap.size ≤ a.block) ∧ Sc w' p l k ∧ w.grownBy w' (some p) ∧ LabT w' A ls
/-- What GetIndices leaves behind. -/
def LabsR (p : Nat) (l : List UInt8) (r : Res (List Int)) (w : World) (e : Ending) (w' : World) : Prop := match r with
  | .ok ls k => Labs p l ls k w e w'
  | .err c a => e = .panicked (stopP c a) ∧ w.grownBy w' (some p)
/-- What holds at the head of its loop. -/
structure IxS (w : World) (p : Nat) (l : List UInt8) (k : Nat) (acc : List Int) (v : Value) (W : World) : Prop where
  sc : Sc W p l k
  g : w.grownBy W (some p)
  r : Row32 W w.heap.size v acc
section
variable {w W W' : World} {p : Nat} {l : List UInt8} {k k' : Nat} {acc : List Int} {x : Int} {v v' : Value}
theorem IxS.step (h : IxS w p l k acc v W) (hp : p < w.heap.size) (hg : W.grownBy W' (some p)) (hs : Sc W' p l k') : IxS w p l k' acc v W' :=
  ⟨hs, gb_trans h.g hg, h.r.past hg hp⟩
theorem IxS.alloc (h : IxS w p l k acc v W) (hp : p < w.heap.size) (o : Obj) : IxS w p l k acc v (W.alloc o) := h.step hp (gb_alloc (gb_refl _ _) o) (h.sc.alloc o)
theorem IxS.more (h : IxS w p l k acc v W) (hp : p < w.heap.size) (hg : W.grownBy W' v.ownBlock) (hr : Row32 W' w.heap.size v' (acc ++ [x])) : IxS w p l k (acc ++ [x]) v' W' := by
  have hlt := World.ownsRow.lt h.r
  exact ⟨h.sc.grown hg (fun e => by have := hlt p e.symm; omega) (fun g e => by have := hlt g e; omega), gb_before h.g hg (fun g e => .inr (hlt g e).1), hr⟩
end
theorem cfScI (a : Array Value) (w : World) : (callFunc 53 a).run Tryd.prog w = .ok (.enter 53 a) w := by kernel_rfl
set_option maxHeartbeats 1000000 in
theorem getItems32_any {w : World} {p : Nat} {l : List UInt8} {k : Nat} (h : Sc w p l k) :
    Calls Tryd.prog 113 #[.pointer (some ⟨p, 0, none⟩), .func (.func 53) #[] #[]] w (LabsR p l (labelsR l k) w) := by
  have hN := count_scan h
  unfold labelsR
  cases hr : countR l k with
  | err c2 a =>
    rw [hr] at hN
    rw [Res.bind_err]
    have HN := Lib.hid hN
    clear hN hr h
    have hcf := cfScI; go_enter Tryd.func113, Tryd.ntmps113
    go_wp2_with (go_at_call 120; go_must ((with_reducible refine HN.out.mono ?_); rintro e w1 ⟨rfl, hg⟩; have HG := Lib.hid hg; clear hg))
    exact ⟨rfl, rfl, HG.out⟩
  | ok v k1 =>
    rw [hr] at hN
    rw [Res.bind_ok]
    obtain ⟨v0, v1⟩ := countR_ok hr
    obtain ⟨n, rfl⟩ : ∃ n : Nat, v = n := ⟨v.toNat, by omega⟩
    rw [Int.toNat_natCast]
    have HN := Lib.hid hN
    have hp := h.lt
    obtain ⟨R, hR⟩ : ∃ R, R = idxK l n k1 [] := ⟨_, rfl⟩
    rw [← hR]
    have HR := Lib.hid hR
    clear hN hr h hR
    have hcf := cfScI; go_enter Tryd.func113, Tryd.ntmps113
    go_wp2_with (go_at_call 120; go_must ((with_reducible refine HN.out.mono ?_); rintro e w1 ⟨rfl, hs, hg⟩; have HS := Lib.hid hs; have HG := Lib.hid hg; clear hs hg))
    go_loopw [5, 8] (fun v i wr => ∃ (j q : Nat) (acc : List Int), i = .int .i64 j ∧ j ≤ n ∧ acc.length = j ∧ idxK l (n - j) q acc = R ∧ IxS w p l q acc v wr) (fun _ i _ => n - (intOf i).toNat)
    case atStart => exact ⟨0, k1, [], rfl, Nat.zero_le _, rfl, HR.out.symm, ⟨HS.out, HG.out, Row32.nil _ _⟩⟩
    case round =>
      obtain ⟨j, q, acc, rfl, hle, hj, hv, ha⟩ := hrel
      by_cases hlt : j < n
      · rw [idxK_more hlt] at hv
        have hV := index_scan ha.sc
        cases hc : indexR l q with
        | ok c q2 =>
          rw [hc] at hV hv
          rw [Res.bind_ok] at hv
          have HV := Lib.hid hV
          have HVV := Lib.hid hv
          have HA := Lib.hid ha
          have HJ := Lib.hid hj
          have hla : acc.length ≤ 10000 := by omega
          clear hV hv hc ha hj
          go_wp2_with (first
            | (go_at_call 53; go_must ((with_reducible refine HV.out.mono ?_); rintro e w2 ⟨rfl, hs, hg⟩; have HA2 := Lib.hid (HA.out.step hp hg hs); have hz2 := HA2.out.g.size; have HX := Lib.hid (Whole.made w2 61 #[.int .u32 c]); clear hs hg))
            | (at_builtin; (refine row32_new rfl _ _ rfl w.heap.size _ acc rfl (HA2.out.alloc hp _).r w2.heap.size c rfl HX.out hla (Nat.le_trans hz2 (below_box w2 _).size) ?_; intro v3 w3 hr3 hg3; have HA3 := Lib.hid ((HA2.out.alloc hp _).more hp hg3 hr3); clear hr3 hg3)))
          go_roundw
          case rel => exact ⟨j + 1, q2, acc ++ [c], by go_num, by omega, by rw [List.length_append, HJ.out, List.length_singleton], HVV.out, HA3.out⟩
          case measure => simp [intOf]; omega
        | err c a =>
          rw [hc] at hV hv
          rw [Res.bind_err] at hv
          have HV := Lib.hid hV
          subst hv
          have HG2 := Lib.hid ha.g
          clear hV hc ha hj
          go_wp2_with (go_at_call 53; go_must ((with_reducible refine HV.out.mono ?_); rintro e w2 ⟨rfl, hg⟩; have HG3 := Lib.hid hg; clear hg))
          exact ⟨rfl, rfl, gb_trans HG2.out HG3.out⟩
      · obtain rfl : j = n := by omega
        rw [Nat.sub_self] at hv
        subst hv
        obtain ⟨A, c, rfl, hl, hf⟩ := ha.r.labT
        have HA := Lib.hid ha
        have HL := Lib.hid hl
        have HF := Lib.hid hf
        clear ha hl hf hj HR
        go_wp2
        go_ret
        exact ⟨A, c, rfl, HF.out, HA.out.sc, HA.out.g, HL.out⟩
theorem getLabels_any {w : World} {p : Nat} {l : List UInt8} {k : Nat} (h : Sc w p l k) :
    Calls Tryd.prog 97 #[.pointer (some ⟨p, 0, none⟩)] w (LabsR p l (labelsR l k) w) := by
  have HI := getItems32_any h
  clear h
  cases hr : labelsR l k with
  | err c a =>
    rw [hr] at HI
    have HI := Lib.hid HI
    clear hr
    go_enter Tryd.func97, Tryd.ntmps97
    go_wp2_with (go_at_call 113; go_must ((with_reducible refine HI.out.mono ?_); rintro e w1 ⟨rfl, hg⟩; have HG := Lib.hid hg; clear hg))
    exact ⟨rfl, rfl, HG.out⟩
  | ok ls k2 =>
    rw [hr] at HI
    have HI := Lib.hid (show Calls Tryd.prog 113 _ w (Labs p l ls k2 w) from HI)
    clear hr
    go_enter Tryd.func97, Tryd.ntmps97
    go_wp2_with (go_at_call 113; go_must ((with_reducible refine HI.out.mono ?_); intro e w1 h; obtain ⟨A, c, rfl, hf, hs, hg, hl⟩ := h; have HF := Lib.hid hf; have HS := Lib.hid hs; have HG := Lib.hid hg; have HL := Lib.hid hl; clear hf hs hg hl))
    go_ret
    exact ⟨A, c, rfl, HF.out, HS.out, HG.out, HL.out⟩
theorem getLabels_ok {w : World} {p : Nat} {l r : List UInt8} {k : Nat} {ls : List Int} (hs : Sc w p l k) (h : l.drop k = labL ls ++ r) (hl : ls.length ≤ 10000) (hc : ∀ c ∈ ls, 0 ≤ c ∧ c ≤ 4294967295) :
    Calls Tryd.prog 97 #[.pointer (some ⟨p, 0, none⟩)] w (Labs p l ls (k + (labL ls).length) w) := by
  have h1 := getLabels_any hs
  rw [labelsR_at h hl hc] at h1
  exact h1
end Go.Proofs.YtebgmfjgapmpfabDoor

/- The scanner's At and Int; getOp, getBlock, getNumber, wire.Nought of bytes that are right. -/
namespace Go.Proofs.YtebgmfjgapmpfabDoor
open Go.RowKit
set_option linter.unusedVariables false
set_option maxRecDepth 100000

/-- The tables lie below p, and nothing there has turned. -/
def TbP (p : Nat) (w : World) : Prop := ∃ W0, Tabs W0 ∧ W0.heap.size ≤ p ∧ Below W0.heap.size W0 w
theorem TbP.tabs {p : Nat} {w : World} (h : TbP p w) : Tabs w := by
  obtain ⟨W0, h1, _, h3⟩ := h
  exact h1.below h3
theorem TbP.of {p : Nat} {w : World} (h : Tabs w) (hp : w.heap.size ≤ p) : TbP p w := ⟨w, h, hp, Below.refl _ _⟩
theorem TbP.grown {p : Nat} {w w' : World} {row : Option Nat} (h : TbP p w) (hg : w.grownBy w' row) (hr : ∀ g, row = some g → p ≤ g) : TbP p w' := by
  obtain ⟨W0, h1, h2, h3⟩ := h
  exact ⟨W0, h1, h2, Below.grown h3 hg h3.size (fun g e => Nat.le_trans h2 (hr g e))⟩
theorem TbP.below {p B : Nat} {w w' : World} (h : TbP p w) (hb : Below B w w') (hB : p ≤ B) : TbP p w' := by
  obtain ⟨W0, h1, h2, h3⟩ := h
  exact ⟨W0, h1, h2, h3.trans (hb.mono (Nat.le_trans h2 hB))⟩
theorem TbP.self {p : Nat} {w w' : World} (h : TbP p w) (hg : w.grownBy w' (some p)) : TbP p w' := h.grown hg (fun g e => by injection e with e; omega)

theorem at_any {w : World} {p : Nat} {l : List UInt8} {k : Nat} (h : Sc w p l k) : Calls Tryd.prog 54 #[.pointer (some ⟨p, 0, none⟩)] w fun e w' => e = .returned (.int .i64 k) ∧ w = w' := by
  have c1 := h.at
  clear h
  go_enter Tryd.func54, Tryd.ntmps54
  go_wp2
  go_ret
  exact ⟨rfl, rfl⟩
abbrev encS64 (v : Int) : Value := .int .i64 v
theorem readI_at {w : World} {B : Nat} {A : Option Addr} {cap : Nat} {l r : List UInt8} {k n : Nat} {x : Int} (hl : Lies w B A (cells (nums l))) (hc : l.length ≤ cap) (hm : cap ≤ maxLen) (h : l.drop k = sebL x ++ r)
    (h0 : -2 ^ (n - 1) ≤ x) (h1 : x < 2 ^ (n - 1)) (n1 : 1 ≤ n) (n2 : n ≤ 64) (hk : k ≤ l.length) :
    Calls Tryd.prog 115 #[.slice A l.length cap, .int .i64 k, .int .i64 n] w fun e w' => e = .returned (.tuple #[.int .i64 x, .int .i64 ((k + (sebL x).length : Nat) : Int), .int .i64 0]) ∧ w = w' := by
  have m63 : (2 : Int) ^ (n - 1) ≤ 2 ^ 63 := mono2 (by omega)
  have e63 : (2 : Int) ^ 63 = 9223372036854775808 := rfl
  have hna := sebN_least x (by omega) (by omega)
  have hlen := sebL_length x
  have hnl := nums_sebL x
  obtain ⟨p, c, he, hg, hx, c0, c1, hf, hp⟩ := least_s h0 h1 n1 n2 hna
  rw [he] at hlen hnl
  have hd : (nums l).drop k = grps x p ++ c :: nums r := by
    have : (nums l).drop k = nums (l.drop k) := by unfold nums; rw [List.map_drop]
    rw [this, h, nums_append, hnl, ← he, hg]
    simp
  have hS : Stop ((n + 6) / 7) ((nums l).drop k) p := by rw [hd]; exact grps_stop x p _ c _ c1 (by omega)
  have hpc : ((nums l).drop k)[p]? = some c := by rw [hd]; exact grps_at x p c _
  have hN := nums_length l
  rw [← hN] at hc hk ⊢
  refine (ri_ok (nums l) A cap B k n p c w hl (nums_wf l) hc hm hk n1 n2 hS hp hpc hf).mono ?_
  rintro e w' ⟨rfl, rfl⟩
  refine ⟨?_, rfl⟩
  have e1 : numS (((nums l).drop k).take p) c = x := by
    rw [hd, grps_take]
    unfold numS
    rw [low_grps, grps_length]
    exact hx
  rw [e1, hlen]
  simp
set_option maxHeartbeats 800000 in
theorem numberI_scan {w : World} {p : Nat} {l r : List UInt8} {k n : Nat} {x : Int} (hs : Sc w p l k) (h : l.drop k = sebL x ++ r) (h0 : -2 ^ (n - 1) ≤ x) (h1 : x < 2 ^ (n - 1)) (n1 : 1 ≤ n) (n2 : n ≤ 64) :
    Calls Tryd.prog 114 #[.pointer (some ⟨p, 0, none⟩), .int .i64 n, .func (.func 115) #[] #[]] w (Did encS64 p l w (.ok x (k + (sebL x).length))) := by
  have c1 := hs.at
  obtain ⟨A, cap, c0, hl, hc, hm⟩ := hs.data
  have hU : ∀ m, _ := fun m => readI_at (w := w.drewN m) (n := n) hl hc hm h h0 h1 n1 n2 hs.le.1
  have HK : Hid (k + (sebL x).length ≤ l.length) := by
    have := congrArg List.length h
    have hk := hs.le.1
    rw [List.length_drop, List.length_append] at this
    show _ ≤ _
    omega
  have HU := Lib.hid hU
  have HS := Lib.hid hs
  have f1 := hs.free
  obtain ⟨k', hk'⟩ : ∃ k', k' = k + (sebL x).length := ⟨_, rfl⟩
  rw [← hk'] at HU HK ⊢
  clear hU hl hs h hk'
  go_enter Tryd.func114, Tryd.ntmps114
  go_wp2
  go_quiet (first
    | (go_at_call 115; exact (HU.out _).mono fun _ _ h => ⟨h.1, _, h.2.symm⟩))
  go_wp2_with (go_at_call 55; go_must ((with_reducible refine (unlessT _ _ _).mono ?_); rintro e w' ⟨rfl, rfl⟩))
  go_ret
  exact ⟨rfl, HS.out.moved nq k' k' rfl HK.out⟩
theorem int_scan {w : World} {p : Nat} {l r : List UInt8} {k n : Nat} {x : Int} (hs : Sc w p l k) (h : l.drop k = sebL x ++ r) (h0 : -2 ^ (n - 1) ≤ x) (h1 : x < 2 ^ (n - 1)) (n1 : 1 ≤ n) (n2 : n ≤ 64) :
    Calls Tryd.prog 99 #[.pointer (some ⟨p, 0, none⟩), .int .i64 n] w (Did encS64 p l w (.ok x (k + (sebL x).length))) := by
  have HN := Lib.hid (numberI_scan hs h h0 h1 n1 n2)
  clear hs h h0 h1
  generalize k + (sebL x).length = k' at *
  go_enter Tryd.func99, Tryd.ntmps99
  go_wp2_with (go_at_call 114; go_must ((with_reducible refine HN.out.mono ?_); rintro e w1 ⟨rfl, hs, hg⟩; have HS := Lib.hid hs; have HG := Lib.hid hg; clear hs hg))
  go_ret
  exact ⟨rfl, HS.out, HG.out⟩

theorem getOp_ok {w : World} {p : Nat} {l r : List UInt8} {k : Nat} {c : UInt8} (hs : Sc w p l k) (hT : TbP p w) (h : l.drop k = c :: r) (hc : checkR c.toNat = 0) :
    Calls Tryd.prog 95 #[.pointer (some ⟨p, 0, none⟩)] w (Did encB p l w (.ok c (k + 1))) := by
  have hB := byte_any hs
  rw [byteR_at h] at hB
  have HB := Lib.hid hB
  have HA := Lib.hid (at_any hs)
  have HT := Lib.hid hT
  have HC := Lib.hid (fun W (h : Tabs W) => by have := check_any c.toNat W h (by have := c.toNat_lt; omega); rw [hc] at this; exact this)
  clear hs hT h hB hc
  go_enter Tryd.func95, Tryd.ntmps95
  go_wp2_with (first
    | (go_at_call 54; go_must ((with_reducible refine HA.out.mono ?_); rintro e w' ⟨rfl, rfl⟩))
    | (go_at_call 74; go_must ((with_reducible refine HB.out.mono ?_); rintro e w1 ⟨rfl, hs, hg⟩; have HS := Lib.hid hs; have HG := Lib.hid hg; clear hs hg))
    | (go_at_call 71; go_must ((with_reducible refine (HC.out _ (HT.out.self HG.out).tabs).mono ?_); rintro e w' ⟨rfl, rfl⟩))
    | (go_at_call 55; go_must ((with_reducible refine (unlessT _ _ _).mono ?_); rintro e w' ⟨rfl, rfl⟩)))
  go_ret
  exact ⟨rfl, HS.out, HG.out⟩
theorem getBlock_ok {w : World} {p : Nat} {l r : List UInt8} {k : Nat} {c : UInt8} (hs : Sc w p l k) (h : l.drop k = c :: r) (hc : blockZ c.toNat = 0) :
    Calls Tryd.prog 96 #[.pointer (some ⟨p, 0, none⟩)] w (Did enc64 p l w (.ok c.toNat (k + 1))) := by
  have hB := byte_any hs
  rw [byteR_at h] at hB
  have HB := Lib.hid hB
  have HA := Lib.hid (at_any hs)
  have hw : IntKind.u64.wrap (c.toNat : Int) = c.toNat := by have := c.toNat_lt; simp [IntKind.wrap, IntKind.bits, IntKind.signed]; omega
  have HC := Lib.hid (fun W => by have := block_any c.toNat W (by omega); rw [hc] at this; exact this)
  clear hs h hB hc
  go_enter Tryd.func96, Tryd.ntmps96
  go_wp2_with (first
    | (go_at_call 54; go_must ((with_reducible refine HA.out.mono ?_); rintro e w' ⟨rfl, rfl⟩))
    | (go_at_call 74; go_must ((with_reducible refine HB.out.mono ?_); rintro e w1 ⟨rfl, hs, hg⟩; have HS := Lib.hid hs; have HG := Lib.hid hg; clear hs hg))
    | (go_at_call 93; go_must ((with_reducible refine (HC.out _).mono ?_); rintro e w' ⟨rfl, rfl⟩))
    | (go_at_call 55; go_must ((with_reducible refine (unlessT _ _ _).mono ?_); rintro e w' ⟨rfl, rfl⟩)))
  go_ret
  exact ⟨rfl, HS.out, HG.out⟩
theorem getNumber_ok {w : World} {p : Nat} {l r : List UInt8} {k : Nat} {x : Int} (hs : Sc w p l k) (h : l.drop k = lebL x ++ r) (h0 : 0 ≤ x) (h1 : x ≤ 4294967295) :
    Calls Tryd.prog 98 #[.pointer (some ⟨p, 0, none⟩)] w (Did enc64 p l w (.ok x (k + (lebL x).length))) := by
  have hN := index_scan hs
  rw [indexR_at h h0 h1] at hN
  have HN := Lib.hid hN
  have hw : IntKind.u64.wrap x = x := by simp [IntKind.wrap, IntKind.bits, IntKind.signed]; omega
  generalize k + (lebL x).length = k' at *
  clear hs h hN
  go_enter Tryd.func98, Tryd.ntmps98
  go_wp2_with (go_at_call 53; go_must ((with_reducible refine HN.out.mono ?_); rintro e w1 ⟨rfl, hs, hg⟩; have HS := Lib.hid hs; have HG := Lib.hid hg; clear hs hg))
  go_ret
  exact ⟨rfl, HS.out, HG.out⟩
theorem getNought_ok {w : World} {p : Nat} {l r : List UInt8} {k : Nat} (hs : Sc w p l k) (h : l.drop k = 0 :: r) :
    Calls Tryd.prog 51 #[.pointer (some ⟨p, 0, none⟩)] w (Did encU p l w (.ok () (k + 1))) := by
  have hB := byte_any hs
  rw [byteR_at h] at hB
  have HB := Lib.hid hB
  have HA := Lib.hid (at_any hs)
  clear hs h hB
  go_enter Tryd.func51, Tryd.ntmps51
  go_wp2_with (first
    | (go_at_call 54; go_must ((with_reducible refine HA.out.mono ?_); rintro e w' ⟨rfl, rfl⟩))
    | (go_at_call 74; go_must ((with_reducible refine HB.out.mono ?_); rintro e w1 ⟨rfl, hs, hg⟩; have HS := Lib.hid hs; have HG := Lib.hid hg; clear hs hg))
    | (go_at_call 55; go_must ((with_reducible refine (unlessT _ _ _).mono ?_); rintro e w' ⟨rfl, rfl⟩)))
  go_end0
  exact ⟨rfl, HS.out, HG.out⟩
end Go.Proofs.YtebgmfjgapmpfabDoor

/- Of any bytes, errors and their places too: Scanner.Int, getOp, getBlock, getNumber, getNought. (For a later seat: ConstsReads.) -/
namespace Go.Proofs.YtebgmfjgapmpfabDoor
open Go.RowKit
set_option linter.unusedVariables false
set_option maxRecDepth 100000

/-- A number of n bits, with a sign. -/
noncomputable def intR (l : List UInt8) (k n : Nat) : Res Int :=
  if 1 ≤ n ∧ n ≤ 64 then
    if onN l k n = (n + 6) / 7 then .err 3 k else
      match ((nums l).drop k)[onN l k n]? with
      | none => .err 2 k
      | some c => if sg c / 2 ^ (n - 7 * onN l k n - 1) = 0 ∨ sg c / 2 ^ (n - 7 * onN l k n - 1) = -1 then .ok (numS (((nums l).drop k).take (onN l k n)) c) (k + (onN l k n + 1)) else .err 3 k
  else .err 1 k
theorem intR_err {l : List UInt8} {k n : Nat} {c a : Int} (h : intR l k n = .err c a) : a = k ∧ (c = 1 ∨ c = 2 ∨ c = 3) := by
  unfold intR at h
  repeat' split at h
  all_goals first | (injection h with h1 h2; subst h1; subst h2; exact ⟨rfl, by omega⟩) | cases h
theorem intR_ok {l : List UInt8} {k n : Nat} {v : Int} {k' : Nat} (h : intR l k n = .ok v k') : k' ≤ l.length := by
  unfold intR at h
  by_cases h64 : 1 ≤ n ∧ n ≤ 64
  · rw [if_pos h64] at h
    by_cases h1 : onN l k n = (n + 6) / 7
    · rw [if_pos h1] at h; cases h
    · rw [if_neg h1] at h
      cases hpc : ((nums l).drop k)[onN l k n]? with
      | none => rw [hpc] at h; cases h
      | some c =>
        rw [hpc] at h
        have hlen := (List.getElem?_eq_some_iff.1 hpc).1
        rw [List.length_drop, nums_length] at hlen
        by_cases hf : sg c / 2 ^ (n - 7 * onN l k n - 1) = 0 ∨ sg c / 2 ^ (n - 7 * onN l k n - 1) = -1
        · simp only [if_pos hf] at h
          injection h with e1 e2
          omega
        · simp only [if_neg hf] at h; cases h
  · rw [if_neg h64] at h; cases h
def readI : Res Int → Value
  | .ok v k => .tuple #[.int .i64 v, .int .i64 k, .int .i64 0]
  | .err c _ => .tuple #[.int .i64 0, .int .i64 0, .int .i64 c]
theorem readI_any {w : World} {B : Nat} {A : Option Addr} {cap : Nat} {l : List UInt8} (hl : Lies w B A (cells (nums l))) (hc : l.length ≤ cap) (hm : cap ≤ maxLen) (k n : Nat) (hk : k ≤ l.length) :
    Calls Tryd.prog 115 #[.slice A l.length cap, .int .i64 k, .int .i64 n] w fun x w' => x = .returned (readI (intR l k n)) ∧ w = w' := by
  have hlen := nums_length l
  have hb := nums_wf l
  have hp := onN_stop l k n
  have hpM := hp.leM
  have hpR := hp.leR
  rw [List.length_drop, hlen] at hpR
  rw [← hlen] at hc hk ⊢
  unfold intR
  by_cases h64 : 1 ≤ n ∧ n ≤ 64
  · rw [if_pos h64]
    obtain ⟨n1, n2⟩ := h64
    by_cases h1 : onN l k n = (n + 6) / 7
    · rw [if_pos h1]
      refine ri_fail _ _ _ 3 w (.inr (.inr rfl)) ?_
      have := length_right (nums l) A cap B k n _ w hl hb hc hm hk n1 n2 hp
      unfold lenN lenE at this
      rwa [if_pos h1, if_pos h1] at this
    · rw [if_neg h1]
      by_cases h2 : onN l k n = (nums l).length - k
      · have e : ((nums l).drop k)[onN l k n]? = none := List.getElem?_eq_none (by rw [List.length_drop]; omega)
        rw [e]
        refine ri_fail _ _ _ 2 w (.inr (.inl rfl)) ?_
        have := length_right (nums l) A cap B k n _ w hl hb hc hm hk n1 n2 hp
        unfold lenN lenE at this
        rwa [if_neg h1, if_neg h1, if_pos h2, if_pos h2] at this
      · obtain ⟨c, hpc⟩ : ∃ c, ((nums l).drop k)[onN l k n]? = some c := ⟨_, List.getElem?_eq_getElem (by rw [List.length_drop]; omega)⟩
        rw [hpc]
        by_cases hf : sg c / 2 ^ (n - 7 * onN l k n - 1) = 0 ∨ sg c / 2 ^ (n - 7 * onN l k n - 1) = -1
        · simp only [if_pos hf]
          exact ri_ok (nums l) A cap B k n _ c w hl hb hc hm hk n1 n2 hp (by omega) hpc hf
        · simp only [if_neg hf]
          exact ri_far (nums l) A cap B k n _ c w hl hb hc hm hk n1 n2 hp (by omega) hpc hf
  · rw [if_neg h64]
    exact ri_fail _ _ _ 1 w (.inl rfl) (length_wrong (nums l) A cap _ _ w (by omega))
set_option maxHeartbeats 800000 in
theorem numberI_any {w : World} {p : Nat} {l : List UInt8} {k : Nat} (h : Sc w p l k) (n : Nat) :
    Calls Tryd.prog 114 #[.pointer (some ⟨p, 0, none⟩), .int .i64 n, .func (.func 115) #[] #[]] w (Did encS64 p l w (intR l k n)) := by
  have c1 := h.at
  obtain ⟨A, cap, c0, hl, hc, hm⟩ := h.data
  have hU : ∀ m, _ := fun m => readI_any (w := w.drewN m) hl hc hm k n h.le.1
  cases hr : intR l k n with
  | ok v k' =>
    simp only [hr, readI] at hU
    have HU := Lib.hid hU
    have HS := Lib.hid h
    have f1 := h.free
    have HK := Lib.hid (intR_ok hr)
    clear hU hr hl h
    go_enter Tryd.func114, Tryd.ntmps114
    go_wp2
    go_quiet (first
      | (go_at_call 115; exact (HU.out _).mono fun _ _ h => ⟨h.1, _, h.2.symm⟩))
    go_wp2_with (go_at_call 55; go_must ((with_reducible refine (unlessT _ _ _).mono ?_); rintro e w' ⟨rfl, rfl⟩))
    go_ret
    exact ⟨rfl, HS.out.moved nq k' k' rfl HK.out⟩
  | err c a =>
    simp only [hr, readI] at hU
    have HU := Lib.hid hU
    obtain ⟨rfl, hcs⟩ := intR_err hr
    have e2 : (c == 0) = false := by simp; omega
    clear hU hr hl h hcs
    go_enter Tryd.func114, Tryd.ntmps114
    go_wp2
    go_quiet (first
      | (go_at_call 115; exact (HU.out _).mono fun _ _ h => ⟨h.1, _, h.2.symm⟩))
    go_wp2_with (go_at_call 55; go_must ((with_reducible refine (unlessF _ _ _).mono ?_); rintro e w' ⟨rfl, rfl⟩))
    exact ⟨rfl, rfl, gb_drewN (gb_refl _ _) _⟩
theorem int_any2 {w : World} {p : Nat} {l : List UInt8} {k : Nat} (h : Sc w p l k) (n : Nat) :
    Calls Tryd.prog 99 #[.pointer (some ⟨p, 0, none⟩), .int .i64 n] w (Did encS64 p l w (intR l k n)) := by
  have hN := numberI_any h n
  cases hr : intR l k n with
  | ok v k' =>
    rw [hr] at hN
    have HN := Lib.hid hN
    clear hN hr h
    go_enter Tryd.func99, Tryd.ntmps99
    go_wp2_with (go_at_call 114; go_must ((with_reducible refine HN.out.mono ?_); rintro e w1 ⟨rfl, hs, hg⟩; have HS := Lib.hid hs; have HG := Lib.hid hg; clear hs hg))
    go_ret
    exact ⟨rfl, HS.out, HG.out⟩
  | err c a =>
    rw [hr] at hN
    have HN := Lib.hid hN
    clear hN hr h
    go_enter Tryd.func99, Tryd.ntmps99
    go_wp2_with (go_at_call 114; go_must ((with_reducible refine HN.out.mono ?_); rintro e w1 ⟨rfl, hg⟩; have HG := Lib.hid hg; clear hg))
    exact ⟨rfl, rfl, HG.out⟩

/-- The opcode that comes next, a block's type, a number, a byte that can only be 0. -/
def opR (l : List UInt8) (k : Nat) : Res UInt8 := (byteR l k).bind fun c k' => if checkR c.toNat = 0 then .ok c k' else .err (checkR c.toNat) k
def blockR (l : List UInt8) (k : Nat) : Res Int := (byteR l k).bind fun c k' => if blockZ c.toNat = 0 then .ok c.toNat k' else .err (blockZ c.toNat) k
def noughtR (l : List UInt8) (k : Nat) : Res Unit := (byteR l k).bind fun c k' => if c = 0 then .ok () k' else .err 10 k
theorem getOp_any {w : World} {p : Nat} {l : List UInt8} {k : Nat} (hs : Sc w p l k) (hT : TbP p w) :
    Calls Tryd.prog 95 #[.pointer (some ⟨p, 0, none⟩)] w (Did encB p l w (opR l k)) := by
  have hB := byte_any hs
  have HA := Lib.hid (at_any hs)
  have HT := Lib.hid hT
  unfold opR
  cases hr : byteR l k with
  | err c a =>
    rw [hr] at hB
    rw [Res.bind_err]
    have HB := Lib.hid hB
    clear hs hT hB hr
    go_enter Tryd.func95, Tryd.ntmps95
    go_wp2_with (first
      | (go_at_call 54; go_must ((with_reducible refine HA.out.mono ?_); rintro e w' ⟨rfl, rfl⟩))
      | (go_at_call 74; go_must ((with_reducible refine HB.out.mono ?_); rintro e w1 ⟨rfl, hg⟩; have HG := Lib.hid hg; clear hg)))
    exact ⟨rfl, rfl, HG.out⟩
  | ok c k' =>
    rw [hr] at hB
    rw [Res.bind_ok]
    have HB := Lib.hid hB
    obtain ⟨z, hz⟩ : ∃ z, z = checkR c.toNat := ⟨_, rfl⟩
    have HC := Lib.hid (fun W (h : Tabs W) => by have := check_any c.toNat W h (by have := c.toNat_lt; omega); rw [← hz] at this; exact this)
    rw [← hz]
    clear hs hT hB hr hz
    by_cases hc : z = 0
    · subst hc
      rw [if_pos rfl]
      go_enter Tryd.func95, Tryd.ntmps95
      go_wp2_with (first
        | (go_at_call 54; go_must ((with_reducible refine HA.out.mono ?_); rintro e w' ⟨rfl, rfl⟩))
        | (go_at_call 74; go_must ((with_reducible refine HB.out.mono ?_); rintro e w1 ⟨rfl, hs, hg⟩; have HS := Lib.hid hs; have HG := Lib.hid hg; clear hs hg))
        | (go_at_call 71; go_must ((with_reducible refine (HC.out _ (HT.out.self HG.out).tabs).mono ?_); rintro e w' ⟨rfl, rfl⟩))
        | (go_at_call 55; go_must ((with_reducible refine (unlessT _ _ _).mono ?_); rintro e w' ⟨rfl, rfl⟩)))
      go_ret
      exact ⟨rfl, HS.out, HG.out⟩
    · rw [if_neg hc]
      have d : ((z : Int) == 0) = false := by simp; omega
      go_enter Tryd.func95, Tryd.ntmps95
      go_wp2_with (first
        | (go_at_call 54; go_must ((with_reducible refine HA.out.mono ?_); rintro e w' ⟨rfl, rfl⟩))
        | (go_at_call 74; go_must ((with_reducible refine HB.out.mono ?_); rintro e w1 ⟨rfl, hs, hg⟩; have HS := Lib.hid hs; have HG := Lib.hid hg; clear hs hg))
        | (go_at_call 71; go_must ((with_reducible refine (HC.out _ (HT.out.self HG.out).tabs).mono ?_); rintro e w' ⟨rfl, rfl⟩))
        | (go_at_call 55; go_must ((with_reducible refine (unlessF _ _ _).mono ?_); rintro e w' ⟨rfl, rfl⟩)))
      exact ⟨rfl, rfl, HG.out⟩
theorem getBlock_any {w : World} {p : Nat} {l : List UInt8} {k : Nat} (hs : Sc w p l k) :
    Calls Tryd.prog 96 #[.pointer (some ⟨p, 0, none⟩)] w (Did enc64 p l w (blockR l k)) := by
  have hB := byte_any hs
  have HA := Lib.hid (at_any hs)
  unfold blockR
  cases hr : byteR l k with
  | err c a =>
    rw [hr] at hB
    rw [Res.bind_err]
    have HB := Lib.hid hB
    clear hs hB hr
    go_enter Tryd.func96, Tryd.ntmps96
    go_wp2_with (first
      | (go_at_call 54; go_must ((with_reducible refine HA.out.mono ?_); rintro e w' ⟨rfl, rfl⟩))
      | (go_at_call 74; go_must ((with_reducible refine HB.out.mono ?_); rintro e w1 ⟨rfl, hg⟩; have HG := Lib.hid hg; clear hg)))
    exact ⟨rfl, rfl, HG.out⟩
  | ok c k' =>
    rw [hr] at hB
    rw [Res.bind_ok]
    have HB := Lib.hid hB
    have hw : IntKind.u64.wrap (c.toNat : Int) = c.toNat := by have := c.toNat_lt; simp [IntKind.wrap, IntKind.bits, IntKind.signed]; omega
    obtain ⟨z, hz⟩ : ∃ z, z = blockZ c.toNat := ⟨_, rfl⟩
    have HC := Lib.hid (fun W => by have := block_any c.toNat W (by omega); rw [← hz] at this; exact this)
    rw [← hz]
    clear hs hB hr hz
    by_cases hc : z = 0
    · subst hc
      rw [if_pos rfl]
      go_enter Tryd.func96, Tryd.ntmps96
      go_wp2_with (first
        | (go_at_call 54; go_must ((with_reducible refine HA.out.mono ?_); rintro e w' ⟨rfl, rfl⟩))
        | (go_at_call 74; go_must ((with_reducible refine HB.out.mono ?_); rintro e w1 ⟨rfl, hs, hg⟩; have HS := Lib.hid hs; have HG := Lib.hid hg; clear hs hg))
        | (go_at_call 93; go_must ((with_reducible refine (HC.out _).mono ?_); rintro e w' ⟨rfl, rfl⟩))
        | (go_at_call 55; go_must ((with_reducible refine (unlessT _ _ _).mono ?_); rintro e w' ⟨rfl, rfl⟩)))
      go_ret
      exact ⟨rfl, HS.out, HG.out⟩
    · rw [if_neg hc]
      have d : (z == 0) = false := by simpa using hc
      go_enter Tryd.func96, Tryd.ntmps96
      go_wp2_with (first
        | (go_at_call 54; go_must ((with_reducible refine HA.out.mono ?_); rintro e w' ⟨rfl, rfl⟩))
        | (go_at_call 74; go_must ((with_reducible refine HB.out.mono ?_); rintro e w1 ⟨rfl, hs, hg⟩; have HS := Lib.hid hs; have HG := Lib.hid hg; clear hs hg))
        | (go_at_call 93; go_must ((with_reducible refine (HC.out _).mono ?_); rintro e w' ⟨rfl, rfl⟩))
        | (go_at_call 55; go_must ((with_reducible refine (unlessF _ _ _).mono ?_); rintro e w' ⟨rfl, rfl⟩)))
      exact ⟨rfl, rfl, HG.out⟩
theorem getNumber_any {w : World} {p : Nat} {l : List UInt8} {k : Nat} (hs : Sc w p l k) :
    Calls Tryd.prog 98 #[.pointer (some ⟨p, 0, none⟩)] w (Did enc64 p l w (indexR l k)) := by
  have hN := index_scan hs
  cases hr : indexR l k with
  | err c a =>
    rw [hr] at hN
    have HN := Lib.hid hN
    clear hs hN hr
    go_enter Tryd.func98, Tryd.ntmps98
    go_wp2_with (go_at_call 53; go_must ((with_reducible refine HN.out.mono ?_); rintro e w1 ⟨rfl, hg⟩; have HG := Lib.hid hg; clear hg))
    exact ⟨rfl, rfl, HG.out⟩
  | ok v k' =>
    rw [hr] at hN
    have HN := Lib.hid hN
    obtain ⟨_, v0, v1⟩ := uintR_ok (show uintR l k 32 = .ok v k' from hr)
    have v2 : v < 4294967296 := v1
    have hw : IntKind.u64.wrap v = v := by simp [IntKind.wrap, IntKind.bits, IntKind.signed]; omega
    clear hs hN hr v1
    go_enter Tryd.func98, Tryd.ntmps98
    go_wp2_with (go_at_call 53; go_must ((with_reducible refine HN.out.mono ?_); rintro e w1 ⟨rfl, hs, hg⟩; have HS := Lib.hid hs; have HG := Lib.hid hg; clear hs hg))
    go_ret
    exact ⟨rfl, HS.out, HG.out⟩
end Go.Proofs.YtebgmfjgapmpfabDoor

/- The reference's Right. (By gen/genRefRight.py.) -/
namespace Go.Proofs.YtebgmfjgapmpfabDoor
open Go.RowKit
set_option linter.unusedVariables false
set_option maxRecDepth 100000

theorem nums_low {m : Nat} {a b : Int} (hm : m ≠ 1 ∧ m ≠ 0 ∧ m ≠ 9) (h : (a ≤ 4294967295 ∧ b ≤ 4294967295) ∨ m = 11) : numsZ m a b = 0 := by
  unfold numsZ
  rw [if_neg hm.1, if_neg (by omega)]
  by_cases m11 : m = 11
  · rw [if_pos m11]
  · rw [if_neg m11, if_pos (by omega)]
theorem nums_high {m : Nat} {a b : Int} (hm : m ≠ 1 ∧ m ≠ 0 ∧ m ≠ 9 ∧ m ≠ 11) (h : ¬ (a ≤ 4294967295 ∧ b ≤ 4294967295)) : numsZ m a b = 1 := by
  unfold numsZ
  rw [if_neg hm.1, if_neg (by omega), if_neg (by omega), if_neg h]
theorem block_same {a : Int} (h : a ≠ 64) (h2 : a ≤ 256) : blockZ a = valueZ a := by
  unfold blockZ
  rw [if_neg h]
  by_cases h3 : 255 < a
  · obtain rfl : a = 256 := by omega
    rfl
  · rw [if_neg h3]
theorem refR_end {w W : World} {i : I} {A : Option Addr} {c : Nat} (h : BoxI w W i A c) {o : Obj} : Below w.heap.size w (W.alloc o) := h.2.alloc h.2.size _
set_option maxHeartbeats 1000000 in
theorem refRight_any (i : I) (A : Option Addr) (c : Nat) (w : World) (h : i.Ok) (hl : (i.l.length : Int) ≤ 9223372036854775807) :
    Calls Tryd.prog 43 #[insV i A c] w (IntPost (rightZ i) w) := by
  have hn := i.n_le
  obtain ⟨a0, a1, b0, b1, _⟩ := h
  have hwb : IntKind.i64.wrap (i.op.toNat : Int) = i.op.toNat := by rw [IntKind.wrap_i64]; have := i.op.toNat_lt; omega
  have HB := Lib.hid (BoxI.start w i A c)
  obtain ⟨k, hk⟩ : ∃ k, k = checkR i.n := ⟨_, rfl⟩
  have HC : Hid (∀ W, Calls Tryd.prog 66 #[.int .i64 i.op.toNat] W fun e w' => e = .returned (.int .i64 (k : Nat)) ∧ Below W.heap.size W w') := fun W => by rw [hk, check_same hn]; exact refCheck_any i.n W hn
  by_cases k0 : k = 0
  · subst k0
    obtain ⟨m, hm⟩ : ∃ m, m = immR i.n := ⟨_, rfl⟩
    obtain ⟨r, hr⟩ : ∃ r, r = refR i.n := ⟨_, rfl⟩
    have him : (r.getD row0).imm = m := by rw [hr, hm]; exact (imm_same hn hk.symm).2
    have HI : Hid (∀ W, Calls Tryd.prog 67 #[.int .i64 i.op.toNat] W (RefPost r W)) := fun W => by rw [hr]; exact ref_any i.n W hn
    have HR := Lib.hid (show rightZ i = if 0 < i.l.length ∧ m ≠ 3 then 1 else if 10000 < i.l.length then 29 else if i.b ≠ 0 ∧ m ≠ 8 then 1 else numsZ m i.a i.b by unfold rightZ; rw [← hk, ← hm]; rfl)
    generalize (r.getD row0).op = r1 at *
    clear hr hm hk
    by_cases hl0 : 0 < i.l.length
    · have dl : decide (0 < (i.l.length : Int)) = true := decide_eq_true (by omega)
      by_cases m3 : m = 3
      · subst m3
        by_cases hl1 : 10000 < i.l.length
        · have dl1 : decide (10000 < (i.l.length : Int)) = true := decide_eq_true (by omega)
          have HE := Lib.hid (show rightZ i = 29 by rw [HR.out]; rw [if_neg (by omega), if_pos hl1])
          go_enter Tryd.func43, Tryd.ntmps43
          go_wp2_with (first
            | (go_at_call 66; go_must ((with_reducible refine (HC.out _).mono ?_); rintro e w1 ⟨rfl, hb⟩; have HB1 := Lib.hid (HB.out.on hb); have c1 := HB1.out.c0; clear hb))
            | (go_at_call 67; go_must ((with_reducible refine (HI.out _).mono ?_); rintro e w2 ⟨rfl, hb⟩; have HB2 := Lib.hid (HB1.out.on hb); have hlt := HB2.out.lt; have c2 := HB2.out.c1; have c3 := HB2.out.c2; have c4 := HB2.out.c3; clear hb))
            | (go_at_call 68; go_must ((with_reducible refine (refValue_any _ _).mono ?_); rintro e w' ⟨rfl, rfl⟩)))
          go_ret
          exact ret_below HE.out.symm (refR_end HB2.out)
        · have dl1 : decide (10000 < (i.l.length : Int)) = false := decide_eq_false (by omega)
          by_cases hb0 : i.b = 0
          · have db : (i.b != 0) = false := by simp [hb0]
            by_cases ha : i.a ≤ 4294967295
            · have da : decide (i.a < 4294967296) = true := decide_eq_true (by omega)
              have dbb : decide (i.b < 4294967296) = true := decide_eq_true (by omega)
              have HE := Lib.hid (show rightZ i = 0 by rw [HR.out]; rw [if_neg (by omega), if_neg hl1, if_neg (by omega)]; exact nums_low (by omega) (.inl ⟨ha, by omega⟩))
              clear hb0
              go_enter Tryd.func43, Tryd.ntmps43
              go_wp2_with (first
                | (go_at_call 66; go_must ((with_reducible refine (HC.out _).mono ?_); rintro e w1 ⟨rfl, hb⟩; have HB1 := Lib.hid (HB.out.on hb); have c1 := HB1.out.c0; clear hb))
                | (go_at_call 67; go_must ((with_reducible refine (HI.out _).mono ?_); rintro e w2 ⟨rfl, hb⟩; have HB2 := Lib.hid (HB1.out.on hb); have hlt := HB2.out.lt; have c2 := HB2.out.c1; have c3 := HB2.out.c2; have c4 := HB2.out.c3; clear hb))
                | (go_at_call 68; go_must ((with_reducible refine (refValue_any _ _).mono ?_); rintro e w' ⟨rfl, rfl⟩)))
              go_ret
              exact ret_below HE.out.symm (refR_end HB2.out)
            · have da : decide (i.a < 4294967296) = false := decide_eq_false (by omega)
              have HE := Lib.hid (show rightZ i = 1 by rw [HR.out]; rw [if_neg (by omega), if_neg hl1, if_neg (by omega)]; exact nums_high (by omega) (by omega))
              clear hb0
              go_enter Tryd.func43, Tryd.ntmps43
              go_wp2_with (first
                | (go_at_call 66; go_must ((with_reducible refine (HC.out _).mono ?_); rintro e w1 ⟨rfl, hb⟩; have HB1 := Lib.hid (HB.out.on hb); have c1 := HB1.out.c0; clear hb))
                | (go_at_call 67; go_must ((with_reducible refine (HI.out _).mono ?_); rintro e w2 ⟨rfl, hb⟩; have HB2 := Lib.hid (HB1.out.on hb); have hlt := HB2.out.lt; have c2 := HB2.out.c1; have c3 := HB2.out.c2; have c4 := HB2.out.c3; clear hb))
                | (go_at_call 68; go_must ((with_reducible refine (refValue_any _ _).mono ?_); rintro e w' ⟨rfl, rfl⟩)))
              go_ret
              exact ret_below HE.out.symm (refR_end HB2.out)
          · have db : (i.b != 0) = true := by simpa using hb0
            have d8 : ((3 : Int) != 8) = true := by decide
            have HE := Lib.hid (show rightZ i = 1 by rw [HR.out]; rw [if_neg (by omega), if_neg hl1, if_pos (by omega)])
            go_enter Tryd.func43, Tryd.ntmps43
            go_wp2_with (first
              | (go_at_call 66; go_must ((with_reducible refine (HC.out _).mono ?_); rintro e w1 ⟨rfl, hb⟩; have HB1 := Lib.hid (HB.out.on hb); have c1 := HB1.out.c0; clear hb))
              | (go_at_call 67; go_must ((with_reducible refine (HI.out _).mono ?_); rintro e w2 ⟨rfl, hb⟩; have HB2 := Lib.hid (HB1.out.on hb); have hlt := HB2.out.lt; have c2 := HB2.out.c1; have c3 := HB2.out.c2; have c4 := HB2.out.c3; clear hb))
              | (go_at_call 68; go_must ((with_reducible refine (refValue_any _ _).mono ?_); rintro e w' ⟨rfl, rfl⟩)))
            go_ret
            exact ret_below HE.out.symm (refR_end HB2.out)
      · have d3 : ((m : Int) != 3) = true := by simp; omega
        have HE := Lib.hid (show rightZ i = 1 by rw [HR.out]; rw [if_pos ⟨hl0, m3⟩])
        go_enter Tryd.func43, Tryd.ntmps43
        go_wp2_with (first
          | (go_at_call 66; go_must ((with_reducible refine (HC.out _).mono ?_); rintro e w1 ⟨rfl, hb⟩; have HB1 := Lib.hid (HB.out.on hb); have c1 := HB1.out.c0; clear hb))
          | (go_at_call 67; go_must ((with_reducible refine (HI.out _).mono ?_); rintro e w2 ⟨rfl, hb⟩; have HB2 := Lib.hid (HB1.out.on hb); have hlt := HB2.out.lt; have c2 := HB2.out.c1; have c3 := HB2.out.c2; have c4 := HB2.out.c3; clear hb))
          | (go_at_call 68; go_must ((with_reducible refine (refValue_any _ _).mono ?_); rintro e w' ⟨rfl, rfl⟩)))
        go_ret
        exact ret_below HE.out.symm (refR_end HB2.out)
    · have dl : decide (0 < (i.l.length : Int)) = false := decide_eq_false (by omega)
      have dl1 : decide (10000 < (i.l.length : Int)) = false := decide_eq_false (by omega)
      by_cases hb0 : i.b = 0
      · have db : (i.b != 0) = false := by simp [hb0]
        have dbb : decide (i.b < 4294967296) = true := decide_eq_true (by omega)
        by_cases m0 : m = 0 ∨ m = 9
        · rcases m0 with m0 | m0
          · subst m0
            by_cases hz : i.a = 0
            · have dz : (i.a == 0) = true := by simpa using hz
              have da : decide (i.a < 4294967296) = true := decide_eq_true (by omega)
              have HE := Lib.hid (show rightZ i = 0 by rw [HR.out]; rw [if_neg (by omega), if_neg (by omega), if_neg (by omega)]; unfold numsZ; rw [if_neg (by omega), if_pos (by omega), if_pos hz])
              clear hz hb0
              go_enter Tryd.func43, Tryd.ntmps43
              go_wp2_with (first
                | (go_at_call 66; go_must ((with_reducible refine (HC.out _).mono ?_); rintro e w1 ⟨rfl, hb⟩; have HB1 := Lib.hid (HB.out.on hb); have c1 := HB1.out.c0; clear hb))
                | (go_at_call 67; go_must ((with_reducible refine (HI.out _).mono ?_); rintro e w2 ⟨rfl, hb⟩; have HB2 := Lib.hid (HB1.out.on hb); have hlt := HB2.out.lt; have c2 := HB2.out.c1; have c3 := HB2.out.c2; have c4 := HB2.out.c3; clear hb))
                | (go_at_call 68; go_must ((with_reducible refine (refValue_any _ _).mono ?_); rintro e w' ⟨rfl, rfl⟩)))
              go_ret
              exact ret_below HE.out.symm (refR_end HB2.out)
            · have dz : (i.a == 0) = false := by simpa using hz
              rcases Int.lt_or_le i.a 4294967296 with ha | ha
              · have da : decide (i.a < 4294967296) = true := decide_eq_true (by omega)
                have HE := Lib.hid (show rightZ i = 1 by rw [HR.out]; rw [if_neg (by omega), if_neg (by omega), if_neg (by omega)]; unfold numsZ; rw [if_neg (by omega), if_pos (by omega), if_neg hz])
                clear hb0
                go_enter Tryd.func43, Tryd.ntmps43
                go_wp2_with (first
                  | (go_at_call 66; go_must ((with_reducible refine (HC.out _).mono ?_); rintro e w1 ⟨rfl, hb⟩; have HB1 := Lib.hid (HB.out.on hb); have c1 := HB1.out.c0; clear hb))
                  | (go_at_call 67; go_must ((with_reducible refine (HI.out _).mono ?_); rintro e w2 ⟨rfl, hb⟩; have HB2 := Lib.hid (HB1.out.on hb); have hlt := HB2.out.lt; have c2 := HB2.out.c1; have c3 := HB2.out.c2; have c4 := HB2.out.c3; clear hb))
                  | (go_at_call 68; go_must ((with_reducible refine (refValue_any _ _).mono ?_); rintro e w' ⟨rfl, rfl⟩)))
                go_ret
                exact ret_below HE.out.symm (refR_end HB2.out)
              · have da : decide (i.a < 4294967296) = false := decide_eq_false (by omega)
                have HE := Lib.hid (show rightZ i = 1 by rw [HR.out]; rw [if_neg (by omega), if_neg (by omega), if_neg (by omega)]; unfold numsZ; rw [if_neg (by omega), if_pos (by omega), if_neg hz])
                clear hb0
                go_enter Tryd.func43, Tryd.ntmps43
                go_wp2_with (first
                  | (go_at_call 66; go_must ((with_reducible refine (HC.out _).mono ?_); rintro e w1 ⟨rfl, hb⟩; have HB1 := Lib.hid (HB.out.on hb); have c1 := HB1.out.c0; clear hb))
                  | (go_at_call 67; go_must ((with_reducible refine (HI.out _).mono ?_); rintro e w2 ⟨rfl, hb⟩; have HB2 := Lib.hid (HB1.out.on hb); have hlt := HB2.out.lt; have c2 := HB2.out.c1; have c3 := HB2.out.c2; have c4 := HB2.out.c3; clear hb))
                  | (go_at_call 68; go_must ((with_reducible refine (refValue_any _ _).mono ?_); rintro e w' ⟨rfl, rfl⟩)))
                go_ret
                exact ret_below HE.out.symm (refR_end HB2.out)
          · subst m0
            by_cases hz : i.a = 0
            · have dz : (i.a == 0) = true := by simpa using hz
              have da : decide (i.a < 4294967296) = true := decide_eq_true (by omega)
              have HE := Lib.hid (show rightZ i = 0 by rw [HR.out]; rw [if_neg (by omega), if_neg (by omega), if_neg (by omega)]; unfold numsZ; rw [if_neg (by omega), if_pos (by omega), if_pos hz])
              clear hz hb0
              go_enter Tryd.func43, Tryd.ntmps43
              go_wp2_with (first
                | (go_at_call 66; go_must ((with_reducible refine (HC.out _).mono ?_); rintro e w1 ⟨rfl, hb⟩; have HB1 := Lib.hid (HB.out.on hb); have c1 := HB1.out.c0; clear hb))
                | (go_at_call 67; go_must ((with_reducible refine (HI.out _).mono ?_); rintro e w2 ⟨rfl, hb⟩; have HB2 := Lib.hid (HB1.out.on hb); have hlt := HB2.out.lt; have c2 := HB2.out.c1; have c3 := HB2.out.c2; have c4 := HB2.out.c3; clear hb))
                | (go_at_call 68; go_must ((with_reducible refine (refValue_any _ _).mono ?_); rintro e w' ⟨rfl, rfl⟩)))
              go_ret
              exact ret_below HE.out.symm (refR_end HB2.out)
            · have dz : (i.a == 0) = false := by simpa using hz
              rcases Int.lt_or_le i.a 4294967296 with ha | ha
              · have da : decide (i.a < 4294967296) = true := decide_eq_true (by omega)
                have HE := Lib.hid (show rightZ i = 1 by rw [HR.out]; rw [if_neg (by omega), if_neg (by omega), if_neg (by omega)]; unfold numsZ; rw [if_neg (by omega), if_pos (by omega), if_neg hz])
                clear hb0
                go_enter Tryd.func43, Tryd.ntmps43
                go_wp2_with (first
                  | (go_at_call 66; go_must ((with_reducible refine (HC.out _).mono ?_); rintro e w1 ⟨rfl, hb⟩; have HB1 := Lib.hid (HB.out.on hb); have c1 := HB1.out.c0; clear hb))
                  | (go_at_call 67; go_must ((with_reducible refine (HI.out _).mono ?_); rintro e w2 ⟨rfl, hb⟩; have HB2 := Lib.hid (HB1.out.on hb); have hlt := HB2.out.lt; have c2 := HB2.out.c1; have c3 := HB2.out.c2; have c4 := HB2.out.c3; clear hb))
                  | (go_at_call 68; go_must ((with_reducible refine (refValue_any _ _).mono ?_); rintro e w' ⟨rfl, rfl⟩)))
                go_ret
                exact ret_below HE.out.symm (refR_end HB2.out)
              · have da : decide (i.a < 4294967296) = false := decide_eq_false (by omega)
                have HE := Lib.hid (show rightZ i = 1 by rw [HR.out]; rw [if_neg (by omega), if_neg (by omega), if_neg (by omega)]; unfold numsZ; rw [if_neg (by omega), if_pos (by omega), if_neg hz])
                clear hb0
                go_enter Tryd.func43, Tryd.ntmps43
                go_wp2_with (first
                  | (go_at_call 66; go_must ((with_reducible refine (HC.out _).mono ?_); rintro e w1 ⟨rfl, hb⟩; have HB1 := Lib.hid (HB.out.on hb); have c1 := HB1.out.c0; clear hb))
                  | (go_at_call 67; go_must ((with_reducible refine (HI.out _).mono ?_); rintro e w2 ⟨rfl, hb⟩; have HB2 := Lib.hid (HB1.out.on hb); have hlt := HB2.out.lt; have c2 := HB2.out.c1; have c3 := HB2.out.c2; have c4 := HB2.out.c3; clear hb))
                  | (go_at_call 68; go_must ((with_reducible refine (refValue_any _ _).mono ?_); rintro e w' ⟨rfl, rfl⟩)))
                go_ret
                exact ret_below HE.out.symm (refR_end HB2.out)
        · have d0 : ((m : Int) == 0) = false := by simp; omega
          have d9 : ((m : Int) == 9) = false := by simp; omega
          by_cases m1 : m = 1
          · subst m1
            by_cases h64 : i.a = 64
            · have dz : (i.a == 64) = true := by simpa using h64
              have da : decide (i.a < 4294967296) = true := decide_eq_true (by omega)
              have HE := Lib.hid (show rightZ i = 0 by rw [HR.out]; rw [if_neg (by omega), if_neg (by omega), if_neg (by omega)]; unfold numsZ blockZ; rw [if_pos rfl, if_pos h64])
              clear h64 hb0
              go_enter Tryd.func43, Tryd.ntmps43
              go_wp2_with (first
                | (go_at_call 66; go_must ((with_reducible refine (HC.out _).mono ?_); rintro e w1 ⟨rfl, hb⟩; have HB1 := Lib.hid (HB.out.on hb); have c1 := HB1.out.c0; clear hb))
                | (go_at_call 67; go_must ((with_reducible refine (HI.out _).mono ?_); rintro e w2 ⟨rfl, hb⟩; have HB2 := Lib.hid (HB1.out.on hb); have hlt := HB2.out.lt; have c2 := HB2.out.c1; have c3 := HB2.out.c2; have c4 := HB2.out.c3; clear hb))
                | (go_at_call 68; go_must ((with_reducible refine (refValue_any _ _).mono ?_); rintro e w' ⟨rfl, rfl⟩)))
              go_ret
              exact ret_below HE.out.symm (refR_end HB2.out)
            · have dz : (i.a == 64) = false := by simpa using h64
              by_cases h256 : i.a ≤ 256
              · have da : decide (i.a < 4294967296) = true := decide_eq_true (by omega)
                have hmin : min i.a 256 = i.a := by omega
                have hw : IntKind.i64.wrap i.a = i.a := by rw [IntKind.wrap_i64]; omega
                have HE := Lib.hid (show rightZ i = valueZ i.a by rw [HR.out]; rw [if_neg (by omega), if_neg (by omega), if_neg (by omega)]; unfold numsZ; rw [if_pos rfl]; exact block_same h64 h256)
                clear hb0
                go_enter Tryd.func43, Tryd.ntmps43
                go_wp2_with (first
                  | (go_at_call 66; go_must ((with_reducible refine (HC.out _).mono ?_); rintro e w1 ⟨rfl, hb⟩; have HB1 := Lib.hid (HB.out.on hb); have c1 := HB1.out.c0; clear hb))
                  | (go_at_call 67; go_must ((with_reducible refine (HI.out _).mono ?_); rintro e w2 ⟨rfl, hb⟩; have HB2 := Lib.hid (HB1.out.on hb); have hlt := HB2.out.lt; have c2 := HB2.out.c1; have c3 := HB2.out.c2; have c4 := HB2.out.c3; clear hb))
                  | (go_at_call 68; go_must ((with_reducible refine (refValue_any _ _).mono ?_); rintro e w' ⟨rfl, rfl⟩)))
                go_ret
                exact ret_below HE.out.symm (refR_end HB2.out)
              · have hmin : min i.a 256 = 256 := by omega
                have hv : valueZ 256 = 7 := rfl
                rcases Int.lt_or_le i.a 4294967296 with ha | ha
                · have da : decide (i.a < 4294967296) = true := decide_eq_true (by omega)
                  have HE := Lib.hid (show rightZ i = 7 by rw [HR.out]; rw [if_neg (by omega), if_neg (by omega), if_neg (by omega)]; unfold numsZ blockZ; rw [if_pos rfl, if_neg h64, if_pos (by omega)])
                  clear hb0
                  go_enter Tryd.func43, Tryd.ntmps43
                  go_wp2_with (first
                    | (go_at_call 66; go_must ((with_reducible refine (HC.out _).mono ?_); rintro e w1 ⟨rfl, hb⟩; have HB1 := Lib.hid (HB.out.on hb); have c1 := HB1.out.c0; clear hb))
                    | (go_at_call 67; go_must ((with_reducible refine (HI.out _).mono ?_); rintro e w2 ⟨rfl, hb⟩; have HB2 := Lib.hid (HB1.out.on hb); have hlt := HB2.out.lt; have c2 := HB2.out.c1; have c3 := HB2.out.c2; have c4 := HB2.out.c3; clear hb))
                    | (go_at_call 68; go_must ((with_reducible refine (refValue_any _ _).mono ?_); rintro e w' ⟨rfl, rfl⟩)))
                  go_ret
                  exact ret_below HE.out.symm (refR_end HB2.out)
                · have da : decide (i.a < 4294967296) = false := decide_eq_false (by omega)
                  have HE := Lib.hid (show rightZ i = 7 by rw [HR.out]; rw [if_neg (by omega), if_neg (by omega), if_neg (by omega)]; unfold numsZ blockZ; rw [if_pos rfl, if_neg h64, if_pos (by omega)])
                  clear hb0
                  go_enter Tryd.func43, Tryd.ntmps43
                  go_wp2_with (first
                    | (go_at_call 66; go_must ((with_reducible refine (HC.out _).mono ?_); rintro e w1 ⟨rfl, hb⟩; have HB1 := Lib.hid (HB.out.on hb); have c1 := HB1.out.c0; clear hb))
                    | (go_at_call 67; go_must ((with_reducible refine (HI.out _).mono ?_); rintro e w2 ⟨rfl, hb⟩; have HB2 := Lib.hid (HB1.out.on hb); have hlt := HB2.out.lt; have c2 := HB2.out.c1; have c3 := HB2.out.c2; have c4 := HB2.out.c3; clear hb))
                    | (go_at_call 68; go_must ((with_reducible refine (refValue_any _ _).mono ?_); rintro e w' ⟨rfl, rfl⟩)))
                  go_ret
                  exact ret_below HE.out.symm (refR_end HB2.out)
          · have d1 : ((m : Int) == 1) = false := by simp; omega
            by_cases m11 : m = 11
            · subst m11
              rcases Int.lt_or_le i.a 4294967296 with ha | ha
              · have da : decide (i.a < 4294967296) = true := decide_eq_true (by omega)
                have HE := Lib.hid (show rightZ i = 0 by rw [HR.out]; rw [if_neg (by omega), if_neg (by omega), if_neg (by omega)]; unfold numsZ; rw [if_neg (by omega), if_neg (by omega), if_pos rfl])
                clear hb0
                go_enter Tryd.func43, Tryd.ntmps43
                go_wp2_with (first
                  | (go_at_call 66; go_must ((with_reducible refine (HC.out _).mono ?_); rintro e w1 ⟨rfl, hb⟩; have HB1 := Lib.hid (HB.out.on hb); have c1 := HB1.out.c0; clear hb))
                  | (go_at_call 67; go_must ((with_reducible refine (HI.out _).mono ?_); rintro e w2 ⟨rfl, hb⟩; have HB2 := Lib.hid (HB1.out.on hb); have hlt := HB2.out.lt; have c2 := HB2.out.c1; have c3 := HB2.out.c2; have c4 := HB2.out.c3; clear hb))
                  | (go_at_call 68; go_must ((with_reducible refine (refValue_any _ _).mono ?_); rintro e w' ⟨rfl, rfl⟩)))
                go_ret
                exact ret_below HE.out.symm (refR_end HB2.out)
              · have da : decide (i.a < 4294967296) = false := decide_eq_false (by omega)
                have HE := Lib.hid (show rightZ i = 0 by rw [HR.out]; rw [if_neg (by omega), if_neg (by omega), if_neg (by omega)]; unfold numsZ; rw [if_neg (by omega), if_neg (by omega), if_pos rfl])
                clear hb0
                go_enter Tryd.func43, Tryd.ntmps43
                go_wp2_with (first
                  | (go_at_call 66; go_must ((with_reducible refine (HC.out _).mono ?_); rintro e w1 ⟨rfl, hb⟩; have HB1 := Lib.hid (HB.out.on hb); have c1 := HB1.out.c0; clear hb))
                  | (go_at_call 67; go_must ((with_reducible refine (HI.out _).mono ?_); rintro e w2 ⟨rfl, hb⟩; have HB2 := Lib.hid (HB1.out.on hb); have hlt := HB2.out.lt; have c2 := HB2.out.c1; have c3 := HB2.out.c2; have c4 := HB2.out.c3; clear hb))
                  | (go_at_call 68; go_must ((with_reducible refine (refValue_any _ _).mono ?_); rintro e w' ⟨rfl, rfl⟩)))
                go_ret
                exact ret_below HE.out.symm (refR_end HB2.out)
            · have d11 : ((m : Int) == 11) = false := by simp; omega
              by_cases ha : i.a ≤ 4294967295
              · have da : decide (i.a < 4294967296) = true := decide_eq_true (by omega)
                have dbb : decide (i.b < 4294967296) = true := decide_eq_true (by omega)
                have HE := Lib.hid (show rightZ i = 0 by rw [HR.out]; rw [if_neg (by omega), if_neg (by omega), if_neg (by omega)]; exact nums_low (by omega) (.inl ⟨ha, by omega⟩))
                clear hb0
                go_enter Tryd.func43, Tryd.ntmps43
                go_wp2_with (first
                  | (go_at_call 66; go_must ((with_reducible refine (HC.out _).mono ?_); rintro e w1 ⟨rfl, hb⟩; have HB1 := Lib.hid (HB.out.on hb); have c1 := HB1.out.c0; clear hb))
                  | (go_at_call 67; go_must ((with_reducible refine (HI.out _).mono ?_); rintro e w2 ⟨rfl, hb⟩; have HB2 := Lib.hid (HB1.out.on hb); have hlt := HB2.out.lt; have c2 := HB2.out.c1; have c3 := HB2.out.c2; have c4 := HB2.out.c3; clear hb))
                  | (go_at_call 68; go_must ((with_reducible refine (refValue_any _ _).mono ?_); rintro e w' ⟨rfl, rfl⟩)))
                go_ret
                exact ret_below HE.out.symm (refR_end HB2.out)
              · have da : decide (i.a < 4294967296) = false := decide_eq_false (by omega)
                have HE := Lib.hid (show rightZ i = 1 by rw [HR.out]; rw [if_neg (by omega), if_neg (by omega), if_neg (by omega)]; exact nums_high (by omega) (by omega))
                clear hb0
                go_enter Tryd.func43, Tryd.ntmps43
                go_wp2_with (first
                  | (go_at_call 66; go_must ((with_reducible refine (HC.out _).mono ?_); rintro e w1 ⟨rfl, hb⟩; have HB1 := Lib.hid (HB.out.on hb); have c1 := HB1.out.c0; clear hb))
                  | (go_at_call 67; go_must ((with_reducible refine (HI.out _).mono ?_); rintro e w2 ⟨rfl, hb⟩; have HB2 := Lib.hid (HB1.out.on hb); have hlt := HB2.out.lt; have c2 := HB2.out.c1; have c3 := HB2.out.c2; have c4 := HB2.out.c3; clear hb))
                  | (go_at_call 68; go_must ((with_reducible refine (refValue_any _ _).mono ?_); rintro e w' ⟨rfl, rfl⟩)))
                go_ret
                exact ret_below HE.out.symm (refR_end HB2.out)
      · have db : (i.b != 0) = true := by simpa using hb0
        by_cases m8 : m = 8
        · subst m8
          by_cases ha : i.a ≤ 4294967295
          · have da : decide (i.a < 4294967296) = true := decide_eq_true (by omega)
            by_cases hbb : i.b ≤ 4294967295
            · have dbb : decide (i.b < 4294967296) = true := decide_eq_true (by omega)
              have HE := Lib.hid (show rightZ i = 0 by rw [HR.out]; rw [if_neg (by omega), if_neg (by omega), if_neg (by omega)]; exact nums_low (by omega) (.inl ⟨ha, hbb⟩))
              go_enter Tryd.func43, Tryd.ntmps43
              go_wp2_with (first
                | (go_at_call 66; go_must ((with_reducible refine (HC.out _).mono ?_); rintro e w1 ⟨rfl, hb⟩; have HB1 := Lib.hid (HB.out.on hb); have c1 := HB1.out.c0; clear hb))
                | (go_at_call 67; go_must ((with_reducible refine (HI.out _).mono ?_); rintro e w2 ⟨rfl, hb⟩; have HB2 := Lib.hid (HB1.out.on hb); have hlt := HB2.out.lt; have c2 := HB2.out.c1; have c3 := HB2.out.c2; have c4 := HB2.out.c3; clear hb))
                | (go_at_call 68; go_must ((with_reducible refine (refValue_any _ _).mono ?_); rintro e w' ⟨rfl, rfl⟩)))
              go_ret
              exact ret_below HE.out.symm (refR_end HB2.out)
            · have dbb : decide (i.b < 4294967296) = false := decide_eq_false (by omega)
              have HE := Lib.hid (show rightZ i = 1 by rw [HR.out]; rw [if_neg (by omega), if_neg (by omega), if_neg (by omega)]; exact nums_high (by omega) (by omega))
              go_enter Tryd.func43, Tryd.ntmps43
              go_wp2_with (first
                | (go_at_call 66; go_must ((with_reducible refine (HC.out _).mono ?_); rintro e w1 ⟨rfl, hb⟩; have HB1 := Lib.hid (HB.out.on hb); have c1 := HB1.out.c0; clear hb))
                | (go_at_call 67; go_must ((with_reducible refine (HI.out _).mono ?_); rintro e w2 ⟨rfl, hb⟩; have HB2 := Lib.hid (HB1.out.on hb); have hlt := HB2.out.lt; have c2 := HB2.out.c1; have c3 := HB2.out.c2; have c4 := HB2.out.c3; clear hb))
                | (go_at_call 68; go_must ((with_reducible refine (refValue_any _ _).mono ?_); rintro e w' ⟨rfl, rfl⟩)))
              go_ret
              exact ret_below HE.out.symm (refR_end HB2.out)
          · have da : decide (i.a < 4294967296) = false := decide_eq_false (by omega)
            have HE := Lib.hid (show rightZ i = 1 by rw [HR.out]; rw [if_neg (by omega), if_neg (by omega), if_neg (by omega)]; exact nums_high (by omega) (by omega))
            go_enter Tryd.func43, Tryd.ntmps43
            go_wp2_with (first
              | (go_at_call 66; go_must ((with_reducible refine (HC.out _).mono ?_); rintro e w1 ⟨rfl, hb⟩; have HB1 := Lib.hid (HB.out.on hb); have c1 := HB1.out.c0; clear hb))
              | (go_at_call 67; go_must ((with_reducible refine (HI.out _).mono ?_); rintro e w2 ⟨rfl, hb⟩; have HB2 := Lib.hid (HB1.out.on hb); have hlt := HB2.out.lt; have c2 := HB2.out.c1; have c3 := HB2.out.c2; have c4 := HB2.out.c3; clear hb))
              | (go_at_call 68; go_must ((with_reducible refine (refValue_any _ _).mono ?_); rintro e w' ⟨rfl, rfl⟩)))
            go_ret
            exact ret_below HE.out.symm (refR_end HB2.out)
        · have d8 : ((m : Int) != 8) = true := by simp; omega
          have HE := Lib.hid (show rightZ i = 1 by rw [HR.out]; rw [if_neg (by omega), if_neg (by omega), if_pos ⟨hb0, m8⟩])
          go_enter Tryd.func43, Tryd.ntmps43
          go_wp2_with (first
            | (go_at_call 66; go_must ((with_reducible refine (HC.out _).mono ?_); rintro e w1 ⟨rfl, hb⟩; have HB1 := Lib.hid (HB.out.on hb); have c1 := HB1.out.c0; clear hb))
            | (go_at_call 67; go_must ((with_reducible refine (HI.out _).mono ?_); rintro e w2 ⟨rfl, hb⟩; have HB2 := Lib.hid (HB1.out.on hb); have hlt := HB2.out.lt; have c2 := HB2.out.c1; have c3 := HB2.out.c2; have c4 := HB2.out.c3; clear hb))
            | (go_at_call 68; go_must ((with_reducible refine (refValue_any _ _).mono ?_); rintro e w' ⟨rfl, rfl⟩)))
          go_ret
          exact ret_below HE.out.symm (refR_end HB2.out)
  · have HE := Lib.hid (show rightZ i = k by unfold rightZ; rw [← hk, if_pos k0])
    have dk : ((k : Int) != 0) = true := by simp; omega
    clear hk
    go_enter Tryd.func43, Tryd.ntmps43
    go_wp2_with (go_at_call 66; go_must ((with_reducible refine (HC.out _).mono ?_); rintro e w1 ⟨rfl, hb⟩; have HB1 := Lib.hid (HB.out.on hb); clear hb))
    go_ret
    exact ret_below HE.out.symm HB1.out.2
end Go.Proofs.YtebgmfjgapmpfabDoor
