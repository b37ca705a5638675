/- wire.GetItems[uint32], GetIndices of any bytes: numbers behind their number, in a row of the call's own; the labels of an instruction that was read. -/
import Derived.Test.YtebgmfjgapmpfabGreatDoorQe04
import Derived.Test.YtebgmfjgapmpfabGreatDoorQf02
import Derived.OwnWalk
namespace Go.Proofs.YtebgmfjgapmpfabGreatDoor
open Go.RowKit
set_option linter.unusedVariables false
set_option maxRecDepth 100000

theorem info32 : (Tryz.prog.info? 69).map (fun i => (i.zero, i.size, i.bytes)) = some (some (.int .u32 0), 1, 4) := by kernel_rfl
/-- Labels: none, or the beginning of a block of their own. -/
def LabT (W : World) (A : Option Addr) (ls : List Int) : Prop := (A = none ∧ ls = []) ∨ ∃ g cur, A = some ⟨g, 0, none⟩ ∧ Whole W g 69 cur ∧ cur.toList.take ls.length = cells32 ls
theorem LabT.keep {W W' : World} {A : Option Addr} {ls : List Int} {row : Option Nat} (h : LabT W A ls) (hg : W.grownBy W' row) (hq : ∀ a, A = some a → some a.block ≠ row) : LabT W' A ls := by
  rcases h with h | ⟨g, cur, rfl, h, ht⟩
  · exact .inl h
  · exact .inr ⟨g, cur, rfl, h.grown hg (hq _ rfl), ht⟩
theorem LabT.lies {W : World} {A : Option Addr} {ls : List Int} (h : LabT W A ls) : Lies W W.heap.size A (cells32 ls) := by
  rcases h with ⟨rfl, rfl⟩ | ⟨g, cur, rfl, h, ht⟩
  · intro j v hv; simp [cells32] at hv
  · intro j v hv
    refine ⟨g, 0, rfl, h.lt, ?_⟩
    rw [h.cell]
    rw [← ht] at hv
    have hj : j < ls.length := by have := (List.getElem?_eq_some_iff.1 hv).1; rw [List.length_take] at this; omega
    rw [List.getElem?_take, if_pos hj] at hv
    simpa using hv
theorem LabT.apart {W : World} {A : Option Addr} {ls : List Int} (h : LabT W A ls) {q : Nat} {t : TypeId} {cs : Array Value} (hw : Whole W q t cs) (ht : t ≠ 69) : ∀ a, A = some a → some a.block ≠ some q := by
  rcases h with ⟨rfl, rfl⟩ | ⟨g, cur, rfl, h, _⟩
  · intro a e; cases e
  · intro a e
    injection e with e
    subst e
    simp only [ne_eq, Option.some.injEq]
    exact fun e => hw.apart h ht e.symm
theorem own_whole {W : World} {b : Nat} {e : TypeId} {s n q : Nat} {v : Value} {xs : List Value} {t : TypeId} {cs : Array Value} (h : W.ownsRow b e s v n xs) (hw : Whole W q t cs) (ht : t ≠ e) : some q ≠ v.ownBlock := by
  rcases h.2 with ⟨rfl, _⟩ | ⟨g, cap, cur, rfl, _, hg, _⟩
  · simp [Value.ownBlock]
  · simp only [Value.ownBlock, ne_eq, Option.some.injEq]
    exact hw.apart (show Whole W g e cur from hg) ht
theorem lab_own {W : World} {b : Nat} {e : TypeId} {s n : Nat} {v : Value} {xs : List Value} {A : Option Addr} {ls : List Int} (hl : LabT W A ls) (h : W.ownsRow b e s v n xs) (ht : 69 ≠ e) : ∀ a, A = some a → some a.block ≠ v.ownBlock := by
  rcases hl with ⟨rfl, _⟩ | ⟨g, cur, rfl, hw, _⟩
  · intro a e; cases e
  · intro a e
    injection e with e
    subst e
    exact own_whole h hw ht
/-- Numbers in a row of the call's own. -/
def Row32 (W : World) (base : Nat) (v : Value) (acc : List Int) : Prop := W.ownsRow base 69 1 v acc.length (cells32 acc)
theorem Row32.nil (W : World) (base : Nat) : Row32 W base (.slice none 0 0) [] := World.ownsRow_nil W base _ 1
theorem Row32.past {W W' : World} {base b : Nat} {v : Value} {acc : List Int} (h : Row32 W base v acc) (hg : W.grownBy W' (some b)) (hb : b < base) : Row32 W' base v acc :=
  World.ownsRow.kept h hg (by
    cases hv : v.ownBlock with
    | none => exact .inl rfl
    | some k => exact .inr (by have := (World.ownsRow.lt h k hv).1; simp only [ne_eq, Option.some.injEq]; omega))
/-- What a row reads as. -/
theorem Row32.labT {W : World} {base : Nat} {v : Value} {acc : List Int} (h : Row32 W base v acc) : ∃ A c, v = .slice A acc.length c ∧ LabT W A acc ∧ ∀ a, A = some a → base ≤ a.block := by
  rcases h.2 with ⟨rfl, h0⟩ | ⟨g, cap, cur, rfl, hb, hg, _, _, _, ht⟩
  · have : acc = [] := List.eq_nil_of_length_eq_zero h0
    subst this
    exact ⟨none, 0, rfl, .inl ⟨rfl, rfl⟩, fun a e => by cases e⟩
  · exact ⟨some ⟨g, 0, none⟩, cap, rfl, .inr ⟨g, cur, rfl, hg, by rw [Nat.mul_one] at ht; exact ht⟩, fun a e => by injection e with e; subst e; exact hb⟩
/-- append of a new block of one number. -/
theorem row32_new {w : World} {ops : Array Oper} {rest : List Oper} {o : Oper} {a : Act} {Q : Exit → Act → World → Prop} (hgd : o.guard = none) (s x : Operand)
    (ho : o.op = .call { callee := .builtin .append, args := #[s, x], argTypes := #[57, 57] })
    (B : Nat) (v : Value) (acc : List Int) (hs : a.eval s = v) (hr : Row32 w B v acc) (g : Nat) (y : Int) (hx : a.eval x = .slice (some ⟨g, 0, none⟩) 1 1)
    (hg : Whole w g 69 #[.int .u32 y]) (hb : acc.length ≤ 10000) (hB : B ≤ w.heap.size)
    (h : ∀ v' w', Row32 w' B v' (acc ++ [y]) → w.grownBy w' v.ownBlock → wpList Tryz.prog ops Q rest (a.put o.dst v') w') : wpList Tryz.prog ops Q (o :: rest) a w := by
  obtain ⟨i0, hi0, hz0, hz1, hz2⟩ := info_parts info32
  refine wpList_append_own _ hgd s x _ ho B 69 i0 _ 1 4 Tryz.underlying57 hi0 hz0 hz1 hz2 rfl (by omega) v _ _ hs hr ⟨g, 0, none⟩ 1 1 [.int .u32 y] hx rfl ?_ ?_ (by unfold maxLen; omega) (by omega) hB (fun v' w' h2 h3 _ => h v' w' ?_ h3)
  · intro j u hu
    rw [Go.WideShapes.add_plain, Nat.zero_add, hg.cell]
    simpa using hu
  · intro u hu
    simp only [List.mem_cons, List.not_mem_nil, or_false] at hu
    subst hu
    rfl
  · unfold Row32
    rw [List.length_append]
    unfold cells32 at *
    rw [List.map_append]
    simpa using h2

/-- Numbers of 32 bits, one behind the other, behind those that are read. -/
noncomputable def idxK (l : List UInt8) : Nat → Nat → List Int → Res (List Int)
  | 0, q, acc => .ok acc q
  | n + 1, q, acc => (indexR l q).bind fun x q2 => idxK l n q2 (acc ++ [x])
theorem idxK_more {l : List UInt8} {n j q : Nat} {acc : List Int} (h : j < n) : idxK l (n - j) q acc = (indexR l q).bind fun x q2 => idxK l (n - (j + 1)) q2 (acc ++ [x]) := by
  rw [show n - j = n - (j + 1) + 1 by omega]; rfl
theorem idxK_at {l : List UInt8} : ∀ (ls : List Int) (k : Nat) (acc : List Int) (r : List UInt8), (∀ c ∈ ls, 0 ≤ c ∧ c ≤ 4294967295) → l.drop k = labsL ls ++ r → idxK l ls.length k acc = .ok (acc ++ ls) (k + (labsL ls).length)
  | [], k, acc, r, _, _ => by simp [idxK, labsL]
  | c :: ls, k, acc, r, hc, h => by
    have hd : l.drop k = lebL c ++ (labsL ls ++ r) := by rw [h]; unfold labsL; rw [List.flatMap_cons, List.append_assoc]
    have hb := hc c (by simp)
    have hi := indexR_at hd hb.1 hb.2
    have ih := idxK_at ls _ (acc ++ [c]) r (fun d hd => hc d (List.mem_cons_of_mem _ hd)) (drop_past hd)
    rw [List.length_cons]
    show (indexR l k).bind (fun x q2 => idxK l ls.length q2 (acc ++ [x])) = _
    rw [hi, Res.bind_ok, ih]
    unfold labsL
    rw [List.flatMap_cons, List.length_append, List.append_assoc, List.singleton_append, Nat.add_assoc]
/-- The labels, their number ahead of them. -/
noncomputable def labelsR (l : List UInt8) (k : Nat) : Res (List Int) := (countR l k).bind fun n k' => idxK l n.toNat k' []
theorem labelsR_at {l r : List UInt8} {k : Nat} {ls : List Int} (h : l.drop k = labL ls ++ r) (hl : ls.length ≤ 10000) (hc : ∀ c ∈ ls, 0 ≤ c ∧ c ≤ 4294967295) : labelsR l k = .ok ls (k + (labL ls).length) := by
  unfold labL at h ⊢
  rw [List.append_assoc] at h
  unfold labelsR
  rw [countR_at h (by omega) (by omega), Res.bind_ok, Int.toNat_natCast, idxK_at ls _ [] r hc (drop_past h), List.nil_append, List.length_append, Nat.add_assoc]
/-- Labels that were read. -/
def Labs (p : Nat) (l : List UInt8) (ls : List Int) (k : Nat) (w : World) (e : Ending) (w' : World) : Prop :=
  ∃ A c, e = .returned (.slice A ls.length c) ∧ (∀ a, A = some a → w.heap.size ≤ a.block) ∧ Sc w' p l k ∧ w.grownBy w' (some p) ∧ LabT w' A ls
/-- What GetIndices leaves behind. -/
def LabsR (p : Nat) (l : List UInt8) (r : Res (List Int)) (w : World) (e : Ending) (w' : World) : Prop := match r with
  | .ok ls k => Labs p l ls k w e w'
  | .err c a => e = .panicked (stopP c a) ∧ w.grownBy w' (some p)
/-- What holds at the head of its loop. -/
structure IxS (w : World) (p : Nat) (l : List UInt8) (k : Nat) (acc : List Int) (v : Value) (W : World) : Prop where
  sc : Sc W p l k
  g : w.grownBy W (some p)
  r : Row32 W w.heap.size v acc
section
variable {w W W' : World} {p : Nat} {l : List UInt8} {k k' : Nat} {acc : List Int} {x : Int} {v v' : Value}
theorem IxS.step (h : IxS w p l k acc v W) (hp : p < w.heap.size) (hg : W.grownBy W' (some p)) (hs : Sc W' p l k') : IxS w p l k' acc v W' :=
  ⟨hs, gb_trans h.g hg, h.r.past hg hp⟩
theorem IxS.alloc (h : IxS w p l k acc v W) (hp : p < w.heap.size) (o : Obj) : IxS w p l k acc v (W.alloc o) := h.step hp (gb_alloc (gb_refl _ _) o) (h.sc.alloc o)
theorem IxS.more (h : IxS w p l k acc v W) (hp : p < w.heap.size) (hg : W.grownBy W' v.ownBlock) (hr : Row32 W' w.heap.size v' (acc ++ [x])) : IxS w p l k (acc ++ [x]) v' W' := by
  have hlt := World.ownsRow.lt h.r
  exact ⟨h.sc.grown hg (fun e => by have := hlt p e.symm; omega) (fun g e => by have := hlt g e; omega), gb_before h.g hg (fun g e => .inr (hlt g e).1), hr⟩
end
theorem cfScI (a : Array Value) (w : World) : (callFunc 106 a).run Tryz.prog w = .ok (.enter 106 a) w := by kernel_rfl
set_option maxHeartbeats 1000000 in
theorem getItems32_any {w : World} {p : Nat} {l : List UInt8} {k : Nat} (h : Sc w p l k) :
    Calls Tryz.prog 152 #[.pointer (some ⟨p, 0, none⟩), .func (.func 106) #[] #[]] w (LabsR p l (labelsR l k) w) := by
  have hN := count_scan h
  unfold labelsR
  cases hr : countR l k with
  | err c2 a =>
    rw [hr] at hN
    rw [Res.bind_err]
    have HN := Lib.hid hN
    clear hN hr h
    have hcf := cfScI; go_enter Tryz.func152, Tryz.ntmps152
    go_wp2_with (go_at_call 102; go_must ((with_reducible refine HN.out.mono ?_); rintro e w1 ⟨rfl, hg⟩; have HG := Lib.hid hg; clear hg))
    exact ⟨rfl, rfl, HG.out⟩
  | ok v k1 =>
    rw [hr] at hN
    rw [Res.bind_ok]
    obtain ⟨v0, v1⟩ := countR_ok hr
    obtain ⟨n, rfl⟩ : ∃ n : Nat, v = n := ⟨v.toNat, by omega⟩
    rw [Int.toNat_natCast]
    have HN := Lib.hid hN
    have hp := h.lt
    obtain ⟨R, hR⟩ : ∃ R, R = idxK l n k1 [] := ⟨_, rfl⟩
    rw [← hR]
    have HR := Lib.hid hR
    clear hN hr h hR
    have hcf := cfScI; go_enter Tryz.func152, Tryz.ntmps152
    go_wp2_with (go_at_call 102; go_must ((with_reducible refine HN.out.mono ?_); rintro e w1 ⟨rfl, hs, hg⟩; have HS := Lib.hid hs; have HG := Lib.hid hg; clear hs hg))
    go_loopw [5, 8] (fun v i wr => ∃ (j q : Nat) (acc : List Int), i = .int .i64 j ∧ j ≤ n ∧ acc.length = j ∧ idxK l (n - j) q acc = R ∧ IxS w p l q acc v wr) (fun _ i _ => n - (intOf i).toNat)
    case atStart => exact ⟨0, k1, [], rfl, Nat.zero_le _, rfl, HR.out.symm, ⟨HS.out, HG.out, Row32.nil _ _⟩⟩
    case round =>
      obtain ⟨j, q, acc, rfl, hle, hj, hv, ha⟩ := hrel
      by_cases hlt : j < n
      · rw [idxK_more hlt] at hv
        have hV := index_scan ha.sc
        cases hc : indexR l q with
        | ok c q2 =>
          rw [hc] at hV hv
          rw [Res.bind_ok] at hv
          have HV := Lib.hid hV
          have HVV := Lib.hid hv
          have HA := Lib.hid ha
          have HJ := Lib.hid hj
          have hla : acc.length ≤ 10000 := by omega
          clear hV hv hc ha hj
          go_wp2_with (first
            | (go_at_call 106; go_must ((with_reducible refine HV.out.mono ?_); rintro e w2 ⟨rfl, hs, hg⟩; have HA2 := Lib.hid (HA.out.step hp hg hs); have hz2 := HA2.out.g.size; have HX := Lib.hid (Whole.made w2 69 #[.int .u32 c]); clear hs hg))
            | (at_builtin; (refine row32_new rfl _ _ rfl w.heap.size _ acc rfl (HA2.out.alloc hp _).r w2.heap.size c rfl HX.out hla (Nat.le_trans hz2 (below_box w2 _).size) ?_; intro v3 w3 hr3 hg3; have HA3 := Lib.hid ((HA2.out.alloc hp _).more hp hg3 hr3); clear hr3 hg3)))
          go_roundw
          case rel => exact ⟨j + 1, q2, acc ++ [c], by go_num, by omega, by rw [List.length_append, HJ.out, List.length_singleton], HVV.out, HA3.out⟩
          case measure => simp [intOf]; omega
        | err c a =>
          rw [hc] at hV hv
          rw [Res.bind_err] at hv
          have HV := Lib.hid hV
          subst hv
          have HG2 := Lib.hid ha.g
          clear hV hc ha hj
          go_wp2_with (go_at_call 106; go_must ((with_reducible refine HV.out.mono ?_); rintro e w2 ⟨rfl, hg⟩; have HG3 := Lib.hid hg; clear hg))
          exact ⟨rfl, rfl, gb_trans HG2.out HG3.out⟩
      · obtain rfl : j = n := by omega
        rw [Nat.sub_self] at hv
        subst hv
        obtain ⟨A, c, rfl, hl, hf⟩ := ha.r.labT
        have HA := Lib.hid ha
        have HL := Lib.hid hl
        have HF := Lib.hid hf
        clear ha hl hf hj HR
        go_wp2
        go_ret
        exact ⟨A, c, rfl, HF.out, HA.out.sc, HA.out.g, HL.out⟩
theorem getLabels_any {w : World} {p : Nat} {l : List UInt8} {k : Nat} (h : Sc w p l k) :
    Calls Tryz.prog 130 #[.pointer (some ⟨p, 0, none⟩)] w (LabsR p l (labelsR l k) w) := by
  have HI := getItems32_any h
  clear h
  cases hr : labelsR l k with
  | err c a =>
    rw [hr] at HI
    have HI := Lib.hid HI
    clear hr
    go_enter Tryz.func130, Tryz.ntmps130
    go_wp2_with (go_at_call 152; go_must ((with_reducible refine HI.out.mono ?_); rintro e w1 ⟨rfl, hg⟩; have HG := Lib.hid hg; clear hg))
    exact ⟨rfl, rfl, HG.out⟩
  | ok ls k2 =>
    rw [hr] at HI
    have HI := Lib.hid (show Calls Tryz.prog 152 _ w (Labs p l ls k2 w) from HI)
    clear hr
    go_enter Tryz.func130, Tryz.ntmps130
    go_wp2_with (go_at_call 152; go_must ((with_reducible refine HI.out.mono ?_); intro e w1 h; obtain ⟨A, c, rfl, hf, hs, hg, hl⟩ := h; have HF := Lib.hid hf; have HS := Lib.hid hs; have HG := Lib.hid hg; have HL := Lib.hid hl; clear hf hs hg hl))
    go_ret
    exact ⟨A, c, rfl, HF.out, HS.out, HG.out, HL.out⟩
theorem getLabels_ok {w : World} {p : Nat} {l r : List UInt8} {k : Nat} {ls : List Int} (hs : Sc w p l k) (h : l.drop k = labL ls ++ r) (hl : ls.length ≤ 10000) (hc : ∀ c ∈ ls, 0 ≤ c ∧ c ≤ 4294967295) :
    Calls Tryz.prog 130 #[.pointer (some ⟨p, 0, none⟩)] w (Labs p l ls (k + (labL ls).length) w) := by
  have h1 := getLabels_any hs
  rw [labelsR_at h hl hc] at h1
  exact h1
end Go.Proofs.YtebgmfjgapmpfabGreatDoor

/- The scanner's At and Int; getOp, getBlock, getNumber, wire.Nought of bytes that are right. -/
namespace Go.Proofs.YtebgmfjgapmpfabGreatDoor
open Go.RowKit
set_option linter.unusedVariables false
set_option maxRecDepth 100000

/-- The tables lie below p, and nothing there has turned. -/
def TbP (p : Nat) (w : World) : Prop := ∃ W0, Tabs W0 ∧ W0.heap.size ≤ p ∧ Below W0.heap.size W0 w
theorem TbP.tabs {p : Nat} {w : World} (h : TbP p w) : Tabs w := by
  obtain ⟨W0, h1, _, h3⟩ := h
  exact h1.below h3
theorem TbP.of {p : Nat} {w : World} (h : Tabs w) (hp : w.heap.size ≤ p) : TbP p w := ⟨w, h, hp, Below.refl _ _⟩
theorem TbP.grown {p : Nat} {w w' : World} {row : Option Nat} (h : TbP p w) (hg : w.grownBy w' row) (hr : ∀ g, row = some g → p ≤ g) : TbP p w' := by
  obtain ⟨W0, h1, h2, h3⟩ := h
  exact ⟨W0, h1, h2, Below.grown h3 hg h3.size (fun g e => Nat.le_trans h2 (hr g e))⟩
theorem TbP.below {p B : Nat} {w w' : World} (h : TbP p w) (hb : Below B w w') (hB : p ≤ B) : TbP p w' := by
  obtain ⟨W0, h1, h2, h3⟩ := h
  exact ⟨W0, h1, h2, h3.trans (hb.mono (Nat.le_trans h2 hB))⟩
theorem TbP.self {p : Nat} {w w' : World} (h : TbP p w) (hg : w.grownBy w' (some p)) : TbP p w' := h.grown hg (fun g e => by injection e with e; omega)

theorem at_any {w : World} {p : Nat} {l : List UInt8} {k : Nat} (h : Sc w p l k) : Calls Tryz.prog 109 #[.pointer (some ⟨p, 0, none⟩)] w fun e w' => e = .returned (.int .i64 k) ∧ w = w' := by
  have c1 := h.at
  clear h
  go_enter Tryz.func109, Tryz.ntmps109
  go_wp2
  go_ret
  exact ⟨rfl, rfl⟩
abbrev encS64 (v : Int) : Value := .int .i64 v
theorem readI_at {w : World} {B : Nat} {A : Option Addr} {cap : Nat} {l r : List UInt8} {k n : Nat} {x : Int} (hl : Lies w B A (cells (nums l))) (hc : l.length ≤ cap) (hm : cap ≤ maxLen) (h : l.drop k = sebL x ++ r)
    (h0 : -2 ^ (n - 1) ≤ x) (h1 : x < 2 ^ (n - 1)) (n1 : 1 ≤ n) (n2 : n ≤ 64) (hk : k ≤ l.length) :
    Calls Tryz.prog 154 #[.slice A l.length cap, .int .i64 k, .int .i64 n] w fun e w' => e = .returned (.tuple #[.int .i64 x, .int .i64 ((k + (sebL x).length : Nat) : Int), .int .i64 0]) ∧ w = w' := by
  have m63 : (2 : Int) ^ (n - 1) ≤ 2 ^ 63 := mono2 (by omega)
  have e63 : (2 : Int) ^ 63 = 9223372036854775808 := rfl
  have hna := sebN_least x (by omega) (by omega)
  have hlen := sebL_length x
  have hnl := nums_sebL x
  obtain ⟨p, c, he, hg, hx, c0, c1, hf, hp⟩ := least_s h0 h1 n1 n2 hna
  rw [he] at hlen hnl
  have hd : (nums l).drop k = grps x p ++ c :: nums r := by
    have : (nums l).drop k = nums (l.drop k) := by unfold nums; rw [List.map_drop]
    rw [this, h, nums_append, hnl, ← he, hg]
    simp
  have hS : Stop ((n + 6) / 7) ((nums l).drop k) p := by rw [hd]; exact grps_stop x p _ c _ c1 (by omega)
  have hpc : ((nums l).drop k)[p]? = some c := by rw [hd]; exact grps_at x p c _
  have hN := nums_length l
  rw [← hN] at hc hk ⊢
  refine (ri_ok (nums l) A cap B k n p c w hl (nums_wf l) hc hm hk n1 n2 hS hp hpc hf).mono ?_
  rintro e w' ⟨rfl, rfl⟩
  refine ⟨?_, rfl⟩
  have e1 : numS (((nums l).drop k).take p) c = x := by
    rw [hd, grps_take]
    unfold numS
    rw [low_grps, grps_length]
    exact hx
  rw [e1, hlen]
  simp
set_option maxHeartbeats 800000 in
theorem numberI_scan {w : World} {p : Nat} {l r : List UInt8} {k n : Nat} {x : Int} (hs : Sc w p l k) (h : l.drop k = sebL x ++ r) (h0 : -2 ^ (n - 1) ≤ x) (h1 : x < 2 ^ (n - 1)) (n1 : 1 ≤ n) (n2 : n ≤ 64) :
    Calls Tryz.prog 153 #[.pointer (some ⟨p, 0, none⟩), .int .i64 n, .func (.func 154) #[] #[]] w (Did encS64 p l w (.ok x (k + (sebL x).length))) := by
  have c1 := hs.at
  obtain ⟨A, cap, c0, hl, hc, hm⟩ := hs.data
  have hU : ∀ m, _ := fun m => readI_at (w := w.drewN m) (n := n) hl hc hm h h0 h1 n1 n2 hs.le.1
  have HK : Hid (k + (sebL x).length ≤ l.length) := by
    have := congrArg List.length h
    have hk := hs.le.1
    rw [List.length_drop, List.length_append] at this
    show _ ≤ _
    omega
  have HU := Lib.hid hU
  have HS := Lib.hid hs
  have f1 := hs.free
  obtain ⟨k', hk'⟩ : ∃ k', k' = k + (sebL x).length := ⟨_, rfl⟩
  rw [← hk'] at HU HK ⊢
  clear hU hl hs h hk'
  go_enter Tryz.func153, Tryz.ntmps153
  go_wp2
  go_quiet (first
    | (go_at_call 154; exact (HU.out _).mono fun _ _ h => ⟨h.1, _, h.2.symm⟩))
  go_wp2_with (go_at_call 75; go_must ((with_reducible refine (unlessT _ _ _).mono ?_); rintro e w' ⟨rfl, rfl⟩))
  go_ret
  exact ⟨rfl, HS.out.moved nq k' k' rfl HK.out⟩
theorem int_scan {w : World} {p : Nat} {l r : List UInt8} {k n : Nat} {x : Int} (hs : Sc w p l k) (h : l.drop k = sebL x ++ r) (h0 : -2 ^ (n - 1) ≤ x) (h1 : x < 2 ^ (n - 1)) (n1 : 1 ≤ n) (n2 : n ≤ 64) :
    Calls Tryz.prog 132 #[.pointer (some ⟨p, 0, none⟩), .int .i64 n] w (Did encS64 p l w (.ok x (k + (sebL x).length))) := by
  have HN := Lib.hid (numberI_scan hs h h0 h1 n1 n2)
  clear hs h h0 h1
  generalize k + (sebL x).length = k' at *
  go_enter Tryz.func132, Tryz.ntmps132
  go_wp2_with (go_at_call 153; go_must ((with_reducible refine HN.out.mono ?_); rintro e w1 ⟨rfl, hs, hg⟩; have HS := Lib.hid hs; have HG := Lib.hid hg; clear hs hg))
  go_ret
  exact ⟨rfl, HS.out, HG.out⟩

theorem getOp_ok {w : World} {p : Nat} {l r : List UInt8} {k : Nat} {c : UInt8} (hs : Sc w p l k) (hT : TbP p w) (h : l.drop k = c :: r) (hc : checkR c.toNat = 0) :
    Calls Tryz.prog 127 #[.pointer (some ⟨p, 0, none⟩)] w (Did encB p l w (.ok c (k + 1))) := by
  have hB := byte_any hs
  rw [byteR_at h] at hB
  have HB := Lib.hid hB
  have HA := Lib.hid (at_any hs)
  have HT := Lib.hid hT
  have HC := Lib.hid (fun W (h : Tabs W) => by have := check_any c.toNat W h (by have := c.toNat_lt; omega); rw [hc] at this; exact this)
  clear hs hT h hB hc
  go_enter Tryz.func127, Tryz.ntmps127
  go_wp2_with (first
    | (go_at_call 109; go_must ((with_reducible refine HA.out.mono ?_); rintro e w' ⟨rfl, rfl⟩))
    | (go_at_call 126; go_must ((with_reducible refine HB.out.mono ?_); rintro e w1 ⟨rfl, hs, hg⟩; have HS := Lib.hid hs; have HG := Lib.hid hg; clear hs hg))
    | (go_at_call 139; go_must ((with_reducible refine (HC.out _ (HT.out.self HG.out).tabs).mono ?_); rintro e w' ⟨rfl, rfl⟩))
    | (go_at_call 75; go_must ((with_reducible refine (unlessT _ _ _).mono ?_); rintro e w' ⟨rfl, rfl⟩)))
  go_ret
  exact ⟨rfl, HS.out, HG.out⟩
theorem getBlock_ok {w : World} {p : Nat} {l r : List UInt8} {k : Nat} {c : UInt8} (hs : Sc w p l k) (h : l.drop k = c :: r) (hc : blockZ c.toNat = 0) :
    Calls Tryz.prog 129 #[.pointer (some ⟨p, 0, none⟩)] w (Did enc64 p l w (.ok c.toNat (k + 1))) := by
  have hB := byte_any hs
  rw [byteR_at h] at hB
  have HB := Lib.hid hB
  have HA := Lib.hid (at_any hs)
  have hw : IntKind.u64.wrap (c.toNat : Int) = c.toNat := by have := c.toNat_lt; simp [IntKind.wrap, IntKind.bits, IntKind.signed]; omega
  have HC := Lib.hid (fun W => by have := block_any c.toNat W (by omega); rw [hc] at this; exact this)
  clear hs h hB hc
  go_enter Tryz.func129, Tryz.ntmps129
  go_wp2_with (first
    | (go_at_call 109; go_must ((with_reducible refine HA.out.mono ?_); rintro e w' ⟨rfl, rfl⟩))
    | (go_at_call 126; go_must ((with_reducible refine HB.out.mono ?_); rintro e w1 ⟨rfl, hs, hg⟩; have HS := Lib.hid hs; have HG := Lib.hid hg; clear hs hg))
    | (go_at_call 151; go_must ((with_reducible refine (HC.out _).mono ?_); rintro e w' ⟨rfl, rfl⟩))
    | (go_at_call 75; go_must ((with_reducible refine (unlessT _ _ _).mono ?_); rintro e w' ⟨rfl, rfl⟩)))
  go_ret
  exact ⟨rfl, HS.out, HG.out⟩
theorem getNumber_ok {w : World} {p : Nat} {l r : List UInt8} {k : Nat} {x : Int} (hs : Sc w p l k) (h : l.drop k = lebL x ++ r) (h0 : 0 ≤ x) (h1 : x ≤ 4294967295) :
    Calls Tryz.prog 131 #[.pointer (some ⟨p, 0, none⟩)] w (Did enc64 p l w (.ok x (k + (lebL x).length))) := by
  have hN := index_scan hs
  rw [indexR_at h h0 h1] at hN
  have HN := Lib.hid hN
  have hw : IntKind.u64.wrap x = x := by simp [IntKind.wrap, IntKind.bits, IntKind.signed]; omega
  generalize k + (lebL x).length = k' at *
  clear hs h hN
  go_enter Tryz.func131, Tryz.ntmps131
  go_wp2_with (go_at_call 106; go_must ((with_reducible refine HN.out.mono ?_); rintro e w1 ⟨rfl, hs, hg⟩; have HS := Lib.hid hs; have HG := Lib.hid hg; clear hs hg))
  go_ret
  exact ⟨rfl, HS.out, HG.out⟩
theorem getNought_ok {w : World} {p : Nat} {l r : List UInt8} {k : Nat} (hs : Sc w p l k) (h : l.drop k = 0 :: r) :
    Calls Tryz.prog 115 #[.pointer (some ⟨p, 0, none⟩)] w (Did encU p l w (.ok () (k + 1))) := by
  have hB := byte_any hs
  rw [byteR_at h] at hB
  have HB := Lib.hid hB
  have HA := Lib.hid (at_any hs)
  clear hs h hB
  go_enter Tryz.func115, Tryz.ntmps115
  go_wp2_with (first
    | (go_at_call 109; go_must ((with_reducible refine HA.out.mono ?_); rintro e w' ⟨rfl, rfl⟩))
    | (go_at_call 126; go_must ((with_reducible refine HB.out.mono ?_); rintro e w1 ⟨rfl, hs, hg⟩; have HS := Lib.hid hs; have HG := Lib.hid hg; clear hs hg))
    | (go_at_call 75; go_must ((with_reducible refine (unlessT _ _ _).mono ?_); rintro e w' ⟨rfl, rfl⟩)))
  go_end0
  exact ⟨rfl, HS.out, HG.out⟩
end Go.Proofs.YtebgmfjgapmpfabGreatDoor

/- instr.Get of an instruction's bytes. (By gen/genGet.py.) -/
namespace Go.Proofs.YtebgmfjgapmpfabGreatDoor
open Go.RowKit
set_option linter.unusedVariables false
set_option maxRecDepth 100000

theorem Lies.keep {W W' : World} {A : Option Addr} {vs : List Value} {q : Nat} (h : Lies W W.heap.size A vs) (hg : W.grownBy W' (some q)) (hq : ∀ a, A = some a → a.block ≠ q) : Lies W' W'.heap.size A vs := fun j v hv => by
  obtain ⟨b, off, rfl, hb, hc⟩ := h j v hv
  refine ⟨b, off, rfl, Nat.lt_of_lt_of_le hb hg.size, ?_⟩
  have hne : b ≠ q := hq _ rfl
  rw [← hc]
  unfold World.cell?
  rw [hg.block b hb (by simpa using hne)]
/-- How far Get has come: its result's block, the instruction's box, the scanner. -/
structure GSt (w : World) (p : Nat) (l : List UInt8) (H2 : Nat) (A : Option Addr) (ls : List Int) (k : Nat) (v0 v1 v2 v3 : Value) (W : World) : Prop where
  res : Whole W w.heap.size 59 #[.int .u8 0, .int .u64 0, .int .u64 0, .slice none 0 0]
  box : Whole W H2 59 #[v0, v1, v2, v3]
  sc : Sc W p l k
  gr : w.grownBy W (some p)
  hp : p < w.heap.size
  h2 : w.heap.size < H2
  tb : TbP p W
  lab : Lies W W.heap.size A (cells32 ls)
  far : ∀ a, A = some a → H2 < a.block
  ty : LabT W A ls
section
variable {w : World} {p : Nat} {l : List UInt8} {H2 : Nat} {A : Option Addr} {ls : List Int} {k k' : Nat} {v0 v1 v2 v3 : Value} {W W' : World}
theorem GSt.call (h : GSt w p l H2 A ls k v0 v1 v2 v3 W) (hs : Sc W' p l k') (hg : W.grownBy W' (some p)) : GSt w p l H2 A ls k' v0 v1 v2 v3 W' := by
  have a := h.hp
  have b := h.h2
  exact ⟨h.res.grown hg (by simp only [ne_eq, Option.some.injEq]; omega), h.box.grown hg (by simp only [ne_eq, Option.some.injEq]; omega), hs, gb_trans h.gr hg, h.hp, h.h2, h.tb.self hg, h.lab.keep hg (fun x hx => by have := h.far x hx; omega), h.far, h.ty.keep hg (fun x hx => by have := h.far x hx; simp only [ne_eq, Option.some.injEq]; omega)⟩
theorem GSt.below (h : GSt w p l H2 A ls k v0 v1 v2 v3 W) (hb : Below W.heap.size W W') : GSt w p l H2 A ls k v0 v1 v2 v3 W' :=
  h.call (h.sc.below hb) (gb_of_below _ hb)
theorem GSt.put (h : GSt w p l H2 A ls k v0 v1 v2 v3 W) (i : Nat) (x : Value) {u0 u1 u2 u3 : Value} (he : #[v0, v1, v2, v3].setIfInBounds i x = #[u0, u1, u2, u3]) : GSt w p l H2 A ls k u0 u1 u2 u3 (W.setCell ⟨H2, i, none⟩ x) := by
  have a := h.hp
  have b := h.h2
  have hg : W.grownBy (W.setCell ⟨H2, i, none⟩ x) (some H2) := gb_put (p := ⟨H2, i, none⟩) (gb_refl W _) (.inl rfl) x
  have hb := h.box.put i x
  rw [he] at hb
  exact ⟨h.res.grown hg (by simp only [ne_eq, Option.some.injEq]; omega), hb, h.sc.grown hg (by simp only [ne_eq, Option.some.injEq]; omega) (fun g e => by injection e with e; omega), gb_before h.gr hg (fun g e => .inr (by injection e with e; omega)), h.hp, h.h2,
    h.tb.grown hg (fun g e => by injection e with e; omega), h.lab.keep hg (fun x hx => by have := h.far x hx; omega), h.far, h.ty.keep hg (fun x hx => by have := h.far x hx; simp only [ne_eq, Option.some.injEq]; omega)⟩
theorem GSt.labs (h : GSt w p l H2 none [] k v0 v1 v2 v3 W) (hty : LabT W A ls) (hf : ∀ a, A = some a → H2 < a.block) : GSt w p l H2 A ls k v0 v1 v2 v3 W :=
  ⟨h.res, h.box, h.sc, h.gr, h.hp, h.h2, h.tb, hty.lies, hf, hty⟩
/-- The result is written. -/
theorem GSt.fin (h : GSt w p l H2 A ls k v0 v1 v2 v3 W) (x0 x1 x2 x3 : Value) (W4 : World) (hW : W4 = (((W.setCell ⟨w.heap.size, 0, none⟩ x0).setCell ⟨w.heap.size, 1, none⟩ x1).setCell ⟨w.heap.size, 2, none⟩ x2).setCell ⟨w.heap.size, 3, none⟩ x3) :
    Whole W4 w.heap.size 59 #[x0, x1, x2, x3] ∧ Sc W4 p l k ∧ w.grownBy W4 (some p) ∧ Lies W4 W4.heap.size A (cells32 ls) ∧ LabT W4 A ls := by
  subst hW
  have a := h.hp
  have b := h.h2
  have hg := gb_put (p := ⟨w.heap.size, 3, none⟩) (gb_put (p := ⟨w.heap.size, 2, none⟩) (gb_put (p := ⟨w.heap.size, 1, none⟩) (gb_put (p := ⟨w.heap.size, 0, none⟩) (gb_refl W (some w.heap.size)) (.inl rfl) x0) (.inl rfl) x1) (.inl rfl) x2) (.inl rfl) x3
  exact ⟨(((h.res.put 0 x0).put 1 x1).put 2 x2).put 3 x3, h.sc.grown hg (by simp only [ne_eq, Option.some.injEq]; omega) (fun g e => by injection e with e; omega), gb_before h.gr hg (fun g e => .inr (by injection e with e; omega)), h.lab.keep hg (fun x hx => by have := h.far x hx; omega), h.ty.keep hg (fun x hx => by have := h.far x hx; simp only [ne_eq, Option.some.injEq]; omega)⟩
end
/-- What Get hands back of an instruction's bytes. -/
def Gets (p : Nat) (l : List UInt8) (i : I) (k : Nat) (w : World) (e : Ending) (w' : World) : Prop :=
  ∃ A c, e = .returned (insV i A c) ∧ Lies w' w'.heap.size A (cells32 i.l) ∧ (∀ a, A = some a → w.heap.size ≤ a.block) ∧ Sc w' p l k ∧ w.grownBy w' (some p) ∧ LabT w' A i.l
theorem gets_end {w : World} {p : Nat} {l : List UInt8} {i : I} {H2 : Nat} {A : Option Addr} {c k k' : Nat} {v0 v1 v2 v3 : Value} {W W4 : World} {v : Value} (h : GSt w p l H2 A i.l k v0 v1 v2 v3 W) (hf : Sc W4 p l k ∧ w.grownBy W4 (some p) ∧ Lies W4 W4.heap.size A (cells32 i.l) ∧ LabT W4 A i.l) (he : v = insV i A c) (hk : k = k') :
    Gets p l i k' w (.returned v) W4 := by
  subst hk
  exact ⟨A, c, by rw [he], hf.2.2.1, fun a ha => by have := h.far a ha; have := h.h2; omega, hf.1, hf.2.1, hf.2.2.2⟩
theorem ins_eq {i : I} {a b : Int} {v : Value} (hb : i.b = b) (ha : i.a = a) (hl : i.l = []) (hv : v = .slice none 0 0) : Value.agg #[.int .u8 i.op.toNat, .int .u64 a, .int .u64 b, v] = insV i none 0 := by
  subst hv; subst ha; subst hb
  show _ = Value.agg #[.int .u8 i.op.toNat, .int .u64 i.a, .int .u64 i.b, .slice none i.l.length 0]
  rw [hl]
  rfl

set_option maxHeartbeats 3000000 in
theorem get_ok {w : World} {p : Nat} {l r : List UInt8} {k : Nat} {i : I} (h : i.Ok) (hr : rightZ i = 0) (hs : Sc w p l k) (hT : TbP p w) (hd : l.drop k = putL i ++ r) :
    Calls Tryz.prog 110 #[.pointer (some ⟨p, 0, none⟩)] w (Gets p l i (k + (putL i).length) w) := by
  have hn := i.n_le
  obtain ⟨a0, a1, b0, b1, hl0⟩ := h
  obtain ⟨hc0, hl3, h10, hb8, hz0⟩ := right_zero hr
  obtain ⟨hz1, hz2, hz3⟩ := nums_zero hz0 a0
  have hlt := hs.lt
  obtain ⟨m, hm⟩ : ∃ m, m = immR i.n := ⟨_, rfl⟩
  obtain ⟨inf, hinf⟩ : ∃ inf, inf = infR i.n := ⟨_, rfl⟩
  have him : inf.imm = m := by rw [hinf, hm]; exact (imm_same hn hc0).1
  have HI : Hid (∀ W, Tabs W → Calls Tryz.prog 128 #[.int .u8 i.op.toNat] W fun e w' => e = .returned (infV inf) ∧ Below W.heap.size W w') := fun W hW => by rw [hinf]; exact of_any i.n W hW hn
  have hfield := fun z wx => field_imm (S inf.name) (S inf.ps) (S inf.rs) z inf.free wx
  rw [← hm] at hz1 hz2 hz3 hl3 hb8
  have hp1 : putL i = i.op :: immB m i := by unfold putL immL; rw [hm]
  rw [hp1, List.cons_append] at hd
  have HPL := Lib.hid (show (putL i).length = 1 + (immB m i).length by rw [hp1, List.length_cons]; omega)
  have hd1 : l.drop (k + 1) = immB m i ++ r := drop_past (a := [i.op]) hd
  have HZ : Hid (Sc (w.alloc (.cells #[.int .u8 0, .int .u64 0, .int .u64 0, .slice none 0 0] 59)) p l k ∧ TbP p (w.alloc (.cells #[.int .u8 0, .int .u64 0, .int .u64 0, .slice none 0 0] 59))) := ⟨hs.alloc _, hT.below (below_box w _) (by omega)⟩
  have HOP := Lib.hid (getOp_ok HZ.out.1 HZ.out.2 hd hc0)
  have HWM := Lib.hid (Whole.made w 59 #[.int .u8 0, .int .u64 0, .int .u64 0, .slice none 0 0])
  have HL0 := Lib.hid hl0
  have hstart : ∀ w1, Sc w1 p l (k + 1) → (w.alloc (.cells #[.int .u8 0, .int .u64 0, .int .u64 0, .slice none 0 0] 59)).grownBy w1 (some p) → GSt w p l w1.heap.size none [] (k + 1) (.int .u8 i.op.toNat) (.int .u64 0) (.int .u64 0) (.slice none 0 0) (w1.alloc (.cells #[.int .u8 i.op.toNat, .int .u64 0, .int .u64 0, .slice none 0 0] 59)) := fun w1 hs1 hg1 => by
    have hz := hg1.size
    rw [size_box] at hz
    exact ⟨(HWM.out.grown hg1 (by simp only [ne_eq, Option.some.injEq]; omega)).alloc _, Whole.made _ _ _, hs1.alloc _, gb_alloc (gb_trans (gb_alloc (gb_refl w _) _) hg1) _, hlt, by omega, (HZ.out.2.self hg1).below (below_box w1 _) (by omega), (fun j v hv => by simp [cells32] at hv), (fun a e => by cases e), .inl ⟨rfl, rfl⟩⟩
  have HST := Lib.hid hstart
  clear hs hT hr hc0 hz0 hinf hm hp1 hd hstart hl0
  by_cases m0 : m = 0
  · subst m0
    have himm : immB 0 i = [] := by unfold immB; rw [if_pos rfl]
    rw [himm] at HPL hd1
    have hl : i.l = [] := List.eq_nil_of_length_eq_zero (by omega)
    have hb : i.b = 0 := by omega
    have HB := Lib.hid hb
    have HL := Lib.hid hl
    have HA := Lib.hid (hz2 (by omega))
    clear hd1 himm hb8 hl3 hb hl
    go_enter Tryz.func110, Tryz.ntmps110
    go_wp2_with (first
      | (go_at_call 127; go_must ((with_reducible refine HOP.out.mono ?_); rintro e w1 ⟨rfl, hs, hg⟩; have HG1 := Lib.hid (HST.out w1 hs hg); have hh := HG1.out.h2; have n1 : ¬ w1.heap.size = w.heap.size := (by omega); have n2 : ¬ w.heap.size = w1.heap.size := (by omega); clear hs hg hh))
      | (go_at_call 128; go_must ((with_reducible refine (HI.out _ HG1.out.tb.tabs).mono ?_); rintro e w2 ⟨rfl, hb⟩; unfold infV; have HG2 := Lib.hid (HG1.out.below hb); have c0 := HG2.out.box.cell 0; have c1 := HG2.out.box.cell 1; have c2 := HG2.out.box.cell 2; have c3 := HG2.out.box.cell 3; have f1 := HG2.out.box.frozen 1; have f2 := HG2.out.box.frozen 2; have f3 := HG2.out.box.frozen 3; have r0 := HG2.out.res.cell 0; have r1 := HG2.out.res.cell 1; have r2 := HG2.out.res.cell 2; have r3 := HG2.out.res.cell 3; have z0 := HG2.out.res.frozen 0; have z1 := HG2.out.res.frozen 1; have z2 := HG2.out.res.frozen 2; have z3 := HG2.out.res.frozen 3; simp only [List.getElem?_toArray, List.getElem?_cons_zero, List.getElem?_cons_succ] at c0 c1 c2 c3 r0 r1 r2 r3; clear hb)))
    obtain ⟨q, hf⟩ := GSt.fin (show GSt w p l w1.heap.size none i.l _ _ _ _ _ _ from by rw [HL.out]; exact HG2.out) (.int .u8 i.op.toNat) (.int .u64 0) (.int .u64 0) (.slice none 0 0) _ rfl
    have q0 := q.cell 0
    have q1 := q.cell 1
    have q2 := q.cell 2
    have q3 := q.cell 3
    simp only [List.getElem?_toArray, List.getElem?_cons_zero, List.getElem?_cons_succ] at q0 q1 q2 q3
    exact bodyPost_ret (v := .agg #[.int .u8 i.op.toNat, .int .u64 0, .int .u64 0, .slice none 0 0]) (by simp [results, Tryz.results110, go_sem, q0, q1, q2, q3]) rfl (gets_end (show GSt w p l w1.heap.size none i.l _ _ _ _ _ _ from by rw [HL.out]; exact HG2.out) hf (ins_eq HB.out HA.out HL.out rfl) (by rw [HPL.out]; rfl))
  have d0 : ((m : Int) == 0) = false := by simp; omega
  by_cases m1 : m = 1
  · subst m1
    have himm : immB 1 i = [UInt8.ofNat i.a.toNat] := by unfold immB; rw [if_neg (by omega), if_pos rfl]
    rw [himm] at HPL hd1
    have hl : i.l = [] := List.eq_nil_of_length_eq_zero (by omega)
    have hb : i.b = 0 := by omega
    have HB := Lib.hid hb
    have HL := Lib.hid hl
    obtain ⟨ha, hab⟩ := hz1 rfl
    have hx := u8_of a0 ha
    have HX := Lib.hid (fun W (h : Sc W p l (k + 1)) => by have := getBlock_ok h hd1 (by rw [hx]; exact hab); rw [hx] at this; exact this)
    clear hd1 hx himm hb8 hl3 hb hl
    go_enter Tryz.func110, Tryz.ntmps110
    go_wp2_with (first
      | (go_at_call 127; go_must ((with_reducible refine HOP.out.mono ?_); rintro e w1 ⟨rfl, hs, hg⟩; have HG1 := Lib.hid (HST.out w1 hs hg); have hh := HG1.out.h2; have n1 : ¬ w1.heap.size = w.heap.size := (by omega); have n2 : ¬ w.heap.size = w1.heap.size := (by omega); clear hs hg hh))
      | (go_at_call 128; go_must ((with_reducible refine (HI.out _ HG1.out.tb.tabs).mono ?_); rintro e w2 ⟨rfl, hb⟩; unfold infV; have HG2 := Lib.hid (HG1.out.below hb); have c0 := HG2.out.box.cell 0; have c1 := HG2.out.box.cell 1; have c2 := HG2.out.box.cell 2; have c3 := HG2.out.box.cell 3; have f1 := HG2.out.box.frozen 1; have f2 := HG2.out.box.frozen 2; have f3 := HG2.out.box.frozen 3; have r0 := HG2.out.res.cell 0; have r1 := HG2.out.res.cell 1; have r2 := HG2.out.res.cell 2; have r3 := HG2.out.res.cell 3; have z0 := HG2.out.res.frozen 0; have z1 := HG2.out.res.frozen 1; have z2 := HG2.out.res.frozen 2; have z3 := HG2.out.res.frozen 3; simp only [List.getElem?_toArray, List.getElem?_cons_zero, List.getElem?_cons_succ] at c0 c1 c2 c3 r0 r1 r2 r3; clear hb))
      | (go_at_call 129; go_must ((with_reducible refine (HX.out _ HG2.out.sc).mono ?_); rintro e w3 ⟨rfl, hs, hg⟩; clear c0 c1 c2 c3 f1 f2 f3 r0 r1 r2 r3 z0 z1 z2 z3; have HG3 := Lib.hid (HG2.out.call hs hg); have c0 := HG3.out.box.cell 0; have c1 := HG3.out.box.cell 1; have c2 := HG3.out.box.cell 2; have c3 := HG3.out.box.cell 3; have f1 := HG3.out.box.frozen 1; have f2 := HG3.out.box.frozen 2; have f3 := HG3.out.box.frozen 3; have r0 := HG3.out.res.cell 0; have r1 := HG3.out.res.cell 1; have r2 := HG3.out.res.cell 2; have r3 := HG3.out.res.cell 3; have z0 := HG3.out.res.frozen 0; have z1 := HG3.out.res.frozen 1; have z2 := HG3.out.res.frozen 2; have z3 := HG3.out.res.frozen 3; simp only [List.getElem?_toArray, List.getElem?_cons_zero, List.getElem?_cons_succ] at c0 c1 c2 c3 r0 r1 r2 r3; clear hs hg)))
    obtain ⟨q, hf⟩ := GSt.fin (show GSt w p l w1.heap.size none i.l _ _ _ _ _ _ from by rw [HL.out]; exact HG3.out.put 1 (.int .u64 i.a) rfl) (.int .u8 i.op.toNat) (.int .u64 i.a) (.int .u64 0) (.slice none 0 0) _ rfl
    have q0 := q.cell 0
    have q1 := q.cell 1
    have q2 := q.cell 2
    have q3 := q.cell 3
    simp only [List.getElem?_toArray, List.getElem?_cons_zero, List.getElem?_cons_succ] at q0 q1 q2 q3
    exact bodyPost_ret (v := .agg #[.int .u8 i.op.toNat, .int .u64 i.a, .int .u64 0, .slice none 0 0]) (by simp [results, Tryz.results110, go_sem, q0, q1, q2, q3]) rfl (gets_end (show GSt w p l w1.heap.size none i.l _ _ _ _ _ _ from by rw [HL.out]; exact HG3.out.put 1 (.int .u64 i.a) rfl) hf (ins_eq HB.out rfl HL.out rfl) (by rw [HPL.out]; rfl))
  have d1 : ((m : Int) == 1) = false := by simp; omega
  by_cases m3 : m = 3
  · subst m3
    have himm : immB 3 i = labL i.l ++ lebL i.a := by unfold immB; rw [if_neg (by omega), if_neg (by omega), if_pos rfl]
    rw [himm] at HPL hd1
    have hb : i.b = 0 := by omega
    have HB := Lib.hid hb
    obtain ⟨ha, _⟩ := hz3 (by omega)
    rw [List.append_assoc] at hd1
    have hd2 := drop_past hd1
    have HX := Lib.hid (fun W (h : Sc W p l (k + 1)) => getLabels_ok h hd1 h10 HL0.out)
    have HY := Lib.hid (fun W (h : Sc W p l (k + 1 + (labL i.l).length)) => getNumber_ok h hd2 a0 ha)
    clear hd1 hd2 himm hb8 hl3 hb
    go_enter Tryz.func110, Tryz.ntmps110
    go_wp2_with (first
      | (go_at_call 127; go_must ((with_reducible refine HOP.out.mono ?_); rintro e w1 ⟨rfl, hs, hg⟩; have HG1 := Lib.hid (HST.out w1 hs hg); have hh := HG1.out.h2; have n1 : ¬ w1.heap.size = w.heap.size := (by omega); have n2 : ¬ w.heap.size = w1.heap.size := (by omega); clear hs hg hh))
      | (go_at_call 128; go_must ((with_reducible refine (HI.out _ HG1.out.tb.tabs).mono ?_); rintro e w2 ⟨rfl, hb⟩; unfold infV; have HG2 := Lib.hid (HG1.out.below hb); have c0 := HG2.out.box.cell 0; have c1 := HG2.out.box.cell 1; have c2 := HG2.out.box.cell 2; have c3 := HG2.out.box.cell 3; have f1 := HG2.out.box.frozen 1; have f2 := HG2.out.box.frozen 2; have f3 := HG2.out.box.frozen 3; have r0 := HG2.out.res.cell 0; have r1 := HG2.out.res.cell 1; have r2 := HG2.out.res.cell 2; have r3 := HG2.out.res.cell 3; have z0 := HG2.out.res.frozen 0; have z1 := HG2.out.res.frozen 1; have z2 := HG2.out.res.frozen 2; have z3 := HG2.out.res.frozen 3; simp only [List.getElem?_toArray, List.getElem?_cons_zero, List.getElem?_cons_succ] at c0 c1 c2 c3 r0 r1 r2 r3; clear hb))
      | (go_at_call 130; go_must ((with_reducible refine (HX.out _ HG2.out.sc).mono ?_); intro e w3 hq; obtain ⟨A, c, rfl, hge, hs, hg, hty⟩ := hq; clear c0 c1 c2 c3 f1 f2 f3 r0 r1 r2 r3 z0 z1 z2 z3; have HG3 := Lib.hid ((HG2.out.call hs hg).labs hty (fun a ha => Nat.lt_of_lt_of_le HG2.out.box.lt (hge a ha))); have c0 := HG3.out.box.cell 0; have c1 := HG3.out.box.cell 1; have c2 := HG3.out.box.cell 2; have c3 := HG3.out.box.cell 3; have f1 := HG3.out.box.frozen 1; have f2 := HG3.out.box.frozen 2; have f3 := HG3.out.box.frozen 3; have r0 := HG3.out.res.cell 0; have r1 := HG3.out.res.cell 1; have r2 := HG3.out.res.cell 2; have r3 := HG3.out.res.cell 3; have z0 := HG3.out.res.frozen 0; have z1 := HG3.out.res.frozen 1; have z2 := HG3.out.res.frozen 2; have z3 := HG3.out.res.frozen 3; simp only [List.getElem?_toArray, List.getElem?_cons_zero, List.getElem?_cons_succ] at c0 c1 c2 c3 r0 r1 r2 r3; clear hs hg hge hty))
      | (go_at_call 131; go_must ((with_reducible refine (HY.out _ (HG3.out.put 3 (.slice A i.l.length c) rfl).sc).mono ?_); rintro e w4 ⟨rfl, hs, hg⟩; clear c0 c1 c2 c3 f1 f2 f3 r0 r1 r2 r3 z0 z1 z2 z3; have HG4 := Lib.hid ((HG3.out.put 3 (.slice A i.l.length c) rfl).call hs hg); have c0 := HG4.out.box.cell 0; have c1 := HG4.out.box.cell 1; have c2 := HG4.out.box.cell 2; have c3 := HG4.out.box.cell 3; have f1 := HG4.out.box.frozen 1; have f2 := HG4.out.box.frozen 2; have f3 := HG4.out.box.frozen 3; have r0 := HG4.out.res.cell 0; have r1 := HG4.out.res.cell 1; have r2 := HG4.out.res.cell 2; have r3 := HG4.out.res.cell 3; have z0 := HG4.out.res.frozen 0; have z1 := HG4.out.res.frozen 1; have z2 := HG4.out.res.frozen 2; have z3 := HG4.out.res.frozen 3; simp only [List.getElem?_toArray, List.getElem?_cons_zero, List.getElem?_cons_succ] at c0 c1 c2 c3 r0 r1 r2 r3; clear hs hg)))
    obtain ⟨q, hf⟩ := GSt.fin (HG4.out.put 1 (.int .u64 i.a) rfl) (.int .u8 i.op.toNat) (.int .u64 i.a) (.int .u64 0) (.slice A i.l.length c) _ rfl
    have q0 := q.cell 0
    have q1 := q.cell 1
    have q2 := q.cell 2
    have q3 := q.cell 3
    simp only [List.getElem?_toArray, List.getElem?_cons_zero, List.getElem?_cons_succ] at q0 q1 q2 q3
    exact bodyPost_ret (v := .agg #[.int .u8 i.op.toNat, .int .u64 i.a, .int .u64 0, .slice A i.l.length c]) (by simp [results, Tryz.results110, go_sem, q0, q1, q2, q3]) rfl (gets_end (HG4.out.put 1 (.int .u64 i.a) rfl) hf (show _ = insV i A c by rw [show insV i A c = Value.agg #[.int .u8 i.op.toNat, .int .u64 i.a, .int .u64 i.b, .slice A i.l.length c] from rfl, HB.out]) (by rw [HPL.out, List.length_append]; omega))
  have d3 : ((m : Int) == 3) = false := by simp; omega
  by_cases m5 : m = 5
  · subst m5
    have himm : immB 5 i = lebL i.a ++ [0] := by unfold immB; rw [if_neg (by omega), if_neg (by omega), if_neg (by omega), if_pos rfl]
    rw [himm] at HPL hd1
    have hl : i.l = [] := List.eq_nil_of_length_eq_zero (by omega)
    have hb : i.b = 0 := by omega
    have HB := Lib.hid hb
    have HL := Lib.hid hl
    obtain ⟨ha, _⟩ := hz3 (by omega)
    rw [List.append_assoc] at hd1
    have hd2 := drop_past hd1
    have HX := Lib.hid (fun W (h : Sc W p l (k + 1)) => getNumber_ok h hd1 a0 ha)
    have HY := Lib.hid (fun W (h : Sc W p l (k + 1 + (lebL i.a).length)) => getNought_ok h hd2)
    clear hd1 hd2 himm hb8 hl3 hb hl
    go_enter Tryz.func110, Tryz.ntmps110
    go_wp2_with (first
      | (go_at_call 127; go_must ((with_reducible refine HOP.out.mono ?_); rintro e w1 ⟨rfl, hs, hg⟩; have HG1 := Lib.hid (HST.out w1 hs hg); have hh := HG1.out.h2; have n1 : ¬ w1.heap.size = w.heap.size := (by omega); have n2 : ¬ w.heap.size = w1.heap.size := (by omega); clear hs hg hh))
      | (go_at_call 128; go_must ((with_reducible refine (HI.out _ HG1.out.tb.tabs).mono ?_); rintro e w2 ⟨rfl, hb⟩; unfold infV; have HG2 := Lib.hid (HG1.out.below hb); have c0 := HG2.out.box.cell 0; have c1 := HG2.out.box.cell 1; have c2 := HG2.out.box.cell 2; have c3 := HG2.out.box.cell 3; have f1 := HG2.out.box.frozen 1; have f2 := HG2.out.box.frozen 2; have f3 := HG2.out.box.frozen 3; have r0 := HG2.out.res.cell 0; have r1 := HG2.out.res.cell 1; have r2 := HG2.out.res.cell 2; have r3 := HG2.out.res.cell 3; have z0 := HG2.out.res.frozen 0; have z1 := HG2.out.res.frozen 1; have z2 := HG2.out.res.frozen 2; have z3 := HG2.out.res.frozen 3; simp only [List.getElem?_toArray, List.getElem?_cons_zero, List.getElem?_cons_succ] at c0 c1 c2 c3 r0 r1 r2 r3; clear hb))
      | (go_at_call 131; go_must ((with_reducible refine (HX.out _ HG2.out.sc).mono ?_); rintro e w3 ⟨rfl, hs, hg⟩; clear c0 c1 c2 c3 f1 f2 f3 r0 r1 r2 r3 z0 z1 z2 z3; have HG3 := Lib.hid (HG2.out.call hs hg); have c0 := HG3.out.box.cell 0; have c1 := HG3.out.box.cell 1; have c2 := HG3.out.box.cell 2; have c3 := HG3.out.box.cell 3; have f1 := HG3.out.box.frozen 1; have f2 := HG3.out.box.frozen 2; have f3 := HG3.out.box.frozen 3; have r0 := HG3.out.res.cell 0; have r1 := HG3.out.res.cell 1; have r2 := HG3.out.res.cell 2; have r3 := HG3.out.res.cell 3; have z0 := HG3.out.res.frozen 0; have z1 := HG3.out.res.frozen 1; have z2 := HG3.out.res.frozen 2; have z3 := HG3.out.res.frozen 3; simp only [List.getElem?_toArray, List.getElem?_cons_zero, List.getElem?_cons_succ] at c0 c1 c2 c3 r0 r1 r2 r3; clear hs hg))
      | (go_at_call 115; go_must ((with_reducible refine (HY.out _ (HG3.out.put 1 (.int .u64 i.a) rfl).sc).mono ?_); rintro e w4 ⟨rfl, hs, hg⟩; clear c0 c1 c2 c3 f1 f2 f3 r0 r1 r2 r3 z0 z1 z2 z3; have HG4 := Lib.hid ((HG3.out.put 1 (.int .u64 i.a) rfl).call hs hg); have c0 := HG4.out.box.cell 0; have c1 := HG4.out.box.cell 1; have c2 := HG4.out.box.cell 2; have c3 := HG4.out.box.cell 3; have f1 := HG4.out.box.frozen 1; have f2 := HG4.out.box.frozen 2; have f3 := HG4.out.box.frozen 3; have r0 := HG4.out.res.cell 0; have r1 := HG4.out.res.cell 1; have r2 := HG4.out.res.cell 2; have r3 := HG4.out.res.cell 3; have z0 := HG4.out.res.frozen 0; have z1 := HG4.out.res.frozen 1; have z2 := HG4.out.res.frozen 2; have z3 := HG4.out.res.frozen 3; simp only [List.getElem?_toArray, List.getElem?_cons_zero, List.getElem?_cons_succ] at c0 c1 c2 c3 r0 r1 r2 r3; clear hs hg)))
    obtain ⟨q, hf⟩ := GSt.fin (show GSt w p l w1.heap.size none i.l _ _ _ _ _ _ from by rw [HL.out]; exact HG4.out) (.int .u8 i.op.toNat) (.int .u64 i.a) (.int .u64 0) (.slice none 0 0) _ rfl
    have q0 := q.cell 0
    have q1 := q.cell 1
    have q2 := q.cell 2
    have q3 := q.cell 3
    simp only [List.getElem?_toArray, List.getElem?_cons_zero, List.getElem?_cons_succ] at q0 q1 q2 q3
    exact bodyPost_ret (v := .agg #[.int .u8 i.op.toNat, .int .u64 i.a, .int .u64 0, .slice none 0 0]) (by simp [results, Tryz.results110, go_sem, q0, q1, q2, q3]) rfl (gets_end (show GSt w p l w1.heap.size none i.l _ _ _ _ _ _ from by rw [HL.out]; exact HG4.out) hf (ins_eq HB.out rfl HL.out rfl) (by rw [HPL.out, List.length_append, List.length_singleton]; omega))
  have d5 : ((m : Int) == 5) = false := by simp; omega
  by_cases m8 : m = 8
  · subst m8
    have himm : immB 8 i = lebL i.a ++ lebL i.b := by unfold immB; rw [if_neg (by omega), if_neg (by omega), if_neg (by omega), if_neg (by omega), if_pos rfl]
    rw [himm] at HPL hd1
    have hl : i.l = [] := List.eq_nil_of_length_eq_zero (by omega)
    have HL := Lib.hid hl
    obtain ⟨ha, hbb⟩ := hz3 (by omega)
    rw [List.append_assoc] at hd1
    have hd2 := drop_past hd1
    have HX := Lib.hid (fun W (h : Sc W p l (k + 1)) => getNumber_ok h hd1 a0 ha)
    have HY := Lib.hid (fun W (h : Sc W p l (k + 1 + (lebL i.a).length)) => getNumber_ok h hd2 b0 hbb)
    clear hd1 hd2 himm hb8 hl3 hl
    go_enter Tryz.func110, Tryz.ntmps110
    go_wp2_with (first
      | (go_at_call 127; go_must ((with_reducible refine HOP.out.mono ?_); rintro e w1 ⟨rfl, hs, hg⟩; have HG1 := Lib.hid (HST.out w1 hs hg); have hh := HG1.out.h2; have n1 : ¬ w1.heap.size = w.heap.size := (by omega); have n2 : ¬ w.heap.size = w1.heap.size := (by omega); clear hs hg hh))
      | (go_at_call 128; go_must ((with_reducible refine (HI.out _ HG1.out.tb.tabs).mono ?_); rintro e w2 ⟨rfl, hb⟩; unfold infV; have HG2 := Lib.hid (HG1.out.below hb); have c0 := HG2.out.box.cell 0; have c1 := HG2.out.box.cell 1; have c2 := HG2.out.box.cell 2; have c3 := HG2.out.box.cell 3; have f1 := HG2.out.box.frozen 1; have f2 := HG2.out.box.frozen 2; have f3 := HG2.out.box.frozen 3; have r0 := HG2.out.res.cell 0; have r1 := HG2.out.res.cell 1; have r2 := HG2.out.res.cell 2; have r3 := HG2.out.res.cell 3; have z0 := HG2.out.res.frozen 0; have z1 := HG2.out.res.frozen 1; have z2 := HG2.out.res.frozen 2; have z3 := HG2.out.res.frozen 3; simp only [List.getElem?_toArray, List.getElem?_cons_zero, List.getElem?_cons_succ] at c0 c1 c2 c3 r0 r1 r2 r3; clear hb))
      | (have tok := HG3; go_at_call 131; go_must ((with_reducible refine (HY.out _ (HG3.out.put 1 (.int .u64 i.a) rfl).sc).mono ?_); rintro e w4 ⟨rfl, hs, hg⟩; clear c0 c1 c2 c3 f1 f2 f3 r0 r1 r2 r3 z0 z1 z2 z3; have HG4 := Lib.hid ((HG3.out.put 1 (.int .u64 i.a) rfl).call hs hg); have c0 := HG4.out.box.cell 0; have c1 := HG4.out.box.cell 1; have c2 := HG4.out.box.cell 2; have c3 := HG4.out.box.cell 3; have f1 := HG4.out.box.frozen 1; have f2 := HG4.out.box.frozen 2; have f3 := HG4.out.box.frozen 3; have r0 := HG4.out.res.cell 0; have r1 := HG4.out.res.cell 1; have r2 := HG4.out.res.cell 2; have r3 := HG4.out.res.cell 3; have z0 := HG4.out.res.frozen 0; have z1 := HG4.out.res.frozen 1; have z2 := HG4.out.res.frozen 2; have z3 := HG4.out.res.frozen 3; simp only [List.getElem?_toArray, List.getElem?_cons_zero, List.getElem?_cons_succ] at c0 c1 c2 c3 r0 r1 r2 r3; clear hs hg))
      | (go_at_call 131; go_must ((with_reducible refine (HX.out _ HG2.out.sc).mono ?_); rintro e w3 ⟨rfl, hs, hg⟩; clear c0 c1 c2 c3 f1 f2 f3 r0 r1 r2 r3 z0 z1 z2 z3; have HG3 := Lib.hid (HG2.out.call hs hg); have c0 := HG3.out.box.cell 0; have c1 := HG3.out.box.cell 1; have c2 := HG3.out.box.cell 2; have c3 := HG3.out.box.cell 3; have f1 := HG3.out.box.frozen 1; have f2 := HG3.out.box.frozen 2; have f3 := HG3.out.box.frozen 3; have r0 := HG3.out.res.cell 0; have r1 := HG3.out.res.cell 1; have r2 := HG3.out.res.cell 2; have r3 := HG3.out.res.cell 3; have z0 := HG3.out.res.frozen 0; have z1 := HG3.out.res.frozen 1; have z2 := HG3.out.res.frozen 2; have z3 := HG3.out.res.frozen 3; simp only [List.getElem?_toArray, List.getElem?_cons_zero, List.getElem?_cons_succ] at c0 c1 c2 c3 r0 r1 r2 r3; clear hs hg)))
    obtain ⟨q, hf⟩ := GSt.fin (show GSt w p l w1.heap.size none i.l _ _ _ _ _ _ from by rw [HL.out]; exact HG4.out.put 2 (.int .u64 i.b) rfl) (.int .u8 i.op.toNat) (.int .u64 i.a) (.int .u64 i.b) (.slice none 0 0) _ rfl
    have q0 := q.cell 0
    have q1 := q.cell 1
    have q2 := q.cell 2
    have q3 := q.cell 3
    simp only [List.getElem?_toArray, List.getElem?_cons_zero, List.getElem?_cons_succ] at q0 q1 q2 q3
    exact bodyPost_ret (v := .agg #[.int .u8 i.op.toNat, .int .u64 i.a, .int .u64 i.b, .slice none 0 0]) (by simp [results, Tryz.results110, go_sem, q0, q1, q2, q3]) rfl (gets_end (show GSt w p l w1.heap.size none i.l _ _ _ _ _ _ from by rw [HL.out]; exact HG4.out.put 2 (.int .u64 i.b) rfl) hf (ins_eq rfl rfl HL.out rfl) (by rw [HPL.out, List.length_append]; omega))
  have d8 : ((m : Int) == 8) = false := by simp; omega
  by_cases m9 : m = 9
  · subst m9
    have himm : immB 9 i = [0] := by unfold immB; rw [if_neg (by omega), if_neg (by omega), if_neg (by omega), if_neg (by omega), if_neg (by omega), if_pos rfl]
    rw [himm] at HPL hd1
    have hl : i.l = [] := List.eq_nil_of_length_eq_zero (by omega)
    have hb : i.b = 0 := by omega
    have HB := Lib.hid hb
    have HL := Lib.hid hl
    have HA := Lib.hid (hz2 (by omega))
    have HX := Lib.hid (fun W (h : Sc W p l (k + 1)) => getNought_ok h hd1)
    clear hd1 himm hb8 hl3 hb hl
    go_enter Tryz.func110, Tryz.ntmps110
    go_wp2_with (first
      | (go_at_call 127; go_must ((with_reducible refine HOP.out.mono ?_); rintro e w1 ⟨rfl, hs, hg⟩; have HG1 := Lib.hid (HST.out w1 hs hg); have hh := HG1.out.h2; have n1 : ¬ w1.heap.size = w.heap.size := (by omega); have n2 : ¬ w.heap.size = w1.heap.size := (by omega); clear hs hg hh))
      | (go_at_call 128; go_must ((with_reducible refine (HI.out _ HG1.out.tb.tabs).mono ?_); rintro e w2 ⟨rfl, hb⟩; unfold infV; have HG2 := Lib.hid (HG1.out.below hb); have c0 := HG2.out.box.cell 0; have c1 := HG2.out.box.cell 1; have c2 := HG2.out.box.cell 2; have c3 := HG2.out.box.cell 3; have f1 := HG2.out.box.frozen 1; have f2 := HG2.out.box.frozen 2; have f3 := HG2.out.box.frozen 3; have r0 := HG2.out.res.cell 0; have r1 := HG2.out.res.cell 1; have r2 := HG2.out.res.cell 2; have r3 := HG2.out.res.cell 3; have z0 := HG2.out.res.frozen 0; have z1 := HG2.out.res.frozen 1; have z2 := HG2.out.res.frozen 2; have z3 := HG2.out.res.frozen 3; simp only [List.getElem?_toArray, List.getElem?_cons_zero, List.getElem?_cons_succ] at c0 c1 c2 c3 r0 r1 r2 r3; clear hb))
      | (go_at_call 115; go_must ((with_reducible refine (HX.out _ HG2.out.sc).mono ?_); rintro e w3 ⟨rfl, hs, hg⟩; clear c0 c1 c2 c3 f1 f2 f3 r0 r1 r2 r3 z0 z1 z2 z3; have HG3 := Lib.hid (HG2.out.call hs hg); have c0 := HG3.out.box.cell 0; have c1 := HG3.out.box.cell 1; have c2 := HG3.out.box.cell 2; have c3 := HG3.out.box.cell 3; have f1 := HG3.out.box.frozen 1; have f2 := HG3.out.box.frozen 2; have f3 := HG3.out.box.frozen 3; have r0 := HG3.out.res.cell 0; have r1 := HG3.out.res.cell 1; have r2 := HG3.out.res.cell 2; have r3 := HG3.out.res.cell 3; have z0 := HG3.out.res.frozen 0; have z1 := HG3.out.res.frozen 1; have z2 := HG3.out.res.frozen 2; have z3 := HG3.out.res.frozen 3; simp only [List.getElem?_toArray, List.getElem?_cons_zero, List.getElem?_cons_succ] at c0 c1 c2 c3 r0 r1 r2 r3; clear hs hg)))
    obtain ⟨q, hf⟩ := GSt.fin (show GSt w p l w1.heap.size none i.l _ _ _ _ _ _ from by rw [HL.out]; exact HG3.out) (.int .u8 i.op.toNat) (.int .u64 0) (.int .u64 0) (.slice none 0 0) _ rfl
    have q0 := q.cell 0
    have q1 := q.cell 1
    have q2 := q.cell 2
    have q3 := q.cell 3
    simp only [List.getElem?_toArray, List.getElem?_cons_zero, List.getElem?_cons_succ] at q0 q1 q2 q3
    exact bodyPost_ret (v := .agg #[.int .u8 i.op.toNat, .int .u64 0, .int .u64 0, .slice none 0 0]) (by simp [results, Tryz.results110, go_sem, q0, q1, q2, q3]) rfl (gets_end (show GSt w p l w1.heap.size none i.l _ _ _ _ _ _ from by rw [HL.out]; exact HG3.out) hf (ins_eq HB.out HA.out HL.out rfl) (by rw [HPL.out]; rfl))
  have d9 : ((m : Int) == 9) = false := by simp; omega
  by_cases m10 : m = 10
  · subst m10
    have himm : immB 10 i = sebL (s32 i.a) := by unfold immB; rw [if_neg (by omega), if_neg (by omega), if_neg (by omega), if_neg (by omega), if_neg (by omega), if_neg (by omega), if_pos rfl]
    rw [himm] at HPL hd1
    have hl : i.l = [] := List.eq_nil_of_length_eq_zero (by omega)
    have hb : i.b = 0 := by omega
    have HB := Lib.hid hb
    have HL := Lib.hid hl
    obtain ⟨ha, _⟩ := hz3 (by omega)
    have HX := Lib.hid (fun W (h : Sc W p l (k + 1)) => show Calls Tryz.prog 132 #[.pointer (some ⟨p, 0, none⟩), .int .i64 32] W (Did encS64 p l W (.ok (s32 i.a) (k + 1 + (sebL (s32 i.a)).length))) from int_scan (n := 32) h hd1 (show -2147483648 ≤ s32 i.a by unfold s32; omega) (show s32 i.a < 2147483648 by unfold s32; omega) (by omega) (by omega))
    have hw : IntKind.u32.wrap (s32 i.a) = i.a := by unfold s32; simp [IntKind.wrap, IntKind.bits, IntKind.signed]; omega
    have hw2 : IntKind.u64.wrap i.a = i.a := by simp [IntKind.wrap, IntKind.bits, IntKind.signed]; omega
    generalize s32 i.a = sx at *
    clear hd1 hb8 hl3 hb hl himm
    go_enter Tryz.func110, Tryz.ntmps110
    go_wp2_with (first
      | (go_at_call 127; go_must ((with_reducible refine HOP.out.mono ?_); rintro e w1 ⟨rfl, hs, hg⟩; have HG1 := Lib.hid (HST.out w1 hs hg); have hh := HG1.out.h2; have n1 : ¬ w1.heap.size = w.heap.size := (by omega); have n2 : ¬ w.heap.size = w1.heap.size := (by omega); clear hs hg hh))
      | (go_at_call 128; go_must ((with_reducible refine (HI.out _ HG1.out.tb.tabs).mono ?_); rintro e w2 ⟨rfl, hb⟩; unfold infV; have HG2 := Lib.hid (HG1.out.below hb); have c0 := HG2.out.box.cell 0; have c1 := HG2.out.box.cell 1; have c2 := HG2.out.box.cell 2; have c3 := HG2.out.box.cell 3; have f1 := HG2.out.box.frozen 1; have f2 := HG2.out.box.frozen 2; have f3 := HG2.out.box.frozen 3; have r0 := HG2.out.res.cell 0; have r1 := HG2.out.res.cell 1; have r2 := HG2.out.res.cell 2; have r3 := HG2.out.res.cell 3; have z0 := HG2.out.res.frozen 0; have z1 := HG2.out.res.frozen 1; have z2 := HG2.out.res.frozen 2; have z3 := HG2.out.res.frozen 3; simp only [List.getElem?_toArray, List.getElem?_cons_zero, List.getElem?_cons_succ] at c0 c1 c2 c3 r0 r1 r2 r3; clear hb))
      | (go_at_call 132; go_must ((with_reducible refine (HX.out _ HG2.out.sc).mono ?_); rintro e w3 ⟨rfl, hs, hg⟩; clear c0 c1 c2 c3 f1 f2 f3 r0 r1 r2 r3 z0 z1 z2 z3; have HG3 := Lib.hid (HG2.out.call hs hg); have c0 := HG3.out.box.cell 0; have c1 := HG3.out.box.cell 1; have c2 := HG3.out.box.cell 2; have c3 := HG3.out.box.cell 3; have f1 := HG3.out.box.frozen 1; have f2 := HG3.out.box.frozen 2; have f3 := HG3.out.box.frozen 3; have r0 := HG3.out.res.cell 0; have r1 := HG3.out.res.cell 1; have r2 := HG3.out.res.cell 2; have r3 := HG3.out.res.cell 3; have z0 := HG3.out.res.frozen 0; have z1 := HG3.out.res.frozen 1; have z2 := HG3.out.res.frozen 2; have z3 := HG3.out.res.frozen 3; simp only [List.getElem?_toArray, List.getElem?_cons_zero, List.getElem?_cons_succ] at c0 c1 c2 c3 r0 r1 r2 r3; clear hs hg)))
    obtain ⟨q, hf⟩ := GSt.fin (show GSt w p l w1.heap.size none i.l _ _ _ _ _ _ from by rw [HL.out]; exact HG3.out.put 1 (.int .u64 i.a) rfl) (.int .u8 i.op.toNat) (.int .u64 i.a) (.int .u64 0) (.slice none 0 0) _ rfl
    have q0 := q.cell 0
    have q1 := q.cell 1
    have q2 := q.cell 2
    have q3 := q.cell 3
    simp only [List.getElem?_toArray, List.getElem?_cons_zero, List.getElem?_cons_succ] at q0 q1 q2 q3
    exact bodyPost_ret (v := .agg #[.int .u8 i.op.toNat, .int .u64 i.a, .int .u64 0, .slice none 0 0]) (by simp [results, Tryz.results110, go_sem, q0, q1, q2, q3]) rfl (gets_end (show GSt w p l w1.heap.size none i.l _ _ _ _ _ _ from by rw [HL.out]; exact HG3.out.put 1 (.int .u64 i.a) rfl) hf (ins_eq HB.out rfl HL.out rfl) (by rw [HPL.out]; omega))
  have d10 : ((m : Int) == 10) = false := by simp; omega
  by_cases m11 : m = 11
  · subst m11
    have himm : immB 11 i = sebL (s64 i.a) := by unfold immB; rw [if_neg (by omega), if_neg (by omega), if_neg (by omega), if_neg (by omega), if_neg (by omega), if_neg (by omega), if_neg (by omega), if_pos rfl]
    rw [himm] at HPL hd1
    have hl : i.l = [] := List.eq_nil_of_length_eq_zero (by omega)
    have hb : i.b = 0 := by omega
    have HB := Lib.hid hb
    have HL := Lib.hid hl
    have HX := Lib.hid (fun W (h : Sc W p l (k + 1)) => show Calls Tryz.prog 132 #[.pointer (some ⟨p, 0, none⟩), .int .i64 64] W (Did encS64 p l W (.ok (s64 i.a) (k + 1 + (sebL (s64 i.a)).length))) from int_scan (n := 64) h hd1 (show -9223372036854775808 ≤ s64 i.a by unfold s64; omega) (show s64 i.a < 9223372036854775808 by unfold s64; omega) (by omega) (by omega))
    have hw : IntKind.u64.wrap (s64 i.a) = i.a := by unfold s64; simp [IntKind.wrap, IntKind.bits, IntKind.signed]; omega
    generalize s64 i.a = sx at *
    clear hd1 hb8 hl3 hb hl himm
    go_enter Tryz.func110, Tryz.ntmps110
    go_wp2_with (first
      | (go_at_call 127; go_must ((with_reducible refine HOP.out.mono ?_); rintro e w1 ⟨rfl, hs, hg⟩; have HG1 := Lib.hid (HST.out w1 hs hg); have hh := HG1.out.h2; have n1 : ¬ w1.heap.size = w.heap.size := (by omega); have n2 : ¬ w.heap.size = w1.heap.size := (by omega); clear hs hg hh))
      | (go_at_call 128; go_must ((with_reducible refine (HI.out _ HG1.out.tb.tabs).mono ?_); rintro e w2 ⟨rfl, hb⟩; unfold infV; have HG2 := Lib.hid (HG1.out.below hb); have c0 := HG2.out.box.cell 0; have c1 := HG2.out.box.cell 1; have c2 := HG2.out.box.cell 2; have c3 := HG2.out.box.cell 3; have f1 := HG2.out.box.frozen 1; have f2 := HG2.out.box.frozen 2; have f3 := HG2.out.box.frozen 3; have r0 := HG2.out.res.cell 0; have r1 := HG2.out.res.cell 1; have r2 := HG2.out.res.cell 2; have r3 := HG2.out.res.cell 3; have z0 := HG2.out.res.frozen 0; have z1 := HG2.out.res.frozen 1; have z2 := HG2.out.res.frozen 2; have z3 := HG2.out.res.frozen 3; simp only [List.getElem?_toArray, List.getElem?_cons_zero, List.getElem?_cons_succ] at c0 c1 c2 c3 r0 r1 r2 r3; clear hb))
      | (go_at_call 132; go_must ((with_reducible refine (HX.out _ HG2.out.sc).mono ?_); rintro e w3 ⟨rfl, hs, hg⟩; clear c0 c1 c2 c3 f1 f2 f3 r0 r1 r2 r3 z0 z1 z2 z3; have HG3 := Lib.hid (HG2.out.call hs hg); have c0 := HG3.out.box.cell 0; have c1 := HG3.out.box.cell 1; have c2 := HG3.out.box.cell 2; have c3 := HG3.out.box.cell 3; have f1 := HG3.out.box.frozen 1; have f2 := HG3.out.box.frozen 2; have f3 := HG3.out.box.frozen 3; have r0 := HG3.out.res.cell 0; have r1 := HG3.out.res.cell 1; have r2 := HG3.out.res.cell 2; have r3 := HG3.out.res.cell 3; have z0 := HG3.out.res.frozen 0; have z1 := HG3.out.res.frozen 1; have z2 := HG3.out.res.frozen 2; have z3 := HG3.out.res.frozen 3; simp only [List.getElem?_toArray, List.getElem?_cons_zero, List.getElem?_cons_succ] at c0 c1 c2 c3 r0 r1 r2 r3; clear hs hg)))
    obtain ⟨q, hf⟩ := GSt.fin (show GSt w p l w1.heap.size none i.l _ _ _ _ _ _ from by rw [HL.out]; exact HG3.out.put 1 (.int .u64 i.a) rfl) (.int .u8 i.op.toNat) (.int .u64 i.a) (.int .u64 0) (.slice none 0 0) _ rfl
    have q0 := q.cell 0
    have q1 := q.cell 1
    have q2 := q.cell 2
    have q3 := q.cell 3
    simp only [List.getElem?_toArray, List.getElem?_cons_zero, List.getElem?_cons_succ] at q0 q1 q2 q3
    exact bodyPost_ret (v := .agg #[.int .u8 i.op.toNat, .int .u64 i.a, .int .u64 0, .slice none 0 0]) (by simp [results, Tryz.results110, go_sem, q0, q1, q2, q3]) rfl (gets_end (show GSt w p l w1.heap.size none i.l _ _ _ _ _ _ from by rw [HL.out]; exact HG3.out.put 1 (.int .u64 i.a) rfl) hf (ins_eq HB.out rfl HL.out rfl) (by rw [HPL.out]; omega))
  have d11 : ((m : Int) == 11) = false := by simp; omega
  have himm : immB m i = lebL i.a := by unfold immB; rw [if_neg m0, if_neg m1, if_neg m3, if_neg m5, if_neg m8, if_neg m9, if_neg m10, if_neg m11]
  rw [himm] at HPL hd1
  have HL := Lib.hid (show i.l = [] from List.eq_nil_of_length_eq_zero (by omega))
  have HB := Lib.hid (show i.b = 0 by omega)
  obtain ⟨ha, _⟩ := hz3 (by omega)
  have HX := Lib.hid (fun W (h : Sc W p l (k + 1)) => getNumber_ok h hd1 a0 ha)
  clear hd1 himm hb8 hl3
  go_enter Tryz.func110, Tryz.ntmps110
  go_wp2_with (first
    | (go_at_call 127; go_must ((with_reducible refine HOP.out.mono ?_); rintro e w1 ⟨rfl, hs, hg⟩; have HG1 := Lib.hid (HST.out w1 hs hg); have hh := HG1.out.h2; have n1 : ¬ w1.heap.size = w.heap.size := (by omega); have n2 : ¬ w.heap.size = w1.heap.size := (by omega); clear hs hg hh))
    | (go_at_call 128; go_must ((with_reducible refine (HI.out _ HG1.out.tb.tabs).mono ?_); rintro e w2 ⟨rfl, hb⟩; unfold infV; have HG2 := Lib.hid (HG1.out.below hb); have c0 := HG2.out.box.cell 0; have c1 := HG2.out.box.cell 1; have c2 := HG2.out.box.cell 2; have c3 := HG2.out.box.cell 3; have f1 := HG2.out.box.frozen 1; have f2 := HG2.out.box.frozen 2; have f3 := HG2.out.box.frozen 3; have r0 := HG2.out.res.cell 0; have r1 := HG2.out.res.cell 1; have r2 := HG2.out.res.cell 2; have r3 := HG2.out.res.cell 3; have z0 := HG2.out.res.frozen 0; have z1 := HG2.out.res.frozen 1; have z2 := HG2.out.res.frozen 2; have z3 := HG2.out.res.frozen 3; simp only [List.getElem?_toArray, List.getElem?_cons_zero, List.getElem?_cons_succ] at c0 c1 c2 c3 r0 r1 r2 r3; clear hb))
    | (go_at_call 131; go_must ((with_reducible refine (HX.out _ HG2.out.sc).mono ?_); rintro e w3 ⟨rfl, hs, hg⟩; clear c0 c1 c2 c3 f1 f2 f3 r0 r1 r2 r3 z0 z1 z2 z3; have HG3 := Lib.hid (HG2.out.call hs hg); have c0 := HG3.out.box.cell 0; have c1 := HG3.out.box.cell 1; have c2 := HG3.out.box.cell 2; have c3 := HG3.out.box.cell 3; have f1 := HG3.out.box.frozen 1; have f2 := HG3.out.box.frozen 2; have f3 := HG3.out.box.frozen 3; have r0 := HG3.out.res.cell 0; have r1 := HG3.out.res.cell 1; have r2 := HG3.out.res.cell 2; have r3 := HG3.out.res.cell 3; have z0 := HG3.out.res.frozen 0; have z1 := HG3.out.res.frozen 1; have z2 := HG3.out.res.frozen 2; have z3 := HG3.out.res.frozen 3; simp only [List.getElem?_toArray, List.getElem?_cons_zero, List.getElem?_cons_succ] at c0 c1 c2 c3 r0 r1 r2 r3; clear hs hg)))
  obtain ⟨q, hf⟩ := GSt.fin (show GSt w p l w1.heap.size none i.l _ _ _ _ _ _ from by rw [HL.out]; exact HG3.out.put 1 (.int .u64 i.a) rfl) (.int .u8 i.op.toNat) (.int .u64 i.a) (.int .u64 0) (.slice none 0 0) _ rfl
  have q0 := q.cell 0
  have q1 := q.cell 1
  have q2 := q.cell 2
  have q3 := q.cell 3
  simp only [List.getElem?_toArray, List.getElem?_cons_zero, List.getElem?_cons_succ] at q0 q1 q2 q3
  exact bodyPost_ret (v := .agg #[.int .u8 i.op.toNat, .int .u64 i.a, .int .u64 0, .slice none 0 0]) (by simp [results, Tryz.results110, go_sem, q0, q1, q2, q3]) rfl (gets_end (show GSt w p l w1.heap.size none i.l _ _ _ _ _ _ from by rw [HL.out]; exact HG3.out.put 1 (.int .u64 i.a) rfl) hf (ins_eq HB.out rfl HL.out rfl) (by rw [HPL.out]; omega))
end Go.Proofs.YtebgmfjgapmpfabGreatDoor
