/- wire.Sized, bodies.locals, bodies.Put. -/
import Derived.Test.YtnfhhamkicnpjaaGreatDoorQb04
import Derived.Test.YtnfhhamkicnpjaaGreatDoorQb05
import Derived.Test.YtnfhhamkicnpjaaGreatDoorQb03
import Derived.Test.YtnfhhamkicnpjaaGreatDoorQb02
import Derived.OwnWalk
namespace Go.Proofs.YtnfhhamkicnpjaaGreatDoor
open Go.RowKit
set_option linter.unusedVariables false
set_option maxRecDepth 100000

/-- append of what lies somewhere: what is old stays, but for the row. -/
theorem row_liesG {w : World} {ops : Array Oper} {rest : List Oper} {o : Oper} {a : Act} {Q : Exit → Act → World → Prop} (hgd : o.guard = none) (s x : Operand)
    (ho : o.op = .call { callee := .builtin .append, args := #[s, x], argTypes := #[22, 22] })
    (B : Nat) (v : Value) (xs : List UInt8) (hs : a.eval s = v) (hr : Row w B v xs)
    (A : Option Addr) (m c B' : Nat) (news : List UInt8) (hx : a.eval x = .slice A m c) (hl : news.length = m) (hn : Lies w B' A (cells (nums news)))
    (hm : 0 < m) (hb : xs.length + news.length ≤ 1000000) (hB : B ≤ w.heap.size)
    (h : ∀ v' w', Row w' B v' (xs ++ news) → w.grownBy w' v.ownBlock → wpList Tryz.prog ops Q rest (a.put o.dst v') w') : wpList Tryz.prog ops Q (o :: rest) a w := by
  obtain ⟨i0, hi0, hz0, hz1, hz2⟩ := info_parts infoB
  have hcl : (cells (nums news)).length = m := by rw [cells_length, nums_length]; exact hl
  obtain ⟨b, off, rfl, _, _⟩ := hn.at_ (i := 0) (by omega)
  refine wpList_append_own _ hgd s x _ ho B 5 i0 _ 1 1 Tryz.underlying22 hi0 hz0 hz1 hz2 rfl (by omega) v _ _ hs hr ⟨b, off, none⟩ m c (cells (nums news)) hx (by omega) ?_ ?_ (by unfold maxLen; omega) (by omega) hB (fun v' w' h2 h3 _ => h v' w' ?_ h3)
  · intro j u hu
    obtain ⟨b', off', e, _, h2⟩ := hn j u hu
    injection e with e
    injection e with e1 e2
    subst e1; subst e2
    rw [Go.WideShapes.add_plain]; exact h2
  · intro u hu
    unfold cells at hu
    obtain ⟨c, _, rfl⟩ := List.mem_map.1 hu
    rfl
  · unfold Row
    rw [nums_append, List.length_append, hl]
    unfold cells at *
    rw [List.map_append]
    exact h2
theorem sized_w {w : World} {A : Option Addr} {c : Nat} {l : List UInt8} (hp : Pc A c l w) (hn : l.length ≤ 900000) :
    Calls Tryz.prog 52 #[.slice A l.length c] w (BytesL (lebL l.length ++ l) w) := by
  have HP := Lib.hid hp
  have HZ := Lib.hid (fun w => size_w l.length w (by omega))
  have hlen := lebL_len (l.length : Int) (by omega)
  clear hp
  generalize lebL (l.length : Int) = y at *
  go_enter Tryz.func52, Tryz.ntmps52
  go_wp2_with (first
    | (go_at_call 86; go_must ((with_reducible refine (HZ.out _).mono ?_); intro e w1 h; obtain ⟨v, rfl, hr, hb⟩ := h; have HR := Lib.hid hr; have HB := Lib.hid hb; have hz1 := hb.size; have HP1 := Lib.hid (HP.out.below hb); clear hr hb))
    | (at_builtin; (refine row_any rfl _ _ rfl w.heap.size _ y rfl HR.out A l.length c _ l rfl rfl HP1.out.lies HP1.out.nil (by omega) hz1 ?_; intro v2 w2 hr2 hb2; have HR2 := Lib.hid hr2; have HB2 := Lib.hid hb2; clear hr2 hb2)))
  go_ret
  exact ⟨_, rfl, HR2.out, HB.out.trans HB2.out⟩
set_option maxHeartbeats 4000000 in
theorem locals_any {w : World} {A : Option Addr} {c : Nat} {l : List Lo} (hl : Los w A l) (h50 : l.length ≤ 50) :
    Calls Tryz.prog 53 #[.slice A l.length c] w (BytesL (lebL l.length ++ losL l) w) := by
  have HL := Lib.hid hl
  have HZ := Lib.hid (fun w => size_w l.length w (by omega))
  have HLT := Lib.hid (fun k => losL_take l k h50)
  have hhd := lebL_len (l.length : Int) (by omega)
  obtain ⟨hd, hhe⟩ : ∃ hd, hd = lebL (l.length : Int) := ⟨_, rfl⟩
  obtain ⟨P, hP⟩ : ∃ P, P = lebL (l.length : Int) ++ losL l := ⟨_, rfl⟩
  rw [← hP]
  rw [← hhe] at hP HZ hhd
  have HP := Lib.hid hP
  obtain ⟨n, hnn⟩ : ∃ n, n = l.length := ⟨_, rfl⟩
  have HNN := Lib.hid hnn
  rw [← hnn] at h50 HZ ⊢
  clear hl hnn hP hhe
  go_enter Tryz.func53, Tryz.ntmps53
  go_wp2_with (go_at_call 86; go_must ((with_reducible refine (HZ.out _).mono ?_); intro e w1 h; obtain ⟨v, rfl, hr, hb⟩ := h; have HR := Lib.hid hr; have HB := Lib.hid hb; clear hr hb))
  go_loopw [3, 11] (fun v i wr => ∃ (k : Nat), k ≤ n ∧ i = .int .i64 k ∧ Row wr w.heap.size v (hd ++ losL (l.take k)) ∧ Below w.heap.size w wr) (fun _ i _ => n - (intOf i).toNat)
  case atStart => exact ⟨0, Nat.zero_le _, rfl, by simpa [losL] using HR.out, HB.out⟩
  case round =>
    obtain ⟨k, hk, rfl, hr, hb⟩ := hrel
    have hz1 := hb.size
    by_cases hlt : k < n
    · obtain ⟨x, hx⟩ : ∃ x, l[k]? = some x := ⟨_, List.getElem?_eq_getElem (by rw [← HNN.out]; exact hlt)⟩
      obtain ⟨b, off, rfl, hbl, c0, c1⟩ := (HL.out.below hb) k x hx
      have HS := Lib.hid (losL_snoc hx)
      have hlt2 := HLT.out k
      have HBA := Lib.hid (hb.alloc hz1 (.cells #[.int .u32 x.n.toNat, .int .u8 x.t.toNat] 92))
      have HRA := Lib.hid (hr.alloc (.cells #[.int .u32 x.n.toNat, .int .u8 x.t.toNat] 92))
      have HX := Lib.hid (Whole.made wr 92 #[.int .u32 x.n.toNat, .int .u8 x.t.toNat])
      have hxn := x.n.toNat_lt
      have wv : IntKind.u64.wrap (x.n.toNat : Int) = x.n.toNat := by simp [IntKind.wrap, IntKind.bits, IntKind.signed]; omega
      have HU := Lib.hid (fun W => uintB (x.n.toNat : Int) W (by omega) (by omega))
      have hul := lebL_len (x.n.toNat : Int) (by omega)
      obtain ⟨t, ht⟩ : ∃ t, t = hd ++ losL (l.take k) := ⟨_, rfl⟩
      have htn : t.length ≤ 600 := by rw [ht, List.length_append]; omega
      have HT := Lib.hid ht
      rw [← ht] at HRA
      obtain ⟨u, hu⟩ : ∃ u, u = lebL (x.n.toNat : Int) := ⟨_, rfl⟩
      rw [← hu] at HU hul HS
      have hs1 : t.length + u.length ≤ 1000000 := by omega
      have hs2 : (t ++ u).length + ([x.t] : List UInt8).length ≤ 1000000 := by rw [List.length_append, List.length_singleton]; omega
      have hu0 : 0 < u.length := by omega
      have HU0 := Lib.hid hu0
      clear hx hr hb ht hu hlt2 htn hul hu0
      go_wp2_with (first
        | (go_at_call 90; go_must ((with_reducible refine (HU.out _).mono ?_); intro e w3 h; obtain ⟨v3, rfl, hr3, hb3⟩ := h; obtain ⟨A3, c3, rfl, hp3⟩ := hr3.pc; have HP3 := Lib.hid hp3; have HR3 := Lib.hid (HRA.out.later hb3); have HX3 := Lib.hid (HX.out.below hb3); have HB3 := Lib.hid (HBA.out.trans (hb3.mono HBA.out.size)); have hz3 := HB3.out.size; clear hr3 hb3 hp3))
        | (have tok := HR4; at_builtin; go_must (refine row_newG rfl _ _ rfl w.heap.size _ (t ++ u) rfl (HR4.out.alloc (.cells #[.int .u8 x.t.toNat] 5)) w4.heap.size 1 [x.t] rfl rfl (heap_alloc_new w4 _) (by omega) hs2 (Nat.le_trans hz4 (below_box w4 _).size) ?_; intro v5 w5 hr5 hg5; have HR5 := Lib.hid hr5; have HB5 := Lib.hid ((HB4.out.alloc hz4 (.cells #[.int .u8 x.t.toNat] 5)).trans (Row.below (HR4.out.alloc (.cells #[.int .u8 x.t.toNat] 5)) (Nat.le_trans hz4 (below_box w4 _).size) hg5)); clear hr5 hg5))
        | (at_builtin; go_must (refine row_liesG rfl _ _ rfl w.heap.size _ t rfl HR3.out A3 u.length c3 w3.heap.size u rfl rfl HP3.out.lies HU0.out hs1 hz3 ?_; intro v4 w4 hr4 hg4; have HR4 := Lib.hid hr4; have HB4 := Lib.hid (HB3.out.trans (Row.below HR3.out hz3 hg4)); have hz4 := HB4.out.size; have HX4 := Lib.hid (HX3.out.grown hg4 (own_whole HR3.out HX3.out (by decide))); have y1 := HX4.out.cell 1; simp only [List.getElem?_toArray, List.getElem?_cons_zero, List.getElem?_cons_succ] at y1; clear hr4 hg4)))
      go_roundw
      case rel => exact ⟨k + 1, by omega, by go_num, by rw [HS.out, ← List.append_assoc, ← HT.out, ← List.append_assoc]; exact HR5.out, HB5.out⟩
      case measure => simp [intOf]; omega
    · have hkn : k = l.length := by rw [← HNN.out]; omega
      rw [hkn, List.take_length, ← HP.out] at hr
      have HR2 := Lib.hid hr
      have HB2 := Lib.hid hb
      clear hr hb hkn
      go_wp2
      go_ret
      exact ⟨_, rfl, HR2.out, HB2.out⟩
/-- What Put hands back. -/
def PuttedBd (x : Bd) (w : World) (e : Ending) (w' : World) : Prop := ∃ v, e = .returned (.tuple #[v, .int .i64 (brZ x)]) ∧ Row w' w.heap.size v (if brZ x = 0 then codeL x else []) ∧ Below w.heap.size w w'
theorem brZ_code {x : Bd} (h : bshZ x = 0) : brZ x = codeZ x.b := by
  unfold brZ codeZ
  rw [if_neg (by omega)]
  unfold bshZ at h
  split at h
  · omega
  · split at h
    · omega
    · rw [if_pos h]
set_option maxHeartbeats 8000000 in
theorem put_bd {w : World} {x : Bd} {L : Option Addr} {l : Nat} {B : Option Addr} {c : Nat} (hT : Tabs w) (hl : Los w L x.ls) (hi : Ins w B x.b) (h50 : x.ls.length ≤ 50) (h60 : x.b.length ≤ 60) (hok : ∀ i ∈ x.b, i.Ok ∧ i.l.length ≤ 100) :
    Calls Tryz.prog 22 #[bdV x L l B c] w (PuttedBd x w) := by
  have H0 := Lib.hid (bxBd_start w x L l B c)
  have hb0 := below_box w (.cells (bdC x L l B c) 55)
  have HR := Lib.hid (bright_any (l := l) (c := c) (hT.below hb0) (hl.below hb0) (hi.below hb0) (by omega) (by omega))
  have HPB := Lib.hid (fun W (h : Below w.heap.size w W) => putBody_any (c := c) (hT.below h) (hi.below h) h60 hok)
  have HLC := Lib.hid (fun W (h : Below w.heap.size w W) => locals_any (c := l) (hl.below h) h50)
  have hbl := bputL_len h50 h60 hok
  have hsp : codeL x = lebL ((bputL x).length : Int) ++ bputL x := rfl
  have hsp2 : bputL x = (lebL (x.ls.length : Int) ++ losL x.ls) ++ bodyL x.b := rfl
  unfold PuttedBd
  clear hT hl hi hok hb0
  by_cases h0 : bshZ x = 0
  · rw [h0] at HR
    rw [brZ_code h0]
    by_cases h1 : codeZ x.b = 0
    · rw [if_pos h1, h1]
      have HPB2 := Lib.hid (fun W (h : Below w.heap.size w W) => show Calls Tryz.prog 51 #[.slice B x.b.length c] W fun e w' => ∃ v, e = .returned (.tuple #[v, .int .i64 0]) ∧ Row w' W.heap.size v (bodyL x.b) ∧ Below W.heap.size W w' from (HPB.out W h).mono fun e w' ⟨v, a1, a2, a3⟩ => ⟨v, by rw [h1] at a1; exact a1, by rw [if_pos h1] at a2; exact a2, a3⟩)
      rw [hsp]
      obtain ⟨z, hz⟩ : ∃ z, z = bputL x := ⟨_, rfl⟩
      rw [← hz] at hsp2 hbl ⊢
      obtain ⟨g, hg⟩ : ∃ g, g = lebL (x.ls.length : Int) ++ losL x.ls := ⟨_, rfl⟩
      obtain ⟨y, hy⟩ : ∃ y, y = bodyL x.b := ⟨_, rfl⟩
      rw [← hg] at HLC hsp2
      rw [← hy] at HPB2 hsp2
      have HZE := Lib.hid hsp2
      have hgy : g.length + y.length ≤ 1000000 := by have := congrArg List.length hsp2; rw [List.length_append] at this; omega
      have HZS := Lib.hid (fun W A c (h : Pc A c z W) => sized_w (c := c) h (by omega))
      clear hsp hsp2 h0 h1 hg hy hz HPB
      go_enter Tryz.func22, Tryz.ntmps22
      go_wp2_with (first
        | (go_at_call 23; go_must ((with_reducible refine HR.out.mono ?_); rintro e w1 ⟨rfl, hb⟩; have H1 := Lib.hid (bxBd_on H0.out hb); obtain ⟨c0, c1⟩ := H1.out.2; clear hb))
        | (go_at_call 51; go_must ((with_reducible refine (HPB2.out _ (bxBd_bel H1.out)).mono ?_); intro e w2 hq; obtain ⟨v2, rfl, hr, hb⟩ := hq; obtain ⟨A2, cp2, rfl, hpc⟩ := hr.pc; clear c0 c1; have HP2 := Lib.hid hpc; have H2 := Lib.hid (bxBd_on H1.out hb); obtain ⟨c0, c1⟩ := H2.out.2; clear hb hr hpc))
        | (go_at_call 53; go_must ((with_reducible refine (HLC.out _ (bxBd_bel H2.out)).mono ?_); intro e w3 hq; obtain ⟨v3, rfl, hr, hb⟩ := hq; have HR3 := Lib.hid hr; have H3 := Lib.hid (bxBd_on H2.out hb); have HP3 := Lib.hid (HP2.out.below hb); have hz3 := hb.size; clear hb hr c0 c1))
        | (go_at_call 52; go_must ((with_reducible refine (HZS.out _ _ _ HP4.out).mono ?_); intro e w5 hq; obtain ⟨v5, rfl, hr, hb⟩ := hq; have HR5 := Lib.hid hr; have HB5 := Lib.hid (HB4.out.trans (hb.mono HB4.out.size)); clear hb hr))
        | (at_builtin; (refine row_any rfl _ _ rfl w2.heap.size _ g rfl HR3.out A2 y.length cp2 _ y rfl rfl HP3.out.lies HP3.out.nil hgy hz3 ?_; intro v4 w4 hr4 hb4; rw [← HZE.out] at hr4; obtain ⟨A4, cp4, rfl, hpc4⟩ := hr4.pc; have HP4 := Lib.hid hpc4; have HB4 := Lib.hid ((bxBd_bel H3.out).trans (hb4.mono (bxBd_bel H2.out).size)); clear hr4 hb4 hpc4)))
      go_ret2
      exact ⟨_, rfl, HR5.out.mono HB4.out.size, HB5.out⟩
    · rw [if_neg h1]
      have d0 : (codeZ x.b != 0) = true := zb_of (by simpa using h1)
      have HPB2 := Lib.hid (fun W (h : Below w.heap.size w W) => show Calls Tryz.prog 51 #[.slice B x.b.length c] W fun e w' => ∃ v, e = .returned (.tuple #[v, .int .i64 (codeZ x.b)]) ∧ Below W.heap.size W w' from (HPB.out W h).mono fun e w' ⟨v, a1, a2, a3⟩ => ⟨v, a1, a3⟩)
      obtain ⟨z, hz⟩ : ∃ z, z = codeZ x.b := ⟨_, rfl⟩
      rw [← hz] at HPB2 d0 ⊢
      clear h0 h1 hz HPB hsp hsp2 HLC
      go_enter Tryz.func22, Tryz.ntmps22
      go_wp2_with (first
        | (go_at_call 23; go_must ((with_reducible refine HR.out.mono ?_); rintro e w1 ⟨rfl, hb⟩; have H1 := Lib.hid (bxBd_on H0.out hb); obtain ⟨c0, c1⟩ := H1.out.2; clear hb))
        | (go_at_call 51; go_must ((with_reducible refine (HPB2.out _ (bxBd_bel H1.out)).mono ?_); intro e w2 hq; obtain ⟨v2, rfl, hb⟩ := hq; clear c0 c1; have H2 := Lib.hid (bxBd_on H1.out hb); clear hb)))
      go_ret2
      exact ⟨_, rfl, Row.nil _ _, bxBd_bel H2.out⟩
  · have hbz : brZ x = bshZ x := by unfold brZ; rw [if_pos h0]
    rw [hbz, if_neg h0]
    have d0 : (bshZ x != 0) = true := zb_of (by simpa using h0)
    obtain ⟨z, hz⟩ : ∃ z, z = bshZ x := ⟨_, rfl⟩
    rw [← hz] at HR d0 ⊢
    clear h0 hz hbz HPB HLC hsp hsp2
    go_enter Tryz.func22, Tryz.ntmps22
    go_wp2_with (go_at_call 23; go_must ((with_reducible refine HR.out.mono ?_); rintro e w1 ⟨rfl, hb⟩; have H1 := Lib.hid (bxBd_on H0.out hb); clear hb))
    go_ret2
    exact ⟨_, rfl, Row.nil _ _, bxBd_bel H1.out⟩
end Go.Proofs.YtnfhhamkicnpjaaGreatDoor

/- Bodies that lie somewhere; rows of bodies of the call's own, with their groups of locals and their instructions. -/
namespace Go.Proofs.YtnfhhamkicnpjaaGreatDoor
open Go.RowKit
set_option linter.unusedVariables false
set_option maxRecDepth 100000

/-- Groups that were read: none, or the beginning of a block of their own. -/
def loL (x : Lo) : List Value := [.int .u32 x.n.toNat, .int .u8 x.t.toNat]
def LocT (W : World) (A : Option Addr) (ls : List Lo) : Prop := (A = none ∧ ls = []) ∨ ∃ g cur, A = some ⟨g, 0, none⟩ ∧ Whole W g 92 cur ∧ cur.toList.take (ls.length * 2) = ls.flatMap loL
theorem LocT.keep {W W' : World} {A : Option Addr} {ls : List Lo} {row : Option Nat} (h : LocT W A ls) (hg : W.grownBy W' row) (hq : ∀ a, A = some a → some a.block ≠ row) : LocT W' A ls := by
  rcases h with h | ⟨g, cur, rfl, h, ht⟩
  · exact .inl h
  · exact .inr ⟨g, cur, rfl, h.grown hg (hq _ rfl), ht⟩
theorem LocT.on {W W' : World} {A : Option Addr} {ls : List Lo} (h : LocT W A ls) (hb : Below W.heap.size W W') : LocT W' A ls := h.keep (gb_of_below none hb) (fun a _ => by simp)
theorem LocT.apart {W : World} {A : Option Addr} {ls : List Lo} (h : LocT W A ls) {q : Nat} {t : TypeId} {cs : Array Value} (hw : Whole W q t cs) (ht : t ≠ 92) : ∀ a, A = some a → some a.block ≠ some q := by
  rcases h with ⟨rfl, rfl⟩ | ⟨g, cur, rfl, h, _⟩
  · intro a e; cases e
  · intro a e
    injection e with e
    subst e
    simp only [ne_eq, Option.some.injEq]
    exact fun e => hw.apart h ht e.symm
theorem loc_own {W : World} {b : Nat} {e : TypeId} {s n : Nat} {v : Value} {xs : List Value} {A : Option Addr} {ls : List Lo} (hl : LocT W A ls) (h : W.ownsRow b e s v n xs) (ht : 92 ≠ e) : ∀ a, A = some a → some a.block ≠ v.ownBlock := by
  rcases hl with ⟨rfl, _⟩ | ⟨g, cur, rfl, hw, _⟩
  · intro a e; cases e
  · intro a e
    injection e with e
    subst e
    exact own_whole h hw ht
theorem flatLo_get : ∀ (l : List Lo) (j : Nat) (x : Lo) (u : Nat), l[j]? = some x → u < 2 → (l.flatMap loL)[j * 2 + u]? = (loL x)[u]?
  | [], j, x, u, h, _ => by cases h
  | y :: l, 0, x, u, h, hu => by
    injection h with h
    subst h
    rw [List.flatMap_cons, Nat.zero_mul, Nat.zero_add, List.getElem?_append_left (by show u < 2; exact hu)]
  | y :: l, j + 1, x, u, h, hu => by
    rw [List.flatMap_cons, List.getElem?_append_right (by show 2 ≤ _; omega)]
    have e : (j + 1) * 2 + u - (loL y).length = j * 2 + u := by show (j + 1) * 2 + u - 2 = _; omega
    rw [e]
    exact flatLo_get l j x u h hu
theorem LocT.los {W : World} {A : Option Addr} {ls : List Lo} (h : LocT W A ls) : Los W A ls := fun j x hx => by
  have hj := (List.getElem?_eq_some_iff.1 hx).1
  rcases h with ⟨_, rfl⟩ | ⟨g, cur, rfl, h, ht⟩
  · cases hx
  · have key : ∀ u, u < 2 → W.cell? ⟨g, 0 + j * 2 + u, none⟩ = (loL x)[u]? := fun u hu => by
      rw [h.cell, ← flatLo_get ls j x u hx hu, ← ht, List.getElem?_take, if_pos (by omega)]
      simp
    exact ⟨g, 0, rfl, h.lt, key 0 (by omega), key 1 (by omega)⟩
/-- A body, where its groups lie, where its instructions lie. -/
abbrev SlotBd := Bd × (Option Addr × Nat) × (Option Addr × Nat)
abbrev cC (x : SlotBd) : Array Value := bdC x.1 x.2.1.1 x.2.1.2 x.2.2.1 x.2.2.2
abbrev cV (x : SlotBd) : Value := .agg (cC x)
def cL (x : SlotBd) : List Value := (cC x).toList
theorem infoBd : (Tryz.prog.info? 55).map (fun i => (i.zero, i.size, i.bytes)) = some (some (.agg bdZ), 2, 48) := by kernel_rfl
/-- What a body that was read holds: its groups, its instructions with their labels, all behind a bound. -/
def HasBd (W : World) (base : Nat) (x : SlotBd) : Prop := (LocT W x.2.1.1 x.1.ls ∧ ∀ a, x.2.1.1 = some a → base ≤ a.block) ∧ ∃ rows, RowIL W base (.slice x.2.2.1 x.1.b.length x.2.2.2) rows ∧ rows.map (·.1) = x.1.b
theorem HasBd.past {W W' : World} {base b : Nat} {x : SlotBd} (h : HasBd W base x) (hg : W.grownBy W' (some b)) (hb : b < base) : HasBd W' base x := by
  obtain ⟨⟨h1, h2⟩, rows, h3, h4⟩ := h
  exact ⟨⟨h1.keep hg (fun a ha => by have := h2 a ha; simp only [ne_eq, Option.some.injEq]; omega), h2⟩, rows, h3.past hg hb, h4⟩
theorem HasBd.later {W W' : World} {base : Nat} {x : SlotBd} (h : HasBd W base x) (hb : Below W.heap.size W W') : HasBd W' base x := by
  obtain ⟨⟨h1, h2⟩, rows, h3, h4⟩ := h
  exact ⟨⟨h1.on hb, h2⟩, rows, h3.later hb, h4⟩
theorem HasBd.mono {W : World} {base base' : Nat} {x : SlotBd} (h : HasBd W base x) (hb : base' ≤ base) : HasBd W base' x := by
  obtain ⟨⟨h1, h2⟩, rows, h3, h4⟩ := h
  exact ⟨⟨h1, fun a ha => Nat.le_trans hb (h2 a ha)⟩, rows, h3.mono hb, h4⟩
theorem HasBd.beside {W W' : World} {base b n : Nat} {u : Value} {xs : List Value} {x : SlotBd} (h : HasBd W base x) (hr : W.ownsRow b 55 2 u n xs) (hg : W.grownBy W' u.ownBlock) : HasBd W' base x := by
  obtain ⟨⟨h1, h2⟩, rows, h3, h4⟩ := h
  exact ⟨⟨h1.keep hg (loc_own h1 hr (by decide)), h2⟩, rows, h3.beside hr hg (by decide) (by decide), h4⟩
/-- A row of bodies of the call's own; what each holds lies behind the row's bound. -/
structure RowBd (W : World) (base : Nat) (v : Value) (rows : List SlotBd) : Prop where
  own : W.ownsRow base 55 2 v rows.length (rows.flatMap cL)
  has : ∀ x ∈ rows, HasBd W base x
theorem RowBd.nil (W : World) (base : Nat) : RowBd W base (.slice none 0 0) [] := ⟨World.ownsRow_nil W base _ 2, fun x hx => by cases hx⟩
theorem RowBd.slice {W : World} {base : Nat} {v : Value} {rows : List SlotBd} (h : RowBd W base v rows) : ∃ A c, v = .slice A rows.length c := by
  rcases h.own.2 with ⟨rfl, h0⟩ | ⟨g, cap, cur, rfl, _⟩
  · exact ⟨none, 0, by rw [h0]⟩
  · exact ⟨_, cap, rfl⟩
theorem RowBd.lt {W : World} {base : Nat} {v : Value} {rows : List SlotBd} (h : RowBd W base v rows) : ∀ k, v.ownBlock = some k → base ≤ k ∧ k < W.heap.size := World.ownsRow.lt h.own
theorem RowBd.past {W W' : World} {base b : Nat} {v : Value} {rows : List SlotBd} (h : RowBd W base v rows) (hg : W.grownBy W' (some b)) (hb : b < base) : RowBd W' base v rows :=
  ⟨World.ownsRow.kept h.own hg (by
    cases hv : v.ownBlock with
    | none => exact .inl rfl
    | some k => exact .inr (by have := (World.ownsRow.lt h.own k hv).1; simp only [ne_eq, Option.some.injEq]; omega)),
   fun x hx => (h.has x hx).past hg hb⟩
theorem RowBd.later {W W' : World} {base : Nat} {v : Value} {rows : List SlotBd} (h : RowBd W base v rows) (hb : Below W.heap.size W W') : RowBd W' base v rows :=
  ⟨World.ownsRow.kept h.own (gb_of_below none hb) (by cases v.ownBlock with
    | none => exact .inl rfl
    | some k => exact .inr (by simp)), fun x hx => (h.has x hx).later hb⟩
theorem RowBd.alloc {W : World} {base : Nat} {v : Value} {rows : List SlotBd} (h : RowBd W base v rows) (o : Obj) : RowBd (W.alloc o) base v rows := h.later (below_box W o)
theorem RowBd.mono {W : World} {base base' : Nat} {v : Value} {rows : List SlotBd} (h : RowBd W base v rows) (hb : base' ≤ base) : RowBd W base' v rows := by
  obtain ⟨⟨h1, h2⟩, h3⟩ := h
  refine ⟨⟨h1, ?_⟩, fun x hx => (h3 x hx).mono hb⟩
  rcases h2 with h2 | ⟨g, cap, cur, e, hg, r⟩
  · exact .inl h2
  · exact .inr ⟨g, cap, cur, e, Nat.le_trans hb hg, r⟩
/-- append of a new block of one body. -/
theorem rowBd_new {w : World} {ops : Array Oper} {rest : List Oper} {o : Oper} {a : Act} {Q : Exit → Act → World → Prop} (hgd : o.guard = none) (s x : Operand)
    (ho : o.op = .call { callee := .builtin .append, args := #[s, x], argTypes := #[67, 67] })
    (B : Nat) (v : Value) (l : List SlotBd) (hs : a.eval s = v) (hr : RowBd w B v l) (g : Nat) (r : SlotBd) (hx : a.eval x = .slice (some ⟨g, 0, none⟩) 1 1)
    (hg : Whole w g 55 (cC r)) (hlr : HasBd w B r) (hb : l.length ≤ 10000) (hB : B ≤ w.heap.size)
    (h : ∀ v' w', RowBd w' B v' (l ++ [r]) → w.grownBy w' v.ownBlock → wpList Tryz.prog ops Q rest (a.put o.dst v') w') : wpList Tryz.prog ops Q (o :: rest) a w := by
  obtain ⟨i0, hi0, hz0, hz1, hz2⟩ := info_parts infoBd
  refine wpList_append_own _ hgd s x _ ho B 55 i0 _ 2 48 Tryz.underlying67 hi0 hz0 hz1 hz2 rfl (by omega) v _ _ hs hr.own ⟨g, 0, none⟩ 1 1 (cL r) hx rfl ?_ ?_ (by unfold maxLen; omega) (by omega) hB (fun v' w' h2 h3 _ => h v' w' ⟨?_, ?_⟩ h3)
  · intro j u hu
    rw [Go.WideShapes.add_plain, Nat.zero_add, hg.cell, ← Array.getElem?_toList]
    exact hu
  · intro u hu
    unfold cL at hu
    simp only [List.mem_cons, List.not_mem_nil, or_false] at hu
    rcases hu with rfl | rfl <;> rfl
  · rw [List.length_append, List.flatMap_append]
    simpa using h2
  · intro y hy
    rcases List.mem_append.1 hy with hy | hy
    · exact (hr.has y hy).beside hr.own h3
    · rw [List.mem_singleton] at hy
      subst hy
      exact hlr.beside hr.own h3

/-- The slice at A reads as these bodies, and what each holds lies. -/
def Bds (w : World) (A : Option Addr) (l : List SlotBd) : Prop :=
  ∀ j x, l[j]? = some x → (∃ b off, A = some ⟨b, off, none⟩ ∧ b < w.heap.size ∧ ∀ u, u < 2 → w.cell? ⟨b, off + j * 2 + u, none⟩ = (cL x)[u]?) ∧ Los w x.2.1.1 x.1.ls ∧ Ins w x.2.2.1 x.1.b
theorem Bds.below {w w' : World} {A : Option Addr} {l : List SlotBd} (h : Bds w A l) (hb : Below w.heap.size w w') : Bds w' A l := fun j x hx => by
  obtain ⟨⟨b, off, e, h1, h2⟩, h3, h4⟩ := h j x hx
  exact ⟨⟨b, off, e, Nat.lt_of_lt_of_le h1 hb.size, fun u hu => (hb.cell (p := ⟨b, _, none⟩) h1).trans (h2 u hu)⟩, h3.below hb, h4.below hb⟩
/-- The two cells of one of them, as a walk writes them. -/
abbrev TwoAtB (w : World) (b : Nat) (o : Nat) (x : SlotBd) : Prop := w.cell? ⟨b, o, none⟩ = some (.slice x.2.1.1 x.1.ls.length x.2.1.2) ∧ w.cell? ⟨b, o + 1, none⟩ = some (.slice x.2.2.1 x.1.b.length x.2.2.2)
theorem Bds.two {w : World} {A : Option Addr} {l : List SlotBd} (h : Bds w A l) {k : Nat} {x : SlotBd} (hx : l[k]? = some x) : ∃ b off, A = some ⟨b, off, none⟩ ∧ b < w.heap.size ∧ TwoAtB w b (off + k * 2) x := by
  obtain ⟨⟨b, off, e, h1, h2⟩, _⟩ := h k x hx
  exact ⟨b, off, e, h1, h2 0 (by omega), h2 1 (by omega)⟩
theorem flatBd_get : ∀ (l : List SlotBd) (j : Nat) (x : SlotBd) (u : Nat), l[j]? = some x → u < 2 → (l.flatMap cL)[j * 2 + u]? = (cL x)[u]?
  | [], j, x, u, h, _ => by cases h
  | y :: l, 0, x, u, h, hu => by
    injection h with h
    subst h
    rw [List.flatMap_cons, Nat.zero_mul, Nat.zero_add, List.getElem?_append_left (by show u < 2; exact hu)]
  | y :: l, j + 1, x, u, h, hu => by
    rw [List.flatMap_cons, List.getElem?_append_right (by show 2 ≤ _; omega)]
    have e : (j + 1) * 2 + u - (cL y).length = j * 2 + u := by show (j + 1) * 2 + u - 2 = _; omega
    rw [e]
    exact flatBd_get l j x u h hu
theorem HasBd.ins {W : World} {base : Nat} {x : SlotBd} (h : HasBd W base x) : Los W x.2.1.1 x.1.ls ∧ Ins W x.2.2.1 x.1.b := by
  obtain ⟨⟨h1, _⟩, rows, h3, h4⟩ := h
  refine ⟨h1.los, ?_⟩
  rw [← h4]
  exact h3.insF.ins
/-- What a row of bodies reads as. -/
theorem RowBd.bds {W : World} {base : Nat} {A : Option Addr} {n c : Nat} {rows : List SlotBd} (h : RowBd W base (.slice A n c) rows) : Bds W A rows := fun j x hx => by
  have hj := (List.getElem?_eq_some_iff.1 hx).1
  refine ⟨?_, (h.has x (List.mem_of_getElem? hx)).ins⟩
  rcases h.own.2 with ⟨_, h0⟩ | ⟨g, cap, cur, e, _, hg, _, _, _, ht⟩
  · omega
  · injection e with e1 e2 e3
    exact ⟨g, 0, e1, (Array.getElem?_eq_some_iff.1 hg).1, fun u hu => by
      rw [cell_of_row W g (0 + j * 2 + u) cur _ _ hg, ← flatBd_get rows j x u hx hu, ← ht, List.getElem?_take, if_pos (by omega)]
      simp⟩
end Go.Proofs.YtnfhhamkicnpjaaGreatDoor

/- wire.Part, bodies.getLocals, whole, Get: of bytes that were written. -/
namespace Go.Proofs.YtnfhhamkicnpjaaGreatDoor
open Go.RowKit
set_option linter.unusedVariables false
set_option maxRecDepth 100000

/-- What Part leaves behind. -/
def Parted (p : Nat) (l : List UInt8) (n k1 : Nat) (w : World) (e : Ending) (w' : World) : Prop :=
  ∃ q, e = .returned (.tuple #[.pointer (some ⟨q, 0, none⟩), .int .i64 k1]) ∧ w.heap.size ≤ q ∧ Sc w' q ((l.drop k1).take n) 0 ∧ Sc w' p l (k1 + n) ∧ w.grownBy w' (some p)
set_option maxHeartbeats 800000 in
theorem part_w {w : World} {p : Nat} {l : List UInt8} {k n k1 : Nat} (h : Sc w p l k) (hi : indexR l k = .ok (n : Int) k1) (hm : k1 + n ≤ l.length) :
    Calls Tryz.prog 61 #[.pointer (some ⟨p, 0, none⟩)] w (Parted p l n k1 w) := by
  have hN := index_scan h
  have hle := h.le.2
  rw [hi] at hN
  have HN := Lib.hid hN
  obtain ⟨hk, v0, v1⟩ := uintR_ok (show uintR l k 32 = .ok (n : Int) k1 from hi)
  have v2 : (n : Int) < 4294967296 := v1
  have w1 : IntKind.u64.wrap (n : Int) = n := by simp [IntKind.wrap, IntKind.bits, IntKind.signed]; omega
  have w2 : IntKind.u64.wrap ((l.length : Int) - k1) = (l.length : Int) - k1 := by simp [IntKind.wrap, IntKind.bits, IntKind.signed]; omega
  have w3 : IntKind.i64.wrap (n : Int) = n := by rw [IntKind.wrap_i64]; omega
  have d1 : decide ((n : Int) ≤ (l.length : Int) - k1) = true := by simp; omega
  have d2 : (n : Int) ≤ (l.length : Int) - k1 := by omega
  have HSu := Lib.hid (fun (W : World) (hs : Sc W p l k1) => sub_ok hs n hm)
  clear hN hi h v0 v1 hm
  go_enter Tryz.func61, Tryz.ntmps61
  go_wp2_with (first
    | (go_at_call 93; go_must ((with_reducible refine HN.out.mono ?_); rintro e w1 ⟨rfl, hs, hg⟩; have HS := Lib.hid hs; have HG := Lib.hid hg; clear hs hg))
    | (go_at_call 94; go_must ((with_reducible refine (at_any HS.out).mono ?_); rintro e w2 ⟨rfl, rfl⟩))
    | (go_at_call 30; go_must ((with_reducible refine (left_any HS.out).mono ?_); rintro e w2 ⟨rfl, m, rfl⟩))
    | (go_at_call 95; go_must ((with_reducible refine (unlessT _ _ _).mono ?_); rintro e w' ⟨rfl, rfl⟩))
    | (go_at_call 96; go_must ((with_reducible refine (HSu.out _ (HS.out.drewN m)).mono ?_); rintro e w3 ⟨q, rfl, hq, hs1, hs2, hg2⟩; have HQ := Lib.hid hq; have HS1 := Lib.hid hs1; have HS2 := Lib.hid hs2; have HG2 := Lib.hid (gb_trans (gb_drewN HG.out m) hg2); clear hq hs1 hs2 hg2)))
  go_ret2
  exact ⟨q, rfl, Nat.le_trans HG.out.size HQ.out, HS1.out, HS2.out, HG2.out⟩
/-- A row of groups of the call's own. -/
abbrev RowLo (W : World) (base : Nat) (v : Value) (rows : List Lo) : Prop := W.ownsRow base 92 2 v rows.length (rows.flatMap loL)
theorem RowLo.past {W W' : World} {base b : Nat} {v : Value} {rows : List Lo} (h : RowLo W base v rows) (hg : W.grownBy W' (some b)) (hb : b < base) : RowLo W' base v rows :=
  World.ownsRow.kept h hg (by
    cases hv : v.ownBlock with
    | none => exact .inl rfl
    | some k => exact .inr (by have := (World.ownsRow.lt h k hv).1; simp only [ne_eq, Option.some.injEq]; omega))
theorem RowLo.later {W W' : World} {base : Nat} {v : Value} {rows : List Lo} (h : RowLo W base v rows) (hb : Below W.heap.size W W') : RowLo W' base v rows :=
  World.ownsRow.kept h (gb_of_below none hb) (by cases v.ownBlock with
    | none => exact .inl rfl
    | some k => exact .inr (by simp))
theorem infoLo : (Tryz.prog.info? 92).map (fun i => (i.zero, i.size, i.bytes)) = some (some (.agg #[.int .u32 0, .int .u8 0]), 2, 8) := by kernel_rfl
theorem rowLo_new {w : World} {ops : Array Oper} {rest : List Oper} {o : Oper} {a : Act} {Q : Exit → Act → World → Prop} (hgd : o.guard = none) (s x : Operand)
    (ho : o.op = .call { callee := .builtin .append, args := #[s, x], argTypes := #[52, 52] })
    (B : Nat) (v : Value) (l : List Lo) (hs : a.eval s = v) (hr : RowLo w B v l) (g : Nat) (r : Lo) (hx : a.eval x = .slice (some ⟨g, 0, none⟩) 1 1)
    (hg : Whole w g 92 (loL r).toArray) (hb : l.length ≤ 10000) (hB : B ≤ w.heap.size)
    (h : ∀ v' w', RowLo w' B v' (l ++ [r]) → w.grownBy w' v.ownBlock → wpList Tryz.prog ops Q rest (a.put o.dst v') w') : wpList Tryz.prog ops Q (o :: rest) a w := by
  obtain ⟨i0, hi0, hz0, hz1, hz2⟩ := info_parts infoLo
  refine wpList_append_own _ hgd s x _ ho B 92 i0 _ 2 8 Tryz.underlying52 hi0 hz0 hz1 hz2 rfl (by omega) v _ _ hs hr ⟨g, 0, none⟩ 1 1 (loL r) hx rfl ?_ ?_ (by unfold maxLen; omega) (by omega) hB (fun v' w' h2 h3 _ => h v' w' ?_ h3)
  · intro j u hu
    rw [Go.WideShapes.add_plain, Nat.zero_add, hg.cell, ← Array.getElem?_toList]
    exact hu
  · intro u hu
    unfold loL at hu
    simp only [List.mem_cons, List.not_mem_nil, or_false] at hu
    rcases hu with rfl | rfl <;> rfl
  · show w'.ownsRow B 92 2 v' (l ++ [r]).length ((l ++ [r]).flatMap loL)
    rw [List.length_append, List.flatMap_append]
    simpa using h2
/-- Once it is read. -/
theorem RowLo.loc {W : World} {base : Nat} {v : Value} {rows : List Lo} (h : RowLo W base v rows) : ∃ A c, v = .slice A rows.length c ∧ LocT W A rows ∧ ∀ a, A = some a → base ≤ a.block := by
  rcases h.2 with ⟨rfl, h0⟩ | ⟨g, cap, cur, rfl, hb, hg, _, _, _, ht⟩
  · have hr : rows = [] := List.eq_nil_of_length_eq_zero h0
    subst hr
    exact ⟨none, 0, rfl, .inl ⟨rfl, rfl⟩, fun a e => by cases e⟩
  · exact ⟨_, cap, rfl, .inr ⟨g, cur, rfl, hg, ht⟩, fun a e => by injection e with e; subst e; exact hb⟩
theorem losL_at {l : List Lo} {k : Nat} {x : Lo} (h : l[k]? = some x) : losL l = losL (l.take k) ++ ((lebL x.n.toNat ++ [x.t]) ++ losL (l.drop (k + 1))) := by
  conv => lhs; rw [← List.take_append_drop k l, lo_drop h]
  unfold losL
  rw [List.flatMap_append, List.flatMap_cons]
theorem tyGo_mem : ∀ {l : List Lo}, tyGo l = 0 → ∀ x ∈ l, valueZ x.t.toNat = 0
  | [], _, x, hx => by cases hx
  | y :: l, h, x, hx => by
    unfold tyGo at h
    by_cases e : valueZ y.t.toNat = 0
    · rw [if_neg (by omega)] at h
      rcases List.mem_cons.1 hx with rfl | hx
      · exact e
      · exact tyGo_mem h x hx
    · rw [if_pos e] at h; exact absurd h e
/-- What getLocals leaves behind. -/
def GotLo (p : Nat) (l : List UInt8) (ls : List Lo) (k : Nat) (w : World) (e : Ending) (w' : World) : Prop :=
  ∃ A c, e = .returned (.slice A ls.length c) ∧ (LocT w' A ls ∧ ∀ a, A = some a → w.heap.size ≤ a.block) ∧ Sc w' p l k ∧ w.grownBy w' (some p)
set_option maxHeartbeats 4000000 in
theorem getLocals_ok {w : World} {p : Nat} {l r : List UInt8} {k0 : Nat} {ls : List Lo} (h : Sc w p l k0) (hn : ls.length ≤ 10000) (hty : tyGo ls = 0) (hd : l.drop k0 = (lebL ls.length ++ losL ls) ++ r) :
    Calls Tryz.prog 97 #[.pointer (some ⟨p, 0, none⟩)] w (GotLo p l ls (k0 + (lebL ls.length ++ losL ls).length) w) := by
  have hp := h.lt
  have hd' := hd
  rw [List.append_assoc] at hd'
  have hc := count_scan h
  rw [countR_at hd' (by omega) (by omega)] at hc
  have HC := Lib.hid hc
  have HD := Lib.hid (drop_past hd')
  have HTY := Lib.hid (tyGo_mem hty)
  have HK : Hid (k0 + (lebL ls.length ++ losL ls).length = k0 + (lebL ls.length).length + (losL ls).length) := by show _ = _; rw [List.length_append]; omega
  rw [HK.out]
  obtain ⟨k1, hk1⟩ : ∃ k1, k1 = k0 + (lebL (ls.length : Int)).length := ⟨_, rfl⟩
  rw [← hk1] at HC HD ⊢
  obtain ⟨n, hnn⟩ : ∃ n, n = ls.length := ⟨_, rfl⟩
  have HNN := Lib.hid hnn
  rw [← hnn] at HC hn
  unfold GotLo
  rw [← hnn]
  clear h hd hd' hc hty HK hk1 hnn
  go_enter Tryz.func97, Tryz.ntmps97
  go_wp2_with (go_at_call 76; go_must ((with_reducible refine HC.out.mono ?_); rintro e w1 ⟨rfl, hs, hg⟩; have HS := Lib.hid hs; have HG := Lib.hid hg; clear hs hg))
  go_loopw [3, 7] (fun v i wr => ∃ (k : Nat), k ≤ n ∧ i = .int .i64 k ∧ RowLo wr w.heap.size v (ls.take k) ∧ Sc wr p l (k1 + (losL (ls.take k)).length) ∧ w.grownBy wr (some p)) (fun _ i _ => n - (intOf i).toNat)
  case atStart => exact ⟨0, Nat.zero_le _, rfl, World.ownsRow_nil _ _ _ _, by simpa [losL] using HS.out, HG.out⟩
  case round =>
    obtain ⟨k, hk, rfl, hr, hs, hg⟩ := hrel
    by_cases hlt : k < n
    · obtain ⟨x, hx⟩ : ∃ x, ls[k]? = some x := ⟨_, List.getElem?_eq_getElem (by rw [← HNN.out]; exact hlt)⟩
      have hxn := x.n.toNat_lt
      have hvz := HTY.out x (List.mem_of_getElem? hx)
      have hd1 : l.drop (k1 + (losL (ls.take k)).length) = lebL x.n.toNat ++ (x.t :: (losL (ls.drop (k + 1)) ++ r)) := by
        refine drop_past (a := losL (ls.take k)) ?_
        rw [HD.out]
        conv => lhs; rw [losL_at hx]
        simp only [List.append_assoc, List.cons_append, List.nil_append]
      have hd2 := drop_past hd1
      have hi := index_scan hs
      rw [indexR_at hd1 (by omega) (by omega)] at hi
      have HI := Lib.hid hi
      have HV := Lib.hid (fun W (hs : Sc W p l (k1 + (losL (ls.take k)).length + (lebL (x.n.toNat : Int)).length)) => show Calls Tryz.prog 124 #[.pointer (some ⟨p, 0, none⟩)] W (fun e w' => e = .returned (.int .u8 x.t.toNat) ∧ Sc w' p l (k1 + (losL (ls.take k)).length + (lebL (x.n.toNat : Int)).length + 1) ∧ W.grownBy w' (some p)) from by have := val_scan hs; rw [valR_at hd2 hvz] at this; exact this)
      have HK2 : Hid (k1 + (losL (ls.take k)).length + (lebL (x.n.toNat : Int)).length + 1 = k1 + (losL (ls.take (k + 1))).length) := by
        show _ = _
        rw [losL_snoc hx, List.length_append, List.length_append, List.length_singleton]
        omega
      have HTK := Lib.hid (take_snocG hx)
      have hlk : (ls.take k).length = k := by rw [List.length_take, ← HNN.out]; omega
      have HLK := Lib.hid hlk
      have HR := Lib.hid hr
      have HG0 := Lib.hid hg
      obtain ⟨rows, hrows⟩ : ∃ rows, rows = ls.take k := ⟨_, rfl⟩
      obtain ⟨ka, hka⟩ : ∃ ka, ka = k1 + (losL (ls.take k)).length + (lebL (x.n.toNat : Int)).length := ⟨_, rfl⟩
      rw [← hka] at HI HV HK2
      rw [← hrows] at HR HTK HLK
      have hgz := hg.size
      clear hx hr hs hg hd1 hd2 hi hvz hlk hrows hka
      go_wp2_with (first
        | (go_at_call 93; go_must ((with_reducible refine HI.out.mono ?_); rintro e w2 ⟨rfl, hs, hg⟩; have HS2 := Lib.hid hs; have HG2 := Lib.hid (gb_trans HG0.out hg); have HR2 := Lib.hid (RowLo.past HR.out hg hp); clear hs hg))
        | (go_at_call 124; go_must ((with_reducible refine (HV.out _ HS2.out).mono ?_); rintro e w3 ⟨rfl, hs, hg⟩; have HS3 := Lib.hid hs; have HG3 := Lib.hid (gb_trans HG2.out hg); have HR3 := Lib.hid (RowLo.past HR2.out hg hp); have hz3 := HG3.out.size; clear hs hg))
        | (at_builtin; (refine rowLo_new rfl _ _ rfl w.heap.size _ rows rfl (RowLo.later HR3.out (below_box w3 (.cells #[.int .u32 x.n.toNat, .int .u8 x.t.toNat] 92))) w3.heap.size x rfl (Whole.made w3 _ _) (by have := HLK.out; omega) (Nat.le_trans hz3 (below_box w3 _).size) ?_; intro v4 w4 hr4 hg4; have HR4 := Lib.hid hr4; have HG4 := Lib.hid hg4; clear hr4 hg4)))
      have hlt4 := World.ownsRow.lt HR3.out
      go_roundw
      case rel => exact ⟨k + 1, by omega, by go_num, by rw [HTK.out]; exact HR4.out, by rw [← HK2.out]; exact (HS3.out.alloc _).grown HG4.out (fun e => by have := hlt4 p e.symm; omega) (fun g e => by have := hlt4 g e; omega), gb_before (gb_alloc HG3.out _) HG4.out (fun g e => .inr (hlt4 g e).1)⟩
      case measure => simp [intOf]; omega
    · have hkn : k = ls.length := by rw [← HNN.out]; omega
      rw [hkn, List.take_length] at hr hs
      obtain ⟨A, c, rfl, hl⟩ := RowLo.loc hr
      rw [← HNN.out]
      have HL := Lib.hid hl
      have HS2 := Lib.hid hs
      have HG2 := Lib.hid hg
      clear hr hs hg hl hkn
      go_wp2
      go_ret
      exact ⟨A, c, rfl, HL.out, HS2.out, HG2.out⟩
end Go.Proofs.YtnfhhamkicnpjaaGreatDoor
