/- Sections in a row of the call's own; sect.rest of any bytes. -/
import Derived.Test.YtohliaellefhaaaDoorQs09
import Derived.Deep.LoopGhost
import Derived.OwnWalk
import Derived.Test.YtohliaellefhaaaDoorQs01
import Derived.RegionTactic
namespace Go.Proofs.YtohliaellefhaaaDoor
open Go.RowKit Go.Lib
set_option linter.unusedVariables false
set_option maxRecDepth 100000

theorem infoSec : (Tryd.prog.info? 38).map (fun i => (i.zero, i.size, i.bytes)) = some (some (.agg #[.int .u8 0, .string { data := #[] }, .slice none 0 0, .int .i64 0]), 4, 56) := by kernel_rfl
abbrev SSlot := Sct × Option Addr × Nat
def rowS (x : SSlot) : List Value := [.int .u8 x.1.id.toNat, .string (S x.1.name), .slice x.2.1 x.1.body.length x.2.2, .int .i64 x.1.off]
def RowS (W : World) (base : Nat) (v : Value) (rows : List SSlot) : Prop := W.ownsRow base 38 4 v rows.length (rows.flatMap rowS)
/-- Each section's bytes lie in a row of their own. -/
def AllB (W : World) (base : Nat) (rows : List SSlot) : Prop := ∀ x ∈ rows, Row W base (.slice x.2.1 x.1.body.length x.2.2) x.1.body
theorem own_whole {W : World} {b : Nat} {e : TypeId} {s n q : Nat} {v : Value} {xs : List Value} {t : TypeId} {cs : Array Value} (h : W.ownsRow b e s v n xs) (hw : Whole W q t cs) (ht : t ≠ e) : some q ≠ v.ownBlock := by
  rcases h.2 with ⟨rfl, _⟩ | ⟨g, cap, cur, rfl, _, hg, _⟩
  · simp [Value.ownBlock]
  · simp only [Value.ownBlock, ne_eq, Option.some.injEq]
    exact hw.apart (show Whole W g e cur from hg) ht
theorem own_own {W : World} {b b' : Nat} {e e' : TypeId} {s s' n n' : Nat} {v v' : Value} {xs xs' : List Value} (h : W.ownsRow b e s v n xs) (h' : W.ownsRow b' e' s' v' n' xs') (ht : e ≠ e') : v.ownBlock = none ∨ v.ownBlock ≠ v'.ownBlock := by
  rcases h.2 with ⟨rfl, _⟩ | ⟨g, cap, cur, rfl, _, hg, _⟩
  · exact .inl rfl
  · exact .inr (own_whole h' (show Whole W g e cur from hg) ht)
theorem RowS.nil (W : World) (base : Nat) : RowS W base (.slice none 0 0) [] := World.ownsRow_nil W base _ 4
theorem RowS.slice {W : World} {base : Nat} {v : Value} {rows : List SSlot} (h : RowS W base v rows) : ∃ A c, v = .slice A rows.length c := by
  rcases h.2 with ⟨rfl, h0⟩ | ⟨g, cap, cur, rfl, _⟩
  · exact ⟨none, 0, by rw [h0]⟩
  · exact ⟨_, cap, rfl⟩
theorem RowS.past {W W' : World} {base b : Nat} {v : Value} {rows : List SSlot} (h : RowS W base v rows) (hg : W.grownBy W' (some b)) (hb : b < base) : RowS W' base v rows :=
  World.ownsRow.kept h hg (by
    cases hv : v.ownBlock with
    | none => exact .inl rfl
    | some k => exact .inr (by have := (World.ownsRow.lt h k hv).1; simp only [ne_eq, Option.some.injEq]; omega))
theorem RowS.alloc {W : World} {base : Nat} {v : Value} {rows : List SSlot} (h : RowS W base v rows) (o : Obj) : RowS (W.alloc o) base v rows := World.ownsRow.alloc h o
theorem RowS.mono {W : World} {base base' : Nat} {v : Value} {rows : List SSlot} (h : RowS W base v rows) (hb : base' ≤ base) : RowS W base' v rows := by
  obtain ⟨h1, h2⟩ := h
  refine ⟨h1, ?_⟩
  rcases h2 with h2 | ⟨g, cap, cur, e, hg, r⟩
  · exact .inl h2
  · exact .inr ⟨g, cap, cur, e, Nat.le_trans hb hg, r⟩
theorem AllB.past {W W' : World} {base b : Nat} {rows : List SSlot} (h : AllB W base rows) (hg : W.grownBy W' (some b)) (hb : b < base) : AllB W' base rows := fun x hx => (h x hx).past hg hb
theorem AllB.alloc {W : World} {base : Nat} {rows : List SSlot} (h : AllB W base rows) (o : Obj) : AllB (W.alloc o) base rows := fun x hx => (h x hx).alloc o
theorem AllB.row {W W' : World} {base : Nat} {v : Value} {rows all : List SSlot} (h : AllB W base rows) (hr : RowS W base v all) (hg : W.grownBy W' v.ownBlock) : AllB W' base rows := fun x hx =>
  World.ownsRow.kept (h x hx) hg (own_own (h x hx) hr (by decide))
/-- append of a new block of one section. -/
theorem rowsS_new {w : World} {ops : Array Oper} {rest : List Oper} {o : Oper} {a : Act} {Q : Exit → Act → World → Prop} (hgd : o.guard = none) (s x : Operand)
    (ho : o.op = .call { callee := .builtin .append, args := #[s, x], argTypes := #[34, 34] })
    (B : Nat) (v : Value) (l : List SSlot) (hs : a.eval s = v) (hr : RowS w B v l) (g : Nat) (r : SSlot) (hx : a.eval x = .slice (some ⟨g, 0, none⟩) 1 1)
    (hg : Whole w g 38 (rowS r).toArray) (hb : l.length ≤ 10000) (hB : B ≤ w.heap.size)
    (h : ∀ v' w', RowS w' B v' (l ++ [r]) → w.grownBy w' v.ownBlock → wpList Tryd.prog ops Q rest (a.put o.dst v') w') : wpList Tryd.prog ops Q (o :: rest) a w := by
  obtain ⟨i0, hi0, hz0, hz1, hz2⟩ := info_parts infoSec
  refine wpList_append_own _ hgd s x _ ho B 38 i0 _ 4 56 Tryd.underlying34 hi0 hz0 hz1 hz2 rfl (by omega) v _ _ hs hr ⟨g, 0, none⟩ 1 1 (rowS r) hx rfl ?_ ?_ (by unfold maxLen; omega) (by omega) hB (fun v' w' h2 h3 _ => h v' w' ?_ h3)
  · intro j u hu
    rw [Go.WideShapes.add_plain, Nat.zero_add, hg.cell]
    simpa using hu
  · intro u hu
    unfold rowS at hu
    simp only [List.mem_cons, List.not_mem_nil, or_false] at hu
    rcases hu with rfl | rfl | rfl | rfl <;> rfl
  · unfold RowS
    rw [List.length_append, List.flatMap_append]
    simpa using h2

/-- All the sections that are left. -/
noncomputable def restR (l : List UInt8) : Nat → Nat → Nat → List Sct → Res (List Sct)
  | 0, k, _, _ => .err 1 k
  | f + 1, k, last, acc => if k = l.length then .ok acc k else (nextR l k).bind fun x k' =>
      if x.id.toNat ≠ 0 ∧ ¬ last < x.id.toNat then .err 6 k else
      if acc.length < 10000 then restR l f k' (if x.id.toNat ≠ 0 then x.id.toNat else last) (acc ++ [x]) else .err 29 k
theorem restR_err {l : List UInt8} : ∀ {f k last : Nat} {acc : List Sct} {c a : Int}, restR l f k last acc = .err c a → c ≠ 0
  | 0, k, last, acc, c, a, h => by unfold restR at h; injection h with e1 e2; omega
  | f + 1, k, last, acc, c, a, h => by
    unfold restR at h
    by_cases h0 : k = l.length
    · rw [if_pos h0] at h; cases h
    · rw [if_neg h0] at h
      cases hn : nextR l k with
      | err c2 a2 =>
        rw [hn, Res.bind_err] at h
        injection h with e1 e2
        exact e1 ▸ nextR_err hn
      | ok x k' =>
        rw [hn, Res.bind_ok] at h
        split at h
        · injection h with e1 e2; omega
        · split at h
          · exact restR_err h
          · injection h with e1 e2; omega
/-- What rest hands back. -/
def Rested (p : Nat) (l : List UInt8) (w : World) (r : Res (List Sct)) (e : Ending) (w' : World) : Prop := match r with
  | .ok xs k => ∃ v rows, e = .returned v ∧ rows.map (·.1) = xs ∧ RowS w' w.heap.size v rows ∧ AllB w' w.heap.size rows ∧ Sc w' p l k ∧ w.grownBy w' (some p)
  | .err c a => e = .panicked (stopP c a) ∧ w.grownBy w' (some p)
/-- What holds at the head of the loop. -/
structure RestIn (w : World) (p : Nat) (l : List UInt8) (rows : List SSlot) (k : Nat) (v : Value) (W : World) : Prop where
  sc : Sc W p l k
  g : w.grownBy W (some p)
  r : RowS W w.heap.size v rows
  b : AllB W w.heap.size rows
  tb : TbN p W
theorem RestIn.step {w W W' : World} {p : Nat} {l : List UInt8} {rows : List SSlot} {k k' : Nat} {v : Value} (h : RestIn w p l rows k v W) (hp : p < w.heap.size) (hg : W.grownBy W' (some p)) (hs : Sc W' p l k') : RestIn w p l rows k' v W' :=
  ⟨hs, gb_trans h.g hg, h.r.past hg hp, h.b.past hg hp, h.tb.keep hg (Nat.le_refl _)⟩
theorem RestIn.alloc {w W : World} {p : Nat} {l : List UInt8} {rows : List SSlot} {k : Nat} {v : Value} (h : RestIn w p l rows k v W) (hp : p < w.heap.size) (o : Obj) : RestIn w p l rows k v (W.alloc o) := h.step hp (gb_alloc (gb_refl _ _) o) (h.sc.alloc o)
theorem RestIn.drewN {w W : World} {p : Nat} {l : List UInt8} {rows : List SSlot} {k : Nat} {v : Value} (h : RestIn w p l rows k v W) (hp : p < w.heap.size) (m : Nat) : RestIn w p l rows k v (W.drewN m) := h.step hp (gb_drewN (gb_refl _ _) m) (h.sc.drewN m)
theorem RestIn.more {w W W' : World} {p : Nat} {l : List UInt8} {rows : List SSlot} {r : SSlot} {k : Nat} {v v' : Value} (h : RestIn w p l rows k v W) (hp : p < w.heap.size) (hg : W.grownBy W' v.ownBlock) (hr : RowS W' w.heap.size v' (rows ++ [r]))
    (hb : Row W w.heap.size (.slice r.2.1 r.1.body.length r.2.2) r.1.body) : RestIn w p l (rows ++ [r]) k v' W' := by
  have hlt := World.ownsRow.lt h.r
  refine ⟨h.sc.grown hg (fun e => by have := hlt p e.symm; omega) (fun g e => by have := hlt g e; omega), gb_before h.g hg (fun g e => .inr (hlt g e).1), hr, fun x hx => ?_, ?_⟩
  · rcases List.mem_append.1 hx with hx | hx
    · exact h.b.row h.r hg x hx
    · obtain rfl := List.mem_singleton.1 hx
      exact World.ownsRow.kept hb hg (own_own hb h.r (by decide))
  · obtain ⟨⟨h1, h2⟩, h3, h4, h5⟩ := h.tb
    have key : ∀ b o, b < p → W'.cell? ⟨b, o, none⟩ = W.cell? ⟨b, o, none⟩ := fun b o hb => by
      unfold World.cell?
      rw [hg.block b (by omega) (fun e => by have := hlt b e.symm; omega)]
    exact ⟨⟨fun c hc => (key _ _ h3).trans (h1 c hc), fun i hi => ⟨(key _ _ h4).trans (h2 i hi).1, (key _ _ h4).trans (h2 i hi).2⟩⟩, h3, h4, Nat.le_trans h5 hg.size⟩
end Go.Proofs.YtohliaellefhaaaDoor

/- The walk of sect.rest. -/
namespace Go.Proofs.YtohliaellefhaaaDoor
open Go.RowKit Go.Lib
set_option linter.unusedVariables false
set_option maxRecDepth 100000

theorem nextR_le {l : List UInt8} {k k' : Nat} {x : Sct} (h : nextR l k = .ok x k') : l.length - k' < l.length - k := by have := nextR_ok h; omega
/-- One step of the list that is being read. -/
theorem restR_end {l : List UInt8} {f last : Nat} {acc : List Sct} : restR l (f + 1) l.length last acc = .ok acc l.length := by unfold restR; rw [if_pos rfl]
theorem restR_bad {l : List UInt8} {f k last : Nat} {acc : List Sct} {c a : Int} (h0 : k ≠ l.length) (h : nextR l k = .err c a) : restR l (f + 1) k last acc = .err c a := by
  unfold restR; rw [if_neg h0, h, Res.bind_err]
theorem restR_low {l : List UInt8} {f k last k' : Nat} {acc : List Sct} {x : Sct} (h0 : k ≠ l.length) (h : nextR l k = .ok x k') (h1 : x.id.toNat ≠ 0) (h2 : ¬ last < x.id.toNat) : restR l (f + 1) k last acc = .err 6 k := by
  unfold restR; rw [if_neg h0, h, Res.bind_ok, if_pos ⟨h1, h2⟩]
theorem restR_many {l : List UInt8} {f k last k' : Nat} {acc : List Sct} {x : Sct} (h0 : k ≠ l.length) (h : nextR l k = .ok x k') (h1 : ¬ (x.id.toNat ≠ 0 ∧ ¬ last < x.id.toNat)) (h2 : ¬ acc.length < 10000) : restR l (f + 1) k last acc = .err 29 k := by
  unfold restR; rw [if_neg h0, h, Res.bind_ok, if_neg h1, if_neg h2]
theorem restR_next {l : List UInt8} {f k last k' : Nat} {acc : List Sct} {x : Sct} (h0 : k ≠ l.length) (h : nextR l k = .ok x k') (h1 : ¬ (x.id.toNat ≠ 0 ∧ ¬ last < x.id.toNat)) (h2 : acc.length < 10000) : restR l (f + 1) k last acc = restR l f k' (if x.id.toNat ≠ 0 then x.id.toNat else last) (acc ++ [x]) := by
  conv => lhs; unfold restR
  rw [if_neg h0, h, Res.bind_ok, if_neg h1, if_pos h2]
theorem rested_bad {p : Nat} {l : List UInt8} {w w' : World} {r : Res (List Sct)} {c a : Int} (h : r = .err c a) (hg : w.grownBy w' (some p)) : Rested p l w r (.panicked (stopP c a)) w' := by
  subst h; exact ⟨rfl, hg⟩
theorem rested_ok {p : Nat} {l : List UInt8} {w w' : World} {r : Res (List Sct)} {k : Nat} {v : Value} {rows : List SSlot} (h : r = .ok (rows.map (·.1)) k) (hi : RestIn w p l rows k v w') : Rested p l w r (.returned v) w' := by
  subst h; exact ⟨v, rows, rfl, rfl, hi.r, hi.b, hi.sc, hi.g⟩

theorem made_2 (w : World) (o : Obj) (t : TypeId) (cs : Array Value) : Whole ((w.alloc o).alloc (.cells cs t)) (w.heap.size + 1) t cs := by
  have h := Whole.made (w.alloc o) t cs
  rwa [size_box] at h
/-- Next, of a section that is there. -/
theorem next_ok {w : World} {p : Nat} {l : List UInt8} {k k' : Nat} {x : Sct} (h : Sc w p l k) (hT : TbN p w) (hl : l.length ≤ 1000000) (hn : nextR l k = .ok x k') :
    Calls Tryd.prog 48 #[.pointer (some ⟨p, 0, none⟩)] w fun e w' => ∃ A c, e = .returned (.agg #[.int .u8 x.id.toNat, .string (S x.name), .slice A x.body.length c, .int .i64 x.off]) ∧ Row w' w.heap.size (.slice A x.body.length c) x.body ∧ Sc w' p l k' ∧ w.grownBy w' (some p) := by
  have h1 := next_sect h hT hl
  rw [hn] at h1
  refine h1.mono fun e w' ⟨v, e1, h2, h3, h4⟩ => ?_
  obtain ⟨A, c, rfl⟩ := h2.slice
  exact ⟨A, c, e1, h2, h3, h4⟩

set_option maxHeartbeats 1600000 in
theorem rest_sect {w : World} {p : Nat} {l : List UInt8} {k0 : Nat} (h : Sc w p l k0) (hT : TbN p w) (hl : l.length ≤ 1000000) :
    Calls Tryd.prog 32 #[.pointer (some ⟨p, 0, none⟩)] w (Rested p l w (restR l (l.length + 1) k0 0 [])) := by
  have hp := h.lt
  have hk0 := h.le.1
  have HI := Lib.hid (show RestIn w p l [] k0 (.slice none 0 0) w from ⟨h, gb_refl _ _, RowS.nil _ _, (fun x hx => by cases hx), hT⟩)
  obtain ⟨ans, hans⟩ : ∃ ans, ans = restR l (l.length + 1) k0 0 [] := ⟨_, rfl⟩
  rw [← hans]
  have HA := Lib.hid hans
  clear h hT hans
  go_enter Tryd.func32, Tryd.ntmps32
  go_wp2
  go_loopg [3, 4] (l.length + 1) (fun gk v u wr => ∃ (rows : List SSlot) (k last : Nat), u = .int .u8 last ∧ RestIn w p l rows k v wr ∧ ans = restR l gk k last (rows.map (·.1)) ∧ l.length - k < gk ∧ rows.length ≤ 10000 ∧ last < 256)
  case atStart => exact ⟨[], k0, 0, rfl, HI.out, HA.out, by omega, by simp, by omega⟩
  case round =>
    obtain ⟨rows, k, last, rfl, hi, ha, hg, hr, hlast⟩ := hrel
    obtain ⟨g, rfl⟩ : ∃ g, gk = g + 1 := ⟨gk - 1, by omega⟩
    have HR := Lib.hid hi
    have hkl := hi.sc.le.1
    have HDn := Lib.hid (done_any hi.sc)
    by_cases h0 : k = l.length
    · subst h0
      rw [Int.sub_self, beq_self_eq_true] at HDn
      rw [restR_end] at ha
      have HAN := Lib.hid ha
      clear hi ha HI HA
      go_wp2_with (go_at_call 46; go_must ((with_reducible refine HDn.out.mono ?_); rintro e w1 ⟨rfl, m, rfl⟩))
      go_ret
      exact rested_ok HAN.out (HR.out.drewN hp m)
    · have d0 : ((l.length : Int) - k == 0) = false := by simp; omega
      rw [d0] at HDn
      have HNx := Lib.hid (fun m => next_sect (hi.sc.drewN m) (HR.out.drewN hp m).tb hl)
      have HAt := Lib.hid (fun m => at_any (hi.sc.drewN m))
      cases hn : nextR l k with
      | err c a =>
        rw [restR_bad h0 hn] at ha
        rw [hn] at HNx
        have HAN := Lib.hid ha
        clear hi ha HI HA hn d0
        go_wp2_with (first
          | (go_at_call 46; go_must ((with_reducible refine HDn.out.mono ?_); rintro e w1 ⟨rfl, m, rfl⟩))
          | (go_at_call 47; go_must ((with_reducible refine (HAt.out m).mono ?_); rintro e w1 ⟨rfl, rfl⟩))
          | (go_at_call 48; go_must ((with_reducible refine (HNx.out m).mono ?_); rintro e w1 ⟨rfl, hg⟩; have HG := Lib.hid hg; clear hg)))
        exact ⟨rfl, rested_bad HAN.out (gb_trans (gb_drewN HR.out.g m) HG.out)⟩
      | ok x k' =>
        have hk' := nextR_ok hn
        have HN2 := Lib.hid (fun m => next_ok (hi.sc.drewN m) (HR.out.drewN hp m).tb hl hn)
        obtain ⟨Av, cv, rfl⟩ := hi.r.slice
        have hx := x.id.toNat_lt
        clear d0 HNx
        by_cases hlow : x.id.toNat ≠ 0 ∧ ¬ last < x.id.toNat
        · rw [restR_low h0 hn hlow.1 hlow.2] at ha
          have HAN := Lib.hid ha
          have d1 : ((x.id.toNat : Int) != 0) = true := by simp; omega
          have d2 : decide ((last : Int) < (x.id.toNat : Int)) = false := by simp; omega
          have d3 : decide (last < x.id.toNat) = false := by simp; omega
          have d4 : ¬ last < x.id.toNat := hlow.2
          clear hi ha HI HA hn hlow
          go_wp2_with (first
            | (go_at_call 46; go_must ((with_reducible refine HDn.out.mono ?_); rintro e w1 ⟨rfl, m, rfl⟩))
            | (go_at_call 47; go_must ((with_reducible refine (HAt.out m).mono ?_); rintro e w1 ⟨rfl, rfl⟩))
            | (go_at_call 48; go_must ((with_reducible refine (HN2.out m).mono ?_); rintro e w1 ⟨A1, c1, rfl, hr1, hs1, hg1⟩; have HS1 := Lib.hid ((HR.out.drewN hp m).step hp hg1 hs1); have HB1 := Lib.hid (hr1.mono HR.out.g.size); have hz1 : w.heap.size ≤ w1.heap.size := HS1.out.g.size; clear hr1 hs1 hg1))
            | (go_at_call 29; go_must ((with_reducible refine (unlessF _ _ _).mono ?_); rintro e w' ⟨rfl, rfl⟩)))
          exact ⟨rfl, rested_bad HAN.out (((HS1.out.alloc hp _).drewN hp 0).g)⟩
        · by_cases hmany : rows.length < 10000
          · have hm2 : (rows.map (·.1)).length < 10000 := by rw [List.length_map]; exact hmany
            rw [restR_next h0 hn hlow hm2] at ha
            have d5 : (rows.length : Int) < 10000 := by omega
            have d6 : decide ((rows.length : Int) < 10000) = true := by simpa using d5
            clear hm2
            by_cases hid : x.id.toNat = 0
            · rw [if_neg (by omega)] at ha
              have HAN := Lib.hid ha
              have d1 : ((x.id.toNat : Int) != 0) = false := by simp; omega
              clear hi ha HI HA hn hlow hid
              go_wp2_with (first
            | (go_at_call 46; go_must ((with_reducible refine HDn.out.mono ?_); rintro e w1 ⟨rfl, m, rfl⟩))
            | (go_at_call 47; go_must ((with_reducible refine (HAt.out m).mono ?_); rintro e w1 ⟨rfl, rfl⟩))
            | (go_at_call 48; go_must ((with_reducible refine (HN2.out m).mono ?_); rintro e w1 ⟨A1, c1, rfl, hr1, hs1, hg1⟩; have HS1 := Lib.hid ((HR.out.drewN hp m).step hp hg1 hs1); have HB1 := Lib.hid (hr1.mono HR.out.g.size); have hz1 : w.heap.size ≤ w1.heap.size := HS1.out.g.size; clear hr1 hs1 hg1))
            | (at_builtin; (refine rowsS_new rfl _ _ rfl w.heap.size _ rows rfl ((HS1.out.alloc hp _).alloc hp _).r (w1.heap.size + 1) (x, A1, c1) rfl (made_2 w1 _ _ _) hr (by rw [size_box, size_box]; omega) ?_; intro v2 w2 hr2 hg2; have HI2 := Lib.hid (((HS1.out.alloc hp _).alloc hp _).more hp hg2 hr2 ((HB1.out.alloc _).alloc _)); clear hr2 hg2))
            | (go_at_call 29; go_must ((with_reducible refine (unlessT _ _ _).mono ?_); rintro e w' ⟨rfl, rfl⟩)))
              go_roundg g
              case measure => omega
              case rel => exact ⟨_, k', last, rfl, HI2.out, by rw [List.map_append]; exact HAN.out, by omega, by rw [List.length_append, List.length_singleton]; omega, hlast⟩
            · have hgt : last < x.id.toNat := by omega
              rw [if_pos (by omega)] at ha
              have HAN := Lib.hid ha
              have d1 : ((x.id.toNat : Int) != 0) = true := by simp; omega
              have d2 : decide ((last : Int) < (x.id.toNat : Int)) = true := by simp; omega
              have d3 : decide (last < x.id.toNat) = true := by simp; omega
              clear hi ha HI HA hn hlow hid
              go_wp2_with (first
            | (go_at_call 46; go_must ((with_reducible refine HDn.out.mono ?_); rintro e w1 ⟨rfl, m, rfl⟩))
            | (go_at_call 47; go_must ((with_reducible refine (HAt.out m).mono ?_); rintro e w1 ⟨rfl, rfl⟩))
            | (go_at_call 48; go_must ((with_reducible refine (HN2.out m).mono ?_); rintro e w1 ⟨A1, c1, rfl, hr1, hs1, hg1⟩; have HS1 := Lib.hid ((HR.out.drewN hp m).step hp hg1 hs1); have HB1 := Lib.hid (hr1.mono HR.out.g.size); have hz1 : w.heap.size ≤ w1.heap.size := HS1.out.g.size; clear hr1 hs1 hg1))
            | (at_builtin; (refine rowsS_new rfl _ _ rfl w.heap.size _ rows rfl ((HS1.out.alloc hp _).alloc hp _).r (w1.heap.size + 1) (x, A1, c1) rfl (made_2 w1 _ _ _) hr (by rw [size_box, size_box]; omega) ?_; intro v2 w2 hr2 hg2; have HI2 := Lib.hid (((HS1.out.alloc hp _).alloc hp _).more hp hg2 hr2 ((HB1.out.alloc _).alloc _)); clear hr2 hg2))
            | (go_at_call 29; go_must ((with_reducible refine (unlessT _ _ _).mono ?_); rintro e w' ⟨rfl, rfl⟩)))
              go_roundg g
              case measure => omega
              case rel => exact ⟨_, k', x.id.toNat, rfl, HI2.out, by rw [List.map_append]; exact HAN.out, by omega, by rw [List.length_append, List.length_singleton]; omega, hx⟩
          · have hm2 : ¬ (rows.map (·.1)).length < 10000 := by rw [List.length_map]; exact hmany
            rw [restR_many h0 hn hlow hm2] at ha
            have d5 : ¬ (rows.length : Int) < 10000 := by omega
            have d6 : decide ((rows.length : Int) < 10000) = false := by simpa using d5
            have HAN := Lib.hid ha
            clear hm2 ha
            by_cases hid : x.id.toNat = 0
            · have d1 : ((x.id.toNat : Int) != 0) = false := by simp; omega
              clear hi HI HA hn hlow hid
              go_wp2_with (first
            | (go_at_call 46; go_must ((with_reducible refine HDn.out.mono ?_); rintro e w1 ⟨rfl, m, rfl⟩))
            | (go_at_call 47; go_must ((with_reducible refine (HAt.out m).mono ?_); rintro e w1 ⟨rfl, rfl⟩))
            | (go_at_call 48; go_must ((with_reducible refine (HN2.out m).mono ?_); rintro e w1 ⟨A1, c1, rfl, hr1, hs1, hg1⟩; have HS1 := Lib.hid ((HR.out.drewN hp m).step hp hg1 hs1); have HB1 := Lib.hid (hr1.mono HR.out.g.size); have hz1 : w.heap.size ≤ w1.heap.size := HS1.out.g.size; clear hr1 hs1 hg1))
            | (go_at_call 29; go_must ((with_reducible refine (unlessF _ _ _).mono ?_); rintro e w' ⟨rfl, rfl⟩)))
              exact ⟨rfl, rested_bad HAN.out (((HS1.out.alloc hp _).drewN hp 0).g)⟩
            · have hgt : last < x.id.toNat := by omega
              have d1 : ((x.id.toNat : Int) != 0) = true := by simp; omega
              have d2 : decide ((last : Int) < (x.id.toNat : Int)) = true := by simp; omega
              have d3 : decide (last < x.id.toNat) = true := by simp; omega
              clear hi HI HA hn hlow hid
              go_wp2_with (first
            | (go_at_call 46; go_must ((with_reducible refine HDn.out.mono ?_); rintro e w1 ⟨rfl, m, rfl⟩))
            | (go_at_call 47; go_must ((with_reducible refine (HAt.out m).mono ?_); rintro e w1 ⟨rfl, rfl⟩))
            | (go_at_call 48; go_must ((with_reducible refine (HN2.out m).mono ?_); rintro e w1 ⟨A1, c1, rfl, hr1, hs1, hg1⟩; have HS1 := Lib.hid ((HR.out.drewN hp m).step hp hg1 hs1); have HB1 := Lib.hid (hr1.mono HR.out.g.size); have hz1 : w.heap.size ≤ w1.heap.size := HS1.out.g.size; clear hr1 hs1 hg1))
            | (go_at_call 29; go_must (first | ((with_reducible refine (unlessT 6 _ _).mono ?_); rintro e w' ⟨rfl, rfl⟩) | ((with_reducible refine (unlessF 29 _ _).mono ?_); rintro e w' ⟨rfl, rfl⟩))))
              exact ⟨rfl, rested_bad HAN.out (((HS1.out.alloc hp _).drewN hp 0).g)⟩
end Go.Proofs.YtohliaellefhaaaDoor

/- abort.Value of a function that ends well, whatever it hands back: []sect.Section. Value of one that aborts. -/
namespace Go.Proofs.YtohliaellefhaaaDoor
open Go.RowKit
set_option linter.unusedVariables false
set_option maxRecDepth 100000

theorem cfVS (cap : Array Value) (w : World) : (callFunc 43 cap).run Tryd.prog w = .ok (.enter 43 cap) w := by kernel_rfl
section
variable {T : (Option Addr × Nat × Nat) → World → Prop}
/-- Value's own closure: what the step hands back lies in its cell. -/
theorem valClosS {g : FuncId} {cap : Array Value} {b1 b4 q : Nat} {w : World} {z : Array Value} (hz : z.size = 1) (hcf : ∀ w : World, (callFunc g cap).run Tryd.prog w = .ok (.enter g cap) w)
    (h1 : Whole w b1 79 #[.func (.func g) #[] cap]) (h4 : Whole w b4 34 #[.slice none 0 0]) (hb : q < b4) (hT : ∀ x W W', T x W → W.grownBy W' (some b4) → T x W')
    (h : Calls Tryd.prog g cap w fun e w' => ∃ x, e = .returned (.slice x.1 x.2.1 x.2.2) ∧ T x w' ∧ w.grownBy w' (some q)) :
    Calls Tryd.prog 43 #[.pointer (some ⟨b1, 0, none⟩), .pointer (some ⟨b4, 0, none⟩)] w fun e w' =>
      e = .returned (.tuple #[]) ∧ ∃ x, T x w' ∧ Whole w' b4 34 #[.slice x.1 x.2.1 x.2.2] ∧ ∃ w1, w.grownBy w1 (some q) ∧ w1.grownBy w' (some b4) := by
  have hnil : ∀ w : World, (binOp BinOp.neq 79 (.func (.func g) #[] cap) .nilFunc).run Tryd.prog w = .ok (.bool true) w := fun _ => by kernel_rfl
  have c1 := h1.cell 0
  simp only [List.getElem?_toArray, List.getElem?_cons_zero] at c1
  have HH := Lib.hid h
  have H4 := Lib.hid h4
  have HT := Lib.hid hT
  clear h h1 h4 hT
  go_enter Tryd.func43, Tryd.ntmps43
  go_wp2_with fail
  refine HH.out.mono ?_
  rintro e w1 ⟨x, rfl, hs, hg⟩
  have HW := H4.out.grown hg (by simp only [ne_eq, Option.some.injEq]; omega)
  have k0 := HW.cell 0
  have f0 := HW.frozen 0
  simp only [List.getElem?_toArray, List.getElem?_cons_zero, List.getElem?_cons_succ] at k0
  obtain ⟨p1, p2⟩ := put1 (u0 := .slice x.1 x.2.1 x.2.2) HW
  have F : Hid (T x (w1.setCell ⟨b4, 0, none⟩ (.slice x.1 x.2.1 x.2.2))) := HT.out _ _ _ hs p2
  have P1 := Lib.hid p1
  have P2 := Lib.hid p2
  have HG := Lib.hid hg
  clear p1 p2 hs hg HW hcf
  go_wp2_with fail
  go_end0
  exact ⟨rfl, x, F.out, P1.out, w1, HG.out, P2.out⟩
/-- What Value's closure leaves behind, seen from Value's beginning. -/
structure VSS (T : (Option Addr × Nat × Nat) → World → Prop) (w : World) (q : Nat) (x : (Option Addr × Nat × Nat)) (w1 : World) : Prop where
  kept : T x w1
  grown : w.grownBy w1 (some q)
  val : Whole w1 (w.heap.size + 2) 34 #[.slice x.1 x.2.1 x.2.2]
  r2 : Whole w1 (w.heap.size + 1) 49 #[.int .i64 0, .int .i64 0]
/-- The world in which Value calls Out. -/
def vWorldS (g : FuncId) (cap : Array Value) (w : World) : World :=
  ((w.alloc (.cells #[.func (.func g) #[] cap] 79)).alloc (.cells #[.int .i64 0, .int .i64 0] 49)).alloc (.cells #[.slice none 0 0] 34)
theorem vWorld_factsS (g : FuncId) (cap : Array Value) (w : World) : (vWorldS g cap w).heap.size = w.heap.size + 3 ∧ Whole (vWorldS g cap w) w.heap.size 79 #[.func (.func g) #[] cap] ∧
    Whole (vWorldS g cap w) (w.heap.size + 1) 49 #[.int .i64 0, .int .i64 0] ∧
    Whole (vWorldS g cap w) (w.heap.size + 2) 34 #[.slice none 0 0] ∧ Below w.heap.size w (vWorldS g cap w) := by
  have b1 := Whole.made w 79 #[.func (.func g) #[] cap]
  have b3 := Whole.made (w.alloc (.cells #[.func (.func g) #[] cap] 79)) 49 #[.int .i64 0, .int .i64 0]
  have b4 := Whole.made ((w.alloc (.cells #[.func (.func g) #[] cap] 79)).alloc (.cells #[.int .i64 0, .int .i64 0] 49)) 34 #[.slice none 0 0]
  simp only [World.size_alloc] at b3 b4
  exact ⟨by simp [vWorldS], (b1.alloc _).alloc _, b3.alloc _, b4,
    (((Below.refl _ _).alloc (Nat.le_refl _) _).alloc (by simp) _).alloc (by simp; omega) _⟩
theorem value_outS {g : FuncId} {cap : Array Value} {q : Nat} {w : World} (hcf : ∀ w : World, (callFunc g cap).run Tryd.prog w = .ok (.enter g cap) w) (hq : q < w.heap.size)
    (hT : ∀ x W W' b, w.heap.size ≤ b → b < w.heap.size + 4 → T x W → W.grownBy W' (some b) → T x W')
    (h : ∀ W, Below w.heap.size w W → w.heap.size + 4 ≤ W.heap.size → Calls Tryd.prog g cap W fun e w' => ∃ x, e = .returned (.slice x.1 x.2.1 x.2.2) ∧ T x w' ∧ W.grownBy w' (some q)) :
    Calls Tryd.prog 42 #[.func (.func 43) #[] #[.pointer (some ⟨w.heap.size, 0, none⟩), .pointer (some ⟨w.heap.size + 2, 0, none⟩)]] (vWorldS g cap w) fun e w' => e = .returned (.agg #[.int .i64 0, .int .i64 0]) ∧ ∃ x, VSS T w q x w' := by
  obtain ⟨hz, b1, b3, b4, hbe⟩ := vWorld_factsS g cap w
  have b5 := Whole.made (vWorldS g cap w) 49 #[.int .i64 0, .int .i64 0]
  have hbe2 : Below w.heap.size w ((vWorldS g cap w).alloc (.cells #[.int .i64 0, .int .i64 0] 49)) := hbe.alloc (by omega) _
  have hc := valClosS (T := T) (z := #[.slice none 0 0]) rfl hcf (b1.alloc (.cells #[.int .i64 0, .int .i64 0] 49)) (b4.alloc _) (by omega : q < w.heap.size + 2) (fun x W W' => hT x W W' _ (by omega) (by omega)) (h _ hbe2 (by rw [size_box]; omega))
  refine (out_any _ _ 0 0 (vWorldS g cap w) (fun w1 => (∃ x, VSS T w q x w1) ∧ Whole w1 (vWorldS g cap w).heap.size 49 #[.int .i64 0, .int .i64 0]) (cfVS _) (hc.mono ?_) (fun _ h => h.2)).mono ?_
  · rintro e w' ⟨rfl, x, hs, hv, w1, hg1, hg2⟩
    have hz2 : w.heap.size + 4 ≤ w1.heap.size := by have := hg1.size; simp only [World.size_alloc] at this; omega
    refine ⟨.inl ⟨rfl, rfl, rfl⟩, ⟨x, hs, ?_, hv, ?_⟩, ?_⟩
    · exact gb_before (gb_trans (gb_of_below (some q) hbe2) hg1) hg2 (fun g e => .inr (by injection e with e; omega))
    · exact ((b3.alloc _).grown hg1 (by simp only [ne_eq, Option.some.injEq]; omega)).grown hg2 (by simp only [ne_eq, Option.some.injEq]; omega)
    · exact (b5.grown hg1 (by simp only [ne_eq, Option.some.injEq]; omega)).grown hg2 (by simp only [ne_eq, Option.some.injEq]; omega)
  · rintro e w' ⟨rfl, w1, ⟨⟨x, hs⟩, _⟩, hg⟩
    rw [hz] at hg
    exact ⟨rfl, x, hT x _ _ _ (by omega) (by omega) hs.kept hg, gb_before hs.grown hg (fun g e => .inr (by injection e with e; omega)), hs.val.grown hg (by simp only [ne_eq, Option.some.injEq]; omega), hs.r2.grown hg (by simp only [ne_eq, Option.some.injEq]; omega)⟩

set_option maxHeartbeats 800000 in
/-- Value of a function that ends well. -/
theorem valueS_ok {g : FuncId} {cap : Array Value} {q : Nat} {w : World} (hcf : ∀ w : World, (callFunc g cap).run Tryd.prog w = .ok (.enter g cap) w) (hq : q < w.heap.size)
    (hT : ∀ x W W' b, w.heap.size ≤ b → b < w.heap.size + 4 → T x W → W.grownBy W' (some b) → T x W')
    (h : ∀ W, Below w.heap.size w W → w.heap.size + 4 ≤ W.heap.size → Calls Tryd.prog g cap W fun e w' => ∃ x, e = .returned (.slice x.1 x.2.1 x.2.2) ∧ T x w' ∧ W.grownBy w' (some q)) :
    Calls Tryd.prog 27 #[.func (.func g) #[] cap] w fun e w' => ∃ x, e = .returned (.tuple #[.slice x.1 x.2.1 x.2.2, .agg #[.int .i64 0, .int .i64 0]]) ∧ T x w' ∧ w.grownBy w' (some q) := by
  have hv := value_outS hcf hq hT h
  unfold vWorldS at hv
  have HV := Lib.hid hv
  have HT := Lib.hid hT
  have hmf : ∀ (fn : Fn) (first cap : Array Value) (w : World), (Instr.makeFunc fn first cap).run Tryd.prog w = .ok (.func fn first cap) w := fun _ _ _ _ => rfl
  clear h hv hcf hT
  go_enter Tryd.func27, Tryd.ntmps27
  go_wp2_with (go_at_call 42; go_must (refine HV.out.mono ?_; rintro e w2 ⟨rfl, x, hl⟩; have k0 := fun o => (hl.val.alloc o).cell 0; have f8 := fun o => (hl.r2.alloc o).frozen 0; have f9 := fun o => (hl.r2.alloc o).frozen 1; have m8 := fun o => (hl.r2.alloc o).cell 0; have m9 := fun o => (hl.r2.alloc o).cell 1; simp only [List.getElem?_toArray, List.getElem?_cons_zero, List.getElem?_cons_succ] at k0 m8 m9; have hz := hl.grown.size; have HL := Lib.hid hl; clear hl))
  obtain ⟨p2, g2⟩ := put2 (u0 := .int .i64 0) (u1 := .int .i64 0) (HL.out.r2.alloc (.cells #[.int .i64 0, .int .i64 0] 49))
  have q8 := p2.cell 0
  have q9 := p2.cell 1
  simp only [List.getElem?_toArray, List.getElem?_cons_zero, List.getElem?_cons_succ] at q8 q9
  refine bodyPost_ret (v := .tuple #[.slice x.1 x.2.1 x.2.2, .agg #[.int .i64 0, .int .i64 0]]) (by simp [results, Tryd.results27, go_sem, q8, q9]) rfl ⟨x, rfl, ?_, ?_⟩
  · exact HT.out _ _ _ _ (by omega) (by omega) (HT.out _ _ _ w.heap.size (Nat.le_refl _) (by omega) HL.out.kept (gb_alloc (gb_refl _ _) _)) g2
  · exact gb_before (gb_alloc HL.out.grown _) g2 (fun g e => .inr (by injection e with e; omega))
end
/-- Value's own closure: what aborts goes on. -/
theorem valClosSE {g : FuncId} {cap : Array Value} {b1 b4 q : Nat} {w : World} {c a : Int} (hcf : ∀ w : World, (callFunc g cap).run Tryd.prog w = .ok (.enter g cap) w)
    (h1 : Whole w b1 79 #[.func (.func g) #[] cap])
    (h : Calls Tryd.prog g cap w fun e w' => e = .panicked (stopP c a) ∧ w.grownBy w' (some q)) :
    Calls Tryd.prog 43 #[.pointer (some ⟨b1, 0, none⟩), .pointer (some ⟨b4, 0, none⟩)] w fun e w' => e = .panicked (stopP c a) ∧ w.grownBy w' (some q) := by
  have hnil : ∀ w : World, (binOp BinOp.neq 79 (.func (.func g) #[] cap) .nilFunc).run Tryd.prog w = .ok (.bool true) w := fun _ => by kernel_rfl
  have c1 := h1.cell 0
  simp only [List.getElem?_toArray, List.getElem?_cons_zero] at c1
  have HH := Lib.hid h
  clear h h1
  go_enter Tryd.func43, Tryd.ntmps43
  go_wp2_with fail
  refine HH.out.mono ?_
  rintro e w1 ⟨rfl, hg⟩
  exact ⟨rfl, rfl, hg⟩
theorem value_outSE {g : FuncId} {cap : Array Value} {q : Nat} {w : World} {c a : Int} (hc : ¬ c = 0) (hcf : ∀ w : World, (callFunc g cap).run Tryd.prog w = .ok (.enter g cap) w) (hq : q < w.heap.size)
    (h : ∀ W, Below w.heap.size w W → w.heap.size + 4 ≤ W.heap.size → Calls Tryd.prog g cap W fun e w' => e = .panicked (stopP c a) ∧ W.grownBy w' (some q)) :
    Calls Tryd.prog 42 #[.func (.func 43) #[] #[.pointer (some ⟨w.heap.size, 0, none⟩), .pointer (some ⟨w.heap.size + 2, 0, none⟩)]] (vWorldS g cap w) fun e w' => e = .returned (.agg #[.int .i64 c, .int .i64 a]) ∧
      w.grownBy w' (some q) ∧ w.heap.size + 3 ≤ w'.heap.size ∧ Whole w' (w.heap.size + 2) 34 #[.slice none 0 0] ∧ Whole w' (w.heap.size + 1) 49 #[.int .i64 0, .int .i64 0] := by
  obtain ⟨hz, b1, b3, b4, hbe⟩ := vWorld_factsS g cap w
  have b5 := Whole.made (vWorldS g cap w) 49 #[.int .i64 0, .int .i64 0]
  have hbe2 : Below w.heap.size w ((vWorldS g cap w).alloc (.cells #[.int .i64 0, .int .i64 0] 49)) := hbe.alloc (by omega) _
  have hcl := valClosSE (b4 := w.heap.size + 2) hcf (b1.alloc (.cells #[.int .i64 0, .int .i64 0] 49)) (h _ hbe2 (by rw [size_box]; omega))
  refine (out_any _ _ c a (vWorldS g cap w) (fun w1 => ((vWorldS g cap w).alloc (.cells #[.int .i64 0, .int .i64 0] 49)).grownBy w1 (some q)) (cfVS _) (hcl.mono ?_) (fun w1 hg => b5.grown hg (by simp only [ne_eq, Option.some.injEq]; omega))).mono ?_
  · rintro e w' ⟨rfl, hg⟩
    exact ⟨.inr ⟨hc, rfl⟩, hg⟩
  · rintro e w' ⟨rfl, w1, hg1, hg2⟩
    have z1 := hg1.size
    have z2 := hg2.size
    rw [size_box] at z1
    rw [hz] at hg2
    exact ⟨rfl, gb_before (gb_trans (gb_of_below (some q) hbe2) hg1) hg2 (fun g e => .inr (by injection e with e; omega)), by omega,
      ((b4.alloc _).grown hg1 (by simp only [ne_eq, Option.some.injEq]; omega)).grown hg2 (by simp only [ne_eq, Option.some.injEq]; omega),
      ((b3.alloc _).grown hg1 (by simp only [ne_eq, Option.some.injEq]; omega)).grown hg2 (by simp only [ne_eq, Option.some.injEq]; omega)⟩
set_option maxHeartbeats 4000000 in
/-- Value of a function that aborts. -/
theorem valueSE_any {g : FuncId} {cap : Array Value} {q : Nat} {w : World} {c a : Int} (hc : ¬ c = 0) (hcf : ∀ w : World, (callFunc g cap).run Tryd.prog w = .ok (.enter g cap) w) (hq : q < w.heap.size)
    (h : ∀ W, Below w.heap.size w W → w.heap.size + 4 ≤ W.heap.size → Calls Tryd.prog g cap W fun e w' => e = .panicked (stopP c a) ∧ W.grownBy w' (some q)) :
    Calls Tryd.prog 27 #[.func (.func g) #[] cap] w fun e w' => e = .returned (.tuple #[.slice none 0 0, .agg #[.int .i64 c, .int .i64 a]]) ∧ w.grownBy w' (some q) := by
  have hv := value_outSE hc hcf hq h
  unfold vWorldS at hv
  have HV := Lib.hid hv
  have dc : (c == 0) = false := by simpa using hc
  have hmf : ∀ (fn : Fn) (first cap : Array Value) (w : World), (Instr.makeFunc fn first cap).run Tryd.prog w = .ok (.func fn first cap) w := fun _ _ _ _ => rfl
  clear h hv hcf hc
  go_enter Tryd.func27, Tryd.ntmps27
  go_wp2_with (go_at_call 42; go_must (refine HV.out.mono ?_; rintro e w2 ⟨rfl, hg, hz, hv, hr2⟩; have HL := Lib.hid (show w.grownBy w2 (some q) ∧ w.heap.size + 3 ≤ w2.heap.size ∧ Whole w2 (w.heap.size + 2) 34 #[.slice none 0 0] ∧ Whole w2 (w.heap.size + 1) 49 #[.int .i64 0, .int .i64 0] from ⟨hg, hz, hv, hr2⟩); clear hg hz hv hr2))
  generalize hW : w2.alloc (.cells #[.int .i64 c, .int .i64 a] 49) = W at *
  have hz2 := HL.out.2.1
  have k3 : Whole W (w.heap.size + 2) 34 #[.slice none 0 0] := by rw [← hW]; exact HL.out.2.2.1.alloc _
  have k2 : Whole W (w.heap.size + 1) 49 #[.int .i64 0, .int .i64 0] := by rw [← hW]; exact HL.out.2.2.2.alloc _
  have k5 : Whole W w2.heap.size 49 #[.int .i64 c, .int .i64 a] := by rw [← hW]; exact Whole.made _ _ _
  have hgW : w.grownBy W (some q) := by rw [← hW]; exact gb_alloc HL.out.1 _
  clear hW
  have K2 := Lib.hid k2
  have KG := Lib.hid hgW
  have v0 := k3.cell 0
  have s0 := k5.cell 0
  have s1 := k5.cell 1
  have n0 := k2.cell 0
  have n1 := k2.cell 1
  have g0 := k2.frozen 0
  have g1 := k2.frozen 1
  have e2 : ¬ w2.heap.size = w.heap.size + 1 := by omega
  simp only [List.getElem?_toArray, List.getElem?_cons_zero, List.getElem?_cons_succ] at v0 s0 s1 n0 n1
  clear k2 k3 k5 hgW
  go_region
  all_goals
    go_wp2
    obtain ⟨p2, j2⟩ := put2 (u0 := .int .i64 c) (u1 := .int .i64 a) K2.out
    have q8 := p2.cell 0
    have q9 := p2.cell 1
    simp only [List.getElem?_toArray, List.getElem?_cons_zero, List.getElem?_cons_succ] at q8 q9
    have hfin := gb_before KG.out j2 (fun g e => .inr (by injection e with e; omega))
    refine bodyPost_ret (v := .tuple #[.slice none 0 0, .agg #[.int .i64 c, .int .i64 a]]) (by simp [results, Tryd.results27, go_sem, q8, q9]) rfl ⟨rfl, ?_⟩
    first | exact hfin | exact gb_drew hfin | exact ⟨hfin.os, hfin.tape, hfin.output, hfin.size, hfin.block⟩
end Go.Proofs.YtohliaellefhaaaDoor
