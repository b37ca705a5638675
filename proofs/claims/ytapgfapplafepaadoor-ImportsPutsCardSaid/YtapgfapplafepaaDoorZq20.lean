/- An import by value and a slice of imports, opened. (By gen/genCards.py.) -/
import Derived.Test.YtapgfapplafepaaDoorZq15
import Derived.Test.YtapgfapplafepaaDoorZq13
import Derived.ProofKit
import Derived.OpenShut
import Derived.ShutString
import Derived.ChangeOld
import Derived.ChangeSame
import Derived.Deep.Slices
import Derived.Deep.Fields
import Derived.Lib.SmallJoins
import Derived.Test.YtapgfapplafepaaDoorZq18
import Derived.Test.YtapgfapplafepaaDoorZq19
namespace Go.Proofs.YtapgfapplafepaaDoor
open Go.ChangeShapes Go.WideShapes Go.ChangeAt Go.RowKit Go.Joins Go.Deep
set_option linter.unusedVariables false
set_option maxRecDepth 100000

theorem cellsImp : Tryd.prog.cellsOf 28 = 9 := by kernel_rfl
section
variable {H : Type} {enc : TypeId × Value → H} {W : World} {sp : Nat → Bool}
theorem open_lims {n : Nat} {c0 c1 c2 : Value} {y : DataW H × List MemPlace} (h : DataW.trod enc Tryd.prog W 0 sp true n 24 [c0, c1, c2] = some y) :
    ∃ (a b : UInt32) (q : Bool), c0 = .int .u32 a.toNat ∧ c1 = .int .u32 b.toNat ∧ c2 = .bool q := by
  obtain ⟨ys, m, _, hy, hlen, hyl, hf⟩ := DataW.trod_struct Tryd.underlying24 h
  match ys, hyl with
  | [y0, y1, y2], _ =>
    have e1 : Tryd.prog.cellsOf 22 = 1 := by kernel_rfl
    have e2 : Tryd.prog.cellsOf 4 = 1 := by kernel_rfl
    have h0 : DataW.trod enc Tryd.prog W 0 sp true m 22 (([c0, c1, c2].drop 0).take (Tryd.prog.cellsOf 22)) = some y0 := hf 0 _ rfl
    have h1 : DataW.trod enc Tryd.prog W 0 sp true m 22 (([c0, c1, c2].drop 1).take (Tryd.prog.cellsOf 22)) = some y1 := hf 1 _ rfl
    have h2 : DataW.trod enc Tryd.prog W 0 sp true m 4 (([c0, c1, c2].drop 2).take (Tryd.prog.cellsOf 4)) = some y2 := hf 2 _ rfl
    rw [e1] at h0 h1
    rw [e2] at h2
    obtain ⟨x0, q0, _, w0⟩ := DataW.trod_int Tryd.underlying22 h0
    obtain ⟨x1, q1, _, w1⟩ := DataW.trod_int Tryd.underlying22 h1
    obtain ⟨x2, q2, _⟩ := DataW.trod_bool Tryd.underlying4 h2
    obtain ⟨a, rfl⟩ := u32_ex w0
    obtain ⟨b, rfl⟩ := u32_ex w1
    exact ⟨a, b, x2, by simpa using q0, by simpa using q1, by simpa using q2⟩
theorem open_glob {n : Nat} {c0 c1 : Value} {y : DataW H × List MemPlace} (h : DataW.trod enc Tryd.prog W 0 sp true n 26 [c0, c1] = some y) :
    ∃ (a : UInt8) (q : Bool), c0 = .int .u8 a.toNat ∧ c1 = .bool q := by
  obtain ⟨ys, m, _, hy, hlen, hyl, hf⟩ := DataW.trod_struct Tryd.underlying26 h
  match ys, hyl with
  | [y0, y1], _ =>
    have e1 : Tryd.prog.cellsOf 5 = 1 := by kernel_rfl
    have e2 : Tryd.prog.cellsOf 4 = 1 := by kernel_rfl
    have h0 : DataW.trod enc Tryd.prog W 0 sp true m 5 (([c0, c1].drop 0).take (Tryd.prog.cellsOf 5)) = some y0 := hf 0 _ rfl
    have h1 : DataW.trod enc Tryd.prog W 0 sp true m 4 (([c0, c1].drop 1).take (Tryd.prog.cellsOf 4)) = some y1 := hf 1 _ rfl
    rw [e1] at h0
    rw [e2] at h1
    obtain ⟨x0, q0, _, w0⟩ := DataW.trod_int Tryd.underlying5 h0
    obtain ⟨x1, q1, _⟩ := DataW.trod_bool Tryd.underlying4 h1
    obtain ⟨a, rfl⟩ := u8_ex w0
    exact ⟨a, x1, by simpa using q0, by simpa using q1⟩
/-- Nine cells of an import. -/
theorem open_imp {n : Nat} {cs : List Value} {x : DataW H × List MemPlace} (h : DataW.trod enc Tryd.prog W 0 sp true n 28 cs = some x) (hc : cs.length = 9) : ∃ i : Im, cs = imL i := by
  obtain ⟨ys, m, _, hy, hlen, hyl, hf⟩ := DataW.trod_struct Tryd.underlying28 h
  match cs, hc with
  | [c0, c1, c2, c3, c4, c5, c6, c7, c8], _ =>
    match ys, hyl with
    | [y0, y1, y2, y3, y4, y5], _ =>
      have e1 : Tryd.prog.cellsOf 9 = 1 := by kernel_rfl
      have e2 : Tryd.prog.cellsOf 5 = 1 := by kernel_rfl
      have e3 : Tryd.prog.cellsOf 22 = 1 := by kernel_rfl
      have e4 : Tryd.prog.cellsOf 24 = 3 := by kernel_rfl
      have e5 : Tryd.prog.cellsOf 26 = 2 := by kernel_rfl
      have h0 : DataW.trod enc Tryd.prog W 0 sp true m 9 (([c0, c1, c2, c3, c4, c5, c6, c7, c8].drop 0).take (Tryd.prog.cellsOf 9)) = some y0 := hf 0 _ rfl
      have h1 : DataW.trod enc Tryd.prog W 0 sp true m 9 (([c0, c1, c2, c3, c4, c5, c6, c7, c8].drop 1).take (Tryd.prog.cellsOf 9)) = some y1 := hf 1 _ rfl
      have h2 : DataW.trod enc Tryd.prog W 0 sp true m 5 (([c0, c1, c2, c3, c4, c5, c6, c7, c8].drop 2).take (Tryd.prog.cellsOf 5)) = some y2 := hf 2 _ rfl
      have h3 : DataW.trod enc Tryd.prog W 0 sp true m 22 (([c0, c1, c2, c3, c4, c5, c6, c7, c8].drop 3).take (Tryd.prog.cellsOf 22)) = some y3 := hf 3 _ rfl
      have h4 : DataW.trod enc Tryd.prog W 0 sp true m 24 (([c0, c1, c2, c3, c4, c5, c6, c7, c8].drop 4).take (Tryd.prog.cellsOf 24)) = some y4 := hf 4 _ rfl
      have h5 : DataW.trod enc Tryd.prog W 0 sp true m 26 (([c0, c1, c2, c3, c4, c5, c6, c7, c8].drop 7).take (Tryd.prog.cellsOf 26)) = some y5 := hf 5 _ rfl
      rw [e1] at h0 h1
      rw [e2] at h2
      rw [e3] at h3
      rw [e4] at h4
      rw [e5] at h5
      obtain ⟨s0, q0, _, _⟩ := DataW.trod_string Tryd.underlying9 h0
      obtain ⟨s1, q1, _, _⟩ := DataW.trod_string Tryd.underlying9 h1
      obtain ⟨x2, q2, _, w2⟩ := DataW.trod_int Tryd.underlying5 h2
      obtain ⟨x3, q3, _, w3⟩ := DataW.trod_int Tryd.underlying22 h3
      obtain ⟨k, rfl⟩ := u8_ex w2
      obtain ⟨t, rfl⟩ := u32_ex w3
      obtain ⟨a, b, bd, r4, r5, r6⟩ := open_lims h4
      obtain ⟨g, gm, r7, r8⟩ := open_glob h5
      have q0' : c0 = .string s0 := by simpa using q0
      have q1' : c1 = .string s1 := by simpa using q1
      have q2' : c2 = .int .u8 k.toNat := by simpa using q2
      have q3' : c3 = .int .u32 t.toNat := by simpa using q3
      exact ⟨⟨s0.data.toList, s1.data.toList, k, t, a, b, bd, g, gm⟩, by unfold imL imC; rw [S_of, S_of, q0', q1', q2', q3', r4, r5, r6, r7, r8]⟩
theorem open_im {b0 : Nat} {r : Reach} {v : Value} {d : DataW H} {p : List MemPlace} (hv : Value.okWide Tryd.prog W r b0 28 v) (h : DataW.Trod enc Tryd.prog W 0 sp true 28 v d p) : ∃ i : Im, v = imV i := by
  obtain ⟨cs, rfl, hsz⟩ := okWide_struct Tryd.underlying28 hv
  rw [cellsImp] at hsz
  obtain ⟨fuel, hf⟩ := h
  obtain ⟨i, hi⟩ := open_imp (cs := cs.toList) (by simpa [Value.cells] using hf) (by simpa using hsz)
  exact ⟨i, by show Value.agg cs = .agg (imC i); congr 1; apply Array.toList_inj.1; exact hi⟩
theorem open_ims {A : Option Addr} {len cap : Nat} {d : DataW H} {p : List MemPlace} (h : DataW.Trod enc Tryd.prog W 0 sp true 48 (.slice A len cap) d p) :
    ∃ l : List Im, l.length = len ∧ Ims W A l ∧ (l.length : Int) ≤ 9223372036854775807 := by
  obtain ⟨fuel, hf⟩ := h
  rcases open_slice Tryd.underlying48 hf with ⟨hcs, _⟩ | ⟨a, ln, cp, m, n, D, Pl, hcs, hb, hl, hm, hmm, hx, hi⟩
  · simp [Value.cells] at hcs
    obtain ⟨rfl, rfl, rfl⟩ := hcs
    exact ⟨[], rfl, (fun j i hi => by cases hi), by simp⟩
  · simp [Value.cells] at hcs
    obtain ⟨rfl, rfl, rfl⟩ := hcs
    have hlm : len ≤ m := by rw [hmm]; split <;> omega
    have each : ∀ j, j < len → ∃ i : Im, ∀ u, u < 9 → W.cell? ((a.add (j * 9)).add u) = (imL i)[u]? := by
      intro j hj
      obtain ⟨cs', hc, ht'⟩ := hi j (by omega)
      rw [cellsImp] at hc
      obtain ⟨_, hcl, hat⟩ := World.cells?_some hc
      obtain ⟨i, rfl⟩ := open_imp ht' hcl
      exact ⟨i, fun u hu => hat u (by omega)⟩
    have pick : ∀ k, k ≤ len → ∃ l : List Im, l.length = k ∧ ∀ (j : Nat) (i : Im), l[j]? = some i → ∀ u, u < 9 → W.cell? ((a.add (j * 9)).add u) = (imL i)[u]? := by
      intro k
      induction k with
      | zero => intro _; exact ⟨[], rfl, fun j i hi => by cases hi⟩
      | succ k ih =>
        intro hk
        obtain ⟨l, hl1, hl2⟩ := ih (by omega)
        obtain ⟨i, hq⟩ := each k (by omega)
        refine ⟨l ++ [i], by simp [hl1], fun j i' hi' => ?_⟩
        rcases Nat.lt_or_ge j k with g | g
        · rw [List.getElem?_append_left (by omega)] at hi'
          exact hl2 j i' hi'
        · have hj : j < (l ++ [i]).length := (List.getElem?_eq_some_iff.1 hi').1
          rw [List.length_append, List.length_singleton] at hj
          obtain rfl : j = k := by omega
          rw [List.getElem?_append_right (by omega), hl1, Nat.sub_self] at hi'
          injection hi' with hi'
          subst hi'
          exact hq
    obtain ⟨l, hl1, hl2⟩ := pick len (Nat.le_refl _)
    unfold maxLen at hm
    refine ⟨l, hl1, fun j i hij => ?_, by omega⟩
    have q := hl2 j i hij
    have hj0 := (List.getElem?_eq_some_iff.1 hij).1
    have q00 : W.cell? ((a.add (0 * 9)).add 0) = some (.string (S (l[0]'(by omega)).mod)) := hl2 0 _ (List.getElem?_eq_getElem (by omega : 0 < l.length)) 0 (by omega)
    obtain ⟨b, off, spot⟩ := a
    have hsp : spot = none := by simpa [Addr.add] using World.cell?_spot q00
    subst hsp
    have q2 : ∀ u, u < 9 → W.cell? ⟨b, off + j * 9 + u, none⟩ = (imL i)[u]? := fun u hu => by
      have := q u hu
      rw [Go.WideShapes.add_plain, Go.WideShapes.add_plain] at this
      exact this
    have q0 : W.cell? ⟨b, off + j * 9 + 0, none⟩ = some (.string (S i.mod)) := q2 0 (by omega)
    exact ⟨b, off, rfl, block_lt_of_cell q0, q2⟩
end
end Go.Proofs.YtapgfapplafepaaDoor

/- The walk of ImportsBack. -/
namespace Go.Proofs.YtapgfapplafepaaDoor
open Go.RowKit
set_option linter.unusedVariables false
set_option maxRecDepth 100000

theorem take_one {l : List Im} {k : Nat} {x : Im} (h : l[k]? = some x) : l.take (k + 1) = l.take k ++ [x] := by rw [List.take_add_one, h]; rfl
/-- What the law keeps once the list is read. -/
structure BK (w : World) (l : List Im) (base : Nat) (A2 : Option Addr) (c2 : Nat) (B : Nat) (Ab : Option Addr) (y : List UInt8) (W : World) : Prop where
  bel : Below w.heap.size w W
  r : RowM W base (.slice A2 l.length c2) l
  ly : Lies W B Ab (cells (nums y))
  o : B ≤ W.heap.size
theorem BK.grown {w W W' : World} {l : List Im} {base B c2 q : Nat} {A2 Ab : Option Addr} {y : List UInt8} (h : BK w l base A2 c2 B Ab y W) (hg : W.grownBy W' (some q)) (h1 : w.heap.size ≤ q) (h2 : q < base) (h3 : B ≤ q) : BK w l base A2 c2 B Ab y W' :=
  ⟨below_new h.bel hg h1, h.r.past hg h2, h.ly.grown hg h.o (fun g e => by injection e with e; omega), Nat.le_trans h.o hg.size⟩
theorem BK.below {w W W' : World} {l : List Im} {base B c2 : Nat} {A2 Ab : Option Addr} {y : List UInt8} (h : BK w l base A2 c2 B Ab y W) (hb : Below W.heap.size W W') : BK w l base A2 c2 B Ab y W' :=
  ⟨h.bel.trans (hb.mono h.bel.size), h.r.later hb, h.ly.below hb h.o, Nat.le_trans h.o hb.size⟩
/-- One of the input's and the one that was read, as a walk reads them; both lists. -/
abbrev TwoIm (w : World) (A A2 : Option Addr) (l : List Im) (b off b2 off2 k : Nat) (x : Im) (W : World) : Prop := (Below w.heap.size w W ∧ Ims W A l ∧ Ims W A2 l) ∧
  (W.cell? ⟨b, off + k * 9, none⟩ = some (.string (S x.mod)) ∧ W.cell? ⟨b, off + k * 9 + 1, none⟩ = some (.string (S x.nam)) ∧ W.cell? ⟨b, off + k * 9 + 2, none⟩ = some (.int .u8 x.kind.toNat) ∧ W.cell? ⟨b, off + k * 9 + 3, none⟩ = some (.int .u32 x.typ.toNat) ∧
    W.cell? ⟨b, off + k * 9 + 4, none⟩ = some (.int .u32 x.mn.toNat) ∧ W.cell? ⟨b, off + k * 9 + 5, none⟩ = some (.int .u32 x.mx.toNat) ∧ W.cell? ⟨b, off + k * 9 + 6, none⟩ = some (.bool x.bd) ∧ W.cell? ⟨b, off + k * 9 + 7, none⟩ = some (.int .u8 x.gt.toNat) ∧ W.cell? ⟨b, off + k * 9 + 8, none⟩ = some (.bool x.gm)) ∧
  (W.cell? ⟨b2, off2 + k * 9, none⟩ = some (.string (S x.mod)) ∧ W.cell? ⟨b2, off2 + k * 9 + 1, none⟩ = some (.string (S x.nam)) ∧ W.cell? ⟨b2, off2 + k * 9 + 2, none⟩ = some (.int .u8 x.kind.toNat) ∧ W.cell? ⟨b2, off2 + k * 9 + 3, none⟩ = some (.int .u32 x.typ.toNat) ∧
    W.cell? ⟨b2, off2 + k * 9 + 4, none⟩ = some (.int .u32 x.mn.toNat) ∧ W.cell? ⟨b2, off2 + k * 9 + 5, none⟩ = some (.int .u32 x.mx.toNat) ∧ W.cell? ⟨b2, off2 + k * 9 + 6, none⟩ = some (.bool x.bd) ∧ W.cell? ⟨b2, off2 + k * 9 + 7, none⟩ = some (.int .u8 x.gt.toNat) ∧ W.cell? ⟨b2, off2 + k * 9 + 8, none⟩ = some (.bool x.gm))
section
variable {w W W' : World} {A A2 : Option Addr} {l : List Im} {b off b2 off2 k : Nat} {x : Im}
theorem imTwo_of (h1 : Below w.heap.size w W) (h2 : Ims W A l) (h3 : Ims W A2 l) (hA : A = some ⟨b, off, none⟩) (hA2 : A2 = some ⟨b2, off2, none⟩) (hx : l[k]? = some x) : TwoIm w A A2 l b off b2 off2 k x W := by
  obtain ⟨c1, o1, e1, _, p⟩ := h2.nine hx
  obtain ⟨c2, o2, e2, _, q⟩ := h3.nine hx
  rw [hA] at e1
  rw [hA2] at e2
  injection e1 with e1
  injection e2 with e2
  injection e1 with a1 a2
  injection e2 with a3 a4
  subst a1; subst a2; subst a3; subst a4
  exact ⟨⟨h1, h2, h3⟩, p, q⟩
theorem imTwo_on (h : TwoIm w A A2 l b off b2 off2 k x W) (hA : A = some ⟨b, off, none⟩) (hA2 : A2 = some ⟨b2, off2, none⟩) (hx : l[k]? = some x) (hb : Below W.heap.size W W') : TwoIm w A A2 l b off b2 off2 k x W' :=
  imTwo_of (h.1.1.trans (hb.mono h.1.1.size)) (h.1.2.1.below hb) (h.1.2.2.below hb) hA hA2 hx
end
set_option maxHeartbeats 8000000 in
theorem lawB {w : World} {A : Option Addr} {c : Nat} {l : List Im} (hl : Ims w A l) (hT : Tabs w) (nl : (l.length : Int) ≤ 9223372036854775807) :
    Calls Tryd.prog 4 #[.slice A l.length c] w fun e w' => e = .returned (.bool true) ∧ Below w.heap.size w w' := by
  have HAW := Lib.hid (awake_im w hT)
  have HL := Lib.hid hl
  have HTw := Lib.hid hT
  clear hl hT
  by_cases g1 : 20 < l.length
  · have t1 : decide ((20 : Int) < (l.length : Int)) = true := decide_eq_true (by omega)
    clear g1
    go_enter Tryd.func4, Tryd.ntmps4
    go_wp2_with (go_at_call 9; go_must ((with_reducible refine HAW.out.mono ?_); rintro e w1 ⟨rfl, hb⟩; have H1 := Lib.hid hb; clear hb))
    go_ret
    exact ⟨rfl, H1.out⟩
  have t1 : decide ((20 : Int) < (l.length : Int)) = false := decide_eq_false (by omega)
  have HRC := Lib.hid (fun W => rcount_im l.length W (by omega))
  have hlb := lebL_len (l.length : Int) (by omega)
  obtain ⟨hd, hhd⟩ : ∃ hd, hd = lebL (l.length : Int) := ⟨_, rfl⟩
  rw [← hhd] at HRC hlb
  have HAL := Lib.hid (show allL l = hd ++ iputsL l by rw [hhd]; rfl)
  obtain ⟨n, hn⟩ : ∃ n, n = l.length := ⟨_, rfl⟩
  have HN := Lib.hid hn
  have HE := Lib.hid (show l.take n = l by rw [hn, List.take_length])
  have h20 : n ≤ 20 := by omega
  rw [← hn] at t1 HRC ⊢
  clear hn hhd g1 nl
  unfold Strs at HRC
  go_enter Tryd.func4, Tryd.ntmps4
  go_wp2_with (first
    | (go_at_call 9; go_must ((with_reducible refine HAW.out.mono ?_); rintro e w1 ⟨rfl, hb⟩; have H1 := Lib.hid hb; clear hb))
    | (go_at_call 20; go_must ((with_reducible refine (HRC.out _).mono ?_); rintro e w2 ⟨rfl, hb⟩; have H2 := Lib.hid (H1.out.trans (hb.mono H1.out.size)); clear hb)))
  go_loopw [3, 4, 5] (fun code want i wr => ∃ (k : Nat) (t : List UInt8), k ≤ n ∧ i = .int .i64 k ∧ code = .int .i64 (errL (l.take k)) ∧ want = .string (S t) ∧ t.length ≤ 10 + k * 843 ∧ (errL (l.take k) = 0 → t = hd ++ iputsL (l.take k)) ∧ ShortI (l.take k) ∧ Below w.heap.size w wr) (fun _ _ i _ => n - (intOf i).toNat)
  case atStart => exact ⟨0, hd, Nat.zero_le _, rfl, rfl, rfl, by omega, (fun _ => by simp [iputsL]), (fun x hx => by cases hx), H2.out⟩
  case round =>
    obtain ⟨k, t, hk, rfl, rfl, rfl, htl, htb, hsh, hb⟩ := hrel
    have hz1 := hb.size
    by_cases hlt : k < n
    · obtain ⟨x, hx⟩ : ∃ x, l[k]? = some x := ⟨_, List.getElem?_eq_getElem (by rw [← HN.out]; exact hlt)⟩
      obtain ⟨b, off, rfl, hbl, m0, m1, m2, m3, m4, m5, m6, m7, m8⟩ := (HL.out.below hb).nine hx
      have s1 := S_size x.mod
      have s2 := S_size x.nam
      have HBA := Lib.hid (hb.alloc hz1 (.cells (imC x) 28))
      have hstep := errL_snoc hx
      have hpsn := iputsL_snoc hx
      by_cases b1 : 400 < x.mod.length
      · have t2 : decide ((400 : Int) < (x.mod.length : Int)) = true := decide_eq_true (by omega)
        clear b1 htb hsh hb hx hstep hpsn htl s2
        go_wp2
        go_ret
        exact ⟨rfl, HBA.out⟩
      have t2 : decide ((400 : Int) < (x.mod.length : Int)) = false := decide_eq_false (by omega)
      by_cases b2 : 400 < x.nam.length
      · have t3 : decide ((400 : Int) < (x.nam.length : Int)) = true := decide_eq_true (by omega)
        clear b1 b2 htb hsh hb hx hstep hpsn htl
        go_wp2
        go_ret
        exact ⟨rfl, HBA.out⟩
      have t3 : decide ((400 : Int) < (x.nam.length : Int)) = false := decide_eq_false (by omega)
      have HSH : Hid (ShortI (l.take (k + 1))) := Lib.hid fun q hq => by
        rw [take_one hx] at hq
        rcases List.mem_append.1 hq with hq | hq
        · exact hsh q hq
        · rw [List.mem_singleton] at hq; subst hq; omega
      have hil := iputL_len (x := x) (n := 400) (by omega) (by omega) (by omega)
      have HRR := Lib.hid (rright_im x (wr.alloc (.cells (imC x) 28)) (by omega) (by omega))
      have HRP := Lib.hid (fun W => rput_im x W (by omega) (by omega))
      have HW := Lib.hid (Whole.made wr 28 (imC x))
      unfold Strs at HRP
      by_cases e0 : errL (l.take k) = 0
      · rw [if_neg (by simpa using e0)] at hstep
        have ht := htb e0
        have d0 : (errL (l.take k) == 0) = true := by simpa using e0
        obtain ⟨q, hq⟩ : ∃ q, q = errL (l.take k) := ⟨_, rfl⟩
        rw [← hq] at d0 ⊢
        by_cases z0 : rZ x = 0
        · rw [z0] at HRR hstep
          have HSTEP := Lib.hid hstep
          have HTT := Lib.hid ht
          have HPS := Lib.hid hpsn
          obtain ⟨y, hy⟩ : ∃ y, y = iputL x := ⟨_, rfl⟩
          rw [← hy] at HRP hil HPS
          have st := S_size t
          have sy := S_size y
          have q1 : ¬ 9223372036854775807 < (S t).size + (S y).size := by omega
          clear b1 b2 htb hsh hb hx hstep hpsn e0 hq ht hy z0 st sy
          go_wp2_with (first
            | (go_at_call 10; go_must ((with_reducible refine HRR.out.mono ?_); rintro e w3 ⟨rfl, hb⟩; have H3 := Lib.hid (HBA.out.trans (hb.mono HBA.out.size)); obtain ⟨c0, c1, c2, c3, c4, c5, c6, c7, c8⟩ := (HW.out.below hb).im; clear hb))
            | (go_at_call 17; go_must ((with_reducible refine (HRP.out _).mono ?_); rintro e w4 ⟨rfl, hb⟩; have H4 := Lib.hid (H3.out.trans (hb.mono H3.out.size)); clear hb)))
          go_roundw
          case rel => exact ⟨k + 1, t ++ y, by omega, by go_num, by rw [HSTEP.out], by rw [S_append], by rw [List.length_append]; omega, fun _ => by rw [HPS.out, HTT.out, List.append_assoc], HSH.out, H4.out⟩
          case measure => simp [intOf]; omega
        · have HSTEP := Lib.hid hstep
          have HZN := Lib.hid z0
          have d1 : (rZ x == 0) = false := by simpa using z0
          obtain ⟨z, hz⟩ : ∃ z, z = rZ x := ⟨_, rfl⟩
          rw [← hz] at HRR HSTEP HZN d1
          clear b1 b2 htb hsh hb hx hstep hpsn e0 hq ht z0 hz HRP
          go_wp2_with (go_at_call 10; go_must ((with_reducible refine HRR.out.mono ?_); rintro e w3 ⟨rfl, hb⟩; have H3 := Lib.hid (HBA.out.trans (hb.mono HBA.out.size)); clear hb))
          go_roundw
          case rel => exact ⟨k + 1, t, by omega, by go_num, by rw [HSTEP.out], rfl, by omega, fun e => absurd (HSTEP.out.symm.trans e) HZN.out, HSH.out, H3.out⟩
          case measure => simp [intOf]; omega
      · rw [if_pos e0] at hstep
        have HSTEP := Lib.hid hstep
        have HCN := Lib.hid e0
        have d0 : (errL (l.take k) == 0) = false := by simpa using e0
        obtain ⟨q, hq⟩ : ∃ q, q = errL (l.take k) := ⟨_, rfl⟩
        rw [← hq] at d0 HSTEP HCN ⊢
        clear b1 b2 htb hsh hb hx hstep hpsn e0 hq HRP HRR
        go_wp2
        go_roundw
        case rel => exact ⟨k + 1, t, by omega, by go_num, by rw [HSTEP.out], rfl, by omega, fun e => absurd (HSTEP.out.symm.trans e) HCN.out, HSH.out, HBA.out⟩
        case measure => simp [intOf]; omega
    · obtain rfl : k = n := by omega
      rw [HE.out] at htb hsh ⊢
      have HB := Lib.hid hb
      have hpa := putall_im (c := c) (HL.out.below hb) (HTw.out.below hb) hsh (by rw [← HN.out]; omega)
      rw [← HN.out] at hpa
      unfold PuttedAll at hpa
      by_cases e0 : errL l = 0
      · have ht := (htb e0).trans HAL.out.symm
        rw [if_pos e0, e0] at hpa
        have HGA := Lib.hid (fun W p (h : Sc W p (allL l) 0) (hT : TbN p W) => getall_im h hT rfl e0 (by rw [← HN.out]; omega))
        rw [e0]
        have htl2 : (allL l).length ≤ 1000000 := by rw [← ht]; omega
        rw [ht]
        obtain ⟨y, hy⟩ : ∃ y, y = allL l := ⟨_, rfl⟩
        rw [← hy] at hpa HGA htl2 ⊢
        have HPA := Lib.hid hpa
        clear hpa htb hsh hb e0 ht hy htl hlt
        go_upto_region 20 with (first
          | (go_at_call 21; go_must ((with_reducible refine HPA.out.mono ?_); intro e w3 hq; obtain ⟨v, rfl, hr, hb⟩ := hq; obtain ⟨Ab, cb, rfl, hpc⟩ := hr.pc; have H3 := Lib.hid (HB.out.trans (hb.mono HB.out.size)); have HP3 := Lib.hid hpc; clear hb hr hpc))
          | (go_at_call 13; go_must ((with_reducible refine (over_all HP3.out.lies htl2).mono ?_); intro e w7 hq; obtain ⟨p, rfl, hpp, hs, hb⟩ := hq; have HS7 := Lib.hid hs; have HB37 := Lib.hid hb; have HB7 := Lib.hid (H3.out.trans (hb.mono H3.out.size)); clear hs hb)))
        have h7p := HS7.out.lt
        have h3z := H3.out.size
        have HS8 := Lib.hid (HS7.out.alloc (.cells #[.pointer (some ⟨p, 0, none⟩)] 36))
        have HPT := Lib.hid (Whole.made w7 36 #[.pointer (some ⟨p, 0, none⟩)])
        have HB8 := Lib.hid (HB7.out.trans ((below_box w7 (.cells #[.pointer (some ⟨p, 0, none⟩)] 36)).mono HB7.out.size))
        have HL8 := Lib.hid (HP3.out.lies.below (HB37.out.trans ((below_box w7 (.cells #[.pointer (some ⟨p, 0, none⟩)] 36)).mono HB37.out.size)) (Nat.le_refl _))
        have h8 : w3.heap.size ≤ (w7.alloc (.cells #[.pointer (some ⟨p, 0, none⟩)] 36)).heap.size := Nat.le_trans HB37.out.size (below_box w7 _).size
        have h87 : w7.heap.size < (w7.alloc (.cells #[.pointer (some ⟨p, 0, none⟩)] 36)).heap.size := HPT.out.lt
        clear HAW H1 H2 HB HPA H3 HP3 HB37 HB7 HS7
        generalize w7.alloc (.cells #[.pointer (some ⟨p, 0, none⟩)] 36) = W8 at *
        generalize w7.heap.size = b6 at *
        have HV := Lib.hid (valueM_ok (T := fun v W => v.2.1 = l.length ∧ BK w l (W8.heap.size + 4) v.1 v.2.2 w3.heap.size Ab y W) (cfI2 #[.pointer (some ⟨b6, 0, none⟩)]) (q := p) (w := W8) (by omega)
          (fun q W W' b h1 h2 h3 hg => ⟨h3.1, h3.2.grown hg (by omega) (by omega) (by omega)⟩)
          (fun W hb hsz => by
            have hS := HS8.out.below hb
            have hB := HB8.out.trans (hb.mono HB8.out.size)
            refine (clos2 (p := p) (l := y) (xs := l) (HPT.out.below hb) (HGA.out W p hS (TbN.of HTw.out hB (by omega) (Nat.le_of_lt hS.lt)))).mono ?_
            rintro e w' ⟨v, rfl, hr, hs, hg⟩
            obtain ⟨A2, c2, rfl⟩ := hr.slice
            exact ⟨(A2, l.length, c2), rfl, ⟨rfl, below_new hB hg (by omega), hr.mono hsz, (HL8.out.below hb h8).grown hg (Nat.le_trans h8 hb.size) (fun g e => by injection e with e; omega), Nat.le_trans h8 (Nat.le_trans hb.size hg.size)⟩, hg⟩))
        clear HGA HS8 HPT HL8
        go_upto_region 21 with (go_at_call 22; go_must ((with_reducible refine HV.out.mono ?_); rintro e w9 ⟨⟨A2, n2, c2⟩, rfl, ⟨hn2, hbk⟩, hg⟩; have HN2 := Lib.hid hn2; clear hn2; have HBK := Lib.hid (hbk.below (below_box w9 (.cells #[.int .i64 0, .int .i64 0] 39))); have k0 := (Whole.made w9 39 #[.int .i64 0, .int .i64 0]).cell 0; clear hbk hg))
        simp only [List.getElem?_toArray, List.getElem?_cons_zero] at k0
        have hn3 : n2 = k := HN2.out.trans HN.out.symm
        clear HN2
        subst hn3
        generalize w9.alloc (.cells #[.int .i64 0, .int .i64 0] 39) = W10 at *
        have hcv := str_any HBK.out.ly cb 9 Tryd.underlying9
        have HI := Lib.hid (HL.out.below HBK.out.bel)
        have HJ := Lib.hid HBK.out.r.ims
        have HSm := Lib.hid (fun x W => show Calls Tryd.prog 18 #[imV x, imV x] W fun e w' => e = .returned (.bool true) ∧ Below W.heap.size W w' from by have h2 := refSame_im x x W; rw [decide_eq_true rfl] at h2; exact h2)
        clear HV HB8
        go_wp2
        clear hcv k0
        go_loopw [12] (fun i wr => ∃ j : Nat, j ≤ n2 ∧ i = .int .i64 j ∧ Below w.heap.size w wr ∧ Ims wr A l ∧ Ims wr A2 l) (fun i _ => n2 - (intOf i).toNat)
        case atStart => exact ⟨0, Nat.zero_le _, rfl, HBK.out.bel, HI.out, HJ.out⟩
        case round =>
          obtain ⟨j, hj, rfl, hb, hi, hjj⟩ := hrel
          by_cases hlt : j < n2
          · obtain ⟨x, hx⟩ : ∃ x, l[j]? = some x := ⟨_, List.getElem?_eq_getElem (by rw [← HN.out]; exact hlt)⟩
            obtain ⟨b, off, hA, _⟩ := hi.nine hx
            obtain ⟨b2, off2, hA2, _⟩ := hjj.nine hx
            have hS0 := imTwo_of hb hi hjj hA hA2 hx
            have HS0 := Lib.hid (imTwo_on hS0 hA hA2 hx (Below.refl _ _).drew)
            have HON := Lib.hid (fun W W' (h : TwoIm w A A2 l b off b2 off2 j x W) (hb : Below W.heap.size W W') => imTwo_on h hA hA2 hx hb)
            subst hA; subst hA2
            clear hx hb hi hjj hS0
            go_upto_region 26 with fail
            refine wp_region_noPanic ?_
            refine wp_region_held_drew (S := fun W => TwoIm w (some ⟨b, off, none⟩) (some ⟨b2, off2, none⟩) l b off b2 off2 j x W) (by kernel_rfl) HS0.out (fun hHeld => ?_)
            (refine heldTake (i := 0) (oi := { dst := some 99, op := Op.move (Operand.tmp 10), type := 48, pos := "law.go:96", after := #[], guard := none }) (v := ?_) rfl (by kernel_rfl) (by kernel_rfl) (by kernel_rfl) (by assumption) ?_ ?_; rotate_left; focus (refine .inl ⟨by kernel_rfl, ?_⟩; intro w hSw; (try dsimp only at hSw); go_simp; (try with_reducible rfl)); (try simp only [Act.put, List.setIfInBounds_toArray, List.set_cons_zero, List.set_cons_succ]))
            (refine heldTake (i := 1) (oi := { dst := some 100, op := Op.move (Operand.tmp 12), type := 3, pos := "law.go:96", after := #[], guard := none }) (v := ?_) rfl (by kernel_rfl) (by kernel_rfl) (by kernel_rfl) (by assumption) ?_ ?_; rotate_left; focus (refine .inl ⟨by kernel_rfl, ?_⟩; intro w hSw; (try dsimp only at hSw); go_simp; (try with_reducible rfl)); (try simp only [Act.put, List.setIfInBounds_toArray, List.set_cons_zero, List.set_cons_succ]))
            (refine heldTake (i := 2) (oi := { dst := some 101, op := Op.indexAddr 48 (Operand.tmp 99) (Operand.tmp 100), type := 0, pos := "law.go:96", after := #[{ on := 0, ground := Ground.data }, { on := 1, ground := Ground.data }], guard := none }) (v := ?_) rfl (by kernel_rfl) (by kernel_rfl) (by kernel_rfl) (by assumption) ?_ ?_; rotate_left; focus (refine .inl ⟨by kernel_rfl, ?_⟩; intro w hSw; (try dsimp only at hSw); go_simp; (try with_reducible rfl)); (try simp only [Act.put, List.setIfInBounds_toArray, List.set_cons_zero, List.set_cons_succ]))
            (refine heldTake (i := 3) (oi := { dst := some 102, op := Op.load 28 (Operand.tmp 101), type := 28, pos := "law.go:96", after := #[{ on := 2, ground := Ground.data }], guard := none }) (v := ?_) rfl (by kernel_rfl) (by kernel_rfl) (by kernel_rfl) (by assumption) ?_ ?_; rotate_left; focus (refine .inl ⟨by kernel_rfl, ?_⟩; intro w hSw; (try dsimp only at hSw); go_simp; (try with_reducible rfl)); (try simp only [Act.put, List.setIfInBounds_toArray, List.set_cons_zero, List.set_cons_succ]))
            (refine heldTake (i := 4) (oi := { dst := some 103, op := Op.move (Operand.tmp 0), type := 48, pos := "law.go:96", after := #[], guard := none }) (v := ?_) rfl (by kernel_rfl) (by kernel_rfl) (by kernel_rfl) (by assumption) ?_ ?_; rotate_left; focus (refine .inl ⟨by kernel_rfl, ?_⟩; intro w hSw; (try dsimp only at hSw); go_simp; (try with_reducible rfl)); (try simp only [Act.put, List.setIfInBounds_toArray, List.set_cons_zero, List.set_cons_succ]))
            (refine heldTake (i := 5) (oi := { dst := some 104, op := Op.move (Operand.tmp 12), type := 3, pos := "law.go:96", after := #[], guard := none }) (v := ?_) rfl (by kernel_rfl) (by kernel_rfl) (by kernel_rfl) (by assumption) ?_ ?_; rotate_left; focus (refine .inl ⟨by kernel_rfl, ?_⟩; intro w hSw; (try dsimp only at hSw); go_simp; (try with_reducible rfl)); (try simp only [Act.put, List.setIfInBounds_toArray, List.set_cons_zero, List.set_cons_succ]))
            (refine heldTake (i := 6) (oi := { dst := some 105, op := Op.indexAddr 48 (Operand.tmp 103) (Operand.tmp 104), type := 0, pos := "law.go:96", after := #[{ on := 4, ground := Ground.data }, { on := 5, ground := Ground.data }], guard := none }) (v := ?_) rfl (by kernel_rfl) (by kernel_rfl) (by kernel_rfl) (by assumption) ?_ ?_; rotate_left; focus (refine .inl ⟨by kernel_rfl, ?_⟩; intro w hSw; (try dsimp only at hSw); go_simp; (try with_reducible rfl)); (try simp only [Act.put, List.setIfInBounds_toArray, List.set_cons_zero, List.set_cons_succ]))
            (refine heldTake (i := 7) (oi := { dst := some 106, op := Op.load 28 (Operand.tmp 105), type := 28, pos := "law.go:96", after := #[{ on := 6, ground := Ground.data }], guard := none }) (v := ?_) rfl (by kernel_rfl) (by kernel_rfl) (by kernel_rfl) (by assumption) ?_ ?_; rotate_left; focus (refine .inl ⟨by kernel_rfl, ?_⟩; intro w hSw; (try dsimp only at hSw); go_simp; (try with_reducible rfl)); (try simp only [Act.put, List.setIfInBounds_toArray, List.set_cons_zero, List.set_cons_succ]))
            refine wpAnyH_ready (rs := [8]) (by kernel_rfl) (by simp) ?_
            refine AllReadyH.cons (o := { dst := some 107, op := Op.call { callee := Callee.value (Operand.func 18), args := #[Operand.tmp 102, Operand.tmp 106], argTypes := #[28, 28] }, type := 4, pos := "law.go:96", after := #[{ on := 3, ground := Ground.data }, { on := 7, ground := Ground.data }], guard := none }) rfl (fun K hK => ?_) AllReadyH.nil
            go_simp
            (go_at_call 18; (with_reducible refine (HSm.out x _).mono ?_); rintro e w11 ⟨rfl, hb⟩; have hk11 := HON.out _ _ hHeld hb; clear hb)
            refine hK.out _ _ hk11 (fun hHeld8 => ?_)
            clear hK K hHeld
            (try simp only [Act.put, List.setIfInBounds_toArray, List.set_cons_zero, List.set_cons_succ])
            (refine heldTake (i := 9) (oi := { dst := some 108, op := Op.unOp UnOp.not 4 (Operand.tmp 107), type := 4, pos := "law.go:96", after := #[{ on := 8, ground := Ground.data }], guard := none }) (v := ?_) rfl (by kernel_rfl) (by kernel_rfl) (by kernel_rfl) (by assumption) ?_ ?_; rotate_left; focus (refine .inl ⟨by kernel_rfl, ?_⟩; intro w hSw; (try dsimp only at hSw); go_simp; (try with_reducible rfl)); (try simp only [Act.put, List.setIfInBounds_toArray, List.set_cons_zero, List.set_cons_succ]))
            refine wpAnyH_done (by kernel_rfl) ?_ _
            refine NoPanic.normal ?_
            have hLast := hHeld8
            clear hHeld8
            obtain ⟨⟨hb3, hi3, hj3⟩, _⟩ := hLast
            have HB3 := Lib.hid hb3
            have HI3 := Lib.hid hi3
            have HJ3 := Lib.hid hj3
            clear hb3 hi3 hj3
            go_wp2
            go_roundw
            case rel => exact ⟨j + 1, by omega, by go_num, HB3.out, HI3.out, HJ3.out⟩
            case measure => simp [intOf]; omega
          · obtain rfl : j = n2 := by omega
            have HB3 := Lib.hid hb
            clear hb hi hjj
            go_wp2
            go_ret
            exact ⟨rfl, HB3.out⟩
      · rw [if_neg e0] at hpa
        have d0 : (errL l != 0) = true := zb_of (by simpa using e0)
        obtain ⟨z, hz⟩ : ∃ z, z = errL l := ⟨_, rfl⟩
        rw [← hz] at hpa d0 ⊢
        have HPA := Lib.hid hpa
        clear hpa htb hsh hb e0 hz hlt
        go_wp2_with (go_at_call 21; go_must ((with_reducible refine HPA.out.mono ?_); intro e w3 hq; obtain ⟨v, rfl, hr, hb⟩ := hq; obtain ⟨Ab, cb, rfl, _⟩ := hr.pc; have H3 := Lib.hid (HB.out.trans (hb.mono HB.out.size)); clear hb hr))
        go_ret
        exact ⟨rfl, H3.out⟩
end Go.Proofs.YtapgfapplafepaaDoor
