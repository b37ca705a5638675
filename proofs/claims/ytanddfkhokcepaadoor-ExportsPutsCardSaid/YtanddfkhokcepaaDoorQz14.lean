/- An import by value and a slice of imports, opened. (By gen/genCards.py.) -/
import Derived.Test.YtanddfkhokcepaaDoorQz11
import Derived.Test.YtanddfkhokcepaaDoorQz13
import Derived.ProofKit
import Derived.OpenShut
import Derived.ShutString
import Derived.ChangeOld
import Derived.ChangeSame
import Derived.Deep.Slices
import Derived.Deep.Fields
import Derived.Lib.SmallJoins
import Derived.Test.YtanddfkhokcepaaDoorQz12
import Derived.Test.YtanddfkhokcepaaDoorQz10
import Derived.Test.YtanddfkhokcepaaDoorQz03
import Derived.Test.YtanddfkhokcepaaDoorQz07
import Derived.Deep.CutBlock
import Derived.Deep.DeepCutAuto
import Derived.OwnWalk
namespace Go.Proofs.YtanddfkhokcepaaDoor
open Go.ChangeShapes Go.WideShapes Go.ChangeAt Go.RowKit Go.Joins Go.Deep
set_option linter.unusedVariables false
set_option maxRecDepth 100000

theorem cellsImp : Tryd.prog.cellsOf 49 = 9 := by kernel_rfl
section
variable {H : Type} {enc : TypeId × Value → H} {W : World} {sp : Nat → Bool}
theorem open_lims {n : Nat} {c0 c1 c2 : Value} {y : DataW H × List MemPlace} (h : DataW.trod enc Tryd.prog W 0 sp true n 45 [c0, c1, c2] = some y) :
    ∃ (a b : UInt32) (q : Bool), c0 = .int .u32 a.toNat ∧ c1 = .int .u32 b.toNat ∧ c2 = .bool q := by
  obtain ⟨ys, m, _, hy, hlen, hyl, hf⟩ := DataW.trod_struct Tryd.underlying45 h
  match ys, hyl with
  | [y0, y1, y2], _ =>
    have e1 : Tryd.prog.cellsOf 43 = 1 := by kernel_rfl
    have e2 : Tryd.prog.cellsOf 4 = 1 := by kernel_rfl
    have h0 : DataW.trod enc Tryd.prog W 0 sp true m 43 (([c0, c1, c2].drop 0).take (Tryd.prog.cellsOf 43)) = some y0 := hf 0 _ rfl
    have h1 : DataW.trod enc Tryd.prog W 0 sp true m 43 (([c0, c1, c2].drop 1).take (Tryd.prog.cellsOf 43)) = some y1 := hf 1 _ rfl
    have h2 : DataW.trod enc Tryd.prog W 0 sp true m 4 (([c0, c1, c2].drop 2).take (Tryd.prog.cellsOf 4)) = some y2 := hf 2 _ rfl
    rw [e1] at h0 h1
    rw [e2] at h2
    obtain ⟨x0, q0, _, w0⟩ := DataW.trod_int Tryd.underlying43 h0
    obtain ⟨x1, q1, _, w1⟩ := DataW.trod_int Tryd.underlying43 h1
    obtain ⟨x2, q2, _⟩ := DataW.trod_bool Tryd.underlying4 h2
    obtain ⟨a, rfl⟩ := u32_ex w0
    obtain ⟨b, rfl⟩ := u32_ex w1
    exact ⟨a, b, x2, by simpa using q0, by simpa using q1, by simpa using q2⟩
theorem open_glob {n : Nat} {c0 c1 : Value} {y : DataW H × List MemPlace} (h : DataW.trod enc Tryd.prog W 0 sp true n 47 [c0, c1] = some y) :
    ∃ (a : UInt8) (q : Bool), c0 = .int .u8 a.toNat ∧ c1 = .bool q := by
  obtain ⟨ys, m, _, hy, hlen, hyl, hf⟩ := DataW.trod_struct Tryd.underlying47 h
  match ys, hyl with
  | [y0, y1], _ =>
    have e1 : Tryd.prog.cellsOf 5 = 1 := by kernel_rfl
    have e2 : Tryd.prog.cellsOf 4 = 1 := by kernel_rfl
    have h0 : DataW.trod enc Tryd.prog W 0 sp true m 5 (([c0, c1].drop 0).take (Tryd.prog.cellsOf 5)) = some y0 := hf 0 _ rfl
    have h1 : DataW.trod enc Tryd.prog W 0 sp true m 4 (([c0, c1].drop 1).take (Tryd.prog.cellsOf 4)) = some y1 := hf 1 _ rfl
    rw [e1] at h0
    rw [e2] at h1
    obtain ⟨x0, q0, _, w0⟩ := DataW.trod_int Tryd.underlying5 h0
    obtain ⟨x1, q1, _⟩ := DataW.trod_bool Tryd.underlying4 h1
    obtain ⟨a, rfl⟩ := u8_ex w0
    exact ⟨a, x1, by simpa using q0, by simpa using q1⟩
/-- Nine cells of an import. -/
theorem open_imp {n : Nat} {cs : List Value} {x : DataW H × List MemPlace} (h : DataW.trod enc Tryd.prog W 0 sp true n 49 cs = some x) (hc : cs.length = 9) : ∃ i : Im, cs = imL i := by
  obtain ⟨ys, m, _, hy, hlen, hyl, hf⟩ := DataW.trod_struct Tryd.underlying49 h
  match cs, hc with
  | [c0, c1, c2, c3, c4, c5, c6, c7, c8], _ =>
    match ys, hyl with
    | [y0, y1, y2, y3, y4, y5], _ =>
      have e1 : Tryd.prog.cellsOf 9 = 1 := by kernel_rfl
      have e2 : Tryd.prog.cellsOf 5 = 1 := by kernel_rfl
      have e3 : Tryd.prog.cellsOf 43 = 1 := by kernel_rfl
      have e4 : Tryd.prog.cellsOf 45 = 3 := by kernel_rfl
      have e5 : Tryd.prog.cellsOf 47 = 2 := by kernel_rfl
      have h0 : DataW.trod enc Tryd.prog W 0 sp true m 9 (([c0, c1, c2, c3, c4, c5, c6, c7, c8].drop 0).take (Tryd.prog.cellsOf 9)) = some y0 := hf 0 _ rfl
      have h1 : DataW.trod enc Tryd.prog W 0 sp true m 9 (([c0, c1, c2, c3, c4, c5, c6, c7, c8].drop 1).take (Tryd.prog.cellsOf 9)) = some y1 := hf 1 _ rfl
      have h2 : DataW.trod enc Tryd.prog W 0 sp true m 5 (([c0, c1, c2, c3, c4, c5, c6, c7, c8].drop 2).take (Tryd.prog.cellsOf 5)) = some y2 := hf 2 _ rfl
      have h3 : DataW.trod enc Tryd.prog W 0 sp true m 43 (([c0, c1, c2, c3, c4, c5, c6, c7, c8].drop 3).take (Tryd.prog.cellsOf 43)) = some y3 := hf 3 _ rfl
      have h4 : DataW.trod enc Tryd.prog W 0 sp true m 45 (([c0, c1, c2, c3, c4, c5, c6, c7, c8].drop 4).take (Tryd.prog.cellsOf 45)) = some y4 := hf 4 _ rfl
      have h5 : DataW.trod enc Tryd.prog W 0 sp true m 47 (([c0, c1, c2, c3, c4, c5, c6, c7, c8].drop 7).take (Tryd.prog.cellsOf 47)) = some y5 := hf 5 _ rfl
      rw [e1] at h0 h1
      rw [e2] at h2
      rw [e3] at h3
      rw [e4] at h4
      rw [e5] at h5
      obtain ⟨s0, q0, _, _⟩ := DataW.trod_string Tryd.underlying9 h0
      obtain ⟨s1, q1, _, _⟩ := DataW.trod_string Tryd.underlying9 h1
      obtain ⟨x2, q2, _, w2⟩ := DataW.trod_int Tryd.underlying5 h2
      obtain ⟨x3, q3, _, w3⟩ := DataW.trod_int Tryd.underlying43 h3
      obtain ⟨k, rfl⟩ := u8_ex w2
      obtain ⟨t, rfl⟩ := u32_ex w3
      obtain ⟨a, b, bd, r4, r5, r6⟩ := open_lims h4
      obtain ⟨g, gm, r7, r8⟩ := open_glob h5
      have q0' : c0 = .string s0 := by simpa using q0
      have q1' : c1 = .string s1 := by simpa using q1
      have q2' : c2 = .int .u8 k.toNat := by simpa using q2
      have q3' : c3 = .int .u32 t.toNat := by simpa using q3
      exact ⟨⟨s0.data.toList, s1.data.toList, k, t, a, b, bd, g, gm⟩, by unfold imL imC; rw [S_of, S_of, q0', q1', q2', q3', r4, r5, r6, r7, r8]⟩
theorem open_im {b0 : Nat} {r : Reach} {v : Value} {d : DataW H} {p : List MemPlace} (hv : Value.okWide Tryd.prog W r b0 49 v) (h : DataW.Trod enc Tryd.prog W 0 sp true 49 v d p) : ∃ i : Im, v = imV i := by
  obtain ⟨cs, rfl, hsz⟩ := okWide_struct Tryd.underlying49 hv
  rw [cellsImp] at hsz
  obtain ⟨fuel, hf⟩ := h
  obtain ⟨i, hi⟩ := open_imp (cs := cs.toList) (by simpa [Value.cells] using hf) (by simpa using hsz)
  exact ⟨i, by show Value.agg cs = .agg (imC i); congr 1; apply Array.toList_inj.1; exact hi⟩
theorem open_ims {A : Option Addr} {len cap : Nat} {d : DataW H} {p : List MemPlace} (h : DataW.Trod enc Tryd.prog W 0 sp true 64 (.slice A len cap) d p) :
    ∃ l : List Im, l.length = len ∧ Ims W A l ∧ (l.length : Int) ≤ 9223372036854775807 := by
  obtain ⟨fuel, hf⟩ := h
  rcases open_slice Tryd.underlying64 hf with ⟨hcs, _⟩ | ⟨a, ln, cp, m, n, D, Pl, hcs, hb, hl, hm, hmm, hx, hi⟩
  · simp [Value.cells] at hcs
    obtain ⟨rfl, rfl, rfl⟩ := hcs
    exact ⟨[], rfl, (fun j i hi => by cases hi), by simp⟩
  · simp [Value.cells] at hcs
    obtain ⟨rfl, rfl, rfl⟩ := hcs
    have hlm : len ≤ m := by rw [hmm]; split <;> omega
    have each : ∀ j, j < len → ∃ i : Im, ∀ u, u < 9 → W.cell? ((a.add (j * 9)).add u) = (imL i)[u]? := by
      intro j hj
      obtain ⟨cs', hc, ht'⟩ := hi j (by omega)
      rw [cellsImp] at hc
      obtain ⟨_, hcl, hat⟩ := World.cells?_some hc
      obtain ⟨i, rfl⟩ := open_imp ht' hcl
      exact ⟨i, fun u hu => hat u (by omega)⟩
    have pick : ∀ k, k ≤ len → ∃ l : List Im, l.length = k ∧ ∀ (j : Nat) (i : Im), l[j]? = some i → ∀ u, u < 9 → W.cell? ((a.add (j * 9)).add u) = (imL i)[u]? := by
      intro k
      induction k with
      | zero => intro _; exact ⟨[], rfl, fun j i hi => by cases hi⟩
      | succ k ih =>
        intro hk
        obtain ⟨l, hl1, hl2⟩ := ih (by omega)
        obtain ⟨i, hq⟩ := each k (by omega)
        refine ⟨l ++ [i], by simp [hl1], fun j i' hi' => ?_⟩
        rcases Nat.lt_or_ge j k with g | g
        · rw [List.getElem?_append_left (by omega)] at hi'
          exact hl2 j i' hi'
        · have hj : j < (l ++ [i]).length := (List.getElem?_eq_some_iff.1 hi').1
          rw [List.length_append, List.length_singleton] at hj
          obtain rfl : j = k := by omega
          rw [List.getElem?_append_right (by omega), hl1, Nat.sub_self] at hi'
          injection hi' with hi'
          subst hi'
          exact hq
    obtain ⟨l, hl1, hl2⟩ := pick len (Nat.le_refl _)
    unfold maxLen at hm
    refine ⟨l, hl1, fun j i hij => ?_, by omega⟩
    have q := hl2 j i hij
    have hj0 := (List.getElem?_eq_some_iff.1 hij).1
    have q00 : W.cell? ((a.add (0 * 9)).add 0) = some (.string (S (l[0]'(by omega)).mod)) := hl2 0 _ (List.getElem?_eq_getElem (by omega : 0 < l.length)) 0 (by omega)
    obtain ⟨b, off, spot⟩ := a
    have hsp : spot = none := by simpa [Addr.add] using World.cell?_spot q00
    subst hsp
    have q2 : ∀ u, u < 9 → W.cell? ⟨b, off + j * 9 + u, none⟩ = (imL i)[u]? := fun u hu => by
      have := q u hu
      rw [Go.WideShapes.add_plain, Go.WideShapes.add_plain] at this
      exact this
    have q0 : W.cell? ⟨b, off + j * 9 + 0, none⟩ = some (.string (S i.mod)) := q2 0 (by omega)
    exact ⟨b, off, rfl, block_lt_of_cell q0, q2⟩
end
end Go.Proofs.YtanddfkhokcepaaDoor

/- The walk of ImportsBack. -/
namespace Go.Proofs.YtanddfkhokcepaaDoor
open Go.RowKit
set_option linter.unusedVariables false
set_option maxRecDepth 100000

theorem take_one {l : List Im} {k : Nat} {x : Im} (h : l[k]? = some x) : l.take (k + 1) = l.take k ++ [x] := by rw [List.take_add_one, h]; rfl
/-- What the law keeps once the list is read. -/
structure BK (w : World) (l : List Im) (base : Nat) (A2 : Option Addr) (c2 : Nat) (B : Nat) (Ab : Option Addr) (y : List UInt8) (W : World) : Prop where
  bel : Below w.heap.size w W
  r : RowM W base (.slice A2 l.length c2) l
  ly : Lies W B Ab (cells (nums y))
  o : B ≤ W.heap.size
theorem BK.grown {w W W' : World} {l : List Im} {base B c2 q : Nat} {A2 Ab : Option Addr} {y : List UInt8} (h : BK w l base A2 c2 B Ab y W) (hg : W.grownBy W' (some q)) (h1 : w.heap.size ≤ q) (h2 : q < base) (h3 : B ≤ q) : BK w l base A2 c2 B Ab y W' :=
  ⟨below_new h.bel hg h1, h.r.past hg h2, h.ly.grown hg h.o (fun g e => by injection e with e; omega), Nat.le_trans h.o hg.size⟩
theorem BK.below {w W W' : World} {l : List Im} {base B c2 : Nat} {A2 Ab : Option Addr} {y : List UInt8} (h : BK w l base A2 c2 B Ab y W) (hb : Below W.heap.size W W') : BK w l base A2 c2 B Ab y W' :=
  ⟨h.bel.trans (hb.mono h.bel.size), h.r.later hb, h.ly.below hb h.o, Nat.le_trans h.o hb.size⟩
/-- One of the input's and the one that was read, as a walk reads them; both lists. -/
abbrev TwoIm (w : World) (A A2 : Option Addr) (l : List Im) (b off b2 off2 k : Nat) (x : Im) (W : World) : Prop := (Below w.heap.size w W ∧ Ims W A l ∧ Ims W A2 l) ∧
  (W.cell? ⟨b, off + k * 9, none⟩ = some (.string (S x.mod)) ∧ W.cell? ⟨b, off + k * 9 + 1, none⟩ = some (.string (S x.nam)) ∧ W.cell? ⟨b, off + k * 9 + 2, none⟩ = some (.int .u8 x.kind.toNat) ∧ W.cell? ⟨b, off + k * 9 + 3, none⟩ = some (.int .u32 x.typ.toNat) ∧
    W.cell? ⟨b, off + k * 9 + 4, none⟩ = some (.int .u32 x.mn.toNat) ∧ W.cell? ⟨b, off + k * 9 + 5, none⟩ = some (.int .u32 x.mx.toNat) ∧ W.cell? ⟨b, off + k * 9 + 6, none⟩ = some (.bool x.bd) ∧ W.cell? ⟨b, off + k * 9 + 7, none⟩ = some (.int .u8 x.gt.toNat) ∧ W.cell? ⟨b, off + k * 9 + 8, none⟩ = some (.bool x.gm)) ∧
  (W.cell? ⟨b2, off2 + k * 9, none⟩ = some (.string (S x.mod)) ∧ W.cell? ⟨b2, off2 + k * 9 + 1, none⟩ = some (.string (S x.nam)) ∧ W.cell? ⟨b2, off2 + k * 9 + 2, none⟩ = some (.int .u8 x.kind.toNat) ∧ W.cell? ⟨b2, off2 + k * 9 + 3, none⟩ = some (.int .u32 x.typ.toNat) ∧
    W.cell? ⟨b2, off2 + k * 9 + 4, none⟩ = some (.int .u32 x.mn.toNat) ∧ W.cell? ⟨b2, off2 + k * 9 + 5, none⟩ = some (.int .u32 x.mx.toNat) ∧ W.cell? ⟨b2, off2 + k * 9 + 6, none⟩ = some (.bool x.bd) ∧ W.cell? ⟨b2, off2 + k * 9 + 7, none⟩ = some (.int .u8 x.gt.toNat) ∧ W.cell? ⟨b2, off2 + k * 9 + 8, none⟩ = some (.bool x.gm))
section
variable {w W W' : World} {A A2 : Option Addr} {l : List Im} {b off b2 off2 k : Nat} {x : Im}
theorem imTwo_of (h1 : Below w.heap.size w W) (h2 : Ims W A l) (h3 : Ims W A2 l) (hA : A = some ⟨b, off, none⟩) (hA2 : A2 = some ⟨b2, off2, none⟩) (hx : l[k]? = some x) : TwoIm w A A2 l b off b2 off2 k x W := by
  obtain ⟨c1, o1, e1, _, p⟩ := h2.nine hx
  obtain ⟨c2, o2, e2, _, q⟩ := h3.nine hx
  rw [hA] at e1
  rw [hA2] at e2
  injection e1 with e1
  injection e2 with e2
  injection e1 with a1 a2
  injection e2 with a3 a4
  subst a1; subst a2; subst a3; subst a4
  exact ⟨⟨h1, h2, h3⟩, p, q⟩
theorem imTwo_on (h : TwoIm w A A2 l b off b2 off2 k x W) (hA : A = some ⟨b, off, none⟩) (hA2 : A2 = some ⟨b2, off2, none⟩) (hx : l[k]? = some x) (hb : Below W.heap.size W W') : TwoIm w A A2 l b off b2 off2 k x W' :=
  imTwo_of (h.1.1.trans (hb.mono h.1.1.size)) (h.1.2.1.below hb) (h.1.2.2.below hb) hA hA2 hx
end
set_option maxHeartbeats 8000000 in
theorem lawB {w : World} {A : Option Addr} {c : Nat} {l : List Im} (hl : Ims w A l) (hT : Tabs w) (nl : (l.length : Int) ≤ 9223372036854775807) :
    Calls Tryd.prog 5 #[.slice A l.length c] w fun e w' => e = .returned (.bool true) ∧ Below w.heap.size w w' := by
  have HAW := Lib.hid (awake_im w hT)
  have HL := Lib.hid hl
  have HTw := Lib.hid hT
  clear hl hT
  by_cases g1 : 20 < l.length
  · have t1 : decide ((20 : Int) < (l.length : Int)) = true := decide_eq_true (by omega)
    clear g1
    go_enter Tryd.func5, Tryd.ntmps5
    go_wp2_with (go_at_call 18; go_must ((with_reducible refine HAW.out.mono ?_); rintro e w1 ⟨rfl, hb⟩; have H1 := Lib.hid hb; clear hb))
    go_ret
    exact ⟨rfl, H1.out⟩
  have t1 : decide ((20 : Int) < (l.length : Int)) = false := decide_eq_false (by omega)
  have HRC := Lib.hid (fun W => rcount_im l.length W (by omega))
  have hlb := lebL_len (l.length : Int) (by omega)
  obtain ⟨hd, hhd⟩ : ∃ hd, hd = lebL (l.length : Int) := ⟨_, rfl⟩
  rw [← hhd] at HRC hlb
  have HAL := Lib.hid (show allL l = hd ++ iputsL l by rw [hhd]; rfl)
  obtain ⟨n, hn⟩ : ∃ n, n = l.length := ⟨_, rfl⟩
  have HN := Lib.hid hn
  have HE := Lib.hid (show l.take n = l by rw [hn, List.take_length])
  have h20 : n ≤ 20 := by omega
  rw [← hn] at t1 HRC ⊢
  clear hn hhd g1 nl
  unfold Strs at HRC
  go_enter Tryd.func5, Tryd.ntmps5
  go_wp2_with (first
    | (go_at_call 18; go_must ((with_reducible refine HAW.out.mono ?_); rintro e w1 ⟨rfl, hb⟩; have H1 := Lib.hid hb; clear hb))
    | (go_at_call 29; go_must ((with_reducible refine (HRC.out _).mono ?_); rintro e w2 ⟨rfl, hb⟩; have H2 := Lib.hid (H1.out.trans (hb.mono H1.out.size)); clear hb)))
  go_loopw [3, 4, 5] (fun code want i wr => ∃ (k : Nat) (t : List UInt8), k ≤ n ∧ i = .int .i64 k ∧ code = .int .i64 (errL (l.take k)) ∧ want = .string (S t) ∧ t.length ≤ 10 + k * 843 ∧ (errL (l.take k) = 0 → t = hd ++ iputsL (l.take k)) ∧ ShortI (l.take k) ∧ Below w.heap.size w wr) (fun _ _ i _ => n - (intOf i).toNat)
  case atStart => exact ⟨0, hd, Nat.zero_le _, rfl, rfl, rfl, by omega, (fun _ => by simp [iputsL]), (fun x hx => by cases hx), H2.out⟩
  case round =>
    obtain ⟨k, t, hk, rfl, rfl, rfl, htl, htb, hsh, hb⟩ := hrel
    have hz1 := hb.size
    by_cases hlt : k < n
    · obtain ⟨x, hx⟩ : ∃ x, l[k]? = some x := ⟨_, List.getElem?_eq_getElem (by rw [← HN.out]; exact hlt)⟩
      obtain ⟨b, off, rfl, hbl, m0, m1, m2, m3, m4, m5, m6, m7, m8⟩ := (HL.out.below hb).nine hx
      have s1 := S_size x.mod
      have s2 := S_size x.nam
      have HBA := Lib.hid (hb.alloc hz1 (.cells (imC x) 49))
      have hstep := errL_snoc hx
      have hpsn := iputsL_snoc hx
      by_cases b1 : 400 < x.mod.length
      · have t2 : decide ((400 : Int) < (x.mod.length : Int)) = true := decide_eq_true (by omega)
        clear b1 htb hsh hb hx hstep hpsn htl s2
        go_wp2
        go_ret
        exact ⟨rfl, HBA.out⟩
      have t2 : decide ((400 : Int) < (x.mod.length : Int)) = false := decide_eq_false (by omega)
      by_cases b2 : 400 < x.nam.length
      · have t3 : decide ((400 : Int) < (x.nam.length : Int)) = true := decide_eq_true (by omega)
        clear b1 b2 htb hsh hb hx hstep hpsn htl
        go_wp2
        go_ret
        exact ⟨rfl, HBA.out⟩
      have t3 : decide ((400 : Int) < (x.nam.length : Int)) = false := decide_eq_false (by omega)
      have HSH : Hid (ShortI (l.take (k + 1))) := Lib.hid fun q hq => by
        rw [take_one hx] at hq
        rcases List.mem_append.1 hq with hq | hq
        · exact hsh q hq
        · rw [List.mem_singleton] at hq; subst hq; omega
      have hil := iputL_len (x := x) (n := 400) (by omega) (by omega) (by omega)
      have HRR := Lib.hid (rright_im x (wr.alloc (.cells (imC x) 49)) (by omega) (by omega))
      have HRP := Lib.hid (fun W => rput_im x W (by omega) (by omega))
      have HW := Lib.hid (Whole.made wr 49 (imC x))
      unfold Strs at HRP
      by_cases e0 : errL (l.take k) = 0
      · rw [if_neg (by simpa using e0)] at hstep
        have ht := htb e0
        have d0 : (errL (l.take k) == 0) = true := by simpa using e0
        obtain ⟨q, hq⟩ : ∃ q, q = errL (l.take k) := ⟨_, rfl⟩
        rw [← hq] at d0 ⊢
        by_cases z0 : rZ x = 0
        · rw [z0] at HRR hstep
          have HSTEP := Lib.hid hstep
          have HTT := Lib.hid ht
          have HPS := Lib.hid hpsn
          obtain ⟨y, hy⟩ : ∃ y, y = iputL x := ⟨_, rfl⟩
          rw [← hy] at HRP hil HPS
          have st := S_size t
          have sy := S_size y
          have q1 : ¬ 9223372036854775807 < (S t).size + (S y).size := by omega
          clear b1 b2 htb hsh hb hx hstep hpsn e0 hq ht hy z0 st sy
          go_wp2_with (first
            | (go_at_call 19; go_must ((with_reducible refine HRR.out.mono ?_); rintro e w3 ⟨rfl, hb⟩; have H3 := Lib.hid (HBA.out.trans (hb.mono HBA.out.size)); obtain ⟨c0, c1, c2, c3, c4, c5, c6, c7, c8⟩ := (HW.out.below hb).im; clear hb))
            | (go_at_call 26; go_must ((with_reducible refine (HRP.out _).mono ?_); rintro e w4 ⟨rfl, hb⟩; have H4 := Lib.hid (H3.out.trans (hb.mono H3.out.size)); clear hb)))
          go_roundw
          case rel => exact ⟨k + 1, t ++ y, by omega, by go_num, by rw [HSTEP.out], by rw [S_append], by rw [List.length_append]; omega, fun _ => by rw [HPS.out, HTT.out, List.append_assoc], HSH.out, H4.out⟩
          case measure => simp [intOf]; omega
        · have HSTEP := Lib.hid hstep
          have HZN := Lib.hid z0
          have d1 : (rZ x == 0) = false := by simpa using z0
          obtain ⟨z, hz⟩ : ∃ z, z = rZ x := ⟨_, rfl⟩
          rw [← hz] at HRR HSTEP HZN d1
          clear b1 b2 htb hsh hb hx hstep hpsn e0 hq ht z0 hz HRP
          go_wp2_with (go_at_call 19; go_must ((with_reducible refine HRR.out.mono ?_); rintro e w3 ⟨rfl, hb⟩; have H3 := Lib.hid (HBA.out.trans (hb.mono HBA.out.size)); clear hb))
          go_roundw
          case rel => exact ⟨k + 1, t, by omega, by go_num, by rw [HSTEP.out], rfl, by omega, fun e => absurd (HSTEP.out.symm.trans e) HZN.out, HSH.out, H3.out⟩
          case measure => simp [intOf]; omega
      · rw [if_pos e0] at hstep
        have HSTEP := Lib.hid hstep
        have HCN := Lib.hid e0
        have d0 : (errL (l.take k) == 0) = false := by simpa using e0
        obtain ⟨q, hq⟩ : ∃ q, q = errL (l.take k) := ⟨_, rfl⟩
        rw [← hq] at d0 HSTEP HCN ⊢
        clear b1 b2 htb hsh hb hx hstep hpsn e0 hq HRP HRR
        go_wp2
        go_roundw
        case rel => exact ⟨k + 1, t, by omega, by go_num, by rw [HSTEP.out], rfl, by omega, fun e => absurd (HSTEP.out.symm.trans e) HCN.out, HSH.out, HBA.out⟩
        case measure => simp [intOf]; omega
    · obtain rfl : k = n := by omega
      rw [HE.out] at htb hsh ⊢
      have HB := Lib.hid hb
      have hpa := putall_im (c := c) (HL.out.below hb) (HTw.out.below hb) hsh (by rw [← HN.out]; omega)
      rw [← HN.out] at hpa
      unfold PuttedAll at hpa
      by_cases e0 : errL l = 0
      · have ht := (htb e0).trans HAL.out.symm
        rw [if_pos e0, e0] at hpa
        have HGA := Lib.hid (fun W p (h : Sc W p (allL l) 0) (hT : TbN p W) => getall_im h hT rfl e0 (by rw [← HN.out]; omega))
        rw [e0]
        have htl2 : (allL l).length ≤ 1000000 := by rw [← ht]; omega
        rw [ht]
        obtain ⟨y, hy⟩ : ∃ y, y = allL l := ⟨_, rfl⟩
        rw [← hy] at hpa HGA htl2 ⊢
        have HPA := Lib.hid hpa
        clear hpa htb hsh hb e0 ht hy htl hlt
        go_upto_region 20 with (first
          | (go_at_call 30; go_must ((with_reducible refine HPA.out.mono ?_); intro e w3 hq; obtain ⟨v, rfl, hr, hb⟩ := hq; obtain ⟨Ab, cb, rfl, hpc⟩ := hr.pc; have H3 := Lib.hid (HB.out.trans (hb.mono HB.out.size)); have HP3 := Lib.hid hpc; clear hb hr hpc))
          | (go_at_call 22; go_must ((with_reducible refine (over_all HP3.out.lies htl2).mono ?_); intro e w7 hq; obtain ⟨p, rfl, hpp, hs, hb⟩ := hq; have HS7 := Lib.hid hs; have HB37 := Lib.hid hb; have HB7 := Lib.hid (H3.out.trans (hb.mono H3.out.size)); clear hs hb)))
        have h7p := HS7.out.lt
        have h3z := H3.out.size
        have HS8 := Lib.hid (HS7.out.alloc (.cells #[.pointer (some ⟨p, 0, none⟩)] 54))
        have HPT := Lib.hid (Whole.made w7 54 #[.pointer (some ⟨p, 0, none⟩)])
        have HB8 := Lib.hid (HB7.out.trans ((below_box w7 (.cells #[.pointer (some ⟨p, 0, none⟩)] 54)).mono HB7.out.size))
        have HL8 := Lib.hid (HP3.out.lies.below (HB37.out.trans ((below_box w7 (.cells #[.pointer (some ⟨p, 0, none⟩)] 54)).mono HB37.out.size)) (Nat.le_refl _))
        have h8 : w3.heap.size ≤ (w7.alloc (.cells #[.pointer (some ⟨p, 0, none⟩)] 54)).heap.size := Nat.le_trans HB37.out.size (below_box w7 _).size
        have h87 : w7.heap.size < (w7.alloc (.cells #[.pointer (some ⟨p, 0, none⟩)] 54)).heap.size := HPT.out.lt
        clear HAW H1 H2 HB HPA H3 HP3 HB37 HB7 HS7
        generalize w7.alloc (.cells #[.pointer (some ⟨p, 0, none⟩)] 54) = W8 at *
        generalize w7.heap.size = b6 at *
        have HV := Lib.hid (valueM_ok (T := fun v W => v.2.1 = l.length ∧ BK w l (W8.heap.size + 4) v.1 v.2.2 w3.heap.size Ab y W) (cfI2 #[.pointer (some ⟨b6, 0, none⟩)]) (q := p) (w := W8) (by omega)
          (fun q W W' b h1 h2 h3 hg => ⟨h3.1, h3.2.grown hg (by omega) (by omega) (by omega)⟩)
          (fun W hb hsz => by
            have hS := HS8.out.below hb
            have hB := HB8.out.trans (hb.mono HB8.out.size)
            refine (clos2 (p := p) (l := y) (xs := l) (HPT.out.below hb) (HGA.out W p hS (TbN.of HTw.out hB (by omega) (Nat.le_of_lt hS.lt)))).mono ?_
            rintro e w' ⟨v, rfl, hr, hs, hg⟩
            obtain ⟨A2, c2, rfl⟩ := hr.slice
            exact ⟨(A2, l.length, c2), rfl, ⟨rfl, below_new hB hg (by omega), hr.mono hsz, (HL8.out.below hb h8).grown hg (Nat.le_trans h8 hb.size) (fun g e => by injection e with e; omega), Nat.le_trans h8 (Nat.le_trans hb.size hg.size)⟩, hg⟩))
        clear HGA HS8 HPT HL8
        go_upto_region 21 with (go_at_call 31; go_must ((with_reducible refine HV.out.mono ?_); rintro e w9 ⟨⟨A2, n2, c2⟩, rfl, ⟨hn2, hbk⟩, hg⟩; have HN2 := Lib.hid hn2; clear hn2; have HBK := Lib.hid (hbk.below (below_box w9 (.cells #[.int .i64 0, .int .i64 0] 39))); have k0 := (Whole.made w9 39 #[.int .i64 0, .int .i64 0]).cell 0; clear hbk hg))
        simp only [List.getElem?_toArray, List.getElem?_cons_zero] at k0
        have hn3 : n2 = k := HN2.out.trans HN.out.symm
        clear HN2
        subst hn3
        generalize w9.alloc (.cells #[.int .i64 0, .int .i64 0] 39) = W10 at *
        have hcv := str_any HBK.out.ly cb 9 Tryd.underlying9
        have HI := Lib.hid (HL.out.below HBK.out.bel)
        have HJ := Lib.hid HBK.out.r.ims
        have HSm := Lib.hid (fun x W => show Calls Tryd.prog 27 #[imV x, imV x] W fun e w' => e = .returned (.bool true) ∧ Below W.heap.size W w' from by have h2 := refSame_im x x W; rw [decide_eq_true rfl] at h2; exact h2)
        clear HV HB8
        go_wp2
        clear hcv k0
        go_loopw [12] (fun i wr => ∃ j : Nat, j ≤ n2 ∧ i = .int .i64 j ∧ Below w.heap.size w wr ∧ Ims wr A l ∧ Ims wr A2 l) (fun i _ => n2 - (intOf i).toNat)
        case atStart => exact ⟨0, Nat.zero_le _, rfl, HBK.out.bel, HI.out, HJ.out⟩
        case round =>
          obtain ⟨j, hj, rfl, hb, hi, hjj⟩ := hrel
          by_cases hlt : j < n2
          · obtain ⟨x, hx⟩ : ∃ x, l[j]? = some x := ⟨_, List.getElem?_eq_getElem (by rw [← HN.out]; exact hlt)⟩
            obtain ⟨b, off, hA, _⟩ := hi.nine hx
            obtain ⟨b2, off2, hA2, _⟩ := hjj.nine hx
            have hS0 := imTwo_of hb hi hjj hA hA2 hx
            have HS0 := Lib.hid (imTwo_on hS0 hA hA2 hx (Below.refl _ _).drew)
            have HON := Lib.hid (fun W W' (h : TwoIm w A A2 l b off b2 off2 j x W) (hb : Below W.heap.size W W') => imTwo_on h hA hA2 hx hb)
            subst hA; subst hA2
            clear hx hb hi hjj hS0
            go_upto_region 26 with fail
            refine wp_region_noPanic ?_
            refine wp_region_held_drew (S := fun W => TwoIm w (some ⟨b, off, none⟩) (some ⟨b2, off2, none⟩) l b off b2 off2 j x W) (by kernel_rfl) HS0.out (fun hHeld => ?_)
            (refine heldTake (i := 0) (oi := { dst := some 99, op := Op.move (Operand.tmp 10), type := 64, pos := "law.go:96", after := #[], guard := none }) (v := ?_) rfl (by kernel_rfl) (by kernel_rfl) (by kernel_rfl) (by assumption) ?_ ?_; rotate_left; focus (refine .inl ⟨by kernel_rfl, ?_⟩; intro w hSw; (try dsimp only at hSw); go_simp; (try with_reducible rfl)); (try simp only [Act.put, List.setIfInBounds_toArray, List.set_cons_zero, List.set_cons_succ]))
            (refine heldTake (i := 1) (oi := { dst := some 100, op := Op.move (Operand.tmp 12), type := 3, pos := "law.go:96", after := #[], guard := none }) (v := ?_) rfl (by kernel_rfl) (by kernel_rfl) (by kernel_rfl) (by assumption) ?_ ?_; rotate_left; focus (refine .inl ⟨by kernel_rfl, ?_⟩; intro w hSw; (try dsimp only at hSw); go_simp; (try with_reducible rfl)); (try simp only [Act.put, List.setIfInBounds_toArray, List.set_cons_zero, List.set_cons_succ]))
            (refine heldTake (i := 2) (oi := { dst := some 101, op := Op.indexAddr 64 (Operand.tmp 99) (Operand.tmp 100), type := 0, pos := "law.go:96", after := #[{ on := 0, ground := Ground.data }, { on := 1, ground := Ground.data }], guard := none }) (v := ?_) rfl (by kernel_rfl) (by kernel_rfl) (by kernel_rfl) (by assumption) ?_ ?_; rotate_left; focus (refine .inl ⟨by kernel_rfl, ?_⟩; intro w hSw; (try dsimp only at hSw); go_simp; (try with_reducible rfl)); (try simp only [Act.put, List.setIfInBounds_toArray, List.set_cons_zero, List.set_cons_succ]))
            (refine heldTake (i := 3) (oi := { dst := some 102, op := Op.load 49 (Operand.tmp 101), type := 49, pos := "law.go:96", after := #[{ on := 2, ground := Ground.data }], guard := none }) (v := ?_) rfl (by kernel_rfl) (by kernel_rfl) (by kernel_rfl) (by assumption) ?_ ?_; rotate_left; focus (refine .inl ⟨by kernel_rfl, ?_⟩; intro w hSw; (try dsimp only at hSw); go_simp; (try with_reducible rfl)); (try simp only [Act.put, List.setIfInBounds_toArray, List.set_cons_zero, List.set_cons_succ]))
            (refine heldTake (i := 4) (oi := { dst := some 103, op := Op.move (Operand.tmp 0), type := 64, pos := "law.go:96", after := #[], guard := none }) (v := ?_) rfl (by kernel_rfl) (by kernel_rfl) (by kernel_rfl) (by assumption) ?_ ?_; rotate_left; focus (refine .inl ⟨by kernel_rfl, ?_⟩; intro w hSw; (try dsimp only at hSw); go_simp; (try with_reducible rfl)); (try simp only [Act.put, List.setIfInBounds_toArray, List.set_cons_zero, List.set_cons_succ]))
            (refine heldTake (i := 5) (oi := { dst := some 104, op := Op.move (Operand.tmp 12), type := 3, pos := "law.go:96", after := #[], guard := none }) (v := ?_) rfl (by kernel_rfl) (by kernel_rfl) (by kernel_rfl) (by assumption) ?_ ?_; rotate_left; focus (refine .inl ⟨by kernel_rfl, ?_⟩; intro w hSw; (try dsimp only at hSw); go_simp; (try with_reducible rfl)); (try simp only [Act.put, List.setIfInBounds_toArray, List.set_cons_zero, List.set_cons_succ]))
            (refine heldTake (i := 6) (oi := { dst := some 105, op := Op.indexAddr 64 (Operand.tmp 103) (Operand.tmp 104), type := 0, pos := "law.go:96", after := #[{ on := 4, ground := Ground.data }, { on := 5, ground := Ground.data }], guard := none }) (v := ?_) rfl (by kernel_rfl) (by kernel_rfl) (by kernel_rfl) (by assumption) ?_ ?_; rotate_left; focus (refine .inl ⟨by kernel_rfl, ?_⟩; intro w hSw; (try dsimp only at hSw); go_simp; (try with_reducible rfl)); (try simp only [Act.put, List.setIfInBounds_toArray, List.set_cons_zero, List.set_cons_succ]))
            (refine heldTake (i := 7) (oi := { dst := some 106, op := Op.load 49 (Operand.tmp 105), type := 49, pos := "law.go:96", after := #[{ on := 6, ground := Ground.data }], guard := none }) (v := ?_) rfl (by kernel_rfl) (by kernel_rfl) (by kernel_rfl) (by assumption) ?_ ?_; rotate_left; focus (refine .inl ⟨by kernel_rfl, ?_⟩; intro w hSw; (try dsimp only at hSw); go_simp; (try with_reducible rfl)); (try simp only [Act.put, List.setIfInBounds_toArray, List.set_cons_zero, List.set_cons_succ]))
            refine wpAnyH_ready (rs := [8]) (by kernel_rfl) (by simp) ?_
            refine AllReadyH.cons (o := { dst := some 107, op := Op.call { callee := Callee.value (Operand.func 27), args := #[Operand.tmp 102, Operand.tmp 106], argTypes := #[49, 49] }, type := 4, pos := "law.go:96", after := #[{ on := 3, ground := Ground.data }, { on := 7, ground := Ground.data }], guard := none }) rfl (fun K hK => ?_) AllReadyH.nil
            go_simp
            (go_at_call 27; (with_reducible refine (HSm.out x _).mono ?_); rintro e w11 ⟨rfl, hb⟩; have hk11 := HON.out _ _ hHeld hb; clear hb)
            refine hK.out _ _ hk11 (fun hHeld8 => ?_)
            clear hK K hHeld
            (try simp only [Act.put, List.setIfInBounds_toArray, List.set_cons_zero, List.set_cons_succ])
            (refine heldTake (i := 9) (oi := { dst := some 108, op := Op.unOp UnOp.not 4 (Operand.tmp 107), type := 4, pos := "law.go:96", after := #[{ on := 8, ground := Ground.data }], guard := none }) (v := ?_) rfl (by kernel_rfl) (by kernel_rfl) (by kernel_rfl) (by assumption) ?_ ?_; rotate_left; focus (refine .inl ⟨by kernel_rfl, ?_⟩; intro w hSw; (try dsimp only at hSw); go_simp; (try with_reducible rfl)); (try simp only [Act.put, List.setIfInBounds_toArray, List.set_cons_zero, List.set_cons_succ]))
            refine wpAnyH_done (by kernel_rfl) ?_ _
            refine NoPanic.normal ?_
            have hLast := hHeld8
            clear hHeld8
            obtain ⟨⟨hb3, hi3, hj3⟩, _⟩ := hLast
            have HB3 := Lib.hid hb3
            have HI3 := Lib.hid hi3
            have HJ3 := Lib.hid hj3
            clear hb3 hi3 hj3
            go_wp2
            go_roundw
            case rel => exact ⟨j + 1, by omega, by go_num, HB3.out, HI3.out, HJ3.out⟩
            case measure => simp [intOf]; omega
          · obtain rfl : j = n2 := by omega
            have HB3 := Lib.hid hb
            clear hb hi hjj
            go_wp2
            go_ret
            exact ⟨rfl, HB3.out⟩
      · rw [if_neg e0] at hpa
        have d0 : (errL l != 0) = true := zb_of (by simpa using e0)
        obtain ⟨z, hz⟩ : ∃ z, z = errL l := ⟨_, rfl⟩
        rw [← hz] at hpa d0 ⊢
        have HPA := Lib.hid hpa
        clear hpa htb hsh hb e0 hz hlt
        go_wp2_with (go_at_call 30; go_must ((with_reducible refine HPA.out.mono ?_); intro e w3 hq; obtain ⟨v, rfl, hr, hb⟩ := hq; obtain ⟨Ab, cb, rfl, _⟩ := hr.pc; have H3 := Lib.hid (HB.out.trans (hb.mono HB.out.size)); clear hb hr))
        go_ret
        exact ⟨rfl, H3.out⟩
end Go.Proofs.YtanddfkhokcepaaDoor

/- Exports as plain data; creelref11.Same; a box that holds one. -/
namespace Go.Proofs.YtanddfkhokcepaaDoor
open Go.RowKit
set_option linter.unusedVariables false
set_option maxRecDepth 100000

/-- An export. -/
structure Ex where
  nam : List UInt8
  kind : UInt8
  idx : UInt32
  deriving DecidableEq
/-- Its cells. -/
abbrev exC (x : Ex) : Array Value := #[.string (S x.nam), .int .u8 x.kind.toNat, .int .u32 x.idx.toNat]
abbrev exV (x : Ex) : Value := .agg (exC x)
abbrev exZ : Ex := ⟨[], 0, 0⟩
theorem exC_zero : exC exZ = #[.string { data := #[] }, .int .u8 0, .int .u32 0] := rfl
theorem put3 {w : World} {b : Nat} {t : TypeId} {x0 x1 x2 u0 u1 u2 : Value} (hb : Whole w b t #[x0, x1, x2]) :
    Whole (((w.setCell ⟨b, 0, none⟩ u0).setCell ⟨b, 1, none⟩ u1).setCell ⟨b, 2, none⟩ u2) b t #[u0, u1, u2] ∧ w.grownBy (((w.setCell ⟨b, 0, none⟩ u0).setCell ⟨b, 1, none⟩ u1).setCell ⟨b, 2, none⟩ u2) (some b) := three_put hb
/-- What lies in a block that holds an export. -/
theorem Whole.ex {w : World} {b : Nat} {t : TypeId} {x : Ex} (h : Whole w b t (exC x)) :
    w.cell? ⟨b, 0, none⟩ = some (.string (S x.nam)) ∧ w.cell? ⟨b, 1, none⟩ = some (.int .u8 x.kind.toNat) ∧ w.cell? ⟨b, 2, none⟩ = some (.int .u32 x.idx.toNat) := ⟨h.cell 0, h.cell 1, h.cell 2⟩
theorem ex_ext {x y : Ex} (h0 : (S x.nam).toList = (S y.nam).toList) (h1 : (x.kind.toNat : Int) = y.kind.toNat) (h2 : (x.idx.toNat : Int) = y.idx.toNat) : x = y := by
  rw [S_toList, S_toList] at h0
  obtain ⟨a0, a1, a2⟩ := x
  obtain ⟨b0, b1, b2⟩ := y
  simp only at h0 h1 h2
  obtain rfl := i8_of h1
  obtain rfl := i32_of h2
  subst h0
  rfl
theorem eq_ex (x y : Ex) (w : World) : (binOp BinOp.eql 78 (exV x) (exV y)).run Tryd.prog w = .ok (.bool (decide (x = y))) w := by
  go_simp
  repeat' split
  · rw [decide_eq_true (ex_ext (by assumption) (by assumption) (by assumption))]
  all_goals (rw [decide_eq_false (fun h => by subst h; first | (exact absurd rfl (by assumption)) | (rename_i q; exact q rfl))])
theorem neq_ex (x y : Ex) (w : World) : (binOp BinOp.neq 78 (exV x) (exV y)).run Tryd.prog w = .ok (.bool (!decide (x = y))) w := by
  go_simp
  repeat' split
  · rw [decide_eq_true (ex_ext (by assumption) (by assumption) (by assumption))]
    rfl
  all_goals (rw [decide_eq_false (fun h => by subst h; first | (exact absurd rfl (by assumption)) | (rename_i q; exact q rfl))]; rfl)
set_option maxHeartbeats 2000000 in
theorem refSame_ex (x y : Ex) (w : World) : Calls Tryd.prog 45 #[exV x, exV y] w fun e w' => e = .returned (.bool (decide (x = y))) ∧ Below w.heap.size w w' := by
  have hb : ∀ o1 o2 : Obj, Below w.heap.size w ((w.alloc o1).alloc o2) := fun o1 o2 => (below_box w o1).alloc (by simp) _
  have he := fun W => eq_ex x y W
  go_enter Tryd.func45, Tryd.ntmps45
  go_wp2
  go_ret
  exact ⟨rfl, hb _ _⟩
/-- A block that holds an export, in a world grown from B: what is held of it. -/
abbrev BxE (B : World) (b : Nat) (x : Ex) (W : World) : Prop := (Whole W b 78 (exC x) ∧ Below B.heap.size B W) ∧
  W.cell? ⟨b, 0, none⟩ = some (.string (S x.nam)) ∧ W.cell? ⟨b, 1, none⟩ = some (.int .u8 x.kind.toNat) ∧ W.cell? ⟨b, 2, none⟩ = some (.int .u32 x.idx.toNat)
section
variable {B W W' : World} {b : Nat} {x : Ex}
theorem bxE_on (h : BxE B b x W) (hb : Below W.heap.size W W') : BxE B b x W' := ⟨⟨h.1.1.below hb, h.1.2.trans (hb.mono h.1.2.size)⟩, (h.1.1.below hb).ex⟩
theorem bxE_start (w : World) (x : Ex) : BxE w w.heap.size x (w.alloc (.cells (exC x) 78)) := ⟨⟨Whole.made _ _ _, below_box _ _⟩, (Whole.made w 78 (exC x)).ex⟩
theorem bxE_bel (h : BxE B b x W) : Below B.heap.size B W := h.1.2
end
/-- May it be? -/
def rE (x : Ex) : Int := if checkZ x.nam ≠ 0 then checkZ x.nam else if 3 < x.kind.toNat then 43 else 0
theorem rE_zero {x : Ex} (h : rE x = 0) : checkZ x.nam = 0 ∧ x.kind.toNat ≤ 3 := by
  unfold rE at h
  by_cases c1 : checkZ x.nam = 0
  · rw [if_neg (by simpa using c1)] at h
    by_cases c3 : 3 < x.kind.toNat
    · rw [if_pos c3] at h; omega
    · exact ⟨c1, by omega⟩
  · rw [if_pos c1] at h; exact absurd h c1
set_option maxHeartbeats 2000000 in
theorem eright_any (x : Ex) (w : World) (h1 : x.nam.length ≤ 1000000) (hT : Tabs w) :
    Calls Tryd.prog 40 #[exV x] w fun e w' => e = .returned (.int .i64 (rE x)) ∧ Below w.heap.size w w' := by
  have HC1 := Lib.hid (check_any x.nam _ h1 (hT.below (below_box w (.cells (exC x) 78))))
  have H0 := Lib.hid (bxE_start w x)
  clear hT h1
  by_cases z1 : checkZ x.nam = 0
  · rw [z1] at HC1
    by_cases k3 : 3 < x.kind.toNat
    · have hr : rE x = 43 := by unfold rE; rw [if_neg (by simpa using z1), if_pos k3]
      rw [hr]
      have d3 : decide ((3 : Int) < (x.kind.toNat : Int)) = true := decide_eq_true (by omega)
      clear hr k3 z1
      go_enter Tryd.func40, Tryd.ntmps40
      go_wp2_with (go_at_call 72; go_must ((with_reducible refine HC1.out.mono ?_); rintro e w1 ⟨rfl, hb⟩; have H1 := Lib.hid (bxE_on H0.out hb); have c1 := H1.out.1.1.cell 1; simp only [List.getElem?_toArray, List.getElem?_cons_zero, List.getElem?_cons_succ] at c1; clear hb))
      go_ret
      exact ⟨rfl, bxE_bel H1.out⟩
    · have hr : rE x = 0 := by unfold rE; rw [if_neg (by simpa using z1), if_neg k3]
      rw [hr]
      have d3 : decide ((3 : Int) < (x.kind.toNat : Int)) = false := decide_eq_false (by omega)
      clear hr k3 z1
      go_enter Tryd.func40, Tryd.ntmps40
      go_wp2_with (go_at_call 72; go_must ((with_reducible refine HC1.out.mono ?_); rintro e w1 ⟨rfl, hb⟩; have H1 := Lib.hid (bxE_on H0.out hb); have c1 := H1.out.1.1.cell 1; simp only [List.getElem?_toArray, List.getElem?_cons_zero, List.getElem?_cons_succ] at c1; clear hb))
      go_ret
      exact ⟨rfl, bxE_bel H1.out⟩
  · have hr : rE x = checkZ x.nam := by unfold rE; rw [if_pos z1]
    rw [hr]
    have dz : (checkZ x.nam != 0) = true := zb_of (by simpa using z1)
    clear hr z1
    generalize checkZ x.nam = z at *
    go_enter Tryd.func40, Tryd.ntmps40
    go_wp2_with (go_at_call 72; go_must ((with_reducible refine HC1.out.mono ?_); rintro e w1 ⟨rfl, hb⟩; have H1 := Lib.hid (bxE_on H0.out hb); clear hb))
    go_ret
    exact ⟨rfl, bxE_bel H1.out⟩
end Go.Proofs.YtanddfkhokcepaaDoor

/- exports.Put. -/
namespace Go.Proofs.YtanddfkhokcepaaDoor
open Go.RowKit
set_option linter.unusedVariables false
set_option maxRecDepth 100000

/-- Its bytes. -/
noncomputable def eputL (x : Ex) : List UInt8 := nmL x.nam ++ [x.kind] ++ lebL x.idx.toNat
theorem eputL_len {x : Ex} {n : Nat} (h1 : x.nam.length ≤ n) (hn : n ≤ 100000) : 3 ≤ (eputL x).length ∧ (eputL x).length ≤ n + 21 := by
  have m1 := nmL_len h1 hn
  have m2 := lebL_len (x.idx.toNat : Int) (by have := u32_le x.idx; omega)
  unfold eputL
  simp only [List.length_append, List.length_singleton]
  omega
/-- What Put hands back. -/
def PuttedE (x : Ex) (w : World) (e : Ending) (w' : World) : Prop := ∃ v, e = .returned (.tuple #[v, .int .i64 (rE x)]) ∧ Row w' w.heap.size v (if rE x = 0 then eputL x else []) ∧ Below w.heap.size w w'
set_option maxHeartbeats 8000000 in
theorem put_ex (x : Ex) (w : World) (hT : Tabs w) (h1 : x.nam.length ≤ 100000) :
    Calls Tryd.prog 39 #[exV x] w (PuttedE x w) := by
  have H0 := Lib.hid (bxE_start w x)
  have HR := Lib.hid (eright_any x _ (by omega) (hT.below (below_box w (.cells (exC x) 78))))
  unfold PuttedE
  obtain ⟨z, hz⟩ : ∃ z, z = rE x := ⟨_, rfl⟩
  rw [← hz] at HR ⊢
  by_cases h0 : z = 0
  · rw [if_pos h0]
    subst h0
    have hsp : eputL x = nmL x.nam ++ [x.kind] ++ lebL x.idx.toNat := rfl
    have hn1 := nmL_len h1 (by omega)
    have hn3 := lebL_len (x.idx.toNat : Int) (by have := u32_le x.idx; omega)
    have wn : IntKind.u64.wrap (x.idx.toNat : Int) = x.idx.toNat := by have := u32_le x.idx; simp [IntKind.wrap, IntKind.bits, IntKind.signed]; omega
    have HN1 := Lib.hid (fun w => name_w x.nam w h1)
    have HU := Lib.hid (fun w => uintB (x.idx.toNat : Int) w (by omega) (by have := u32_le x.idx; omega))
    generalize nmL x.nam = y1 at *
    generalize lebL (x.idx.toNat : Int) = y3 at *
    have HSP := Lib.hid hsp
    have HS := Lib.hid (show 0 < y1.length + ([x.kind] : List UInt8).length + y3.length ∧ y1.length + ([x.kind] : List UInt8).length + y3.length ≤ 1000000 by rw [List.length_singleton]; omega)
    clear hz hT h1 hsp hn1 hn3
    go_enter Tryd.func39, Tryd.ntmps39
    go_upto_region 4 with (go_at_call 40; go_must ((with_reducible refine HR.out.mono ?_); rintro e w1 ⟨rfl, hb⟩; have H1 := Lib.hid (bxE_on H0.out hb); clear hb))
    have hB := bxE_on H1.out (Below.refl _ _).drew
    clear H0 HR H1
    refine wp_region_noPanic ?_
    refine wp_region_held_drew (S := fun W => BxE w w.heap.size x W) (by kernel_rfl) hB (fun hHeld => ?_)
    clear hB
    (refine heldTake (i := 0) (oi := { dst := some 10, op := Op.fieldAddr 78 (Operand.tmp 1) 0, type := 0, pos := "exports.go:30", after := #[], guard := none }) (v := ?_) rfl (by kernel_rfl) (by kernel_rfl) (by kernel_rfl) (by assumption) ?_ ?_; rotate_left; focus (refine .inl ⟨by kernel_rfl, ?_⟩; intro w hSw; (try dsimp only at hSw); go_simp; (try with_reducible rfl)); (try simp only [Act.put, List.setIfInBounds_toArray, List.set_cons_zero, List.set_cons_succ]))
    (refine heldTake (i := 1) (oi := { dst := some 11, op := Op.load 9 (Operand.tmp 10), type := 9, pos := "exports.go:30", after := #[{ on := 0, ground := Ground.data }], guard := none }) (v := ?_) rfl (by kernel_rfl) (by kernel_rfl) (by kernel_rfl) (by assumption) ?_ ?_; rotate_left; focus (refine .inl ⟨by kernel_rfl, ?_⟩; intro w hSw; (try dsimp only at hSw); go_simp; (try with_reducible rfl)); (try simp only [Act.put, List.setIfInBounds_toArray, List.set_cons_zero, List.set_cons_succ]))
    (refine heldTake (i := 3) (oi := { dst := some 13, op := Op.fieldAddr 78 (Operand.tmp 1) 1, type := 0, pos := "exports.go:30", after := #[], guard := none }) (v := ?_) rfl (by kernel_rfl) (by kernel_rfl) (by kernel_rfl) (by assumption) ?_ ?_; rotate_left; focus (refine .inl ⟨by kernel_rfl, ?_⟩; intro w hSw; (try dsimp only at hSw); go_simp; (try with_reducible rfl)); (try simp only [Act.put, List.setIfInBounds_toArray, List.set_cons_zero, List.set_cons_succ]))
    (refine heldTake (i := 4) (oi := { dst := some 14, op := Op.load 5 (Operand.tmp 13), type := 5, pos := "exports.go:30", after := #[{ on := 3, ground := Ground.data }], guard := none }) (v := ?_) rfl (by kernel_rfl) (by kernel_rfl) (by kernel_rfl) (by assumption) ?_ ?_; rotate_left; focus (refine .inl ⟨by kernel_rfl, ?_⟩; intro w hSw; (try dsimp only at hSw); go_simp; (try with_reducible rfl)); (try simp only [Act.put, List.setIfInBounds_toArray, List.set_cons_zero, List.set_cons_succ]))
    (refine heldTake (i := 6) (oi := { dst := some 16, op := Op.fieldAddr 78 (Operand.tmp 1) 2, type := 0, pos := "exports.go:30", after := #[], guard := none }) (v := ?_) rfl (by kernel_rfl) (by kernel_rfl) (by kernel_rfl) (by assumption) ?_ ?_; rotate_left; focus (refine .inl ⟨by kernel_rfl, ?_⟩; intro w hSw; (try dsimp only at hSw); go_simp; (try with_reducible rfl)); (try simp only [Act.put, List.setIfInBounds_toArray, List.set_cons_zero, List.set_cons_succ]))
    (refine heldTake (i := 7) (oi := { dst := some 17, op := Op.load 43 (Operand.tmp 16), type := 43, pos := "exports.go:30", after := #[{ on := 6, ground := Ground.data }], guard := none }) (v := ?_) rfl (by kernel_rfl) (by kernel_rfl) (by kernel_rfl) (by assumption) ?_ ?_; rotate_left; focus (refine .inl ⟨by kernel_rfl, ?_⟩; intro w hSw; (try dsimp only at hSw); go_simp; (try with_reducible rfl)); (try simp only [Act.put, List.setIfInBounds_toArray, List.set_cons_zero, List.set_cons_succ]))
    (refine heldTake (i := 8) (oi := { dst := some 18, op := Op.convert 43 134 (Operand.tmp 17), type := 134, pos := "exports.go:30", after := #[{ on := 7, ground := Ground.data }], guard := none }) (v := ?_) rfl (by kernel_rfl) (by kernel_rfl) (by kernel_rfl) (by assumption) ?_ ?_; rotate_left; focus (refine .inl ⟨by kernel_rfl, ?_⟩; intro w hSw; (try dsimp only at hSw); go_simp; (try with_reducible rfl)); (try simp only [Act.put, List.setIfInBounds_toArray, List.set_cons_zero, List.set_cons_succ]))
    refine wpAnyH_ready (rs := [2, 5]) (by kernel_rfl) (by simp) ?_
    refine (AllReadyH.cons (o := { dst := some 12, op := Op.call { callee := Callee.value (Operand.func 57), args := #[Operand.tmp 11], argTypes := #[9] }, type := 25, pos := "exports.go:30", after := #[{ on := 1, ground := Ground.data }], guard := none }) rfl (fun K hK => ?_) (AllReadyH.cons (o := { dst := some 15, op := Op.buildSlice 25 1 #[(0, Operand.tmp 14)], type := 25, pos := "exports.go:30", after := #[{ on := 4, ground := Ground.data }], guard := none }) rfl (fun K hK => ?_) AllReadyH.nil))
    · go_simp
      (go_at_call 57; (with_reducible refine (HN1.out _).mono ?_); rintro e w2 ⟨v2, rfl, hr2, hb2⟩; obtain ⟨A2, c2, rfl, hp2⟩ := hr2.pc; have HB2 := Lib.hid hb2; have HP2 := Lib.hid hp2; clear hb2 hp2 hr2)
      refine hK.out _ _ (bxE_on hHeld HB2.out) (fun hHeld2 => ?_)
      clear hK K hHeld
      (try simp only [Act.put, List.setIfInBounds_toArray, List.set_cons_zero, List.set_cons_succ])
      refine wpAnyH_ready (rs := [5, 9]) (by kernel_rfl) (by simp) ?_
      refine (AllReadyH.cons (o := { dst := some 15, op := Op.buildSlice 25 1 #[(0, Operand.tmp 14)], type := 25, pos := "exports.go:30", after := #[{ on := 4, ground := Ground.data }], guard := none }) rfl (fun K hK => ?_) (AllReadyH.cons (o := { dst := some 19, op := Op.call { callee := Callee.value (Operand.func 89), args := #[Operand.tmp 18], argTypes := #[134] }, type := 25, pos := "exports.go:30", after := #[{ on := 8, ground := Ground.data }, { on := 2, ground := Ground.chain }], guard := none }) rfl (fun K hK => ?_) AllReadyH.nil))
      · refine step_build1 rfl _ rfl x.kind rfl ?_; intro g8 wa8 hg8 hb8 hp8; have HB5 := Lib.hid hb8; have HP5 := Lib.hid hp8; clear hb8 hp8
        refine hK.out _ _ (bxE_on hHeld2 HB5.out) (fun hHeld5 => ?_)
        clear hK K hHeld2
        (try simp only [Act.put, List.setIfInBounds_toArray, List.set_cons_zero, List.set_cons_succ])
        refine wpAnyH_ready (rs := [9]) (by kernel_rfl) (by simp) ?_
        refine (AllReadyH.cons (o := { dst := some 19, op := Op.call { callee := Callee.value (Operand.func 89), args := #[Operand.tmp 18], argTypes := #[134] }, type := 25, pos := "exports.go:30", after := #[{ on := 8, ground := Ground.data }, { on := 2, ground := Ground.chain }], guard := none }) rfl (fun K hK => ?_) AllReadyH.nil)
        go_simp
        (go_at_call 89; (with_reducible refine (HU.out _).mono ?_); rintro e w10 ⟨v10, rfl, hr10, hb10⟩; obtain ⟨A10, c10, rfl, hp10⟩ := hr10.pc; have HB9 := Lib.hid hb10; have HP9 := Lib.hid hp10; clear hb10 hp10 hr10)
        refine hK.out _ _ (bxE_on hHeld5 HB9.out) (fun hHeld9 => ?_)
        clear hK K hHeld5
        (try simp only [Act.put, List.setIfInBounds_toArray, List.set_cons_zero, List.set_cons_succ])
        refine wpAnyH_ready (rs := [10]) (by kernel_rfl) (by simp) ?_
        refine (AllReadyH.cons (o := { dst := some 20, op := Op.buildSlice 140 3 #[(0, Operand.tmp 12), (1, Operand.tmp 15), (2, Operand.tmp 19)], type := 140, pos := "exports.go:30", after := #[{ on := 2, ground := Ground.data }, { on := 5, ground := Ground.data }, { on := 9, ground := Ground.data }], guard := none }) rfl (fun K hK => ?_) AllReadyH.nil)
        refine step_build3 rfl _ _ _ rfl rfl rfl rfl ?_; intro g11 wa11 hg11 hb11 hw11; have HB10 := Lib.hid hb11; have HW10 := Lib.hid hw11; clear hb11 hw11
        refine hK.out _ _ (bxE_on hHeld9 HB10.out) (fun hHeld10 => ?_)
        clear hK K hHeld9
        (try simp only [Act.put, List.setIfInBounds_toArray, List.set_cons_zero, List.set_cons_succ])
        refine wpAnyH_ready (rs := [11]) (by kernel_rfl) (by simp) ?_
        refine (AllReadyH.cons (o := { dst := some 21, op := Op.call { callee := Callee.value (Operand.func 58), args := #[Operand.tmp 20], argTypes := #[140] }, type := 25, pos := "exports.go:30", after := #[{ on := 10, ground := Ground.data }, { on := 9, ground := Ground.chain }], guard := none }) rfl (fun K hK => ?_) AllReadyH.nil)
        go_simp
        (go_at_call 58; (with_reducible refine (concat3 (l2 := [x.kind]) HW10.out (((((((HP2.out).below HB5.out)).below HB9.out)).below HB10.out)) (((((HP5.out).below HB9.out)).below HB10.out)) (((HP9.out).below HB10.out)) HS.out.1 HS.out.2).mono ?_); rintro e w12 ⟨v12, rfl, hr12, hb12⟩; have hz12 := hHeld10.1.2.size; have HB11 := Lib.hid hb12; have HR11 := Lib.hid hr12; clear hb12 hr12)
        refine hK.out _ _ (bxE_on hHeld10 HB11.out) (fun hHeld11 => ?_)
        clear hK K hHeld10
        (try simp only [Act.put, List.setIfInBounds_toArray, List.set_cons_zero, List.set_cons_succ])
        (refine heldTake (i := 12) (oi := { dst := some 2, op := Op.assign (Operand.tmp 21), type := 25, pos := "exports.go:30", after := #[{ on := 11, ground := Ground.data }, { on := 11, ground := Ground.chain }, { on := 0, ground := Ground.phase }, { on := 1, ground := Ground.phase }, { on := 2, ground := Ground.phase }, { on := 3, ground := Ground.phase }, { on := 4, ground := Ground.phase }, { on := 5, ground := Ground.phase }, { on := 6, ground := Ground.phase }, { on := 7, ground := Ground.phase }, { on := 8, ground := Ground.phase }, { on := 9, ground := Ground.phase }, { on := 10, ground := Ground.phase }, { on := 11, ground := Ground.phase }], guard := none }) (v := ?_) rfl (by kernel_rfl) (by kernel_rfl) (by kernel_rfl) (by assumption) ?_ ?_; rotate_left; focus (refine .inl ⟨by kernel_rfl, ?_⟩; intro w hSw; (try dsimp only at hSw); go_simp; (try with_reducible rfl)); (try simp only [Act.put, List.setIfInBounds_toArray, List.set_cons_zero, List.set_cons_succ]))
        (refine heldTake (i := 13) (oi := { dst := some 3, op := Op.assign (Operand.const (Value.int IntKind.i64 0)), type := 37, pos := "exports.go:30", after := #[{ on := 12, ground := Ground.chain }, { on := 0, ground := Ground.phase }, { on := 1, ground := Ground.phase }, { on := 2, ground := Ground.phase }, { on := 3, ground := Ground.phase }, { on := 4, ground := Ground.phase }, { on := 5, ground := Ground.phase }, { on := 6, ground := Ground.phase }, { on := 7, ground := Ground.phase }, { on := 8, ground := Ground.phase }, { on := 9, ground := Ground.phase }, { on := 10, ground := Ground.phase }, { on := 11, ground := Ground.phase }, { on := 12, ground := Ground.phase }], guard := none }) (v := ?_) rfl (by kernel_rfl) (by kernel_rfl) (by kernel_rfl) (by assumption) ?_ ?_; rotate_left; focus (refine .inl ⟨by kernel_rfl, ?_⟩; intro w hSw; (try dsimp only at hSw); go_simp; (try with_reducible rfl)); (try simp only [Act.put, List.setIfInBounds_toArray, List.set_cons_zero, List.set_cons_succ]))
        refine wpAnyH_done (by kernel_rfl) ?_ _
        refine NoPanic.normal ?_
        have hLast := hHeld11
        clear hHeld11
        go_wp2
        go_ret2
        exact ⟨_, rfl, by rw [HSP.out]; exact HR11.out.mono hz12, hLast.1.2⟩
      · go_simp
        (go_at_call 89; (with_reducible refine (HU.out _).mono ?_); rintro e w10 ⟨v10, rfl, hr10, hb10⟩; obtain ⟨A10, c10, rfl, hp10⟩ := hr10.pc; have HB9 := Lib.hid hb10; have HP9 := Lib.hid hp10; clear hb10 hp10 hr10)
        refine hK.out _ _ (bxE_on hHeld2 HB9.out) (fun hHeld9 => ?_)
        clear hK K hHeld2
        (try simp only [Act.put, List.setIfInBounds_toArray, List.set_cons_zero, List.set_cons_succ])
        refine wpAnyH_ready (rs := [5]) (by kernel_rfl) (by simp) ?_
        refine (AllReadyH.cons (o := { dst := some 15, op := Op.buildSlice 25 1 #[(0, Operand.tmp 14)], type := 25, pos := "exports.go:30", after := #[{ on := 4, ground := Ground.data }], guard := none }) rfl (fun K hK => ?_) AllReadyH.nil)
        refine step_build1 rfl _ rfl x.kind rfl ?_; intro g8 wa8 hg8 hb8 hp8; have HB5 := Lib.hid hb8; have HP5 := Lib.hid hp8; clear hb8 hp8
        refine hK.out _ _ (bxE_on hHeld9 HB5.out) (fun hHeld5 => ?_)
        clear hK K hHeld9
        (try simp only [Act.put, List.setIfInBounds_toArray, List.set_cons_zero, List.set_cons_succ])
        refine wpAnyH_ready (rs := [10]) (by kernel_rfl) (by simp) ?_
        refine (AllReadyH.cons (o := { dst := some 20, op := Op.buildSlice 140 3 #[(0, Operand.tmp 12), (1, Operand.tmp 15), (2, Operand.tmp 19)], type := 140, pos := "exports.go:30", after := #[{ on := 2, ground := Ground.data }, { on := 5, ground := Ground.data }, { on := 9, ground := Ground.data }], guard := none }) rfl (fun K hK => ?_) AllReadyH.nil)
        refine step_build3 rfl _ _ _ rfl rfl rfl rfl ?_; intro g11 wa11 hg11 hb11 hw11; have HB10 := Lib.hid hb11; have HW10 := Lib.hid hw11; clear hb11 hw11
        refine hK.out _ _ (bxE_on hHeld5 HB10.out) (fun hHeld10 => ?_)
        clear hK K hHeld5
        (try simp only [Act.put, List.setIfInBounds_toArray, List.set_cons_zero, List.set_cons_succ])
        refine wpAnyH_ready (rs := [11]) (by kernel_rfl) (by simp) ?_
        refine (AllReadyH.cons (o := { dst := some 21, op := Op.call { callee := Callee.value (Operand.func 58), args := #[Operand.tmp 20], argTypes := #[140] }, type := 25, pos := "exports.go:30", after := #[{ on := 10, ground := Ground.data }, { on := 9, ground := Ground.chain }], guard := none }) rfl (fun K hK => ?_) AllReadyH.nil)
        go_simp
        (go_at_call 58; (with_reducible refine (concat3 (l2 := [x.kind]) HW10.out (((((((HP2.out).below HB9.out)).below HB5.out)).below HB10.out)) (((HP5.out).below HB10.out)) (((((HP9.out).below HB5.out)).below HB10.out)) HS.out.1 HS.out.2).mono ?_); rintro e w12 ⟨v12, rfl, hr12, hb12⟩; have hz12 := hHeld10.1.2.size; have HB11 := Lib.hid hb12; have HR11 := Lib.hid hr12; clear hb12 hr12)
        refine hK.out _ _ (bxE_on hHeld10 HB11.out) (fun hHeld11 => ?_)
        clear hK K hHeld10
        (try simp only [Act.put, List.setIfInBounds_toArray, List.set_cons_zero, List.set_cons_succ])
        (refine heldTake (i := 12) (oi := { dst := some 2, op := Op.assign (Operand.tmp 21), type := 25, pos := "exports.go:30", after := #[{ on := 11, ground := Ground.data }, { on := 11, ground := Ground.chain }, { on := 0, ground := Ground.phase }, { on := 1, ground := Ground.phase }, { on := 2, ground := Ground.phase }, { on := 3, ground := Ground.phase }, { on := 4, ground := Ground.phase }, { on := 5, ground := Ground.phase }, { on := 6, ground := Ground.phase }, { on := 7, ground := Ground.phase }, { on := 8, ground := Ground.phase }, { on := 9, ground := Ground.phase }, { on := 10, ground := Ground.phase }, { on := 11, ground := Ground.phase }], guard := none }) (v := ?_) rfl (by kernel_rfl) (by kernel_rfl) (by kernel_rfl) (by assumption) ?_ ?_; rotate_left; focus (refine .inl ⟨by kernel_rfl, ?_⟩; intro w hSw; (try dsimp only at hSw); go_simp; (try with_reducible rfl)); (try simp only [Act.put, List.setIfInBounds_toArray, List.set_cons_zero, List.set_cons_succ]))
        (refine heldTake (i := 13) (oi := { dst := some 3, op := Op.assign (Operand.const (Value.int IntKind.i64 0)), type := 37, pos := "exports.go:30", after := #[{ on := 12, ground := Ground.chain }, { on := 0, ground := Ground.phase }, { on := 1, ground := Ground.phase }, { on := 2, ground := Ground.phase }, { on := 3, ground := Ground.phase }, { on := 4, ground := Ground.phase }, { on := 5, ground := Ground.phase }, { on := 6, ground := Ground.phase }, { on := 7, ground := Ground.phase }, { on := 8, ground := Ground.phase }, { on := 9, ground := Ground.phase }, { on := 10, ground := Ground.phase }, { on := 11, ground := Ground.phase }, { on := 12, ground := Ground.phase }], guard := none }) (v := ?_) rfl (by kernel_rfl) (by kernel_rfl) (by kernel_rfl) (by assumption) ?_ ?_; rotate_left; focus (refine .inl ⟨by kernel_rfl, ?_⟩; intro w hSw; (try dsimp only at hSw); go_simp; (try with_reducible rfl)); (try simp only [Act.put, List.setIfInBounds_toArray, List.set_cons_zero, List.set_cons_succ]))
        refine wpAnyH_done (by kernel_rfl) ?_ _
        refine NoPanic.normal ?_
        have hLast := hHeld11
        clear hHeld11
        go_wp2
        go_ret2
        exact ⟨_, rfl, by rw [HSP.out]; exact HR11.out.mono hz12, hLast.1.2⟩
    · refine step_build1 rfl _ rfl x.kind rfl ?_; intro g8 wa8 hg8 hb8 hp8; have HB5 := Lib.hid hb8; have HP5 := Lib.hid hp8; clear hb8 hp8
      refine hK.out _ _ (bxE_on hHeld HB5.out) (fun hHeld5 => ?_)
      clear hK K hHeld
      (try simp only [Act.put, List.setIfInBounds_toArray, List.set_cons_zero, List.set_cons_succ])
      refine wpAnyH_ready (rs := [2]) (by kernel_rfl) (by simp) ?_
      refine (AllReadyH.cons (o := { dst := some 12, op := Op.call { callee := Callee.value (Operand.func 57), args := #[Operand.tmp 11], argTypes := #[9] }, type := 25, pos := "exports.go:30", after := #[{ on := 1, ground := Ground.data }], guard := none }) rfl (fun K hK => ?_) AllReadyH.nil)
      go_simp
      (go_at_call 57; (with_reducible refine (HN1.out _).mono ?_); rintro e w2 ⟨v2, rfl, hr2, hb2⟩; obtain ⟨A2, c2, rfl, hp2⟩ := hr2.pc; have HB2 := Lib.hid hb2; have HP2 := Lib.hid hp2; clear hb2 hp2 hr2)
      refine hK.out _ _ (bxE_on hHeld5 HB2.out) (fun hHeld2 => ?_)
      clear hK K hHeld5
      (try simp only [Act.put, List.setIfInBounds_toArray, List.set_cons_zero, List.set_cons_succ])
      refine wpAnyH_ready (rs := [9]) (by kernel_rfl) (by simp) ?_
      refine (AllReadyH.cons (o := { dst := some 19, op := Op.call { callee := Callee.value (Operand.func 89), args := #[Operand.tmp 18], argTypes := #[134] }, type := 25, pos := "exports.go:30", after := #[{ on := 8, ground := Ground.data }, { on := 2, ground := Ground.chain }], guard := none }) rfl (fun K hK => ?_) AllReadyH.nil)
      go_simp
      (go_at_call 89; (with_reducible refine (HU.out _).mono ?_); rintro e w10 ⟨v10, rfl, hr10, hb10⟩; obtain ⟨A10, c10, rfl, hp10⟩ := hr10.pc; have HB9 := Lib.hid hb10; have HP9 := Lib.hid hp10; clear hb10 hp10 hr10)
      refine hK.out _ _ (bxE_on hHeld2 HB9.out) (fun hHeld9 => ?_)
      clear hK K hHeld2
      (try simp only [Act.put, List.setIfInBounds_toArray, List.set_cons_zero, List.set_cons_succ])
      refine wpAnyH_ready (rs := [10]) (by kernel_rfl) (by simp) ?_
      refine (AllReadyH.cons (o := { dst := some 20, op := Op.buildSlice 140 3 #[(0, Operand.tmp 12), (1, Operand.tmp 15), (2, Operand.tmp 19)], type := 140, pos := "exports.go:30", after := #[{ on := 2, ground := Ground.data }, { on := 5, ground := Ground.data }, { on := 9, ground := Ground.data }], guard := none }) rfl (fun K hK => ?_) AllReadyH.nil)
      refine step_build3 rfl _ _ _ rfl rfl rfl rfl ?_; intro g11 wa11 hg11 hb11 hw11; have HB10 := Lib.hid hb11; have HW10 := Lib.hid hw11; clear hb11 hw11
      refine hK.out _ _ (bxE_on hHeld9 HB10.out) (fun hHeld10 => ?_)
      clear hK K hHeld9
      (try simp only [Act.put, List.setIfInBounds_toArray, List.set_cons_zero, List.set_cons_succ])
      refine wpAnyH_ready (rs := [11]) (by kernel_rfl) (by simp) ?_
      refine (AllReadyH.cons (o := { dst := some 21, op := Op.call { callee := Callee.value (Operand.func 58), args := #[Operand.tmp 20], argTypes := #[140] }, type := 25, pos := "exports.go:30", after := #[{ on := 10, ground := Ground.data }, { on := 9, ground := Ground.chain }], guard := none }) rfl (fun K hK => ?_) AllReadyH.nil)
      go_simp
      (go_at_call 58; (with_reducible refine (concat3 (l2 := [x.kind]) HW10.out (((((HP2.out).below HB9.out)).below HB10.out)) (((((((HP5.out).below HB2.out)).below HB9.out)).below HB10.out)) (((HP9.out).below HB10.out)) HS.out.1 HS.out.2).mono ?_); rintro e w12 ⟨v12, rfl, hr12, hb12⟩; have hz12 := hHeld10.1.2.size; have HB11 := Lib.hid hb12; have HR11 := Lib.hid hr12; clear hb12 hr12)
      refine hK.out _ _ (bxE_on hHeld10 HB11.out) (fun hHeld11 => ?_)
      clear hK K hHeld10
      (try simp only [Act.put, List.setIfInBounds_toArray, List.set_cons_zero, List.set_cons_succ])
      (refine heldTake (i := 12) (oi := { dst := some 2, op := Op.assign (Operand.tmp 21), type := 25, pos := "exports.go:30", after := #[{ on := 11, ground := Ground.data }, { on := 11, ground := Ground.chain }, { on := 0, ground := Ground.phase }, { on := 1, ground := Ground.phase }, { on := 2, ground := Ground.phase }, { on := 3, ground := Ground.phase }, { on := 4, ground := Ground.phase }, { on := 5, ground := Ground.phase }, { on := 6, ground := Ground.phase }, { on := 7, ground := Ground.phase }, { on := 8, ground := Ground.phase }, { on := 9, ground := Ground.phase }, { on := 10, ground := Ground.phase }, { on := 11, ground := Ground.phase }], guard := none }) (v := ?_) rfl (by kernel_rfl) (by kernel_rfl) (by kernel_rfl) (by assumption) ?_ ?_; rotate_left; focus (refine .inl ⟨by kernel_rfl, ?_⟩; intro w hSw; (try dsimp only at hSw); go_simp; (try with_reducible rfl)); (try simp only [Act.put, List.setIfInBounds_toArray, List.set_cons_zero, List.set_cons_succ]))
      (refine heldTake (i := 13) (oi := { dst := some 3, op := Op.assign (Operand.const (Value.int IntKind.i64 0)), type := 37, pos := "exports.go:30", after := #[{ on := 12, ground := Ground.chain }, { on := 0, ground := Ground.phase }, { on := 1, ground := Ground.phase }, { on := 2, ground := Ground.phase }, { on := 3, ground := Ground.phase }, { on := 4, ground := Ground.phase }, { on := 5, ground := Ground.phase }, { on := 6, ground := Ground.phase }, { on := 7, ground := Ground.phase }, { on := 8, ground := Ground.phase }, { on := 9, ground := Ground.phase }, { on := 10, ground := Ground.phase }, { on := 11, ground := Ground.phase }, { on := 12, ground := Ground.phase }], guard := none }) (v := ?_) rfl (by kernel_rfl) (by kernel_rfl) (by kernel_rfl) (by assumption) ?_ ?_; rotate_left; focus (refine .inl ⟨by kernel_rfl, ?_⟩; intro w hSw; (try dsimp only at hSw); go_simp; (try with_reducible rfl)); (try simp only [Act.put, List.setIfInBounds_toArray, List.set_cons_zero, List.set_cons_succ]))
      refine wpAnyH_done (by kernel_rfl) ?_ _
      refine NoPanic.normal ?_
      have hLast := hHeld11
      clear hHeld11
      go_wp2
      go_ret2
      exact ⟨_, rfl, by rw [HSP.out]; exact HR11.out.mono hz12, hLast.1.2⟩
  · rw [if_neg h0]
    have d0 : (z != 0) = true := zb_of (by simpa using h0)
    clear h0 hz hT h1
    go_enter Tryd.func39, Tryd.ntmps39
    go_wp2_with (go_at_call 40; go_must ((with_reducible refine HR.out.mono ?_); rintro e w1 ⟨rfl, hb⟩; have H1 := Lib.hid (bxE_on H0.out hb); clear hb))
    go_ret2
    exact ⟨_, rfl, Row.nil _ _, bxE_bel H1.out⟩
end Go.Proofs.YtanddfkhokcepaaDoor

/- Exports that lie somewhere; rows of exports of the call's own. -/
namespace Go.Proofs.YtanddfkhokcepaaDoor
open Go.RowKit
set_option linter.unusedVariables false
set_option maxRecDepth 100000

def exL (x : Ex) : List Value := (exC x).toList
theorem infoEx : (Tryd.prog.info? 78).map (fun i => (i.zero, i.size, i.bytes)) = some (some (exV exZ), 3, 24) := by kernel_rfl
/-- A row of exports of the call's own. -/
def RowE (W : World) (base : Nat) (v : Value) (rows : List Ex) : Prop := W.ownsRow base 78 3 v rows.length (rows.flatMap exL)
theorem RowE.nil (W : World) (base : Nat) : RowE W base (.slice none 0 0) [] := World.ownsRow_nil W base _ 3
theorem RowE.slice {W : World} {base : Nat} {v : Value} {rows : List Ex} (h : RowE W base v rows) : ∃ A c, v = .slice A rows.length c := by
  rcases h.2 with ⟨rfl, h0⟩ | ⟨g, cap, cur, rfl, _⟩
  · exact ⟨none, 0, by rw [h0]⟩
  · exact ⟨_, cap, rfl⟩
theorem RowE.past {W W' : World} {base b : Nat} {v : Value} {rows : List Ex} (h : RowE W base v rows) (hg : W.grownBy W' (some b)) (hb : b < base) : RowE W' base v rows :=
  World.ownsRow.kept h hg (by
    cases hv : v.ownBlock with
    | none => exact .inl rfl
    | some k => exact .inr (by have := (World.ownsRow.lt h k hv).1; simp only [ne_eq, Option.some.injEq]; omega))
theorem RowE.later {W W' : World} {base : Nat} {v : Value} {rows : List Ex} (h : RowE W base v rows) (hb : Below W.heap.size W W') : RowE W' base v rows :=
  World.ownsRow.kept h (gb_of_below none hb) (by cases v.ownBlock with
    | none => exact .inl rfl
    | some k => exact .inr (by simp))
theorem RowE.alloc {W : World} {base : Nat} {v : Value} {rows : List Ex} (h : RowE W base v rows) (o : Obj) : RowE (W.alloc o) base v rows := World.ownsRow.alloc h o
theorem RowE.mono {W : World} {base base' : Nat} {v : Value} {rows : List Ex} (h : RowE W base v rows) (hb : base' ≤ base) : RowE W base' v rows := by
  obtain ⟨h1, h2⟩ := h
  refine ⟨h1, ?_⟩
  rcases h2 with h2 | ⟨g, cap, cur, e, hg, r⟩
  · exact .inl h2
  · exact .inr ⟨g, cap, cur, e, Nat.le_trans hb hg, r⟩
/-- append of a new block of one export. -/
theorem rowE_new {w : World} {ops : Array Oper} {rest : List Oper} {o : Oper} {a : Act} {Q : Exit → Act → World → Prop} (hgd : o.guard = none) (s x : Operand)
    (ho : o.op = .call { callee := .builtin .append, args := #[s, x], argTypes := #[89, 89] })
    (B : Nat) (v : Value) (l : List Ex) (hs : a.eval s = v) (hr : RowE w B v l) (g : Nat) (r : Ex) (hx : a.eval x = .slice (some ⟨g, 0, none⟩) 1 1)
    (hg : Whole w g 78 (exC r)) (hb : l.length ≤ 10000) (hB : B ≤ w.heap.size)
    (h : ∀ v' w', RowE w' B v' (l ++ [r]) → w.grownBy w' v.ownBlock → wpList Tryd.prog ops Q rest (a.put o.dst v') w') : wpList Tryd.prog ops Q (o :: rest) a w := by
  obtain ⟨i0, hi0, hz0, hz1, hz2⟩ := info_parts infoEx
  refine wpList_append_own _ hgd s x _ ho B 78 i0 _ 3 24 Tryd.underlying89 hi0 hz0 hz1 hz2 rfl (by omega) v _ _ hs hr ⟨g, 0, none⟩ 1 1 (exL r) hx rfl ?_ ?_ (by unfold maxLen; omega) (by omega) hB (fun v' w' h2 h3 _ => h v' w' ?_ h3)
  · intro j u hu
    rw [Go.WideShapes.add_plain, Nat.zero_add, hg.cell, ← Array.getElem?_toList]
    exact hu
  · intro u hu
    unfold exL at hu
    simp only [List.mem_cons, List.not_mem_nil, or_false] at hu
    rcases hu with rfl | rfl | rfl <;> rfl
  · unfold RowE
    rw [List.length_append, List.flatMap_append]
    simpa using h2
/-- Nothing old has turned, and nothing of the row's own is lost. -/
theorem RowE.below {w W W' : World} {base : Nat} {v : Value} {rows : List Ex} (h : RowE W base v rows) (hB : base ≤ W.heap.size) (hg : W.grownBy W' v.ownBlock) : Below base W W' :=
  Below.grown (Below.refl _ _) hg hB (fun k hk => (World.ownsRow.lt h k hk).1)

/-- The slice at A reads as these exports. -/
def Exs (w : World) (A : Option Addr) (l : List Ex) : Prop :=
  ∀ j x, l[j]? = some x → ∃ b off, A = some ⟨b, off, none⟩ ∧ b < w.heap.size ∧ ∀ u, u < 3 → w.cell? ⟨b, off + j * 3 + u, none⟩ = (exL x)[u]?
theorem Exs.below {w w' : World} {A : Option Addr} {l : List Ex} (h : Exs w A l) (hb : Below w.heap.size w w') : Exs w' A l := fun j x hx => by
  obtain ⟨b, off, e, h1, h2⟩ := h j x hx
  exact ⟨b, off, e, Nat.lt_of_lt_of_le h1 hb.size, fun u hu => (hb.cell (p := ⟨b, _, none⟩) h1).trans (h2 u hu)⟩
/-- The three cells of one of them, as a walk writes them. -/
theorem Exs.three {w : World} {A : Option Addr} {l : List Ex} (h : Exs w A l) {k : Nat} {x : Ex} (hx : l[k]? = some x) : ∃ b off, A = some ⟨b, off, none⟩ ∧ b < w.heap.size ∧
    w.cell? ⟨b, off + k * 3, none⟩ = some (.string (S x.nam)) ∧ w.cell? ⟨b, off + k * 3 + 1, none⟩ = some (.int .u8 x.kind.toNat) ∧ w.cell? ⟨b, off + k * 3 + 2, none⟩ = some (.int .u32 x.idx.toNat) := by
  obtain ⟨b, off, e, h1, h2⟩ := h k x hx
  exact ⟨b, off, e, h1, h2 0 (by omega), h2 1 (by omega), h2 2 (by omega)⟩
theorem flatE_get : ∀ (l : List Ex) (j : Nat) (x : Ex) (u : Nat), l[j]? = some x → u < 3 → (l.flatMap exL)[j * 3 + u]? = (exL x)[u]?
  | [], j, x, u, h, _ => by cases h
  | y :: l, 0, x, u, h, hu => by
    injection h with h
    subst h
    rw [List.flatMap_cons, Nat.zero_mul, Nat.zero_add, List.getElem?_append_left (by show u < 3; exact hu)]
  | y :: l, j + 1, x, u, h, hu => by
    rw [List.flatMap_cons, List.getElem?_append_right (by show 3 ≤ _; omega)]
    have e : (j + 1) * 3 + u - (exL y).length = j * 3 + u := by show (j + 1) * 3 + u - 3 = _; omega
    rw [e]
    exact flatE_get l j x u h hu
/-- What a row of exports reads as. -/
theorem RowE.exs {W : World} {base : Nat} {A : Option Addr} {n c : Nat} {rows : List Ex} (h : RowE W base (.slice A n c) rows) : Exs W A rows := fun j x hx => by
  have hj := (List.getElem?_eq_some_iff.1 hx).1
  rcases h.2 with ⟨_, h0⟩ | ⟨g, cap, cur, e, _, hg, _, _, _, ht⟩
  · omega
  · injection e with e1 e2 e3
    exact ⟨g, 0, e1, (Array.getElem?_eq_some_iff.1 hg).1, fun u hu => by
      rw [cell_of_row W g (0 + j * 3 + u) cur _ _ hg, ← flatE_get rows j x u hx hu, ← ht, List.getElem?_take, if_pos (by omega)]
      simp⟩
end Go.Proofs.YtanddfkhokcepaaDoor
