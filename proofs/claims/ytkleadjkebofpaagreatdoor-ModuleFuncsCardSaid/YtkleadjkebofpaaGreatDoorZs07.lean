/- Sections that lie somewhere: Join. -/
import Derived.Test.YtkleadjkebofpaaGreatDoorZs06
import Derived.Deep.CutBlock
import Derived.Test.YtkleadjkebofpaaGreatDoorZs03
namespace Go.Proofs.YtkleadjkebofpaaGreatDoor
open Go.RowKit
set_option linter.unusedVariables false
set_option maxRecDepth 100000

/-- The slice at A reads as these sections. -/
def Secs (w : World) (A : Option Addr) (l : List Sct) : Prop :=
  ∀ j x, l[j]? = some x → ∃ b off B c, A = some ⟨b, off, none⟩ ∧ b < w.heap.size ∧ (w.cell? ⟨b, off + j * 4, none⟩ = some (.int .u8 x.id.toNat) ∧ w.cell? ⟨b, off + j * 4 + 1, none⟩ = some (.string (S x.name)) ∧
    w.cell? ⟨b, off + j * 4 + 2, none⟩ = some (.slice B x.body.length c) ∧ w.cell? ⟨b, off + j * 4 + 3, none⟩ = some (.int .i64 x.off)) ∧ Pc B c x.body w
theorem Secs.below {w w' : World} {A : Option Addr} {l : List Sct} (h : Secs w A l) (hb : Below w.heap.size w w') : Secs w' A l := fun j x hx => by
  obtain ⟨b, off, B, c, e, h1, ⟨k0, k1, k2, k3⟩, hp⟩ := h j x hx
  exact ⟨b, off, B, c, e, Nat.lt_of_lt_of_le h1 hb.size, ⟨(hb.cell (p := ⟨b, _, none⟩) h1).trans k0, (hb.cell (p := ⟨b, _, none⟩) h1).trans k1, (hb.cell (p := ⟨b, _, none⟩) h1).trans k2, (hb.cell (p := ⟨b, _, none⟩) h1).trans k3⟩, hp.below hb⟩
/-- Bytes of the call's own, or a full block of them that may be marked. -/
def JRow (w : World) (base : Nat) (v : Value) (xs : List UInt8) : Prop :=
  Row w base v xs ∨ ∃ g, v = .slice (some ⟨g, 0, none⟩) xs.length xs.length ∧ base ≤ g ∧ g < w.heap.size ∧ Lies w w.heap.size (some ⟨g, 0, none⟩) (cells (nums xs))
theorem JRow.later {w w' : World} {base : Nat} {v : Value} {xs : List UInt8} (h : JRow w base v xs) (hb : Below w.heap.size w w') : JRow w' base v xs := by
  rcases h with h | ⟨g, e, h1, h2, h3⟩
  · exact .inl (h.later hb)
  · exact .inr ⟨g, e, h1, Nat.lt_of_lt_of_le h2 hb.size, (h3.below hb (Nat.le_refl _)).more hb.size⟩
theorem JRow.pc {w : World} {base : Nat} {v : Value} {xs : List UInt8} (h : JRow w base v xs) : ∃ A c, v = .slice A xs.length c ∧ Pc A c xs w := by
  rcases h with h | ⟨g, e, h1, h2, h3⟩
  · exact h.pc
  · exact ⟨_, _, e, h3, fun e => by cases e⟩
section
variable {w : World} {ops : Array Oper} {rest : List Oper} {o : Oper} {a : Act} {Q : Exit → Act → World → Prop}
/-- append onto a full block. -/
theorem row_full (hgd : o.guard = none) (s x : Operand)
    (ho : o.op = .call { callee := .builtin .append, args := #[s, x], argTypes := #[45, 45] })
    (g : Nat) (xs : List UInt8) (hs : a.eval s = .slice (some ⟨g, 0, none⟩) xs.length xs.length) (hr : Lies w w.heap.size (some ⟨g, 0, none⟩) (cells (nums xs)))
    (A : Option Addr) (m c B' : Nat) (news : List UInt8) (hx : a.eval x = .slice A m c) (hl : news.length = m) (hn : Lies w B' A (cells (nums news)))
    (hm : 0 < m) (hb : xs.length + news.length ≤ 40000000)
    (h : ∀ v' w', Row w' w.heap.size v' (xs ++ news) → Below w.heap.size w w' → wpList Tryz.prog ops Q rest (a.put o.dst v') w') : wpList Tryz.prog ops Q (o :: rest) a w := by
  obtain ⟨i0, hi0, hz0, hz1, hz2⟩ := info_parts infoB
  have hcl : (cells (nums news)).length = m := by rw [cells_length, nums_length]; exact hl
  have hcx : (cells (nums xs)).length = xs.length := by rw [cells_length, nums_length]
  obtain ⟨b, off, rfl, _⟩ : ∃ b off, A = some ⟨b, off, none⟩ ∧ True := by
    obtain ⟨b, off, e, _⟩ := hn.at_ (i := 0) (by omega)
    exact ⟨b, off, e, trivial⟩
  have hnew : ∀ j v, (cells (nums news))[j]? = some v → w.cell? ((⟨b, off, none⟩ : Addr).add j) = some v := fun j v hv => by
    obtain ⟨b2, o2, e, _, hc⟩ := hn j v hv
    simp only [Option.some.injEq, Addr.mk.injEq] at e
    obtain ⟨rfl, rfl, _⟩ := e
    rw [Go.WideShapes.add_plain]; exact hc
  have hold : ∀ j v, (cells (nums xs))[j]? = some v → w.cell? ((⟨g, 0, none⟩ : Addr).add j) = some v := fun j v hv => by
    obtain ⟨b2, o2, e, _, hc⟩ := hr j v hv
    simp only [Option.some.injEq, Addr.mk.injEq] at e
    obtain ⟨rfl, rfl, _⟩ := e
    rw [Go.WideShapes.add_plain]; exact hc
  have hrun := run_append_grow (P := Tryz.prog) w 45 o.type 5 i0 _ Tryz.underlying45 hi0 hz0 ⟨g, 0, none⟩ xs.length xs.length (cells (nums xs)) (by rw [hcx, hz1]; omega) hold ⟨b, off, none⟩ m c (cells (nums news)) (by rw [hcl, hz1]; omega) hnew (by omega) (by omega) (growslice_fits_wide (by omega) (by rw [hz2]; omega))
  refine Lib.wpList_append_run _ hgd s x _ _ ho _ _ hs hx _ _ hrun (h _ _ ?_ ((Below.refl _ _).drew.alloc (Nat.le_refl _) _))
  have hG := grownCap_ge w (xs.length + m) xs.length 5
  have hM : grownCap w (xs.length + m) xs.length 5 ≤ maxLen := grownCap_le_maxLen w _ _ _ (by unfold maxLen; omega)
  refine ⟨by rw [cells_length, nums_length]; omega, .inr ⟨w.heap.size, _, _, ?_, Nat.le_refl _, heap_alloc_new w.drew _, ?_, hM, ?_, ?_⟩⟩
  · rw [List.length_append, hl]
  · rw [List.length_append, hl]; exact hG
  · have e1 : (Value.int .u8 0).cells.size = 1 := rfl
    simp only [Array.size_append, size_zeroCells, List.size_toArray, hcx, hcl, e1]
    omega
  · have e : cells (nums (xs ++ news)) = cells (nums xs) ++ cells (nums news) := by rw [nums_append]; unfold cells; rw [List.map_append]
    rw [e, List.length_append, hl]
    simp only [Array.toList_append]
    rw [List.take_append_of_le_length (by simp only [List.length_append, hcx, hcl]; omega), List.take_of_length_le (by simp only [List.length_append, hcx, hcl]; omega)]
/-- append onto either. -/
theorem jrow_app (hgd : o.guard = none) (s x : Operand)
    (ho : o.op = .call { callee := .builtin .append, args := #[s, x], argTypes := #[45, 45] })
    (B : Nat) (v : Value) (xs : List UInt8) (hs : a.eval s = v) (hr : JRow w B v xs)
    (A : Option Addr) (m c : Nat) (news : List UInt8) (hx : a.eval x = .slice A m c) (hl : news.length = m) (hn : Pc A c news w)
    (hm : 0 < m) (hb : xs.length + news.length ≤ 40000000) (hB : B ≤ w.heap.size)
    (h : ∀ v' w', Row w' B v' (xs ++ news) → Below B w w' → wpList Tryz.prog ops Q rest (a.put o.dst v') w') : wpList Tryz.prog ops Q (o :: rest) a w := by
  rcases hr with hr | ⟨g, rfl, h1, h2, h3⟩
  · exact row_lies hgd s x ho B v xs hs hr A m c _ news hx hl hn.lies hm hb hB h
  · exact row_full hgd s x ho g xs hs h3 A m c _ news hx hl hn.lies hm hb fun v' w' hr2 hb2 => h v' w' (hr2.mono hB) (hb2.mono hB)
end
/-- Many sections' bytes. -/
noncomputable def putsL (l : List Sct) : List UInt8 := l.flatMap secputL
noncomputable def joinL (l : List Sct) : List UInt8 := headL ++ putsL l
theorem putsL_snoc {l : List Sct} {k : Nat} {x : Sct} (h : l[k]? = some x) : putsL (l.take (k + 1)) = putsL (l.take k) ++ secputL x := by
  unfold putsL
  obtain ⟨h1, h2⟩ := List.getElem?_eq_some_iff.1 h
  rw [List.take_add_one, h, List.flatMap_append]
  simp
/-- The sections are short. -/
def Short (l : List Sct) : Prop := l.length ≤ 30 ∧ ∀ x ∈ l, x.name.length ≤ 300 ∧ x.body.length ≤ 100
theorem putsL_len : ∀ {l : List Sct}, (∀ x ∈ l, x.name.length ≤ 300 ∧ x.body.length ≤ 100) → (putsL l).length ≤ l.length * 621
  | [], _ => by simp [putsL]
  | x :: r, h => by
    have h1 := putsL_len (l := r) (fun y hy => h y (List.mem_cons_of_mem _ hy))
    have h2 := h x (by simp)
    have h3 := (secputL_len (n := 300) h2.1 (by omega) (by omega)).2
    unfold putsL at h1 ⊢
    rw [List.flatMap_cons, List.length_append, List.length_cons]
    omega
theorem joinL_len {l : List Sct} (h : Short l) : (joinL l).length ≤ 18638 := by
  have := putsL_len h.2
  have h1 := h.1
  unfold joinL
  rw [List.length_append]
  have : headL.length = 8 := rfl
  omega
theorem Short.take {l : List Sct} (h : Short l) (k : Nat) : Short (l.take k) := ⟨by rw [List.length_take]; have := h.1; omega, fun x hx => h.2 x (List.mem_of_mem_take hx)⟩
end Go.Proofs.YtkleadjkebofpaaGreatDoor

/- creelref09.Put, Head. -/
namespace Go.Proofs.YtkleadjkebofpaaGreatDoor
open Go.RowKit
set_option linter.unusedVariables false
set_option maxRecDepth 100000

end Go.Proofs.YtkleadjkebofpaaGreatDoor

/- sect.Join, Find; the reference's Join. -/
namespace Go.Proofs.YtkleadjkebofpaaGreatDoor
open Go.RowKit
set_option linter.unusedVariables false
set_option maxRecDepth 100000

set_option maxHeartbeats 1000000 in
theorem join_sect {w : World} {A : Option Addr} {c : Nat} {l : List Sct} (hl : Secs w A l) (hs : Short l) :
    Calls Tryz.prog 20 #[.slice A l.length c] w fun e w' => ∃ v, e = .returned v ∧ JRow w' w.heap.size v (joinL l) ∧ Below w.heap.size w w' := by
  have HL := Lib.hid hl
  have HS := Lib.hid hs
  obtain ⟨n, hn⟩ : ∃ n, n = l.length := ⟨_, rfl⟩
  have HN := Lib.hid hn
  have hn30 : n ≤ 30 := by rw [hn]; exact hs.1
  rw [← hn]
  have kc := fun (w : World) (C : Array Value) (n c : Nat) => Lib.run_convert_bytes_const (P := Tryz.prog) w 45 5 C n c Tryz.underlying45 Tryz.underlying5
  have hj0 : JRow (w.alloc (.cells #[.int .u8 0, .int .u8 97, .int .u8 115, .int .u8 109, .int .u8 1, .int .u8 0, .int .u8 0, .int .u8 0] 5 (8, 9))) w.heap.size (.slice (some ⟨w.heap.size, 0, none⟩) 8 8) (headL ++ putsL (l.take 0)) := by
    have e : headL ++ putsL (l.take 0) = headL := by rw [List.take_zero]; rfl
    rw [e]
    have h := lies_made w headL (8, 9)
    rw [head_cells] at h
    exact .inr ⟨_, rfl, Nat.le_refl _, by simp, by rw [size_box]; exact h⟩
  have HJ := Lib.hid hj0
  clear hl hs hn hj0
  go_enter Tryz.func20, Tryz.ntmps20
  go_wp2
  clear kc
  go_loopw [3, 10] (fun v i wr => ∃ k : Nat, k ≤ n ∧ i = .int .i64 k ∧ JRow wr w.heap.size v (headL ++ putsL (l.take k)) ∧ Below w.heap.size w wr) (fun _ i _ => n - (intOf i).toNat)
  case atStart => exact ⟨0, Nat.zero_le _, rfl, HJ.out, below_box _ _⟩
  case round =>
    obtain ⟨k, hk, rfl, hr, hb⟩ := hrel
    have hz1 := hb.size
    by_cases hlt : k < n
    · obtain ⟨x, hx⟩ : ∃ x, l[k]? = some x := ⟨_, List.getElem?_eq_getElem (by rw [← HN.out]; exact hlt)⟩
      obtain ⟨b, off, B, cc, rfl, hbl, ⟨k0, k1, k2, k3⟩, hpc⟩ := HL.out k x hx
      have m0 := (hb.cell (p := ⟨b, off + k * 4, none⟩) hbl).trans k0
      have m1 := (hb.cell (p := ⟨b, off + k * 4 + 1, none⟩) hbl).trans k1
      have m2 := (hb.cell (p := ⟨b, off + k * 4 + 2, none⟩) hbl).trans k2
      have m3 := (hb.cell (p := ⟨b, off + k * 4 + 3, none⟩) hbl).trans k3
      obtain ⟨hxn, hxb⟩ := HS.out.2 x (List.mem_of_getElem? hx)
      have hB := hb.alloc hz1 (.cells (secK x B cc) 73)
      have HB := Lib.hid hB
      have HR := Lib.hid (hr.later (below_box wr (.cells (secK x B cc) 73)))
      have HPU := Lib.hid (put_sect x B cc (wr.alloc (.cells (secK x B cc) 73)) (hpc.below hB) (by omega) (by omega))
      have hsz : w.heap.size ≤ (wr.alloc (.cells (secK x B cc) 73)).heap.size := hB.size
      have hlen1 := joinL_len (HS.out.take k)
      have hlen2 := secputL_len (n := 300) hxn (by omega) (by omega)
      have HSN := Lib.hid (putsL_snoc hx)
      unfold joinL at hlen1
      obtain ⟨y, hy⟩ : ∃ y, y = secputL x := ⟨_, rfl⟩
      rw [← hy] at HPU hlen2 HSN
      have hy0 : 0 < y.length := by omega
      have hy1 : (headL ++ putsL (l.take k)).length + y.length ≤ 40000000 := by omega
      unfold secK secV at HPU
      unfold secK at HR HB hsz
      clear hr hb k0 k1 k2 k3 hx hpc hB hlen1 hlen2 hy hxn hxb HJ
      go_wp2_with (first
        | (at_builtin; (refine jrow_app rfl _ _ rfl w.heap.size _ (headL ++ putsL (l.take k)) rfl HR2.out A2 y.length c2 y rfl rfl HP2.out hy0 hy1 hs2 ?_; intro v3 w3 hr3 hb3; have HR3 := Lib.hid hr3; have HB3 := Lib.hid hb3; clear hr3 hb3))
        | (go_at_call 49; go_must ((with_reducible refine HPU.out.mono ?_); intro e w2 hq; obtain ⟨v2, rfl, hr2, hb2⟩ := hq; obtain ⟨A2, c2, rfl, hp2⟩ := hr2.pc; have HR2 := Lib.hid (HR.out.later hb2); have HB2 := Lib.hid (HB.out.trans (hb2.mono hsz)); have HP2 := Lib.hid hp2; have hs2 : w.heap.size ≤ w2.heap.size := Nat.le_trans hsz hb2.size; clear hr2 hb2 hp2)))
      go_roundw
      case rel => exact ⟨k + 1, by omega, by go_num, by rw [HSN.out, ← List.append_assoc]; exact .inl HR3.out, HB2.out.trans HB3.out⟩
      case measure => simp [intOf]; omega
    · obtain rfl : k = n := by omega
      have HR := Lib.hid hr
      have HB := Lib.hid hb
      have HT := Lib.hid (show l.take k = l by rw [HN.out]; exact List.take_length)
      clear hr hb HJ
      go_wp2
      go_ret
      exact ⟨_, rfl, by have := HR.out; rw [HT.out] at this; exact this, HB.out⟩
end Go.Proofs.YtkleadjkebofpaaGreatDoor

/- Encode of the module that has nothing: the page's example; awake. (By gen/genMdA.py.) -/
namespace Go.Proofs.YtkleadjkebofpaaGreatDoor
open Go.RowKit
set_option linter.unusedVariables false
set_option maxRecDepth 100000

theorem JRow.past {w w' : World} {B b : Nat} {v : Value} {xs : List UInt8} (h : JRow w B v xs) (hg : w.grownBy w' (some b)) (hb : b < B) : JRow w' B v xs := by
  rcases h with h | ⟨g, e, h1, h2, h3⟩
  · exact .inl (h.past hg hb)
  · refine .inr ⟨g, e, h1, Nat.lt_of_lt_of_le h2 hg.size, fun j u hu => ?_⟩
    obtain ⟨b2, o2, e2, h4, h5⟩ := h3 j u hu
    refine ⟨b2, o2, e2, Nat.lt_of_lt_of_le h4 hg.size, ?_⟩
    rw [← h5]
    unfold World.cell?
    injection e2 with e2
    injection e2 with e3 e4
    subst e3
    rw [hg.block g h4 (fun e => by injection e with e; omega)]
theorem JRow.mono {w : World} {B B' : Nat} {v : Value} {xs : List UInt8} (h : JRow w B v xs) (hb : B' ≤ B) : JRow w B' v xs := by
  rcases h with h | ⟨g, e, h1, h2, h3⟩
  · exact .inl (h.mono hb)
  · exact .inr ⟨g, e, Nat.le_trans hb h1, h2, h3⟩
theorem must_ok (w : World) : Calls Tryz.prog 18 #[.int .i64 0] w fun e w' => e = .returned (.tuple #[]) ∧ w = w' := by
  go_enter Tryz.func18, Tryz.ntmps18
  go_wp2_with (go_at_call 17; go_must ((with_reducible refine (unlessT _ _ _).mono ?_); rintro e w' ⟨rfl, rfl⟩))
  go_end0
  exact ⟨rfl, rfl⟩
theorem sec0_ty (id : Int) (A : Option Addr) (c : Nat) (fv : Value) (w : World) : Calls Tryz.prog 23 #[.int .u8 id, .slice A 0 c, fv] w fun e w' => e = .returned (.slice none 0 0) ∧ w = w' := by
  go_enter Tryz.func23, Tryz.ntmps23
  go_wp2
  go_ret
  exact ⟨rfl, rfl⟩
theorem sec0_im (id : Int) (A : Option Addr) (c : Nat) (fv : Value) (w : World) : Calls Tryz.prog 25 #[.int .u8 id, .slice A 0 c, fv] w fun e w' => e = .returned (.slice none 0 0) ∧ w = w' := by
  go_enter Tryz.func25, Tryz.ntmps25
  go_wp2
  go_ret
  exact ⟨rfl, rfl⟩
theorem sec0_fn (id : Int) (A : Option Addr) (c : Nat) (fv : Value) (w : World) : Calls Tryz.prog 27 #[.int .u8 id, .slice A 0 c, fv] w fun e w' => e = .returned (.slice none 0 0) ∧ w = w' := by
  go_enter Tryz.func27, Tryz.ntmps27
  go_wp2
  go_ret
  exact ⟨rfl, rfl⟩
theorem sec0_lm (id : Int) (A : Option Addr) (c : Nat) (fv : Value) (w : World) : Calls Tryz.prog 29 #[.int .u8 id, .slice A 0 c, fv] w fun e w' => e = .returned (.slice none 0 0) ∧ w = w' := by
  go_enter Tryz.func29, Tryz.ntmps29
  go_wp2
  go_ret
  exact ⟨rfl, rfl⟩
theorem sec0_gl (id : Int) (A : Option Addr) (c : Nat) (fv : Value) (w : World) : Calls Tryz.prog 32 #[.int .u8 id, .slice A 0 c, fv] w fun e w' => e = .returned (.slice none 0 0) ∧ w = w' := by
  go_enter Tryz.func32, Tryz.ntmps32
  go_wp2
  go_ret
  exact ⟨rfl, rfl⟩
theorem sec0_ex (id : Int) (A : Option Addr) (c : Nat) (fv : Value) (w : World) : Calls Tryz.prog 34 #[.int .u8 id, .slice A 0 c, fv] w fun e w' => e = .returned (.slice none 0 0) ∧ w = w' := by
  go_enter Tryz.func34, Tryz.ntmps34
  go_wp2
  go_ret
  exact ⟨rfl, rfl⟩
theorem sec0_el (id : Int) (A : Option Addr) (c : Nat) (fv : Value) (w : World) : Calls Tryz.prog 37 #[.int .u8 id, .slice A 0 c, fv] w fun e w' => e = .returned (.slice none 0 0) ∧ w = w' := by
  go_enter Tryz.func37, Tryz.ntmps37
  go_wp2
  go_ret
  exact ⟨rfl, rfl⟩
theorem sec0_co (id : Int) (A : Option Addr) (c : Nat) (fv : Value) (w : World) : Calls Tryz.prog 39 #[.int .u8 id, .slice A 0 c, fv] w fun e w' => e = .returned (.slice none 0 0) ∧ w = w' := by
  go_enter Tryz.func39, Tryz.ntmps39
  go_wp2
  go_ret
  exact ⟨rfl, rfl⟩
theorem sec0_da (id : Int) (A : Option Addr) (c : Nat) (fv : Value) (w : World) : Calls Tryz.prog 41 #[.int .u8 id, .slice A 0 c, fv] w fun e w' => e = .returned (.slice none 0 0) ∧ w = w' := by
  go_enter Tryz.func41, Tryz.ntmps41
  go_wp2
  go_ret
  exact ⟨rfl, rfl⟩
theorem start0 (w : World) : Calls Tryz.prog 36 #[.int .i64 (-1)] w fun e w' => e = .returned (.slice none 0 0) ∧ w = w' := by
  go_enter Tryz.func36, Tryz.ntmps36
  go_wp2
  go_ret
  exact ⟨rfl, rfl⟩
theorem dylink0 {x : Dl} {A : Option Addr} {c : Nat} (hx : x.has = false) (w : World) : Calls Tryz.prog 22 #[dlV x A c] w fun e w' => e = .returned (.slice none 0 0) ∧ Below w.heap.size w w' := by
  have H0 := Lib.hid (bxD_start w x A c)
  obtain ⟨c0, c1, c2, c3, c4, c5⟩ := H0.out.2
  rw [hx] at c0
  clear hx
  go_enter Tryz.func22, Tryz.ntmps22
  go_wp2
  go_ret
  exact ⟨rfl, bxD_bel H0.out⟩
theorem growS0 (w : World) : Calls Tryz.prog 50 #[.slice none 0 0, .int .i64 0] w fun e w' => e = .returned (.slice none 0 0) ∧ w = w' := by
  go_enter Tryz.func50, Tryz.ntmps50
  go_wp2
  go_ret
  exact ⟨rfl, rfl⟩
set_option maxHeartbeats 1000000 in
theorem concatS0 {w : World} {g n : Nat} (hn : n ≤ 100) (hc : ∀ k, k < n → w.cell? ⟨g, k, none⟩ = some (.slice none 0 0)) : Calls Tryz.prog 21 #[.slice (some ⟨g, 0, none⟩) n n] w fun e w' => e = .returned (.slice none 0 0) ∧ w = w' := by
  have HC := Lib.hid hc
  obtain ⟨i0, hi0, hz0, hz1, hz2⟩ := info_parts infoSec
  have HG := Lib.hid (growS0 w)
  clear hc
  go_enter Tryz.func21, Tryz.ntmps21
  go_wp2
  go_loop [3, 11] (fun s i => ∃ k : Nat, k ≤ n ∧ s = .int .i64 0 ∧ i = .int .i64 k) (fun _ i => n - (intOf i).toNat)
  case atStart => exact ⟨0, Nat.zero_le _, rfl, rfl⟩
  case round =>
    obtain ⟨k, hk, rfl, rfl⟩ := hrel
    by_cases hlt : k < n
    · have ck := HC.out k hlt
      go_wp2
      go_round
      case rel => exact ⟨k + 1, by omega, rfl, by go_num⟩
      case measure => simp [intOf]; omega
    · obtain rfl : k = n := by omega
      go_wp2_with (go_at_call 50; go_must ((with_reducible refine HG.out.mono ?_); rintro e w1 ⟨rfl, rfl⟩))
      go_loop [6, 27] (fun v i => ∃ j : Nat, j ≤ k ∧ v = .slice none 0 0 ∧ i = .int .i64 j) (fun _ i => k - (intOf i).toNat)
      case atStart => exact ⟨0, Nat.zero_le _, rfl, rfl⟩
      case round =>
        obtain ⟨j, hj, rfl, rfl⟩ := hrel
        by_cases hlt : j < k
        · have ck := HC.out j hlt
          go_wp2_with (at_builtin; (refine wpList_append_own_none rfl _ _ 70 rfl w.heap.size 73 i0 4 Tryz.underlying70 hi0 (.slice none 0 0) 0 [] rfl (World.ownsRow_nil w _ _ _) rfl ?_))
          go_round
          case rel => exact ⟨j + 1, by omega, rfl, by go_num⟩
          case measure => simp [intOf]; omega
        · obtain rfl : j = k := by omega
          go_wp2
          go_ret
          exact ⟨rfl, rfl⟩
abbrev md0C : Array Value := #[.slice none 0 0, .slice none 0 0, .slice none 0 0, .slice none 0 0, .slice none 0 0, .slice none 0 0, .slice none 0 0, .int .i64 (-1), .slice none 0 0, .slice none 0 0, .slice none 0 0, .bool false, .int .u32 0, .int .u32 0, .int .u32 0, .int .u32 0, .slice none 0 0]
abbrev md0s (W : World) (b : Nat) : Prop := W.cell? ⟨b, 0, none⟩ = some (.slice none 0 0) ∧ W.cell? ⟨b, 1, none⟩ = some (.slice none 0 0) ∧ W.cell? ⟨b, 2, none⟩ = some (.slice none 0 0) ∧ W.cell? ⟨b, 3, none⟩ = some (.slice none 0 0) ∧ W.cell? ⟨b, 4, none⟩ = some (.slice none 0 0) ∧ W.cell? ⟨b, 5, none⟩ = some (.slice none 0 0) ∧ W.cell? ⟨b, 6, none⟩ = some (.slice none 0 0) ∧ W.cell? ⟨b, 7, none⟩ = some (.int .i64 (-1)) ∧ W.cell? ⟨b, 8, none⟩ = some (.slice none 0 0) ∧ W.cell? ⟨b, 9, none⟩ = some (.slice none 0 0) ∧ W.cell? ⟨b, 10, none⟩ = some (.slice none 0 0) ∧ W.cell? ⟨b, 11, none⟩ = some (.bool false) ∧ W.cell? ⟨b, 12, none⟩ = some (.int .u32 0) ∧ W.cell? ⟨b, 13, none⟩ = some (.int .u32 0) ∧ W.cell? ⟨b, 14, none⟩ = some (.int .u32 0) ∧ W.cell? ⟨b, 15, none⟩ = some (.int .u32 0) ∧ W.cell? ⟨b, 16, none⟩ = some (.slice none 0 0)
/-- The box of the module that has nothing. -/
abbrev Bx0 (B : World) (b : Nat) (W : World) : Prop := (Whole W b 36 md0C ∧ Below B.heap.size B W) ∧ md0s W b
theorem Whole.md0 {W : World} {b : Nat} {t : TypeId} (h : Whole W b t md0C) : md0s W b := ⟨h.cell 0, h.cell 1, h.cell 2, h.cell 3, h.cell 4, h.cell 5, h.cell 6, h.cell 7, h.cell 8, h.cell 9, h.cell 10, h.cell 11, h.cell 12, h.cell 13, h.cell 14, h.cell 15, h.cell 16⟩
theorem bx0_on {B W W' : World} {b : Nat} (h : Bx0 B b W) (hb : Below W.heap.size W W') : Bx0 B b W' := ⟨⟨h.1.1.below hb, h.1.2.trans (hb.mono h.1.2.size)⟩, (h.1.1.below hb).md0⟩
theorem bx0_start (w : World) : Bx0 w w.heap.size (w.alloc (.cells md0C 36)) := ⟨⟨Whole.made _ _ _, below_box _ _⟩, (Whole.made w 36 md0C).md0⟩
theorem step_build12 {w : World} {ops : Array Oper} {o : Oper} {a : Act} {K : Act → World → Prop} {Q : Exit → Act → World → Prop} {E : Prop} (hgd : o.guard = none) (x0 x1 x2 x3 x4 x5 x6 x7 x8 x9 x10 x11 : Operand) (ho : o.op = .buildSlice 113 12 #[(0, x0), (1, x1), (2, x2), (3, x3), (4, x4), (5, x5), (6, x6), (7, x7), (8, x8), (9, x9), (10, x10), (11, x11)]) {A : Nat → Option Addr} {n c : Nat → Nat} (h0 : a.eval x0 = .slice (A 0) (n 0) (c 0)) (h1 : a.eval x1 = .slice (A 1) (n 1) (c 1)) (h2 : a.eval x2 = .slice (A 2) (n 2) (c 2)) (h3 : a.eval x3 = .slice (A 3) (n 3) (c 3)) (h4 : a.eval x4 = .slice (A 4) (n 4) (c 4)) (h5 : a.eval x5 = .slice (A 5) (n 5) (c 5)) (h6 : a.eval x6 = .slice (A 6) (n 6) (c 6)) (h7 : a.eval x7 = .slice (A 7) (n 7) (c 7)) (h8 : a.eval x8 = .slice (A 8) (n 8) (c 8)) (h9 : a.eval x9 = .slice (A 9) (n 9) (c 9)) (h10 : a.eval x10 = .slice (A 10) (n 10) (c 10)) (h11 : a.eval x11 = .slice (A 11) (n 11) (c 11))
    (h : ∀ g wa, w.heap.size ≤ g → Below w.heap.size w wa → Whole wa g 70 #[.slice (A 0) (n 0) (c 0), .slice (A 1) (n 1) (c 1), .slice (A 2) (n 2) (c 2), .slice (A 3) (n 3) (c 3), .slice (A 4) (n 4) (c 4), .slice (A 5) (n 5) (c 5), .slice (A 6) (n 6) (c 6), .slice (A 7) (n 7) (c 7), .slice (A 8) (n 8) (c 8), .slice (A 9) (n 9) (c 9), .slice (A 10) (n 10) (c 10), .slice (A 11) (n 11) (c 11)] → K (a.put o.dst (.slice (some ⟨g, 0, none⟩) 12 12)) wa) :
    if Region.wanted o (yielded ops a.tmps) = true then Oper.wp Tryz.prog o a w K Q else E := by
  refine step_value (v := .slice (some ⟨w.heap.size, 0, none⟩) 12 12) (w' := w.alloc (.cells #[.slice (A 0) (n 0) (c 0), .slice (A 1) (n 1) (c 1), .slice (A 2) (n 2) (c 2), .slice (A 3) (n 3) (c 3), .slice (A 4) (n 4) (c 4), .slice (A 5) (n 5) (c 5), .slice (A 6) (n 6) (c 6), .slice (A 7) (n 7) (c 7), .slice (A 8) (n 8) (c 8), .slice (A 9) (n 9) (c 9), .slice (A 10) (n 10) (c 10), .slice (A 11) (n 11) (c 11)] 70)) hgd ?_ (h _ _ (Nat.le_refl _) (below_box _ _) (Whole.made _ _ _))
  cases o
  subst ho
  clear h
  generalize a.eval = ev at h0 h1 h2 h3 h4 h5 h6 h7 h8 h9 h10 h11 ⊢
  simp [go_sem, h0, h1, h2, h3, h4, h5, h6, h7, h8, h9, h10, h11]
theorem cells12 {w : World} {g : Nat} {t : TypeId} {v : Value} (h : Whole w g t #[v, v, v, v, v, v, v, v, v, v, v, v]) (k : Nat) (hk : k < 12) : w.cell? ⟨g, k, none⟩ = some v := by
  rw [h.cell k]
  match k, hk with
  | 0, _ | 1, _ | 2, _ | 3, _ | 4, _ | 5, _ | 6, _ | 7, _ | 8, _ | 9, _ | 10, _ | 11, _ => rfl
def dl0 : Dl := ⟨false, 0, 0, 0, 0, []⟩
theorem drZ0 : drZ dl0 = 0 := by
  unfold drZ noZ
  rw [if_neg (by decide), if_pos ⟨rfl, rfl, rfl, rfl, rfl⟩]
set_option maxHeartbeats 4000000 in
theorem put0 {w : World} (hT : TabsU w) : Calls Tryz.prog 14 #[.agg md0C] w fun e w' => ∃ v, e = .returned v ∧ JRow w' w.heap.size v headL ∧ Below w.heap.size w w' := by
  have H0 := Lib.hid (bx0_start w)
  obtain ⟨c0, c1, c2, c3, c4, c5, c6, c7, c8, c9, c10, c11, c12, c13, c14, c15, c16⟩ := H0.out.2
  have HR := Lib.hid (show Calls Tryz.prog 19 #[.agg #[.bool false, .int .u32 0, .int .u32 0, .int .u32 0, .int .u32 0, .slice none 0 0]] (w.alloc (.cells md0C 36)) (fun e w' => e = .returned (.int .i64 0) ∧ Below (w.alloc (.cells md0C 36)).heap.size (w.alloc (.cells md0C 36)) w') from
    (right_dl (x := dl0) (A := none) (c := 0) (fun j s hj => by cases hj) (by decide) (by decide) (fun s hs => by cases hs) (hT.below (below_box _ _))).mono fun e w' ⟨h1, h2⟩ => ⟨by rw [h1, drZ0], h2⟩)
  have HD := Lib.hid (fun W => show Calls Tryz.prog 22 #[.agg #[.bool false, .int .u32 0, .int .u32 0, .int .u32 0, .int .u32 0, .slice none 0 0]] W (fun e w' => e = .returned (.slice none 0 0) ∧ Below W.heap.size W w') from dylink0 (x := dl0) (A := none) (c := 0) rfl W)
  have HJ := Lib.hid (fun W => show Calls Tryz.prog 20 #[.slice none 0 0] W (fun e w' => ∃ v, e = .returned v ∧ JRow w' W.heap.size v headL ∧ Below W.heap.size W w') from
    (join_sect (w := W) (A := none) (c := 0) (l := []) (fun j x hj => by cases hj) ⟨by decide, fun x hx => by cases hx⟩))
  have hhl : headL.length = 8 := rfl
  clear hT
  go_enter Tryz.func14, Tryz.ntmps14
  go_upto_region 4 with (first
    | (go_at_call 17; go_must ((with_reducible refine (unlessT _ _ _).mono ?_); rintro e w' ⟨rfl, rfl⟩))
    | (go_at_call 18; go_must ((with_reducible refine (must_ok _).mono ?_); rintro e w' ⟨rfl, rfl⟩))
    | (go_at_call 19; go_must ((with_reducible refine HR.out.mono ?_); rintro e w2 ⟨rfl, hb2⟩; have H2 := Lib.hid (bx0_on H0.out hb2); clear hb2)))
  have hB := bx0_on H2.out (Below.refl _ _).drew
  clear c0 c1 c2 c3 c4 c5 c6 c7 c8 c9 c10 c11 c12 c13 c14 c15 c16 H0 H2 HR
  refine wp_region_noPanic ?_
  refine wp_region_held_drew (S := fun W => Bx0 w w.heap.size W) (by kernel_rfl) hB (fun hHeld => ?_)
  clear hB
  (refine heldTake (i := 0) (oi := { dst := some 25, op := Op.fieldAddr 36 (Operand.tmp 1) 11, type := 0, pos := "module.go:100", after := #[], guard := none }) (v := ?_) rfl (by kernel_rfl) (by kernel_rfl) (by kernel_rfl) (by assumption) ?_ ?_; rotate_left; focus (refine .inl ⟨by kernel_rfl, ?_⟩; intro w hSw; (try dsimp only at hSw); go_simp; (try with_reducible rfl)); skip)
  (try simp only [Act.put, List.setIfInBounds_toArray, List.set_cons_zero, List.set_cons_succ])
  (refine heldTake (i := 1) (oi := { dst := some 26, op := Op.load 34 (Operand.tmp 25), type := 34, pos := "module.go:100", after := #[{ on := 0, ground := Ground.data }], guard := none }) (v := ?_) rfl (by kernel_rfl) (by kernel_rfl) (by kernel_rfl) (by assumption) ?_ ?_; rotate_left; focus (refine .inl ⟨by kernel_rfl, ?_⟩; intro w hSw; (try dsimp only at hSw); go_simp; (try with_reducible rfl)); skip)
  (try simp only [Act.put, List.setIfInBounds_toArray, List.set_cons_zero, List.set_cons_succ])
  (refine heldTake (i := 3) (oi := { dst := some 28, op := Op.fieldAddr 36 (Operand.tmp 1) 0, type := 0, pos := "module.go:100", after := #[], guard := none }) (v := ?_) rfl (by kernel_rfl) (by kernel_rfl) (by kernel_rfl) (by assumption) ?_ ?_; rotate_left; focus (refine .inl ⟨by kernel_rfl, ?_⟩; intro w hSw; (try dsimp only at hSw); go_simp; (try with_reducible rfl)); skip)
  (try simp only [Act.put, List.setIfInBounds_toArray, List.set_cons_zero, List.set_cons_succ])
  (refine heldTake (i := 4) (oi := { dst := some 29, op := Op.load 22 (Operand.tmp 28), type := 22, pos := "module.go:100", after := #[{ on := 3, ground := Ground.data }], guard := none }) (v := ?_) rfl (by kernel_rfl) (by kernel_rfl) (by kernel_rfl) (by assumption) ?_ ?_; rotate_left; focus (refine .inl ⟨by kernel_rfl, ?_⟩; intro w hSw; (try dsimp only at hSw); go_simp; (try with_reducible rfl)); skip)
  (try simp only [Act.put, List.setIfInBounds_toArray, List.set_cons_zero, List.set_cons_succ])
  (refine heldTake (i := 6) (oi := { dst := some 31, op := Op.fieldAddr 36 (Operand.tmp 1) 1, type := 0, pos := "module.go:100", after := #[], guard := none }) (v := ?_) rfl (by kernel_rfl) (by kernel_rfl) (by kernel_rfl) (by assumption) ?_ ?_; rotate_left; focus (refine .inl ⟨by kernel_rfl, ?_⟩; intro w hSw; (try dsimp only at hSw); go_simp; (try with_reducible rfl)); skip)
  (try simp only [Act.put, List.setIfInBounds_toArray, List.set_cons_zero, List.set_cons_succ])
  (refine heldTake (i := 7) (oi := { dst := some 32, op := Op.load 23 (Operand.tmp 31), type := 23, pos := "module.go:100", after := #[{ on := 6, ground := Ground.data }], guard := none }) (v := ?_) rfl (by kernel_rfl) (by kernel_rfl) (by kernel_rfl) (by assumption) ?_ ?_; rotate_left; focus (refine .inl ⟨by kernel_rfl, ?_⟩; intro w hSw; (try dsimp only at hSw); go_simp; (try with_reducible rfl)); skip)
  (try simp only [Act.put, List.setIfInBounds_toArray, List.set_cons_zero, List.set_cons_succ])
  (refine heldTake (i := 9) (oi := { dst := some 34, op := Op.fieldAddr 36 (Operand.tmp 1) 2, type := 0, pos := "module.go:100", after := #[], guard := none }) (v := ?_) rfl (by kernel_rfl) (by kernel_rfl) (by kernel_rfl) (by assumption) ?_ ?_; rotate_left; focus (refine .inl ⟨by kernel_rfl, ?_⟩; intro w hSw; (try dsimp only at hSw); go_simp; (try with_reducible rfl)); skip)
  (try simp only [Act.put, List.setIfInBounds_toArray, List.set_cons_zero, List.set_cons_succ])
  (refine heldTake (i := 10) (oi := { dst := some 35, op := Op.load 24 (Operand.tmp 34), type := 24, pos := "module.go:100", after := #[{ on := 9, ground := Ground.data }], guard := none }) (v := ?_) rfl (by kernel_rfl) (by kernel_rfl) (by kernel_rfl) (by assumption) ?_ ?_; rotate_left; focus (refine .inl ⟨by kernel_rfl, ?_⟩; intro w hSw; (try dsimp only at hSw); go_simp; (try with_reducible rfl)); skip)
  (try simp only [Act.put, List.setIfInBounds_toArray, List.set_cons_zero, List.set_cons_succ])
  (refine heldTake (i := 12) (oi := { dst := some 37, op := Op.fieldAddr 36 (Operand.tmp 1) 3, type := 0, pos := "module.go:100", after := #[], guard := none }) (v := ?_) rfl (by kernel_rfl) (by kernel_rfl) (by kernel_rfl) (by assumption) ?_ ?_; rotate_left; focus (refine .inl ⟨by kernel_rfl, ?_⟩; intro w hSw; (try dsimp only at hSw); go_simp; (try with_reducible rfl)); skip)
  (try simp only [Act.put, List.setIfInBounds_toArray, List.set_cons_zero, List.set_cons_succ])
  (refine heldTake (i := 13) (oi := { dst := some 38, op := Op.load 25 (Operand.tmp 37), type := 25, pos := "module.go:100", after := #[{ on := 12, ground := Ground.data }], guard := none }) (v := ?_) rfl (by kernel_rfl) (by kernel_rfl) (by kernel_rfl) (by assumption) ?_ ?_; rotate_left; focus (refine .inl ⟨by kernel_rfl, ?_⟩; intro w hSw; (try dsimp only at hSw); go_simp; (try with_reducible rfl)); skip)
  (try simp only [Act.put, List.setIfInBounds_toArray, List.set_cons_zero, List.set_cons_succ])
  (refine heldTake (i := 15) (oi := { dst := some 40, op := Op.fieldAddr 36 (Operand.tmp 1) 4, type := 0, pos := "module.go:100", after := #[], guard := none }) (v := ?_) rfl (by kernel_rfl) (by kernel_rfl) (by kernel_rfl) (by assumption) ?_ ?_; rotate_left; focus (refine .inl ⟨by kernel_rfl, ?_⟩; intro w hSw; (try dsimp only at hSw); go_simp; (try with_reducible rfl)); skip)
  (try simp only [Act.put, List.setIfInBounds_toArray, List.set_cons_zero, List.set_cons_succ])
  (refine heldTake (i := 16) (oi := { dst := some 41, op := Op.load 25 (Operand.tmp 40), type := 25, pos := "module.go:100", after := #[{ on := 15, ground := Ground.data }], guard := none }) (v := ?_) rfl (by kernel_rfl) (by kernel_rfl) (by kernel_rfl) (by assumption) ?_ ?_; rotate_left; focus (refine .inl ⟨by kernel_rfl, ?_⟩; intro w hSw; (try dsimp only at hSw); go_simp; (try with_reducible rfl)); skip)
  (try simp only [Act.put, List.setIfInBounds_toArray, List.set_cons_zero, List.set_cons_succ])
  (refine heldTake (i := 18) (oi := { dst := some 43, op := Op.fieldAddr 36 (Operand.tmp 1) 5, type := 0, pos := "module.go:100", after := #[], guard := none }) (v := ?_) rfl (by kernel_rfl) (by kernel_rfl) (by kernel_rfl) (by assumption) ?_ ?_; rotate_left; focus (refine .inl ⟨by kernel_rfl, ?_⟩; intro w hSw; (try dsimp only at hSw); go_simp; (try with_reducible rfl)); skip)
  (try simp only [Act.put, List.setIfInBounds_toArray, List.set_cons_zero, List.set_cons_succ])
  (refine heldTake (i := 19) (oi := { dst := some 44, op := Op.load 26 (Operand.tmp 43), type := 26, pos := "module.go:100", after := #[{ on := 18, ground := Ground.data }], guard := none }) (v := ?_) rfl (by kernel_rfl) (by kernel_rfl) (by kernel_rfl) (by assumption) ?_ ?_; rotate_left; focus (refine .inl ⟨by kernel_rfl, ?_⟩; intro w hSw; (try dsimp only at hSw); go_simp; (try with_reducible rfl)); skip)
  (try simp only [Act.put, List.setIfInBounds_toArray, List.set_cons_zero, List.set_cons_succ])
  (refine heldTake (i := 21) (oi := { dst := some 46, op := Op.fieldAddr 36 (Operand.tmp 1) 6, type := 0, pos := "module.go:100", after := #[], guard := none }) (v := ?_) rfl (by kernel_rfl) (by kernel_rfl) (by kernel_rfl) (by assumption) ?_ ?_; rotate_left; focus (refine .inl ⟨by kernel_rfl, ?_⟩; intro w hSw; (try dsimp only at hSw); go_simp; (try with_reducible rfl)); skip)
  (try simp only [Act.put, List.setIfInBounds_toArray, List.set_cons_zero, List.set_cons_succ])
  (refine heldTake (i := 22) (oi := { dst := some 47, op := Op.load 27 (Operand.tmp 46), type := 27, pos := "module.go:100", after := #[{ on := 21, ground := Ground.data }], guard := none }) (v := ?_) rfl (by kernel_rfl) (by kernel_rfl) (by kernel_rfl) (by assumption) ?_ ?_; rotate_left; focus (refine .inl ⟨by kernel_rfl, ?_⟩; intro w hSw; (try dsimp only at hSw); go_simp; (try with_reducible rfl)); skip)
  (try simp only [Act.put, List.setIfInBounds_toArray, List.set_cons_zero, List.set_cons_succ])
  (refine heldTake (i := 24) (oi := { dst := some 49, op := Op.fieldAddr 36 (Operand.tmp 1) 7, type := 0, pos := "module.go:100", after := #[], guard := none }) (v := ?_) rfl (by kernel_rfl) (by kernel_rfl) (by kernel_rfl) (by assumption) ?_ ?_; rotate_left; focus (refine .inl ⟨by kernel_rfl, ?_⟩; intro w hSw; (try dsimp only at hSw); go_simp; (try with_reducible rfl)); skip)
  (try simp only [Act.put, List.setIfInBounds_toArray, List.set_cons_zero, List.set_cons_succ])
  (refine heldTake (i := 25) (oi := { dst := some 50, op := Op.load 3 (Operand.tmp 49), type := 3, pos := "module.go:100", after := #[{ on := 24, ground := Ground.data }], guard := none }) (v := ?_) rfl (by kernel_rfl) (by kernel_rfl) (by kernel_rfl) (by assumption) ?_ ?_; rotate_left; focus (refine .inl ⟨by kernel_rfl, ?_⟩; intro w hSw; (try dsimp only at hSw); go_simp; (try with_reducible rfl)); skip)
  (try simp only [Act.put, List.setIfInBounds_toArray, List.set_cons_zero, List.set_cons_succ])
  (refine heldTake (i := 27) (oi := { dst := some 52, op := Op.fieldAddr 36 (Operand.tmp 1) 8, type := 0, pos := "module.go:100", after := #[], guard := none }) (v := ?_) rfl (by kernel_rfl) (by kernel_rfl) (by kernel_rfl) (by assumption) ?_ ?_; rotate_left; focus (refine .inl ⟨by kernel_rfl, ?_⟩; intro w hSw; (try dsimp only at hSw); go_simp; (try with_reducible rfl)); skip)
  (try simp only [Act.put, List.setIfInBounds_toArray, List.set_cons_zero, List.set_cons_succ])
  (refine heldTake (i := 28) (oi := { dst := some 53, op := Op.load 28 (Operand.tmp 52), type := 28, pos := "module.go:100", after := #[{ on := 27, ground := Ground.data }], guard := none }) (v := ?_) rfl (by kernel_rfl) (by kernel_rfl) (by kernel_rfl) (by assumption) ?_ ?_; rotate_left; focus (refine .inl ⟨by kernel_rfl, ?_⟩; intro w hSw; (try dsimp only at hSw); go_simp; (try with_reducible rfl)); skip)
  (try simp only [Act.put, List.setIfInBounds_toArray, List.set_cons_zero, List.set_cons_succ])
  (refine heldTake (i := 30) (oi := { dst := some 55, op := Op.fieldAddr 36 (Operand.tmp 1) 9, type := 0, pos := "module.go:100", after := #[], guard := none }) (v := ?_) rfl (by kernel_rfl) (by kernel_rfl) (by kernel_rfl) (by assumption) ?_ ?_; rotate_left; focus (refine .inl ⟨by kernel_rfl, ?_⟩; intro w hSw; (try dsimp only at hSw); go_simp; (try with_reducible rfl)); skip)
  (try simp only [Act.put, List.setIfInBounds_toArray, List.set_cons_zero, List.set_cons_succ])
  (refine heldTake (i := 31) (oi := { dst := some 56, op := Op.load 29 (Operand.tmp 55), type := 29, pos := "module.go:100", after := #[{ on := 30, ground := Ground.data }], guard := none }) (v := ?_) rfl (by kernel_rfl) (by kernel_rfl) (by kernel_rfl) (by assumption) ?_ ?_; rotate_left; focus (refine .inl ⟨by kernel_rfl, ?_⟩; intro w hSw; (try dsimp only at hSw); go_simp; (try with_reducible rfl)); skip)
  (try simp only [Act.put, List.setIfInBounds_toArray, List.set_cons_zero, List.set_cons_succ])
  (refine heldTake (i := 33) (oi := { dst := some 58, op := Op.fieldAddr 36 (Operand.tmp 1) 10, type := 0, pos := "module.go:100", after := #[], guard := none }) (v := ?_) rfl (by kernel_rfl) (by kernel_rfl) (by kernel_rfl) (by assumption) ?_ ?_; rotate_left; focus (refine .inl ⟨by kernel_rfl, ?_⟩; intro w hSw; (try dsimp only at hSw); go_simp; (try with_reducible rfl)); skip)
  (try simp only [Act.put, List.setIfInBounds_toArray, List.set_cons_zero, List.set_cons_succ])
  (refine heldTake (i := 34) (oi := { dst := some 59, op := Op.load 30 (Operand.tmp 58), type := 30, pos := "module.go:100", after := #[{ on := 33, ground := Ground.data }], guard := none }) (v := ?_) rfl (by kernel_rfl) (by kernel_rfl) (by kernel_rfl) (by assumption) ?_ ?_; rotate_left; focus (refine .inl ⟨by kernel_rfl, ?_⟩; intro w hSw; (try dsimp only at hSw); go_simp; (try with_reducible rfl)); skip)
  (try simp only [Act.put, List.setIfInBounds_toArray, List.set_cons_zero, List.set_cons_succ])
  refine wpAnyH_ready (rs := [2]) (by kernel_rfl) (by simp) ?_
  refine (AllReadyH.cons (o := { dst := some 27, op := Op.call { callee := Callee.value (Operand.func 22), args := #[Operand.tmp 26], argTypes := #[34] }, type := 70, pos := "module.go:101", after := #[{ on := 1, ground := Ground.data }], guard := none }) rfl (fun K hK => ?_) AllReadyH.nil)
  go_simp
  (go_at_call 22; (with_reducible refine (HD.out _).mono ?_); rintro e w2 ⟨rfl, hb2⟩; have HB2 := Lib.hid hb2; clear hb2)
  refine hK.out _ _ (bx0_on hHeld HB2.out) (fun hHeld2 => ?_)
  clear hK K hHeld
  (try simp only [Act.put, List.setIfInBounds_toArray, List.set_cons_zero, List.set_cons_succ])
  refine wpAnyH_ready (rs := [5]) (by kernel_rfl) (by simp) ?_
  refine (AllReadyH.cons (o := { dst := some 30, op := Op.call { callee := Callee.value (Operand.func 23), args := #[Operand.const (Value.int IntKind.u8 1), Operand.tmp 29, Operand.func 24], argTypes := #[5, 22, 76] }, type := 70, pos := "module.go:102", after := #[{ on := 4, ground := Ground.data }, { on := 2, ground := Ground.chain }], guard := none }) rfl (fun K hK => ?_) AllReadyH.nil)
  go_simp
  (go_at_call 23; (with_reducible refine (sec0_ty _ _ _ _ _).mono ?_); rintro e w5 ⟨rfl, rfl⟩)
  refine hK.out _ _ hHeld2 (fun hHeld5 => ?_)
  clear hK K hHeld2
  (try simp only [Act.put, List.setIfInBounds_toArray, List.set_cons_zero, List.set_cons_succ])
  refine wpAnyH_ready (rs := [8]) (by kernel_rfl) (by simp) ?_
  refine (AllReadyH.cons (o := { dst := some 33, op := Op.call { callee := Callee.value (Operand.func 25), args := #[Operand.const (Value.int IntKind.u8 2), Operand.tmp 32, Operand.func 26], argTypes := #[5, 23, 78] }, type := 70, pos := "module.go:103", after := #[{ on := 7, ground := Ground.data }, { on := 5, ground := Ground.chain }], guard := none }) rfl (fun K hK => ?_) AllReadyH.nil)
  go_simp
  (go_at_call 25; (with_reducible refine (sec0_im _ _ _ _ _).mono ?_); rintro e w8 ⟨rfl, rfl⟩)
  refine hK.out _ _ hHeld5 (fun hHeld8 => ?_)
  clear hK K hHeld5
  (try simp only [Act.put, List.setIfInBounds_toArray, List.set_cons_zero, List.set_cons_succ])
  refine wpAnyH_ready (rs := [11]) (by kernel_rfl) (by simp) ?_
  refine (AllReadyH.cons (o := { dst := some 36, op := Op.call { callee := Callee.value (Operand.func 27), args := #[Operand.const (Value.int IntKind.u8 3), Operand.tmp 35, Operand.func 28], argTypes := #[5, 24, 80] }, type := 70, pos := "module.go:104", after := #[{ on := 10, ground := Ground.data }, { on := 8, ground := Ground.chain }], guard := none }) rfl (fun K hK => ?_) AllReadyH.nil)
  go_simp
  (go_at_call 27; (with_reducible refine (sec0_fn _ _ _ _ _).mono ?_); rintro e w11 ⟨rfl, rfl⟩)
  refine hK.out _ _ hHeld8 (fun hHeld11 => ?_)
  clear hK K hHeld8
  (try simp only [Act.put, List.setIfInBounds_toArray, List.set_cons_zero, List.set_cons_succ])
  refine wpAnyH_ready (rs := [14]) (by kernel_rfl) (by simp) ?_
  refine (AllReadyH.cons (o := { dst := some 39, op := Op.call { callee := Callee.value (Operand.func 29), args := #[Operand.const (Value.int IntKind.u8 4), Operand.tmp 38, Operand.func 30], argTypes := #[5, 25, 82] }, type := 70, pos := "module.go:105", after := #[{ on := 13, ground := Ground.data }, { on := 11, ground := Ground.chain }], guard := none }) rfl (fun K hK => ?_) AllReadyH.nil)
  go_simp
  (go_at_call 29; (with_reducible refine (sec0_lm _ _ _ _ _).mono ?_); rintro e w14 ⟨rfl, rfl⟩)
  refine hK.out _ _ hHeld11 (fun hHeld14 => ?_)
  clear hK K hHeld11
  (try simp only [Act.put, List.setIfInBounds_toArray, List.set_cons_zero, List.set_cons_succ])
  refine wpAnyH_ready (rs := [17]) (by kernel_rfl) (by simp) ?_
  refine (AllReadyH.cons (o := { dst := some 42, op := Op.call { callee := Callee.value (Operand.func 29), args := #[Operand.const (Value.int IntKind.u8 5), Operand.tmp 41, Operand.func 31], argTypes := #[5, 25, 82] }, type := 70, pos := "module.go:106", after := #[{ on := 16, ground := Ground.data }, { on := 14, ground := Ground.chain }], guard := none }) rfl (fun K hK => ?_) AllReadyH.nil)
  go_simp
  (go_at_call 29; (with_reducible refine (sec0_lm _ _ _ _ _).mono ?_); rintro e w17 ⟨rfl, rfl⟩)
  refine hK.out _ _ hHeld14 (fun hHeld17 => ?_)
  clear hK K hHeld14
  (try simp only [Act.put, List.setIfInBounds_toArray, List.set_cons_zero, List.set_cons_succ])
  refine wpAnyH_ready (rs := [20]) (by kernel_rfl) (by simp) ?_
  refine (AllReadyH.cons (o := { dst := some 45, op := Op.call { callee := Callee.value (Operand.func 32), args := #[Operand.const (Value.int IntKind.u8 6), Operand.tmp 44, Operand.func 33], argTypes := #[5, 26, 88] }, type := 70, pos := "module.go:107", after := #[{ on := 19, ground := Ground.data }, { on := 17, ground := Ground.chain }], guard := none }) rfl (fun K hK => ?_) AllReadyH.nil)
  go_simp
  (go_at_call 32; (with_reducible refine (sec0_gl _ _ _ _ _).mono ?_); rintro e w20 ⟨rfl, rfl⟩)
  refine hK.out _ _ hHeld17 (fun hHeld20 => ?_)
  clear hK K hHeld17
  (try simp only [Act.put, List.setIfInBounds_toArray, List.set_cons_zero, List.set_cons_succ])
  refine wpAnyH_ready (rs := [23]) (by kernel_rfl) (by simp) ?_
  refine (AllReadyH.cons (o := { dst := some 48, op := Op.call { callee := Callee.value (Operand.func 34), args := #[Operand.const (Value.int IntKind.u8 7), Operand.tmp 47, Operand.func 35], argTypes := #[5, 27, 92] }, type := 70, pos := "module.go:108", after := #[{ on := 22, ground := Ground.data }, { on := 20, ground := Ground.chain }], guard := none }) rfl (fun K hK => ?_) AllReadyH.nil)
  go_simp
  (go_at_call 34; (with_reducible refine (sec0_ex _ _ _ _ _).mono ?_); rintro e w23 ⟨rfl, rfl⟩)
  refine hK.out _ _ hHeld20 (fun hHeld23 => ?_)
  clear hK K hHeld20
  (try simp only [Act.put, List.setIfInBounds_toArray, List.set_cons_zero, List.set_cons_succ])
  refine wpAnyH_ready (rs := [26]) (by kernel_rfl) (by simp) ?_
  refine (AllReadyH.cons (o := { dst := some 51, op := Op.call { callee := Callee.value (Operand.func 36), args := #[Operand.tmp 50], argTypes := #[3] }, type := 70, pos := "module.go:109", after := #[{ on := 25, ground := Ground.data }, { on := 23, ground := Ground.chain }], guard := none }) rfl (fun K hK => ?_) AllReadyH.nil)
  go_simp
  (go_at_call 36; (with_reducible refine (start0 _).mono ?_); rintro e w26 ⟨rfl, rfl⟩)
  refine hK.out _ _ hHeld23 (fun hHeld26 => ?_)
  clear hK K hHeld23
  (try simp only [Act.put, List.setIfInBounds_toArray, List.set_cons_zero, List.set_cons_succ])
  refine wpAnyH_ready (rs := [29]) (by kernel_rfl) (by simp) ?_
  refine (AllReadyH.cons (o := { dst := some 54, op := Op.call { callee := Callee.value (Operand.func 37), args := #[Operand.const (Value.int IntKind.u8 9), Operand.tmp 53, Operand.func 38], argTypes := #[5, 28, 97] }, type := 70, pos := "module.go:110", after := #[{ on := 28, ground := Ground.data }, { on := 26, ground := Ground.chain }], guard := none }) rfl (fun K hK => ?_) AllReadyH.nil)
  go_simp
  (go_at_call 37; (with_reducible refine (sec0_el _ _ _ _ _).mono ?_); rintro e w29 ⟨rfl, rfl⟩)
  refine hK.out _ _ hHeld26 (fun hHeld29 => ?_)
  clear hK K hHeld26
  (try simp only [Act.put, List.setIfInBounds_toArray, List.set_cons_zero, List.set_cons_succ])
  refine wpAnyH_ready (rs := [32]) (by kernel_rfl) (by simp) ?_
  refine (AllReadyH.cons (o := { dst := some 57, op := Op.call { callee := Callee.value (Operand.func 39), args := #[Operand.const (Value.int IntKind.u8 10), Operand.tmp 56, Operand.func 40], argTypes := #[5, 29, 103] }, type := 70, pos := "module.go:111", after := #[{ on := 31, ground := Ground.data }, { on := 29, ground := Ground.chain }], guard := none }) rfl (fun K hK => ?_) AllReadyH.nil)
  go_simp
  (go_at_call 39; (with_reducible refine (sec0_co _ _ _ _ _).mono ?_); rintro e w32 ⟨rfl, rfl⟩)
  refine hK.out _ _ hHeld29 (fun hHeld32 => ?_)
  clear hK K hHeld29
  (try simp only [Act.put, List.setIfInBounds_toArray, List.set_cons_zero, List.set_cons_succ])
  refine wpAnyH_ready (rs := [35]) (by kernel_rfl) (by simp) ?_
  refine (AllReadyH.cons (o := { dst := some 60, op := Op.call { callee := Callee.value (Operand.func 41), args := #[Operand.const (Value.int IntKind.u8 11), Operand.tmp 59, Operand.func 42], argTypes := #[5, 30, 107] }, type := 70, pos := "module.go:112", after := #[{ on := 34, ground := Ground.data }, { on := 32, ground := Ground.chain }], guard := none }) rfl (fun K hK => ?_) AllReadyH.nil)
  go_simp
  (go_at_call 41; (with_reducible refine (sec0_da _ _ _ _ _).mono ?_); rintro e w35 ⟨rfl, rfl⟩)
  refine hK.out _ _ hHeld32 (fun hHeld35 => ?_)
  clear hK K hHeld32
  (try simp only [Act.put, List.setIfInBounds_toArray, List.set_cons_zero, List.set_cons_succ])
  refine wpAnyH_ready (rs := [36]) (by kernel_rfl) (by simp) ?_
  refine (AllReadyH.cons (o := { dst := some 61, op := Op.buildSlice 113 12 #[(0, Operand.tmp 27), (1, Operand.tmp 30), (2, Operand.tmp 33), (3, Operand.tmp 36), (4, Operand.tmp 39), (5, Operand.tmp 42), (6, Operand.tmp 45), (7, Operand.tmp 48), (8, Operand.tmp 51), (9, Operand.tmp 54), (10, Operand.tmp 57), (11, Operand.tmp 60)], type := 113, pos := "module.go:100", after := #[{ on := 2, ground := Ground.data }, { on := 5, ground := Ground.data }, { on := 8, ground := Ground.data }, { on := 11, ground := Ground.data }, { on := 14, ground := Ground.data }, { on := 17, ground := Ground.data }, { on := 20, ground := Ground.data }, { on := 23, ground := Ground.data }, { on := 26, ground := Ground.data }, { on := 29, ground := Ground.data }, { on := 32, ground := Ground.data }, { on := 35, ground := Ground.data }], guard := none }) rfl (fun K hK => ?_) AllReadyH.nil)
  refine step_build12 rfl _ _ _ _ _ _ _ _ _ _ _ _ rfl (A := fun _ => none) (n := fun _ => 0) (c := fun _ => 0) rfl rfl rfl rfl rfl rfl rfl rfl rfl rfl rfl rfl ?_; intro g36 wa36 hg36 hb36 hw36; have HB36 := Lib.hid hb36; have HW36 := Lib.hid hw36; clear hb36 hw36
  refine hK.out _ _ (bx0_on hHeld35 HB36.out) (fun hHeld36 => ?_)
  clear hK K hHeld35
  (try simp only [Act.put, List.setIfInBounds_toArray, List.set_cons_zero, List.set_cons_succ])
  refine wpAnyH_ready (rs := [37]) (by kernel_rfl) (by simp) ?_
  refine (AllReadyH.cons (o := { dst := some 62, op := Op.call { callee := Callee.value (Operand.func 21), args := #[Operand.tmp 61], argTypes := #[113] }, type := 70, pos := "module.go:100", after := #[{ on := 36, ground := Ground.data }, { on := 35, ground := Ground.chain }], guard := none }) rfl (fun K hK => ?_) AllReadyH.nil)
  go_simp
  (go_at_call 21; (with_reducible refine (concatS0 (by omega) (cells12 HW36.out)).mono ?_); rintro e w37 ⟨rfl, rfl⟩)
  refine hK.out _ _ hHeld36 (fun hHeld37 => ?_)
  clear hK K hHeld36
  (try simp only [Act.put, List.setIfInBounds_toArray, List.set_cons_zero, List.set_cons_succ])
  refine wpAnyH_ready (rs := [38]) (by kernel_rfl) (by simp) ?_
  refine (AllReadyH.cons (o := { dst := some 63, op := Op.call { callee := Callee.value (Operand.func 20), args := #[Operand.tmp 62], argTypes := #[70] }, type := 45, pos := "module.go:100", after := #[{ on := 37, ground := Ground.data }, { on := 37, ground := Ground.chain }], guard := none }) rfl (fun K hK => ?_) AllReadyH.nil)
  go_simp
  (go_at_call 20; (with_reducible refine (HJ.out _).mono ?_); rintro e w38 ⟨v38, rfl, hr38, hb38⟩; obtain ⟨A38, c38, rfl, hp38⟩ := hr38.pc; have hz38 := hHeld37.1.2.size; have HB38 := Lib.hid hb38; have HR38 := Lib.hid hr38; clear hb38 hr38 hp38)
  refine hK.out _ _ (bx0_on hHeld37 HB38.out) (fun hHeld38 => ?_)
  clear hK K hHeld37
  (try simp only [Act.put, List.setIfInBounds_toArray, List.set_cons_zero, List.set_cons_succ])
  (refine heldTake (i := 39) (oi := { dst := some 3, op := Op.assign (Operand.tmp 63), type := 45, pos := "module.go:100", after := #[{ on := 38, ground := Ground.data }, { on := 38, ground := Ground.chain }, { on := 0, ground := Ground.phase }, { on := 1, ground := Ground.phase }, { on := 2, ground := Ground.phase }, { on := 3, ground := Ground.phase }, { on := 4, ground := Ground.phase }, { on := 5, ground := Ground.phase }, { on := 6, ground := Ground.phase }, { on := 7, ground := Ground.phase }, { on := 8, ground := Ground.phase }, { on := 9, ground := Ground.phase }, { on := 10, ground := Ground.phase }, { on := 11, ground := Ground.phase }, { on := 12, ground := Ground.phase }, { on := 13, ground := Ground.phase }, { on := 14, ground := Ground.phase }, { on := 15, ground := Ground.phase }, { on := 16, ground := Ground.phase }, { on := 17, ground := Ground.phase }, { on := 18, ground := Ground.phase }, { on := 19, ground := Ground.phase }, { on := 20, ground := Ground.phase }, { on := 21, ground := Ground.phase }, { on := 22, ground := Ground.phase }, { on := 23, ground := Ground.phase }, { on := 24, ground := Ground.phase }, { on := 25, ground := Ground.phase }, { on := 26, ground := Ground.phase }, { on := 27, ground := Ground.phase }, { on := 28, ground := Ground.phase }, { on := 29, ground := Ground.phase }, { on := 30, ground := Ground.phase }, { on := 31, ground := Ground.phase }, { on := 32, ground := Ground.phase }, { on := 33, ground := Ground.phase }, { on := 34, ground := Ground.phase }, { on := 35, ground := Ground.phase }, { on := 36, ground := Ground.phase }, { on := 37, ground := Ground.phase }, { on := 38, ground := Ground.phase }], guard := none }) (v := ?_) rfl (by kernel_rfl) (by kernel_rfl) (by kernel_rfl) (by assumption) ?_ ?_; rotate_left; focus (refine .inl ⟨by kernel_rfl, ?_⟩; intro w hSw; (try dsimp only at hSw); go_simp; (try with_reducible rfl)); skip)
  (try simp only [Act.put, List.setIfInBounds_toArray, List.set_cons_zero, List.set_cons_succ])
  refine wpAnyH_done (by kernel_rfl) ?_ _
  refine NoPanic.normal ?_
  have hLast := hHeld38
  clear hHeld38
  go_wp2_with (go_at_call 17; go_must ((with_reducible refine (unlessT _ _ _).mono ?_); rintro e w9 ⟨rfl, rfl⟩))
  go_ret
  exact ⟨_, rfl, HR38.out.mono hz38, hLast.1.2⟩
end Go.Proofs.YtkleadjkebofpaaGreatDoor
