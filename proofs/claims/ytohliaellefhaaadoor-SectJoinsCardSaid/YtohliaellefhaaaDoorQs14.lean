/- sect.Join, Find; the reference's Join. -/
import Derived.Test.YtohliaellefhaaaDoorQs13
import Derived.Deep.CutBlock
import Derived.Test.YtohliaellefhaaaDoorQs01
namespace Go.Proofs.YtohliaellefhaaaDoor
open Go.RowKit
set_option linter.unusedVariables false
set_option maxRecDepth 100000

set_option maxHeartbeats 1000000 in
theorem join_sect {w : World} {A : Option Addr} {c : Nat} {l : List Sct} (hl : Secs w A l) (hs : Short l) :
    Calls Tryd.prog 14 #[.slice A l.length c] w fun e w' => ∃ v, e = .returned v ∧ JRow w' w.heap.size v (joinL l) ∧ Below w.heap.size w w' := by
  have HL := Lib.hid hl
  have HS := Lib.hid hs
  obtain ⟨n, hn⟩ : ∃ n, n = l.length := ⟨_, rfl⟩
  have HN := Lib.hid hn
  have hn30 : n ≤ 30 := by rw [hn]; exact hs.1
  rw [← hn]
  have kc := fun (w : World) (C : Array Value) (n c : Nat) => Lib.run_convert_bytes_const (P := Tryd.prog) w 36 5 C n c Tryd.underlying36 Tryd.underlying5
  have hj0 : JRow (w.alloc (.cells #[.int .u8 0, .int .u8 97, .int .u8 115, .int .u8 109, .int .u8 1, .int .u8 0, .int .u8 0, .int .u8 0] 5 (8, 9))) w.heap.size (.slice (some ⟨w.heap.size, 0, none⟩) 8 8) (headL ++ putsL (l.take 0)) := by
    have e : headL ++ putsL (l.take 0) = headL := by rw [List.take_zero]; rfl
    rw [e]
    have h := lies_made w headL (8, 9)
    rw [head_cells] at h
    exact .inr ⟨_, rfl, Nat.le_refl _, by simp, by rw [size_box]; exact h⟩
  have HJ := Lib.hid hj0
  clear hl hs hn hj0
  go_enter Tryd.func14, Tryd.ntmps14
  go_wp2
  clear kc
  go_loopw [3, 10] (fun v i wr => ∃ k : Nat, k ≤ n ∧ i = .int .i64 k ∧ JRow wr w.heap.size v (headL ++ putsL (l.take k)) ∧ Below w.heap.size w wr) (fun _ i _ => n - (intOf i).toNat)
  case atStart => exact ⟨0, Nat.zero_le _, rfl, HJ.out, below_box _ _⟩
  case round =>
    obtain ⟨k, hk, rfl, hr, hb⟩ := hrel
    have hz1 := hb.size
    by_cases hlt : k < n
    · obtain ⟨x, hx⟩ : ∃ x, l[k]? = some x := ⟨_, List.getElem?_eq_getElem (by rw [← HN.out]; exact hlt)⟩
      obtain ⟨b, off, B, cc, rfl, hbl, ⟨k0, k1, k2, k3⟩, hpc⟩ := HL.out k x hx
      have m0 := (hb.cell (p := ⟨b, off + k * 4, none⟩) hbl).trans k0
      have m1 := (hb.cell (p := ⟨b, off + k * 4 + 1, none⟩) hbl).trans k1
      have m2 := (hb.cell (p := ⟨b, off + k * 4 + 2, none⟩) hbl).trans k2
      have m3 := (hb.cell (p := ⟨b, off + k * 4 + 3, none⟩) hbl).trans k3
      obtain ⟨hxn, hxb⟩ := HS.out.2 x (List.mem_of_getElem? hx)
      have hB := hb.alloc hz1 (.cells (secK x B cc) 38)
      have HB := Lib.hid hB
      have HR := Lib.hid (hr.later (below_box wr (.cells (secK x B cc) 38)))
      have HPU := Lib.hid (put_sect x B cc (wr.alloc (.cells (secK x B cc) 38)) (hpc.below hB) (by omega) (by omega))
      have hsz : w.heap.size ≤ (wr.alloc (.cells (secK x B cc) 38)).heap.size := hB.size
      have hlen1 := joinL_len (HS.out.take k)
      have hlen2 := sputL_len (n := 300) hxn (by omega) (by omega)
      have HSN := Lib.hid (putsL_snoc hx)
      unfold joinL at hlen1
      obtain ⟨y, hy⟩ : ∃ y, y = sputL x := ⟨_, rfl⟩
      rw [← hy] at HPU hlen2 HSN
      have hy0 : 0 < y.length := by omega
      have hy1 : (headL ++ putsL (l.take k)).length + y.length ≤ 1000000 := by omega
      unfold secK secV at HPU
      unfold secK at HR HB hsz
      clear hr hb k0 k1 k2 k3 hx hpc hB hlen1 hlen2 hy hxn hxb HJ
      go_wp2_with (first
        | (at_builtin; (refine jrow_app rfl _ _ rfl w.heap.size _ (headL ++ putsL (l.take k)) rfl HR2.out A2 y.length c2 y rfl rfl HP2.out hy0 hy1 hs2 ?_; intro v3 w3 hr3 hb3; have HR3 := Lib.hid hr3; have HB3 := Lib.hid hb3; clear hr3 hb3))
        | (go_at_call 11; go_must ((with_reducible refine HPU.out.mono ?_); intro e w2 hq; obtain ⟨v2, rfl, hr2, hb2⟩ := hq; obtain ⟨A2, c2, rfl, hp2⟩ := hr2.pc; have HR2 := Lib.hid (HR.out.later hb2); have HB2 := Lib.hid (HB.out.trans (hb2.mono hsz)); have HP2 := Lib.hid hp2; have hs2 : w.heap.size ≤ w2.heap.size := Nat.le_trans hsz hb2.size; clear hr2 hb2 hp2)))
      go_roundw
      case rel => exact ⟨k + 1, by omega, by go_num, by rw [HSN.out, ← List.append_assoc]; exact .inl HR3.out, HB2.out.trans HB3.out⟩
      case measure => simp [intOf]; omega
    · obtain rfl : k = n := by omega
      have HR := Lib.hid hr
      have HB := Lib.hid hb
      have HT := Lib.hid (show l.take k = l by rw [HN.out]; exact List.take_length)
      clear hr hb HJ
      go_wp2
      go_ret
      exact ⟨_, rfl, by have := HR.out; rw [HT.out] at this; exact this, HB.out⟩
end Go.Proofs.YtohliaellefhaaaDoor

/- Rows of the reference's sections; the reference's Join. -/
namespace Go.Proofs.YtohliaellefhaaaDoor
open Go.RowKit
set_option linter.unusedVariables false
set_option maxRecDepth 100000

theorem infoRef : (Tryd.prog.info? 40).map (fun i => (i.zero, i.size, i.bytes)) = some (some (.agg #[.int .i64 0, .string { data := #[] }, .string { data := #[] }, .int .i64 0]), 4, 48) := by kernel_rfl
def rowQ (x : Sct) : List Value := [.int .i64 x.id.toNat, .string (S x.name), .string (S x.body), .int .i64 0]
def RowQ (W : World) (base : Nat) (v : Value) (rows : List Sct) : Prop := W.ownsRow base 40 4 v rows.length (rows.flatMap rowQ)
/-- The slice at A reads as the reference's sections. -/
def RSecs (w : World) (A : Option Addr) (l : List Sct) : Prop :=
  ∀ j x, l[j]? = some x → ∃ b off, A = some ⟨b, off, none⟩ ∧ b < w.heap.size ∧ (w.cell? ⟨b, off + j * 4, none⟩ = some (.int .i64 x.id.toNat) ∧ w.cell? ⟨b, off + j * 4 + 1, none⟩ = some (.string (S x.name)) ∧
    w.cell? ⟨b, off + j * 4 + 2, none⟩ = some (.string (S x.body)) ∧ w.cell? ⟨b, off + j * 4 + 3, none⟩ = some (.int .i64 0))
theorem RSecs.below {w w' : World} {A : Option Addr} {l : List Sct} (h : RSecs w A l) (hb : Below w.heap.size w w') : RSecs w' A l := fun j x hx => by
  obtain ⟨b, off, e, h1, ⟨k0, k1, k2, k3⟩⟩ := h j x hx
  exact ⟨b, off, e, Nat.lt_of_lt_of_le h1 hb.size, ⟨(hb.cell (p := ⟨b, _, none⟩) h1).trans k0, (hb.cell (p := ⟨b, _, none⟩) h1).trans k1, (hb.cell (p := ⟨b, _, none⟩) h1).trans k2, (hb.cell (p := ⟨b, _, none⟩) h1).trans k3⟩⟩
theorem flatQ_get : ∀ (l : List Sct) (j : Nat) (x : Sct) (u : Nat), l[j]? = some x → u < 4 → (l.flatMap rowQ)[j * 4 + u]? = (rowQ x)[u]?
  | [], j, x, u, h, _ => by cases h
  | y :: l, 0, x, u, h, hu => by
    injection h with h
    subst h
    rw [List.flatMap_cons, Nat.zero_mul, Nat.zero_add, List.getElem?_append_left (by show u < 4; exact hu)]
  | y :: l, j + 1, x, u, h, hu => by
    rw [List.flatMap_cons, List.getElem?_append_right (by show 4 ≤ _; omega)]
    have e : (j + 1) * 4 + u - (rowQ y).length = j * 4 + u := by show (j + 1) * 4 + u - 4 = _; omega
    rw [e]
    exact flatQ_get l j x u h hu
theorem RowQ.nil (W : World) (base : Nat) : RowQ W base (.slice none 0 0) [] := World.ownsRow_nil W base _ 4
theorem RowQ.later {W W' : World} {base : Nat} {v : Value} {rows : List Sct} (h : RowQ W base v rows) (hb : Below W.heap.size W W') : RowQ W' base v rows :=
  World.ownsRow.kept h (gb_of_below none hb) (by cases v.ownBlock with
    | none => exact .inl rfl
    | some k => exact .inr (by simp))
theorem RowQ.secs {W : World} {base : Nat} {v : Value} {rows : List Sct} (h : RowQ W base v rows) : ∃ A c, v = .slice A rows.length c ∧ RSecs W A rows := by
  rcases h.2 with ⟨rfl, h0⟩ | ⟨g, cap, cur, rfl, _, hg, _, _, _, ht⟩
  · have : rows = [] := List.eq_nil_of_length_eq_zero h0
    subst this
    exact ⟨none, 0, rfl, fun j i hi => by cases hi⟩
  · refine ⟨some ⟨g, 0, none⟩, cap, rfl, fun j x hx => ?_⟩
    have hj := (List.getElem?_eq_some_iff.1 hx).1
    have key : ∀ u, u < 4 → W.cell? ⟨g, 0 + j * 4 + u, none⟩ = (rowQ x)[u]? := fun u hu => by
      rw [cell_of_row W g (0 + j * 4 + u) cur _ _ hg, ← flatQ_get rows j x u hx hu, ← ht, List.getElem?_take, if_pos (by omega)]
      simp
    exact ⟨g, 0, rfl, (Array.getElem?_eq_some_iff.1 hg).1, ⟨key 0 (by omega), key 1 (by omega), key 2 (by omega), key 3 (by omega)⟩⟩
/-- append of a new block of one. -/
theorem rowsQ_new {w : World} {ops : Array Oper} {rest : List Oper} {o : Oper} {a : Act} {Q : Exit → Act → World → Prop} (hgd : o.guard = none) (s x : Operand)
    (ho : o.op = .call { callee := .builtin .append, args := #[s, x], argTypes := #[35, 35] })
    (B : Nat) (v : Value) (l : List Sct) (hs : a.eval s = v) (hr : RowQ w B v l) (g : Nat) (r : Sct) (hx : a.eval x = .slice (some ⟨g, 0, none⟩) 1 1)
    (hg : Whole w g 40 (rowQ r).toArray) (hb : l.length ≤ 10000) (hB : B ≤ w.heap.size)
    (h : ∀ v' w', RowQ w' B v' (l ++ [r]) → Below B w w' → wpList Tryd.prog ops Q rest (a.put o.dst v') w') : wpList Tryd.prog ops Q (o :: rest) a w := by
  obtain ⟨i0, hi0, hz0, hz1, hz2⟩ := info_parts infoRef
  refine wpList_append_own _ hgd s x _ ho B 40 i0 _ 4 48 Tryd.underlying35 hi0 hz0 hz1 hz2 rfl (by omega) v _ _ hs hr ⟨g, 0, none⟩ 1 1 (rowQ r) hx rfl ?_ ?_ (by unfold maxLen; omega) (by omega) hB (fun v' w' h2 h3 _ => h v' w' ?_ (Below.grown (Below.refl _ _) h3 hB (fun k hk => (World.ownsRow.lt hr k hk).1)))
  · intro j u hu
    rw [Go.WideShapes.add_plain, Nat.zero_add, hg.cell]
    simpa using hu
  · intro u hu
    unfold rowQ at hu
    simp only [List.mem_cons, List.not_mem_nil, or_false] at hu
    rcases hu with rfl | rfl | rfl | rfl <;> rfl
  · unfold RowQ
    rw [List.length_append, List.flatMap_append]
    simpa using h2
set_option maxHeartbeats 1000000 in
theorem joinR_any {w : World} {A : Option Addr} {c : Nat} {l : List Sct} (hl : RSecs w A l) (hs : Short l) :
    Calls Tryd.prog 16 #[.slice A l.length c] w (Strs (joinL l) w) := by
  have HL := Lib.hid hl
  have HS := Lib.hid hs
  obtain ⟨n, hn⟩ : ∃ n, n = l.length := ⟨_, rfl⟩
  have HN := Lib.hid hn
  have hn30 : n ≤ 30 := by rw [hn]; exact hs.1
  rw [← hn]
  clear hl hs hn
  go_enter Tryd.func16, Tryd.ntmps16
  go_wp2_with (go_at_call 26; go_must ((with_reducible refine (refHead _).mono ?_); rintro e w1 ⟨rfl, rfl⟩))
  go_loopw [3, 4] (fun v i wr => ∃ k : Nat, k ≤ n ∧ i = .int .i64 k ∧ v = .string (S (headL ++ putsL (l.take k))) ∧ Below w.heap.size w wr) (fun _ i _ => n - (intOf i).toNat)
  case atStart => exact ⟨0, Nat.zero_le _, rfl, by rw [List.take_zero]; rfl, Below.refl _ _⟩
  case round =>
    obtain ⟨k, hk, rfl, rfl, hb⟩ := hrel
    have hz1 := hb.size
    by_cases hlt : k < n
    · obtain ⟨x, hx⟩ : ∃ x, l[k]? = some x := ⟨_, List.getElem?_eq_getElem (by rw [← HN.out]; exact hlt)⟩
      obtain ⟨b, off, rfl, hbl, ⟨k0, k1, k2, k3⟩⟩ := HL.out k x hx
      have m0 := (hb.cell (p := ⟨b, off + k * 4, none⟩) hbl).trans k0
      have m1 := (hb.cell (p := ⟨b, off + k * 4 + 1, none⟩) hbl).trans k1
      have m2 := (hb.cell (p := ⟨b, off + k * 4 + 2, none⟩) hbl).trans k2
      have m3 := (hb.cell (p := ⟨b, off + k * 4 + 3, none⟩) hbl).trans k3
      obtain ⟨hxn, hxb⟩ := HS.out.2 x (List.mem_of_getElem? hx)
      have HB := Lib.hid hb
      have HPU := Lib.hid (fun W => refPut_sect x W (by omega) (by omega))
      have hlen1 := joinL_len (HS.out.take k)
      have hlen2 := sputL_len (n := 300) hxn (by omega) (by omega)
      have HSN := Lib.hid (putsL_snoc hx)
      unfold joinL at hlen1
      obtain ⟨y, hy⟩ : ∃ y, y = sputL x := ⟨_, rfl⟩
      rw [← hy] at HPU hlen2 HSN
      obtain ⟨z, hz⟩ : ∃ z, z = headL ++ putsL (l.take k) := ⟨_, rfl⟩
      rw [← hz] at hlen1 ⊢
      have HZ := Lib.hid hz
      have s1 := S_size z
      have s2 := S_size y
      have q1 : ¬ 9223372036854775807 < (S z).size + (S y).size := by omega
      have e1 : S z ++ S y = S (headL ++ putsL (l.take (k + 1))) := by rw [S_append, HSN.out, ← List.append_assoc, hz]
      have HE := Lib.hid e1
      unfold rsecV at HPU
      clear hb k0 k1 k2 k3 hx hlen1 hlen2 hy hxn hxb s1 s2 e1 hz
      go_wp2_with (go_at_call 12; go_must ((with_reducible refine (HPU.out _).mono ?_); rintro e w2 ⟨rfl, hb2⟩; have HB2 := Lib.hid (HB.out.trans (hb2.mono hz1)); clear hb2))
      go_roundw
      case rel => exact ⟨k + 1, by omega, by go_num, by rw [HE.out], HB2.out⟩
      case measure => simp [intOf]; omega
    · obtain rfl : k = n := by omega
      have HB := Lib.hid hb
      have HT := Lib.hid (show l.take k = l by rw [HN.out]; exact List.take_length)
      clear hb
      go_wp2
      go_ret
      exact ⟨by rw [HT.out]; rfl, HB.out⟩
end Go.Proofs.YtohliaellefhaaaDoor

/- sect.Find. -/
namespace Go.Proofs.YtohliaellefhaaaDoor
open Go.RowKit
set_option linter.unusedVariables false
set_option maxRecDepth 100000

/-- A section of this number, and of this name, if it is custom. -/
def hit (id : Int) (nm : List UInt8) (x : Sct) : Prop := (x.id.toNat : Int) = id ∧ (id ≠ 0 ∨ x.name = nm)
instance (id : Int) (nm : List UInt8) (x : Sct) : Decidable (hit id nm x) := by unfold hit; infer_instance
def fdP (id : Int) (nm : List UInt8) (l : List Sct) : Int × Int := l.foldl (fun a x => (a.1 + 1, if a.2 < 0 ∧ hit id nm x then a.1 else a.2)) (0, -1)
/-- The place of the first; -1: there is none. -/
def fdZ (id : Int) (nm : List UInt8) (l : List Sct) : Int := (fdP id nm l).2
theorem fd_snoc' (id : Int) (nm : List UInt8) (l : List Sct) (x : Sct) : fdP id nm (l ++ [x]) = ((fdP id nm l).1 + 1, if (fdP id nm l).2 < 0 ∧ hit id nm x then (fdP id nm l).1 else (fdP id nm l).2) := by
  unfold fdP; rw [List.foldl_append]; rfl
theorem list_snoc {α : Type} : ∀ l : List α, l = [] ∨ ∃ r x, l = r ++ [x]
  | l => by
    by_cases h : l = []
    · exact .inl h
    · exact .inr ⟨l.dropLast, l.getLast h, (List.dropLast_concat_getLast h).symm⟩
theorem fd_len (id : Int) (nm : List UInt8) : ∀ (n : Nat) (l : List Sct), l.length = n → (fdP id nm l).1 = n
  | 0, l, h => by
    have : l = [] := List.eq_nil_of_length_eq_zero h
    subst this; rfl
  | n + 1, l, h => by
    rcases list_snoc l with rfl | ⟨r, x, rfl⟩
    · simp at h
    · rw [fd_snoc', fd_len id nm n r (by simp at h; omega)]; simp
theorem fd_snoc {id : Int} {nm : List UInt8} {l : List Sct} {k : Nat} {x : Sct} (h : l[k]? = some x) : fdZ id nm (l.take (k + 1)) = if fdZ id nm (l.take k) < 0 ∧ hit id nm x then (k : Int) else fdZ id nm (l.take k) := by
  have hk := (List.getElem?_eq_some_iff.1 h).1
  unfold fdZ
  rw [List.take_add_one, h]
  show (fdP id nm (l.take k ++ [x])).2 = _
  rw [fd_snoc', fd_len id nm k (l.take k) (by rw [List.length_take]; omega)]
theorem fd_stay {id : Int} {nm : List UInt8} {l : List Sct} {k : Nat} (h : 0 ≤ fdZ id nm (l.take k)) : ∀ m, k ≤ m → fdZ id nm (l.take m) = fdZ id nm (l.take k)
  | 0, hm => by rw [show k = 0 by omega]
  | m + 1, hm => by
    by_cases he : k = m + 1
    · rw [he]
    · have ih := fd_stay h m (by omega)
      cases hx : l[m]? with
      | none =>
        have : l.length ≤ m := List.getElem?_eq_none_iff.1 hx
        rw [List.take_of_length_le (by omega : l.length ≤ m + 1), ← ih, List.take_of_length_le this]
      | some x => rw [fd_snoc hx, if_neg (by omega), ih]
theorem fd_found {id : Int} {nm : List UInt8} {l : List Sct} {k : Nat} {x : Sct} (h : l[k]? = some x) (h0 : fdZ id nm (l.take k) = -1) (hh : hit id nm x) : fdZ id nm l = k := by
  have hk := (List.getElem?_eq_some_iff.1 h).1
  have h1 : fdZ id nm (l.take (k + 1)) = k := by rw [fd_snoc h, if_pos ⟨by omega, hh⟩]
  have h2 := fd_stay (by omega : 0 ≤ fdZ id nm (l.take (k + 1))) l.length (by omega)
  rw [List.take_length, h1] at h2
  exact h2
theorem fd_go {id : Int} {nm : List UInt8} {l : List Sct} {k : Nat} {x : Sct} (h : l[k]? = some x) (h0 : fdZ id nm (l.take k) = -1) (hh : ¬ hit id nm x) : fdZ id nm (l.take (k + 1)) = -1 := by
  rw [fd_snoc h, if_neg (fun hq => hh hq.2), h0]
/-- What Find hands back. -/
def FindP (id : Int) (nm : List UInt8) (l : List Sct) (w : World) (e : Ending) (w' : World) : Prop :=
  ((∃ (j : Nat) (x : Sct) (A : Option Addr) (c : Nat), fdZ id nm l = j ∧ l[j]? = some x ∧ e = .returned (.tuple #[.agg #[.int .u8 x.id.toNat, .string (S x.name), .slice A x.body.length c, .int .i64 x.off], .bool true]) ∧ Pc A c x.body w') ∨
    (fdZ id nm l = -1 ∧ e = .returned (.tuple #[.agg #[.int .u8 0, .string { data := #[] }, .slice none 0 0, .int .i64 0], .bool false]))) ∧ Below w.heap.size w w'
theorem S_beq2 (a b : List UInt8) : ((S a).toList == (S b).toList) = (a == b) := by rw [S_toList, S_toList]
set_option maxHeartbeats 2000000 in
theorem find_sect {w : World} {A : Option Addr} {c : Nat} {l : List Sct} (id : Int) (nm : List UInt8) (hl : Secs w A l) (hs : Short l) :
    Calls Tryd.prog 15 #[.slice A l.length c, .int .u8 id, .string (S nm)] w (FindP id nm l w) := by
  have HL := Lib.hid hl
  have HS := Lib.hid hs
  obtain ⟨n, hn⟩ : ∃ n, n = l.length := ⟨_, rfl⟩
  have HN := Lib.hid hn
  have hn30 : n ≤ 30 := by rw [hn]; exact hs.1
  rw [← hn]
  have HR0 := Lib.hid (Whole.made w 38 #[.int .u8 0, .string { data := #[] }, .slice none 0 0, .int .i64 0])
  clear hl hs hn
  go_enter Tryd.func15, Tryd.ntmps15
  go_wp2
  go_loopw [12] (fun i wr => ∃ k : Nat, k ≤ n ∧ i = .int .i64 k ∧ fdZ id nm (l.take k) = -1 ∧ Below w.heap.size w wr ∧ Whole wr w.heap.size 38 #[.int .u8 0, .string { data := #[] }, .slice none 0 0, .int .i64 0]) (fun i _ => n - (intOf i).toNat)
  case atStart => exact ⟨0, Nat.zero_le _, rfl, by rw [List.take_zero]; rfl, below_box _ _, HR0.out⟩
  case round =>
    obtain ⟨k, hk, rfl, hf, hb, hR⟩ := hrel
    have hz1 := hb.size
    by_cases hlt : k < n
    · obtain ⟨x, hx⟩ : ∃ x, l[k]? = some x := ⟨_, List.getElem?_eq_getElem (by rw [← HN.out]; exact hlt)⟩
      obtain ⟨b, off, B, cc, rfl, hbl, ⟨k0, k1, k2, k3⟩, hpc⟩ := HL.out k x hx
      have m0 := (hb.cell (p := ⟨b, off + k * 4, none⟩) hbl).trans k0
      have m1 := (hb.cell (p := ⟨b, off + k * 4 + 1, none⟩) hbl).trans k1
      have m2 := (hb.cell (p := ⟨b, off + k * 4 + 2, none⟩) hbl).trans k2
      have m3 := (hb.cell (p := ⟨b, off + k * 4 + 3, none⟩) hbl).trans k3
      clear k0 k1 k2 k3
      have hRl := hR.lt
      have HB := Lib.hid (hb.alloc hz1 (.cells #[.int .u8 x.id.toNat, .string (S x.name), .slice B x.body.length cc, .int .i64 x.off] 38))
      have HR := Lib.hid (hR.alloc (.cells #[.int .u8 x.id.toNat, .string (S x.name), .slice B x.body.length cc, .int .i64 x.off] 38))
      have HX := Lib.hid (Whole.made wr 38 #[.int .u8 x.id.toNat, .string (S x.name), .slice B x.body.length cc, .int .i64 x.off])
      have hB' : x.body.length ≤ 100 := (HS.out.2 x (List.mem_of_getElem? hx)).2
      by_cases hh : hit id nm x
      · have HFD := Lib.hid (fd_found hx hf hh)
        have HXX := Lib.hid hx
        have HC := Lib.hid (clone_all (cap := cc) (hpc.below HB.out).lies (by omega))
        have e5 : ((x.id.toNat : Int) == id) = true := by simpa using hh.1
        by_cases h0 : id = 0
        · have d2 : (id != 0) = false := by simpa using h0
          have hnm : x.name = nm := hh.2.resolve_left (fun h => h h0)
          have d3 : ((S x.name).toList == (S nm).toList) = true := by rw [S_beq2]; simpa using hnm
          clear hh hx hf hb hR hpc HR0 h0 hnm
          go_wp2_with (go_at_call 25; go_must ((with_reducible refine HC.out.mono ?_); intro e w3 hq; obtain ⟨v, rfl, hr, hbc⟩ := hq; obtain ⟨A3, c3, rfl⟩ := hr.slice; have hx3 := HX.out.below hbc; have hr3 := HR.out.below hbc; have y2 := hx3.cell 2; have y3 := hx3.frozen 2; have hg3 : w3.grownBy (w3.setCell ⟨wr.heap.size, 2, none⟩ (.slice A3 x.body.length c3)) (some wr.heap.size) := gb_put (p := ⟨wr.heap.size, 2, none⟩) (gb_refl _ _) (.inl rfl) _; have hx4 := hx3.put 2 (.slice A3 x.body.length c3); have hr4 := hr3.grown hg3 (by simp only [ne_eq, Option.some.injEq]; omega); have z0 := hx4.cell 0; have z1 := hx4.cell 1; have z2 := hx4.cell 2; have z3 := hx4.cell 3; simp at z0 z1 z2 z3; have r0 := hr4.cell 0; have r1 := hr4.cell 1; have r2 := hr4.cell 2; have r3 := hr4.cell 3; simp only [List.getElem?_toArray, List.getElem?_cons_zero, List.getElem?_cons_succ] at y2 r0 r1 r2 r3; have f0 := hr4.frozen 0; have f1 := hr4.frozen 1; have f2 := hr4.frozen 2; have f3 := hr4.frozen 3; have HR4 := Lib.hid hr4; have HG4 := Lib.hid hg3; have HB3 := Lib.hid (HB.out.trans (hbc.mono HB.out.size)); have HRW := Lib.hid hr; clear hr hbc hx3 hr3 hg3 hx4 hr4))
          obtain ⟨p4, j4⟩ := put4 (u0 := .int .u8 x.id.toNat) (u1 := .string (S x.name)) (u2 := .slice A3 x.body.length c3) (u3 := .int .i64 x.off) HR4.out
          have q0 := p4.cell 0
          have q1 := p4.cell 1
          have q2 := p4.cell 2
          have q3 := p4.cell 3
          simp only [List.getElem?_toArray, List.getElem?_cons_zero, List.getElem?_cons_succ] at q0 q1 q2 q3
          have hrow := (HRW.out.past HG4.out (by simp)).past j4 (by simp; omega)
          obtain ⟨A6, c6, e6, hp6⟩ := hrow.pc
          injection e6 with e7 e8 e9
          subst e7; subst e9
          refine bodyPost_ret (v := .tuple #[.agg #[.int .u8 x.id.toNat, .string (S x.name), .slice A3 x.body.length c3, .int .i64 x.off], .bool true]) (by simp [results, Tryd.results15, go_sem, q0, q1, q2, q3]) rfl ⟨.inl ⟨k, x, A3, c3, HFD.out, HXX.out, rfl, hp6⟩, below_new (below_new HB3.out HG4.out hz1) j4 (Nat.le_refl _)⟩
        · have d2 : (id != 0) = true := by simpa using h0
          clear hh hx hf hb hR hpc HR0 h0
          go_wp2_with (go_at_call 25; go_must ((with_reducible refine HC.out.mono ?_); intro e w3 hq; obtain ⟨v, rfl, hr, hbc⟩ := hq; obtain ⟨A3, c3, rfl⟩ := hr.slice; have hx3 := HX.out.below hbc; have hr3 := HR.out.below hbc; have y2 := hx3.cell 2; have y3 := hx3.frozen 2; have hg3 : w3.grownBy (w3.setCell ⟨wr.heap.size, 2, none⟩ (.slice A3 x.body.length c3)) (some wr.heap.size) := gb_put (p := ⟨wr.heap.size, 2, none⟩) (gb_refl _ _) (.inl rfl) _; have hx4 := hx3.put 2 (.slice A3 x.body.length c3); have hr4 := hr3.grown hg3 (by simp only [ne_eq, Option.some.injEq]; omega); have z0 := hx4.cell 0; have z1 := hx4.cell 1; have z2 := hx4.cell 2; have z3 := hx4.cell 3; simp at z0 z1 z2 z3; have r0 := hr4.cell 0; have r1 := hr4.cell 1; have r2 := hr4.cell 2; have r3 := hr4.cell 3; simp only [List.getElem?_toArray, List.getElem?_cons_zero, List.getElem?_cons_succ] at y2 r0 r1 r2 r3; have f0 := hr4.frozen 0; have f1 := hr4.frozen 1; have f2 := hr4.frozen 2; have f3 := hr4.frozen 3; have HR4 := Lib.hid hr4; have HG4 := Lib.hid hg3; have HB3 := Lib.hid (HB.out.trans (hbc.mono HB.out.size)); have HRW := Lib.hid hr; clear hr hbc hx3 hr3 hg3 hx4 hr4))
          obtain ⟨p4, j4⟩ := put4 (u0 := .int .u8 x.id.toNat) (u1 := .string (S x.name)) (u2 := .slice A3 x.body.length c3) (u3 := .int .i64 x.off) HR4.out
          have q0 := p4.cell 0
          have q1 := p4.cell 1
          have q2 := p4.cell 2
          have q3 := p4.cell 3
          simp only [List.getElem?_toArray, List.getElem?_cons_zero, List.getElem?_cons_succ] at q0 q1 q2 q3
          have hrow := (HRW.out.past HG4.out (by simp)).past j4 (by simp; omega)
          obtain ⟨A6, c6, e6, hp6⟩ := hrow.pc
          injection e6 with e7 e8 e9
          subst e7; subst e9
          refine bodyPost_ret (v := .tuple #[.agg #[.int .u8 x.id.toNat, .string (S x.name), .slice A3 x.body.length c3, .int .i64 x.off], .bool true]) (by simp [results, Tryd.results15, go_sem, q0, q1, q2, q3]) rfl ⟨.inl ⟨k, x, A3, c3, HFD.out, HXX.out, rfl, hp6⟩, below_new (below_new HB3.out HG4.out hz1) j4 (Nat.le_refl _)⟩
      · have HFD := Lib.hid (fd_go hx hf hh)
        by_cases he : (x.id.toNat : Int) = id
        · have h0 : id = 0 ∧ x.name ≠ nm := ⟨by by_cases h : id = 0; exact h; exact absurd ⟨he, .inl h⟩ hh, fun h => hh ⟨he, .inr h⟩⟩
          have d1 : ((x.id.toNat : Int) == id) = true := by simpa using he
          have d2 : (id != 0) = false := by simpa using h0.1
          have d3 : ((S x.name).toList == (S nm).toList) = false := by rw [S_beq2]; simpa using h0.2
          clear he h0 hh hf hb hR hx hpc HR0
          go_wp2
          go_roundw
          case rel => exact ⟨k + 1, by omega, by go_num, HFD.out, HB.out, HR.out⟩
          case measure => simp [intOf]; omega
        · have d1 : ((x.id.toNat : Int) == id) = false := by simpa using he
          clear he hh hf hb hR hx hpc HR0
          go_wp2
          go_roundw
          case rel => exact ⟨k + 1, by omega, by go_num, HFD.out, HB.out, HR.out⟩
          case measure => simp [intOf]; omega
    · obtain rfl : k = n := by omega
      have HT := Lib.hid (show fdZ id nm l = -1 by have : l.take k = l := by rw [HN.out]; exact List.take_length
                                                   rw [← this]; exact hf)
      have HB := Lib.hid hb
      have f0 := hR.frozen 0
      have f1 := hR.frozen 1
      have f2 := hR.frozen 2
      have f3 := hR.frozen 3
      have c0 := hR.cell 0
      have c1 := hR.cell 1
      have c2 := hR.cell 2
      have c3 := hR.cell 3
      simp only [List.getElem?_toArray, List.getElem?_cons_zero, List.getElem?_cons_succ] at c0 c1 c2 c3
      have HR := Lib.hid hR
      clear hb hR HR0 hf
      go_wp2
      obtain ⟨p4, j4⟩ := put4 (u0 := .int .u8 0) (u1 := .string { data := #[] }) (u2 := .slice none 0 0) (u3 := .int .i64 0) HR.out
      have q0 := p4.cell 0
      have q1 := p4.cell 1
      have q2 := p4.cell 2
      have q3 := p4.cell 3
      simp only [List.getElem?_toArray, List.getElem?_cons_zero, List.getElem?_cons_succ] at q0 q1 q2 q3
      refine bodyPost_ret (v := .tuple #[.agg #[.int .u8 0, .string { data := #[] }, .slice none 0 0, .int .i64 0], .bool false]) (by simp [results, Tryd.results15, go_sem, q0, q1, q2, q3]) rfl ⟨.inr ⟨HT.out, rfl⟩, below_new HB.out j4 (Nat.le_refl _)⟩
end Go.Proofs.YtohliaellefhaaaDoor

/- What is written of sections is read back. No walk here. -/
namespace Go.Proofs.YtohliaellefhaaaDoor
open Go.RowKit Go.Lib
set_option linter.unusedVariables false
set_option maxRecDepth 100000

theorem atMostR_at {l r : List UInt8} {k : Nat} {x m c : Int} (h : l.drop k = lebL x ++ r) (h0 : 0 ≤ x) (h1 : x ≤ 4294967295) : atMostR l k m c = if x ≤ m then .ok x (k + (lebL x).length) else .err c k := by
  unfold atMostR
  rw [indexR_at h h0 h1, Res.bind_ok]
/-- A name and what is behind it, read from the beginning. -/
theorem nameR_put {nm body : List UInt8} (hn : nm.length ≤ 100000) : nameR (lebL nm.length ++ nm ++ body) 0 =
    if (nm.length : Int) ≤ 200 then (if validD nm then .ok nm ((lebL (nm.length : Int)).length + nm.length) else .err 4 ((lebL (nm.length : Int)).length : Nat)) else .err 13 0 := by
  have hd : (lebL (nm.length : Int) ++ nm ++ body).drop 0 = lebL (nm.length : Int) ++ (nm ++ body) := by simp
  unfold nameR
  rw [atMostR_at hd (by omega) (by omega)]
  by_cases h : (nm.length : Int) ≤ 200
  · rw [if_pos h, if_pos h, Res.bind_ok, Int.toNat_natCast, Nat.zero_add]
    have e : ((lebL (nm.length : Int) ++ nm ++ body).drop (lebL (nm.length : Int)).length).take nm.length = nm := by
      rw [List.append_assoc, List.drop_left, List.take_left]
    rw [if_pos (by simp only [List.length_append]; omega), e]
  · rw [if_neg h, if_neg h, Res.bind_err]
    rfl
theorem name_drop {nm body : List UInt8} : (lebL (nm.length : Int) ++ nm ++ body).drop ((lebL (nm.length : Int)).length + nm.length) = body := by
  have := List.drop_left (l₁ := lebL (nm.length : Int) ++ nm) (l₂ := body)
  rwa [List.length_append] at this
theorem contR_put {l inner r : List UInt8} {k : Nat} (h : l.drop k = lebL inner.length ++ (inner ++ r)) (hk : k ≤ l.length) (hi : inner.length ≤ 1000000) :
    contR l k = .ok inner.length (k + (lebL (inner.length : Int)).length) ∧ (l.drop (k + (lebL (inner.length : Int)).length)).take inner.length = inner := by
  have hd := drop_past h
  have hlen : inner.length + r.length = l.length - (k + (lebL (inner.length : Int)).length) := by
    have := congrArg List.length hd
    rw [List.length_drop, List.length_append] at this
    omega
  have hle : k + (lebL (inner.length : Int)).length ≤ l.length := by
    have := congrArg List.length h
    rw [List.length_drop, List.length_append] at this
    omega
  refine ⟨?_, by rw [hd, List.take_left]⟩
  unfold contR
  rw [indexR_at h (by omega) (by omega), Res.bind_ok, Int.toNat_natCast, if_pos (by omega)]
/-- May this section come, behind the number last? -/
def okS (last : Nat) (x : Sct) : Prop := if x.id.toNat ≠ 0 then last < x.id.toNat ∧ x.id.toNat ≤ 11 else x.name.length ≤ 200 ∧ validD x.name = true
def same2 (y x : Sct) : Prop := y.id = x.id ∧ (x.id.toNat = 0 → y.name = x.name) ∧ y.body = x.body
theorem next_put {l r : List UInt8} {k : Nat} {x : Sct} (h : l.drop k = sputL x ++ r) (hk : k ≤ l.length) (hn : x.name.length ≤ 100000) (hb : x.body.length ≤ 100000) :
    (x.id.toNat ≤ 11 ∧ (x.id.toNat = 0 → x.name.length ≤ 200 ∧ validD x.name = true) ∧ ∃ y, nextR l k = .ok y (k + (sputL x).length) ∧ same2 y x) ∨
    (¬ (x.id.toNat ≤ 11 ∧ (x.id.toNat = 0 → x.name.length ≤ 200 ∧ validD x.name = true)) ∧ ∃ c a, nextR l k = .err c a) := by
  have hin := innerL_len hn hb (by omega)
  have h' : l.drop k = x.id :: (lebL (innerL x).length ++ (innerL x ++ r)) := by rw [h]; unfold sputL; simp
  have hd1 : l.drop (k + 1) = lebL (innerL x).length ++ (innerL x ++ r) := drop_past (a := [x.id]) (by simpa using h')
  have hk1 : k + 1 ≤ l.length := by
    have := congrArg List.length h'
    rw [List.length_drop, List.length_cons] at this
    omega
  obtain ⟨hc1, hc2⟩ := contR_put hd1 hk1 (by omega)
  have hlen : (sputL x).length = 1 + (lebL ((innerL x).length : Int)).length + (innerL x).length := by unfold sputL; simp only [List.length_append, List.length_singleton]
  unfold nextR numR
  rw [byteR_at h', Res.bind_ok]
  by_cases h11 : (x.id.toNat : Int) ≤ 11
  · rw [if_pos h11, Res.bind_ok, hc1, Res.bind_ok, hc2]
    by_cases h0 : x.id.toNat = 0
    · have hi : innerL x = lebL x.name.length ++ x.name ++ x.body := by unfold innerL; rw [if_pos h0]
      rw [if_pos h0]
      have hnm := nameR_put (nm := x.name) (body := x.body) hn
      rw [← hi] at hnm
      rw [hnm]
      by_cases h2 : (x.name.length : Int) ≤ 200
      · rw [if_pos h2]
        by_cases hv : validD x.name = true
        · rw [if_pos hv]
          refine .inl ⟨by omega, fun _ => ⟨by omega, hv⟩, (⟨x.id, x.name, (innerL x).drop ((lebL (x.name.length : Int)).length + x.name.length), ((k + 1 + (lebL ((innerL x).length : Int)).length : Nat) : Int) + (((lebL (x.name.length : Int)).length + x.name.length : Nat) : Int)⟩ : Sct), ?_, ?_⟩
          · rw [hlen]
            show Res.ok _ _ = Res.ok _ _
            congr 1
            omega
          · refine ⟨rfl, fun _ => rfl, ?_⟩
            show (innerL x).drop _ = x.body
            rw [hi]
            exact name_drop
        · rw [if_neg hv]
          exact .inr ⟨fun hq => hv (hq.2 h0).2, _, _, rfl⟩
      · rw [if_neg h2]
        exact .inr ⟨fun hq => h2 (by have := (hq.2 h0).1; omega), _, _, rfl⟩
    · rw [if_neg h0]
      have hi : innerL x = x.body := by unfold innerL; rw [if_neg h0]
      refine .inl ⟨by omega, fun hq => absurd hq h0, ⟨x.id, [], x.body, ((k + 1 + (lebL ((innerL x).length : Int)).length : Nat) : Int)⟩, ?_, ⟨rfl, fun hq => absurd hq h0, rfl⟩⟩
      rw [hlen, ← hi]
      show Res.ok _ _ = Res.ok _ _
      congr 1
      omega
  · rw [if_neg h11, Res.bind_err]
    exact .inr ⟨fun hq => h11 (by have := hq.1; omega), _, _, rfl⟩
/-- Do the numbers rise, and may the names be? -/
def riseF : Nat → List Sct → Bool
  | _, [] => true
  | last, x :: r => if x.id.toNat ≠ 0 then decide (last < x.id.toNat) && decide (x.id.toNat ≤ 11) && riseF x.id.toNat r else decide (x.name.length ≤ 200) && validD x.name && riseF last r
/-- The sections that were read are those that were written. -/
def Alike (xs r : List Sct) : Prop := xs.length = r.length ∧ ∀ (j : Nat) (x : Sct), r[j]? = some x → ∃ y, xs[j]? = some y ∧ same2 y x
theorem Alike.cons {y x : Sct} {xs r : List Sct} (h : same2 y x) (hr : Alike xs r) : Alike (y :: xs) (x :: r) := by
  refine ⟨by simp [hr.1], fun j z hz => ?_⟩
  cases j with
  | zero => injection hz with hz; subst hz; exact ⟨y, rfl, h⟩
  | succ j => exact hr.2 j z hz
theorem restR_puts {l : List UInt8} : ∀ (r : List Sct) (f k last : Nat) (acc : List Sct), l.drop k = putsL r → k ≤ l.length → r.length < f → acc.length + r.length ≤ 10000 → (∀ x ∈ r, x.name.length ≤ 300 ∧ x.body.length ≤ 100) →
    (riseF last r = true ∧ ∃ xs, restR l f k last acc = .ok (acc ++ xs) l.length ∧ Alike xs r) ∨ (riseF last r = false ∧ ∃ c a, restR l f k last acc = .err c a)
  | [], 0, k, last, acc, _, _, hf, _, _ => by simp at hf
  | [], f + 1, k, last, acc, h, hk, hf, ha, hs => by
    have hz : k = l.length := by
      have := congrArg List.length h
      rw [List.length_drop] at this
      have e : (putsL []).length = 0 := rfl
      omega
    subst hz
    exact .inl ⟨rfl, [], by rw [restR_end, List.append_nil], rfl, fun j x hx => by cases hx⟩
  | x :: r, 0, k, last, acc, _, _, hf, _, _ => by simp at hf
  | x :: r, f + 1, k, last, acc, h, hk, hf, ha, hs => by
    have h' : l.drop k = sputL x ++ putsL r := by rw [h]; unfold putsL; rw [List.flatMap_cons]
    obtain ⟨hn, hb⟩ := hs x (by simp)
    have hlen := sputL_len (n := 300) hn (by omega) (by omega)
    have hne : k ≠ l.length := fun e => by
      have := congrArg List.length h'
      rw [List.length_drop, List.length_append, e] at this
      omega
    have hk' : k + (sputL x).length ≤ l.length := by
      have := congrArg List.length h'
      rw [List.length_drop, List.length_append] at this
      omega
    have hs' : ∀ y ∈ r, y.name.length ≤ 300 ∧ y.body.length ≤ 100 := fun y hy => hs y (List.mem_cons_of_mem _ hy)
    simp only [List.length_cons] at hf ha
    rcases next_put h' hk (by omega) (by omega) with ⟨h1, h2, y, hy, hsm⟩ | ⟨h1, c, a, hy⟩
    · by_cases hlow : y.id.toNat ≠ 0 ∧ ¬ last < y.id.toNat
      · refine .inr ⟨?_, _, _, restR_low hne hy hlow.1 hlow.2⟩
        unfold riseF
        rw [if_pos (by rw [← hsm.1]; exact hlow.1), ← hsm.1]
        simp [hlow.2]
      · rw [restR_next hne hy hlow (by omega)]
        have ih := restR_puts r f (k + (sputL x).length) (if y.id.toNat ≠ 0 then y.id.toNat else last) (acc ++ [y]) (drop_past h') hk' (by omega) (by rw [List.length_append, List.length_singleton]; omega) hs'
        have hr : riseF last (x :: r) = riseF (if y.id.toNat ≠ 0 then y.id.toNat else last) r := by
          conv => lhs; unfold riseF
          rw [hsm.1] at hlow ⊢
          by_cases h0 : x.id.toNat ≠ 0
          · rw [if_pos h0, if_pos h0]
            have : last < x.id.toNat := by omega
            simp [this, h1]
          · rw [if_neg h0, if_neg h0]
            obtain ⟨q1, q2⟩ := h2 (by omega)
            simp [q1, q2]
        rcases ih with ⟨h3, xs, h4, h5⟩ | ⟨h3, c, a, h4⟩
        · exact .inl ⟨by rw [hr, h3], y :: xs, by rw [h4]; simp, h5.cons hsm⟩
        · exact .inr ⟨by rw [hr, h3], c, a, h4⟩
    · refine .inr ⟨?_, c, a, restR_bad hne hy⟩
      unfold riseF
      by_cases h0 : x.id.toNat ≠ 0
      · rw [if_pos h0]
        have : ¬ x.id.toNat ≤ 11 := fun hq => h1 ⟨hq, fun e => absurd e h0⟩
        simp [this]
      · rw [if_neg h0]
        by_cases h2 : x.name.length ≤ 200
        · have hv : validD x.name = false := by
            cases hv : validD x.name with
            | false => rfl
            | true => exact absurd ⟨by omega, fun _ => ⟨h2, hv⟩⟩ h1
          simp [hv]
        · simp [h2]
theorem Short.len {l : List Sct} (h : Short l) : (joinL l).length ≤ 1000000 := by have := joinL_len h; omega
/-- Split of what Join wrote. -/
theorem splitR_join {l : List Sct} (h : Short l) : (riseF 0 l = true ∧ ∃ xs k, splitR (joinL l) = .ok xs k ∧ Alike xs l) ∨ (riseF 0 l = false ∧ ∃ c a, splitR (joinL l) = .err c a) := by
  have h8 : headL.length = 8 := rfl
  have hd : (joinL l).drop 8 = putsL l := by unfold joinL; exact List.drop_left' h8
  have hle : 8 ≤ (joinL l).length := by unfold joinL; rw [List.length_append]; omega
  have hlen : l.length < (joinL l).length + 1 := by
    have : ∀ r : List Sct, r.length ≤ (putsL r).length := fun r => by
      induction r with
      | nil => simp
      | cons x r ih =>
        unfold putsL at ih ⊢
        rw [List.flatMap_cons, List.length_append, List.length_cons]
        have : 1 ≤ (sputL x).length := by unfold sputL; rw [List.length_append, List.length_append, List.length_singleton]; omega
        omega
    have := this l
    unfold joinL
    rw [List.length_append]
    omega
  rcases restR_puts l _ 8 0 [] hd hle hlen (by have := h.1; rw [List.length_nil]; omega) h.2 with ⟨h1, xs, h2, h3⟩ | ⟨h1, c, a, h2⟩
  · exact .inl ⟨h1, xs, _, h2, h3⟩
  · exact .inr ⟨h1, c, a, h2⟩
theorem join_head (l : List Sct) : (joinL l).take 8 = headL ∧ 8 ≤ (joinL l).length := by
  have h8 : headL.length = 8 := rfl
  unfold joinL
  exact ⟨List.take_left' h8, by rw [List.length_append]; omega⟩

/-- The number last seen, and whether all have risen. -/
def lrP (l : List Sct) : Nat × Bool := l.foldl (fun a x => if x.id.toNat ≠ 0 then (x.id.toNat, a.2 && decide (a.1 < x.id.toNat) && decide (x.id.toNat ≤ 11)) else (a.1, a.2 && decide (x.name.length ≤ 200) && decide (0 ≤ countZ x.name))) (0, true)
theorem count_valid (t : List UInt8) : decide (0 ≤ countZ t) = validD t := by
  have := same_valid t
  cases h1 : validD t <;> cases h2 : decide (0 ≤ countZ t) <;> simp_all
theorem lr_fold : ∀ (l : List Sct) (a : Nat) (b : Bool), (l.foldl (fun (a : Nat × Bool) x => if x.id.toNat ≠ 0 then (x.id.toNat, a.2 && decide (a.1 < x.id.toNat) && decide (x.id.toNat ≤ 11)) else (a.1, a.2 && decide (x.name.length ≤ 200) && decide (0 ≤ countZ x.name))) (a, b)).2 = (b && riseF a l)
  | [], a, b => by simp [riseF]
  | x :: r, a, b => by
    rw [List.foldl_cons]
    unfold riseF
    by_cases h0 : x.id.toNat ≠ 0
    · rw [if_pos h0, if_pos h0, lr_fold r]
      simp [Bool.and_assoc]
    · rw [if_neg h0, if_neg h0, lr_fold r, count_valid]
      simp [Bool.and_assoc]
theorem lr_rise (l : List Sct) : (lrP l).2 = riseF 0 l := by
  have := lr_fold l 0 true
  rw [Bool.true_and] at this
  exact this
theorem lr_snoc {l : List Sct} {k : Nat} {x : Sct} (h : l[k]? = some x) : lrP (l.take (k + 1)) = if x.id.toNat ≠ 0 then (x.id.toNat, (lrP (l.take k)).2 && decide ((lrP (l.take k)).1 < x.id.toNat) && decide (x.id.toNat ≤ 11)) else ((lrP (l.take k)).1, (lrP (l.take k)).2 && decide (x.name.length ≤ 200) && decide (0 ≤ countZ x.name)) := by
  rw [List.take_add_one, h]
  unfold lrP
  show List.foldl _ _ (l.take k ++ [x]) = _
  rw [List.foldl_append]
  rfl
theorem lr_lt (l : List Sct) : ∀ k, (lrP (l.take k)).1 < 256
  | 0 => by rw [List.take_zero]; decide
  | k + 1 => by
    cases hx : l[k]? with
    | none =>
      have h1 : l.length ≤ k := List.getElem?_eq_none_iff.1 hx
      have := lr_lt l k
      rw [List.take_of_length_le h1] at this
      rw [List.take_of_length_le (by omega)]
      exact this
    | some x =>
      rw [lr_snoc hx]
      have := x.id.toNat_lt
      split
      · exact this
      · exact lr_lt l k
end Go.Proofs.YtohliaellefhaaaDoor
