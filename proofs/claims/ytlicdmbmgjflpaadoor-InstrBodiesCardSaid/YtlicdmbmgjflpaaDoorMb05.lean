/- take. -/
import Derived.Test.YtlicdmbmgjflpaaDoorMb04
import Derived.Laws.AppendOwnNone
import Derived.Laws.MakeOwn
namespace Go.Proofs.YtlicdmbmgjflpaaDoor
set_option maxRecDepth 100000
open Go.RowKit
set_option linter.unusedVariables false

/-- s[k:k+n]. -/
theorem cut_run (A : Option Addr) (len cap k n : Nat) (h1 : k + n ≤ len) (h2 : len ≤ cap) :
    ∃ A', (∀ w, (Instr.slice 26 (.slice A len cap) (some (.int .i64 (k : Int))) (some (.int .i64 ((k : Int) + n))) none).run Tryd.prog w = .ok (.slice A' n (cap - k)) w) ∧
      (∀ w B (l : List Int), Lies w B A (cells l) → Lies w B A' (cells ((l.drop k).take n))) := by
  have hr : ∀ w, _ := fun w => run_slice_lh (P := Tryd.prog) w 26 A len cap Tryd.underlying26 .i64 .i64 (k : Int) ((k : Int) + n) (by omega) (by omega) (by omega)
  have hz : ∀ w, (sizeOf (Tryd.prog.elem 26)).run Tryd.prog w = .ok 1 w := fun w => by kernel_rfl
  have e1 : (k : Int).toNat = k := by omega
  have e2 : ((k : Int) + n).toNat = k + n := by omega
  have e3 : k + n - k = n := by omega
  by_cases hk : cap = k
  · refine ⟨A, fun w => ?_, fun w B l _ => ?_⟩
    · rw [hr w, hz w, e1, e2]
      simp [Result.andThen, sliced, e3, hk]
    · have : n = 0 := by omega
      subst this
      simp [cells]
      exact Lies.nil
  · refine ⟨A.map (·.add k), fun w => ?_, fun w B l hl => ?_⟩
    · rw [hr w, hz w, e1, e2]
      simp [Result.andThen, sliced, e3, hk]
    · have hc := (hl.cut k).take n
      have e : A.map (·.add k) = A.map (fun a => ⟨a.block, a.off + k, none⟩) ∨ (cells l).length = 0 := by
        by_cases h0 : (cells l).length = 0
        · exact .inr h0
        · obtain ⟨b, off, rfl, _⟩ := hl.at_ (i := 0) (by omega)
          left
          simp [Go.WideShapes.add_plain]
      have ec : cells ((l.drop k).take n) = ((cells l).drop k).take n := by simp [cells, List.map_drop, List.map_take]
      rw [ec]
      rcases e with e | e
      · rw [e]; exact hc
      · have : cells l = [] := List.eq_nil_of_length_eq_zero e
        rw [this]; simp
        exact Lies.nil

/-- What take hands back: n bytes that lie below the scanner. -/
def Took (p : Nat) (l : List UInt8) (k n : Nat) (w : World) (e : Ending) (w' : World) : Prop :=
  ∃ A c, e = .returned (.slice A n c) ∧ n ≤ c ∧ c ≤ maxLen ∧ Lies w' p A (cells (nums ((l.drop k).take n))) ∧ Sc w' p l (k + n) ∧ w.grownBy w' (some p)

set_option maxHeartbeats 800000 in
theorem take_ok {w : World} {p : Nat} {l : List UInt8} {k : Nat} (h : Sc w p l k) (n : Nat) (hn : k + n ≤ l.length) :
    Calls Tryd.prog 89 #[.pointer (some ⟨p, 0, none⟩), .int .i64 n] w (Took p l k n w) := by
  have hle := h.le
  have HL := Lib.hid (fun m => left_any (h.drewN m))
  have HS := Lib.hid h
  have c1 := h.at
  have f1 := h.free
  clear h
  have d1 : (0 : Int) ≤ n := by omega
  have d2 : (n : Int) ≤ (l.length : Int) - k := by omega
  have d3 : (k : Int) + n ≤ 9223372036854775807 := by omega
  go_enter Tryd.func89, Tryd.ntmps89
  go_wp2_with (go_at_call 66; go_must ((with_reducible refine (unlessT _ _ _).mono ?_); rintro e w' ⟨rfl, rfl⟩))
  go_quiet (first
    | (go_at_call 96; exact Calls.quiet_of (HL.out _))
    | (go_at_call 66; exact (unlessT _ _ _).mono fun _ _ h => ⟨h.1, _, h.2.symm⟩))
  go_wp2
  obtain ⟨hs2, hg2⟩ := HS.out.moved nq ((k : Int) + n) (k + n) (by omega) hn
  generalize (w.drewN nq).setCell ⟨p, 1, none⟩ (.int .i64 ((k : Int) + n)) = W at *
  obtain ⟨A, cap, c0', hlies, hc, hm⟩ := hs2.data
  have c1' := hs2.at
  rw [show ((k + n : Nat) : Int) = (k : Int) + n by omega] at c1'
  obtain ⟨A', hcut, hcl⟩ := cut_run A l.length cap k n hn hc
  have HLI := Lib.hid (hcl W p (nums l) hlies)
  have HS2 := Lib.hid hs2
  have HG2 := Lib.hid hg2
  clear hlies hs2 hg2 c1 f1 hcl
  go_quiet (fail)
  go_wp2
  go_ret
  exact ⟨A', cap - k, rfl, by omega, by omega, by have := HLI.out; unfold nums at *; rw [List.map_take, List.map_drop]; exact this, HS2.out.drewN _, gb_drewN HG2.out _⟩
/-- An error that take tells. -/
def Failed (p : Nat) (c : Int) (k : Nat) (w : World) (e : Ending) (w' : World) : Prop := e = .panicked (stopP c k) ∧ w.grownBy w' (some p)
theorem take_neg {w : World} {p : Nat} {l : List UInt8} {k : Nat} (h : Sc w p l k) (n : Int) (hn : n < 0) :
    Calls Tryd.prog 89 #[.pointer (some ⟨p, 0, none⟩), .int .i64 n] w (Failed p 1 k w) := by
  have c1 := h.at
  have d1 : ¬ 0 ≤ n := by omega
  have d2 : decide (0 ≤ n) = false := by simpa using hn
  clear h
  go_enter Tryd.func89, Tryd.ntmps89
  go_wp2_with (go_at_call 66; go_must ((with_reducible refine (unlessF _ _ _).mono ?_); rintro e w' ⟨rfl, rfl⟩))
  exact ⟨rfl, rfl, gb_refl _ _⟩
theorem left_held {w W : World} {p : Nat} {l : List UInt8} {k : Nat} (h : (Sc W p l k ∧ w.grownBy W (some p)) ∧ W.cell? ⟨p, 1, none⟩ = some (.int .i64 k)) :
    Calls Tryd.prog 96 #[.pointer (some ⟨p, 0, none⟩)] W fun e w' => e = .returned (.int .i64 ((l.length : Int) - k)) ∧ (Sc w' p l k ∧ w.grownBy w' (some p)) ∧ w'.cell? ⟨p, 1, none⟩ = some (.int .i64 k) :=
  (left_any h.1.1).mono fun _ _ ⟨h1, m, h2⟩ => ⟨h1, by subst h2; exact ⟨⟨h.1.1.drewN m, gb_drewN h.1.2 m⟩, h.2⟩⟩
set_option maxHeartbeats 800000 in
theorem take_short {w : World} {p : Nat} {l : List UInt8} {k : Nat} (h : Sc w p l k) (n : Nat) (hn : l.length < k + n) :
    Calls Tryd.prog 89 #[.pointer (some ⟨p, 0, none⟩), .int .i64 n] w (Failed p 2 k w) := by
  have hle := h.le
  have HS := Lib.hid h
  have c1 := h.at
  clear h
  have d1 : (0 : Int) ≤ n := by omega
  have d2 : ¬ (n : Int) ≤ (l.length : Int) - k := by omega
  have d3 : decide ((n : Int) ≤ (l.length : Int) - k) = false := by simpa using d2
  go_enter Tryd.func89, Tryd.ntmps89
  go_wp2_with (go_at_call 66; go_must ((with_reducible refine (unlessT _ _ _).mono ?_); rintro e w' ⟨rfl, rfl⟩))
  refine wp_region_held_drew (S := fun W => (Sc W p l k ∧ w.grownBy W (some p)) ∧ W.cell? ⟨p, 1, none⟩ = some (.int .i64 k)) (by kernel_rfl) ⟨⟨HS.out, gb_drew (gb_refl _ _)⟩, c1⟩ (fun hHeld => ?_)
  (refine wpAnyH_take (i := 0) (oi := { dst := some 13, op := Op.move (Operand.tmp 1), type := 3, pos := "scan.go:44", after := #[], guard := none }) (v := ?_) rfl (by kernel_rfl) (by kernel_rfl) (by kernel_rfl) (fun _ _ _ h => h) ?_ (by assumption) ?_; rotate_left; focus (refine .inl ⟨by kernel_rfl, ?_⟩; intro w hSw; (try dsimp only at hSw); go_simp; (try with_reducible rfl)); (try simp only [Act.put, List.setIfInBounds_toArray, List.set_cons_zero, List.set_cons_succ]))
  (refine wpAnyH_take (i := 1) (oi := { dst := some 14, op := Op.move (Operand.tmp 0), type := 91, pos := "scan.go:44", after := #[], guard := none }) (v := ?_) rfl (by kernel_rfl) (by kernel_rfl) (by kernel_rfl) (fun _ _ _ h => h) ?_ (by assumption) ?_; rotate_left; focus (refine .inl ⟨by kernel_rfl, ?_⟩; intro w hSw; (try dsimp only at hSw); go_simp; (try with_reducible rfl)); (try simp only [Act.put, List.setIfInBounds_toArray, List.set_cons_zero, List.set_cons_succ]))
  (refine wpAnyH_take (i := 4) (oi := { dst := some 17, op := Op.move (Operand.tmp 0), type := 91, pos := "scan.go:44", after := #[], guard := none }) (v := ?_) rfl (by kernel_rfl) (by kernel_rfl) (by kernel_rfl) (fun _ _ _ h => h) ?_ (by assumption) ?_; rotate_left; focus (refine .inl ⟨by kernel_rfl, ?_⟩; intro w hSw; (try dsimp only at hSw); go_simp; (try with_reducible rfl)); (try simp only [Act.put, List.setIfInBounds_toArray, List.set_cons_zero, List.set_cons_succ]))
  (refine wpAnyH_take (i := 5) (oi := { dst := some 18, op := Op.nilCheck (Operand.tmp 17), type := 0, pos := "scan.go:44", after := #[{ on := 4, ground := Ground.data }], guard := none }) (v := ?_) rfl (by kernel_rfl) (by kernel_rfl) (by kernel_rfl) (fun _ _ _ h => h) ?_ (by assumption) ?_; rotate_left; focus (refine .inl ⟨by kernel_rfl, ?_⟩; intro w hSw; (try dsimp only at hSw); go_simp; (try with_reducible rfl)); (try simp only [Act.put, List.setIfInBounds_toArray, List.set_cons_zero, List.set_cons_succ]))
  (refine wpAnyH_take (i := 6) (oi := { dst := some 19, op := Op.fieldAddr 121 (Operand.tmp 18) 1, type := 0, pos := "scan.go:44", after := #[{ on := 5, ground := Ground.data }], guard := none }) (v := ?_) rfl (by kernel_rfl) (by kernel_rfl) (by kernel_rfl) (fun _ _ _ h => h) ?_ (by assumption) ?_; rotate_left; focus (refine .inl ⟨by kernel_rfl, ?_⟩; intro w hSw; (try dsimp only at hSw); go_simp; (try with_reducible rfl)); (try simp only [Act.put, List.setIfInBounds_toArray, List.set_cons_zero, List.set_cons_succ]))
  (refine wpAnyH_take (i := 7) (oi := { dst := some 20, op := Op.load 3 (Operand.tmp 19), type := 3, pos := "scan.go:44", after := #[{ on := 6, ground := Ground.data }], guard := none }) (v := ?_) rfl (by kernel_rfl) (by kernel_rfl) (by kernel_rfl) (fun _ _ _ h => h) ?_ (by assumption) ?_; rotate_left; focus (refine .inl ⟨by kernel_rfl, ?_⟩; intro w hSw; (try dsimp only at hSw); go_simp; (try with_reducible rfl)); (try simp only [Act.put, List.setIfInBounds_toArray, List.set_cons_zero, List.set_cons_succ]))
  refine wpAnyH_ready (rs := [2]) (by kernel_rfl) (by simp) ?_
  refine AllReadyH.cons (o := { dst := some 15, op := Op.call { callee := Callee.value (Operand.func 96), args := #[Operand.tmp 14], argTypes := #[91] }, type := 3, pos := "scan.go:44", after := #[{ on := 1, ground := Ground.data }], guard := none }) rfl (fun K hK => ?_) AllReadyH.nil
  go_simp
  (go_at_call 96; (with_reducible refine (left_held hHeld).mono ?_); rintro e w' ⟨rfl, hk⟩)
  refine hK.out _ _ hk (fun hHeld2 => ?_)
  clear hK K hHeld
  (try simp only [Act.put, List.setIfInBounds_toArray, List.set_cons_zero, List.set_cons_succ])
  (refine wpAnyH_take (i := 3) (oi := { dst := some 16, op := Op.binOp BinOp.leq 3 (Operand.tmp 13) (Operand.tmp 15) 3, type := 4, pos := "scan.go:44", after := #[{ on := 0, ground := Ground.data }, { on := 2, ground := Ground.data }], guard := none }) (v := ?_) rfl (by kernel_rfl) (by kernel_rfl) (by kernel_rfl) (fun _ _ _ h => h) ?_ (by assumption) ?_; rotate_left; focus (refine .inl ⟨by kernel_rfl, ?_⟩; intro w hSw; (try dsimp only at hSw); go_simp; (try with_reducible rfl)); (try simp only [Act.put, List.setIfInBounds_toArray, List.set_cons_zero, List.set_cons_succ]))
  refine wpAnyH_ready (rs := [8]) (by kernel_rfl) (by simp) ?_
  refine AllReadyH.cons (o := { dst := some 21, op := Op.call { callee := Callee.value (Operand.func 66), args := #[Operand.tmp 16, Operand.const (Value.int IntKind.i64 2), Operand.tmp 20], argTypes := #[4, 29, 3] }, type := 0, pos := "scan.go:44", after := #[{ on := 3, ground := Ground.data }, { on := 7, ground := Ground.data }, { on := 2, ground := Ground.chain }], guard := none }) rfl (fun K hK => ?_) AllReadyH.nil
  go_simp
  (go_at_call 66; (with_reducible refine (unlessF _ _ _).mono ?_); rintro e w' ⟨rfl, rfl⟩; exact ⟨rfl, rfl, hHeld2.1.2⟩)
end Go.Proofs.YtlicdmbmgjflpaaDoor

/- Byte, Sub, End, bytes.Clone, Over. -/
namespace Go.Proofs.YtlicdmbmgjflpaaDoor
set_option maxRecDepth 100000
open Go.RowKit
set_option linter.unusedVariables false

/-- The next byte. -/
def byteR (l : List UInt8) (k : Nat) : Res UInt8 := match l[k]? with
  | some c => .ok c (k + 1)
  | none => .err 2 k
abbrev encB (c : UInt8) : Value := .int .u8 c.toNat

theorem byte_any {w : World} {p : Nat} {l : List UInt8} {k : Nat} (h : Sc w p l k) :
    Calls Tryd.prog 75 #[.pointer (some ⟨p, 0, none⟩)] w (Did encB p l w (byteR l k)) := by
  unfold byteR
  by_cases hk : k < l.length
  · have hc : l[k]? = some l[k] := List.getElem?_eq_getElem hk
    rw [hc]
    have HT := Lib.hid (show Calls Tryd.prog 89 #[.pointer (some ⟨p, 0, none⟩), .int .i64 1] w (Took p l k 1 w) from take_ok h 1 (by omega))
    have HE := Lib.hid (show nums ((l.drop k).take 1) = [(l[k].toNat : Int)] by rw [List.drop_eq_getElem_cons hk]; rfl)
    obtain ⟨c, hcc⟩ : ∃ c, c = l[k] := ⟨_, rfl⟩
    rw [← hcc] at HE ⊢
    clear hc hcc h hk
    go_enter Tryd.func75, Tryd.ntmps75
    go_wp2_with (go_at_call 89; go_must ((with_reducible refine HT.out.mono ?_); rintro e w1 ⟨A, cc, rfl, h1, h2, hl, hs, hg⟩; rw [HE.out] at hl; obtain ⟨b, off, rfl, hb, hcell⟩ := hl.byte (i := 0) rfl; rw [Nat.add_zero] at hcell; have HS := Lib.hid hs; have HG := Lib.hid hg; clear hs hg hl))
    go_ret
    exact ⟨rfl, HS.out, HG.out⟩
  · have hc : l[k]? = none := List.getElem?_eq_none (by omega)
    rw [hc]
    have HT := Lib.hid (show Calls Tryd.prog 89 #[.pointer (some ⟨p, 0, none⟩), .int .i64 1] w (Failed p 2 k w) from take_short h 1 (by omega))
    clear hc h hk
    go_enter Tryd.func75, Tryd.ntmps75
    go_wp2_with (go_at_call 89; go_must ((with_reducible refine HT.out.mono ?_); rintro e w1 ⟨rfl, hg⟩; have HG := Lib.hid hg; clear hg))
    exact ⟨rfl, rfl, HG.out⟩

/-- A scanner of the next n bytes, at a new block. -/
def Subbed (p : Nat) (l : List UInt8) (k n : Nat) (w : World) (e : Ending) (w' : World) : Prop :=
  ∃ q, e = .returned (.pointer (some ⟨q, 0, none⟩)) ∧ w.heap.size ≤ q ∧ Sc w' q ((l.drop k).take n) 0 ∧ Sc w' p l (k + n) ∧ w.grownBy w' (some p)
/-- bytes.Clone of bytes that lie somewhere, one at least. -/
theorem clone_ok {w : World} {A : Option Addr} {cap : Nat} {l : List UInt8} (hl : Lies w w.heap.size A (cells (nums l))) (h0 : 0 < l.length) (hc : l.length ≤ 1000000) :
    Calls Tryd.prog 72 #[.slice A l.length cap] w (BytesL l w) := by
  have hA : ∃ b off, A = some ⟨b, off, none⟩ := by
    obtain ⟨b, off, e, _⟩ := hl.byte (i := 0) (c := ((nums l)[0]'(by rw [nums_length]; exact h0))) (List.getElem?_eq_getElem _)
    exact ⟨b, off, e⟩
  obtain ⟨b, off, rfl⟩ := hA
  have hnil : ∀ w : World, (binOp BinOp.eql 26 (.slice (some ⟨b, off, none⟩) l.length cap) (.slice none 0 0)).run Tryd.prog w = .ok (.bool false) w := fun w => by
    simp only [binOp]
    simp [run_equal_slice_nil w 26 5 _ _ _ Tryd.underlying26]
  have R0 := Lib.hid (Row.made w [] w.heap.size w.heap.size rfl (Nat.le_refl _) (by simp))
  have HL := Lib.hid (hl.below (below_box w (.cells #[] 5)) (Nat.le_refl _))
  clear hl
  go_enter Tryd.func72, Tryd.ntmps72
  go_wp2_with (at_builtin; (refine row_lies rfl _ _ rfl w.heap.size _ _ rfl R0.out _ _ _ _ l rfl rfl HL.out h0 (by simp; omega) (by simp) ?_; intro v2 w2 hr2 hb2; have HR2 := Lib.hid hr2; have HB2 := Lib.hid hb2; clear hr2 hb2))
  go_ret
  exact ⟨_, rfl, HR2.out, (below_box w _).trans HB2.out⟩
/-- A new scanner of bytes that lie somewhere, one at least. -/
def Overs (l : List UInt8) (w : World) (e : Ending) (w' : World) : Prop :=
  ∃ q, e = .returned (.pointer (some ⟨q, 0, none⟩)) ∧ w.heap.size ≤ q ∧ Sc w' q l 0 ∧ Below w.heap.size w w'
theorem over_ok {w : World} {A : Option Addr} {cap : Nat} {l : List UInt8} (hl : Lies w w.heap.size A (cells (nums l))) (h0 : 0 < l.length) (hc : l.length ≤ 1000000) :
    Calls Tryd.prog 49 #[.slice A l.length cap] w (Overs l w) := by
  have HC := Lib.hid (clone_ok (cap := cap) hl h0 hc)
  clear hl
  go_enter Tryd.func49, Tryd.ntmps49
  go_wp2_with (go_at_call 72; go_must ((with_reducible refine HC.out.mono ?_); intro e w1 h; obtain ⟨v, rfl, hr, hb⟩ := h; obtain ⟨A1, c1, rfl, h1, h2, hl1, _⟩ := lies_own hr; have HL := Lib.hid hl1; have H1 := Lib.hid h1; have H2 := Lib.hid h2; have HB := Lib.hid hb; clear hl1 hr h1 h2 hb))
  go_ret
  exact ⟨w1.heap.size, rfl, HB.out.size, ⟨A1, c1, Whole.made _ _ _, HL.out.below (below_box w1 _) (Nat.le_refl _), H1.out, H2.out, by simp⟩, HB.out.trans ((below_box w1 _).mono HB.out.size)⟩

end Go.Proofs.YtlicdmbmgjflpaaDoor

/- leb.ReadUint of any bytes; number, Uint, Index. -/
namespace Go.Proofs.YtlicdmbmgjflpaaDoor
set_option maxRecDepth 100000
open Go.RowKit
set_option linter.unusedVariables false

/-- How many bytes of a varint of n bits go on. -/
noncomputable def onN (l : List UInt8) (k n : Nat) : Nat := (stop_ex ((nums l).drop k) ((n + 6) / 7)).choose
theorem onN_stop (l : List UInt8) (k n : Nat) : Stop ((n + 6) / 7) ((nums l).drop k) (onN l k n) := (stop_ex ((nums l).drop k) ((n + 6) / 7)).choose_spec
/-- A number of n bits. -/
noncomputable def uintR (l : List UInt8) (k n : Nat) : Res Int :=
  if 1 ≤ n ∧ n ≤ 64 then
    if onN l k n = (n + 6) / 7 then .err 3 k else
      match ((nums l).drop k)[onN l k n]? with
      | none => .err 2 k
      | some c => if c / 2 ^ (n - 7 * onN l k n) = 0 then .ok (numU (((nums l).drop k).take (onN l k n)) c) (k + (onN l k n + 1)) else .err 3 k
  else .err 1 k
theorem uintR_err {l : List UInt8} {k n : Nat} {c a : Int} (h : uintR l k n = .err c a) : a = k ∧ (c = 1 ∨ c = 2 ∨ c = 3) := by
  unfold uintR at h
  repeat' split at h
  all_goals first | (injection h with h1 h2; subst h1; subst h2; exact ⟨rfl, by omega⟩) | cases h
theorem nums_wf (l : List UInt8) : ∀ c ∈ nums l, 0 ≤ c ∧ c ≤ 255 := by
  intro c hc
  obtain ⟨b, _, rfl⟩ := List.mem_map.1 hc
  have := b.toNat_lt
  omega
theorem uintR_ok {l : List UInt8} {k n : Nat} {v : Int} {k' : Nat} (h : uintR l k n = .ok v k') : k' ≤ l.length ∧ 0 ≤ v ∧ v < 2 ^ n := by
  have hp := onN_stop l k n
  unfold uintR at h
  by_cases h64 : 1 ≤ n ∧ n ≤ 64
  · rw [if_pos h64] at h
    by_cases h1 : onN l k n = (n + 6) / 7
    · rw [if_pos h1] at h; cases h
    · rw [if_neg h1] at h
      cases hpc : ((nums l).drop k)[onN l k n]? with
      | none => rw [hpc] at h; cases h
      | some c =>
        rw [hpc] at h
        by_cases hf : c / 2 ^ (n - 7 * onN l k n) = 0
        · simp only [if_pos hf] at h
          injection h with e1 e2
          subst e1; subst e2
          have hlen := (List.getElem?_eq_some_iff.1 hpc).1
          rw [List.length_drop, nums_length] at hlen
          have hl : (((nums l).drop k).take (onN l k n)).length = onN l k n := by rw [List.length_take, List.length_drop, nums_length]; omega
          obtain ⟨l0, l1⟩ := low_bd (((nums l).drop k).take (onN l k n))
          rw [hl] at l1
          have hM := hp.leM
          have c0 := (nums_wf l c (List.mem_of_mem_drop (List.mem_of_getElem? hpc))).1
          have := bdU l0 l1 c0 (b := n) (by omega) hf
          unfold numU
          rw [hl]
          exact ⟨by omega, this.1, this.2⟩
        · simp only [if_neg hf] at h; cases h
  · rw [if_neg h64] at h; cases h
/-- What leb.ReadUint hands back. -/
def readT : Res Int → Value
  | .ok v k => .tuple #[.int .u64 v, .int .i64 k, .int .i64 0]
  | .err c _ => .tuple #[.int .u64 0, .int .i64 0, .int .i64 c]
theorem readU_any {w : World} {B : Nat} {A : Option Addr} {cap : Nat} {l : List UInt8} (hl : Lies w B A (cells (nums l))) (hc : l.length ≤ cap) (hm : cap ≤ maxLen) (k n : Nat) (hk : k ≤ l.length) :
    Calls Tryd.prog 98 #[.slice A l.length cap, .int .i64 k, .int .i64 n] w fun x w' => x = .returned (readT (uintR l k n)) ∧ w = w' := by
  have hlen := nums_length l
  have hb := nums_wf l
  have hp := onN_stop l k n
  have hpM := hp.leM
  have hpR := hp.leR
  rw [List.length_drop, hlen] at hpR
  rw [← hlen] at hc hk ⊢
  unfold uintR
  by_cases h64 : 1 ≤ n ∧ n ≤ 64
  · rw [if_pos h64]
    obtain ⟨n1, n2⟩ := h64
    by_cases h1 : onN l k n = (n + 6) / 7
    · rw [if_pos h1]
      refine ru_fail _ _ _ 3 w (.inr (.inr rfl)) ?_
      have := length_right (nums l) A cap B k n _ w hl hb hc hm hk n1 n2 hp
      unfold lenN lenE at this
      rwa [if_pos h1, if_pos h1] at this
    · rw [if_neg h1]
      by_cases h2 : onN l k n = (nums l).length - k
      · have e : ((nums l).drop k)[onN l k n]? = none := List.getElem?_eq_none (by rw [List.length_drop]; omega)
        rw [e]
        refine ru_fail _ _ _ 2 w (.inr (.inl rfl)) ?_
        have := length_right (nums l) A cap B k n _ w hl hb hc hm hk n1 n2 hp
        unfold lenN lenE at this
        rwa [if_neg h1, if_neg h1, if_pos h2, if_pos h2] at this
      · obtain ⟨c, hpc⟩ : ∃ c, ((nums l).drop k)[onN l k n]? = some c := ⟨_, List.getElem?_eq_getElem (by rw [List.length_drop]; omega)⟩
        rw [hpc]
        by_cases hf : c / 2 ^ (n - 7 * onN l k n) = 0
        · simp only [if_pos hf]
          exact ru_ok (nums l) A cap B k n _ c w hl hb hc hm hk n1 n2 hp (by omega) hpc hf
        · simp only [if_neg hf]
          exact ru_far (nums l) A cap B k n _ c w hl hb hc hm hk n1 n2 hp (by omega) hpc hf
  · rw [if_neg h64]
    exact ru_fail _ _ _ 1 w (.inl rfl) (length_wrong (nums l) A cap _ _ w (by omega))
abbrev enc64 (v : Int) : Value := .int .u64 v
set_option maxHeartbeats 800000 in
theorem number_scan {w : World} {p : Nat} {l : List UInt8} {k : Nat} (h : Sc w p l k) (n : Nat) :
    Calls Tryd.prog 97 #[.pointer (some ⟨p, 0, none⟩), .int .i64 n, .func (.func 98) #[] #[]] w (Did enc64 p l w (uintR l k n)) := by
  have c1 := h.at
  obtain ⟨A, cap, c0, hl, hc, hm⟩ := h.data
  have hU : ∀ m, _ := fun m => readU_any (w := w.drewN m) hl hc hm k n h.le.1
  cases hr : uintR l k n with
  | ok v k' =>
    simp only [hr, readT] at hU
    have HU := Lib.hid hU
    have HS := Lib.hid h
    have f1 := h.free
    have HK := Lib.hid (uintR_ok hr).1
    clear hU hr hl h
    go_enter Tryd.func97, Tryd.ntmps97
    go_wp2
    go_quiet (first
      | (go_at_call 98; exact (HU.out _).mono fun _ _ h => ⟨h.1, _, h.2.symm⟩))
    go_wp2_with (go_at_call 66; go_must ((with_reducible refine (unlessT _ _ _).mono ?_); rintro e w' ⟨rfl, rfl⟩))
    go_ret
    exact ⟨rfl, HS.out.moved nq k' k' rfl HK.out⟩
  | err c a =>
    simp only [hr, readT] at hU
    have HU := Lib.hid hU
    obtain ⟨rfl, hcs⟩ := uintR_err hr
    have e2 : (c == 0) = false := by simp; omega
    clear hU hr hl h hcs
    go_enter Tryd.func97, Tryd.ntmps97
    go_wp2
    go_quiet (first
      | (go_at_call 98; exact (HU.out _).mono fun _ _ h => ⟨h.1, _, h.2.symm⟩))
    go_wp2_with (go_at_call 66; go_must ((with_reducible refine (unlessF _ _ _).mono ?_); rintro e w' ⟨rfl, rfl⟩))
    exact ⟨rfl, rfl, gb_drewN (gb_refl _ _) _⟩
/-- Scanner.Uint. -/
theorem uint_scan {w : World} {p : Nat} {l : List UInt8} {k : Nat} (h : Sc w p l k) (n : Nat) :
    Calls Tryd.prog 91 #[.pointer (some ⟨p, 0, none⟩), .int .i64 n] w (Did enc64 p l w (uintR l k n)) := by
  have hN := number_scan h n
  cases hr : uintR l k n with
  | ok v k' =>
    rw [hr] at hN
    have HN := Lib.hid hN
    clear hN hr h
    go_enter Tryd.func91, Tryd.ntmps91
    go_wp2_with (go_at_call 97; go_must ((with_reducible refine HN.out.mono ?_); rintro e w1 ⟨rfl, hs, hg⟩; have HS := Lib.hid hs; have HG := Lib.hid hg; clear hs hg))
    go_ret
    exact ⟨rfl, HS.out, HG.out⟩
  | err c a =>
    rw [hr] at hN
    have HN := Lib.hid hN
    clear hN hr h
    go_enter Tryd.func91, Tryd.ntmps91
    go_wp2_with (go_at_call 97; go_must ((with_reducible refine HN.out.mono ?_); rintro e w1 ⟨rfl, hg⟩; have HG := Lib.hid hg; clear hg))
    exact ⟨rfl, rfl, HG.out⟩
/-- A number of 32 bits. -/
noncomputable def indexR (l : List UInt8) (k : Nat) : Res Int := uintR l k 32
abbrev enc32 (v : Int) : Value := .int .u32 v
theorem index_scan {w : World} {p : Nat} {l : List UInt8} {k : Nat} (h : Sc w p l k) :
    Calls Tryd.prog 77 #[.pointer (some ⟨p, 0, none⟩)] w (Did enc32 p l w (indexR l k)) := by
  have hN : Calls Tryd.prog 91 #[.pointer (some ⟨p, 0, none⟩), .int .i64 32] w (Did enc64 p l w (uintR l k 32)) := uint_scan h 32
  unfold indexR
  cases hr : uintR l k 32 with
  | ok v k' =>
    rw [hr] at hN
    have HN := Lib.hid hN
    obtain ⟨hk, v0, v1⟩ := uintR_ok hr
    have v2 : v < 4294967296 := v1
    have hw : IntKind.u32.wrap v = v := by simp [IntKind.wrap, IntKind.bits, IntKind.signed]; omega
    clear hN hr h v1
    go_enter Tryd.func77, Tryd.ntmps77
    go_wp2_with (go_at_call 91; go_must ((with_reducible refine HN.out.mono ?_); rintro e w1 ⟨rfl, hs, hg⟩; have HS := Lib.hid hs; have HG := Lib.hid hg; clear hs hg))
    go_ret
    exact ⟨rfl, HS.out, HG.out⟩
  | err c a =>
    rw [hr] at hN
    have HN := Lib.hid hN
    clear hN hr h
    go_enter Tryd.func77, Tryd.ntmps77
    go_wp2_with (go_at_call 91; go_must ((with_reducible refine HN.out.mono ?_); rintro e w1 ⟨rfl, hg⟩; have HG := Lib.hid hg; clear hg))
    exact ⟨rfl, rfl, HG.out⟩
end Go.Proofs.YtlicdmbmgjflpaaDoor

/- atMost, Count, flag, tag, ValType. -/
namespace Go.Proofs.YtlicdmbmgjflpaaDoor
set_option maxRecDepth 100000
open Go.RowKit
set_option linter.unusedVariables false

abbrev encI (v : Int) : Value := .int .i64 v
abbrev encO (v : Bool) : Value := .bool v
abbrev encU (v : Unit) : Value := .tuple #[]
theorem Res.bind_ok {α β : Type} (v : α) (k : Nat) (f : α → Nat → Res β) : (Res.ok v k).bind f = f v k := rfl
theorem Res.bind_err {α β : Type} (c a : Int) (f : α → Nat → Res β) : (Res.err (α := α) c a).bind f = .err c a := rfl

/-- An index that is at most m. -/
noncomputable def atMostR (l : List UInt8) (k : Nat) (m c : Int) : Res Int := (indexR l k).bind fun v k' => if v ≤ m then .ok v k' else .err c k
theorem atMost_scan {w : World} {p : Nat} {l : List UInt8} {k : Nat} (h : Sc w p l k) (m c : Int) :
    Calls Tryd.prog 90 #[.pointer (some ⟨p, 0, none⟩), .int .u32 m, .int .i64 c] w (Did encI p l w (atMostR l k m c)) := by
  have hN := index_scan h
  have c1 := h.at
  unfold atMostR
  cases hr : indexR l k with
  | ok v k' =>
    rw [hr] at hN
    rw [Res.bind_ok]
    have HN := Lib.hid hN
    obtain ⟨hk, v0, v1⟩ := uintR_ok (show uintR l k 32 = .ok v k' from hr)
    have v2 : v < 4294967296 := v1
    have hw : IntKind.i64.wrap v = v := by rw [IntKind.wrap_i64]; omega
    clear hN hr h v1
    by_cases hm : v ≤ m
    · rw [if_pos hm]
      have HM := Lib.hid hm
      have d1 : decide (v ≤ m) = true := by simpa using hm
      go_enter Tryd.func90, Tryd.ntmps90
      go_wp2_with (first
        | (go_at_call 77; go_must ((with_reducible refine HN.out.mono ?_); rintro e w1 ⟨rfl, hs, hg⟩; have HS := Lib.hid hs; have HG := Lib.hid hg; clear hs hg))
        | (go_at_call 66; go_must ((with_reducible refine (unlessT _ _ _).mono ?_); rintro e w' ⟨rfl, rfl⟩)))
      go_ret
      exact ⟨rfl, HS.out, HG.out⟩
    · rw [if_neg hm]
      have HM := Lib.hid hm
      have d1 : decide (v ≤ m) = false := by simpa using hm
      clear hm
      go_enter Tryd.func90, Tryd.ntmps90
      go_wp2_with (first
        | (go_at_call 77; go_must ((with_reducible refine HN.out.mono ?_); rintro e w1 ⟨rfl, hs, hg⟩; have HS := Lib.hid hs; have HG := Lib.hid hg; clear hs hg))
        | (go_at_call 66; go_must ((with_reducible refine (unlessF _ _ _).mono ?_); rintro e w' ⟨rfl, rfl⟩)))
      exact ⟨rfl, rfl, HG.out⟩
  | err c2 a =>
    rw [hr] at hN
    rw [Res.bind_err]
    have HN := Lib.hid hN
    clear hN hr h
    go_enter Tryd.func90, Tryd.ntmps90
    go_wp2_with (go_at_call 77; go_must ((with_reducible refine HN.out.mono ?_); rintro e w1 ⟨rfl, hg⟩; have HG := Lib.hid hg; clear hg))
    exact ⟨rfl, rfl, HG.out⟩
/-- How many things follow. -/
noncomputable def countR (l : List UInt8) (k : Nat) : Res Int := atMostR l k 10000 29
theorem count_scan {w : World} {p : Nat} {l : List UInt8} {k : Nat} (h : Sc w p l k) :
    Calls Tryd.prog 76 #[.pointer (some ⟨p, 0, none⟩)] w (Did encI p l w (countR l k)) := by
  have hN := atMost_scan h 10000 29
  unfold countR
  cases hr : atMostR l k 10000 29 with
  | ok v k' =>
    rw [hr] at hN
    have HN := Lib.hid hN
    clear hN hr h
    go_enter Tryd.func76, Tryd.ntmps76
    go_wp2_with (go_at_call 90; go_must ((with_reducible refine HN.out.mono ?_); rintro e w1 ⟨rfl, hs, hg⟩; have HS := Lib.hid hs; have HG := Lib.hid hg; clear hs hg))
    go_ret
    exact ⟨rfl, HS.out, HG.out⟩
  | err c2 a =>
    rw [hr] at hN
    have HN := Lib.hid hN
    clear hN hr h
    go_enter Tryd.func76, Tryd.ntmps76
    go_wp2_with (go_at_call 90; go_must ((with_reducible refine HN.out.mono ?_); rintro e w1 ⟨rfl, hg⟩; have HG := Lib.hid hg; clear hg))
    exact ⟨rfl, rfl, HG.out⟩

/-- A byte that is 0 or 1. -/
def flagR (l : List UInt8) (k : Nat) : Res Bool := (byteR l k).bind fun c k' => if (c.toNat : Int) ≤ 1 then .ok ((c.toNat : Int) == 1) k' else .err 10 k
/-- A byte that can only be one. -/
def tagR (l : List UInt8) (k : Nat) (t : Int) : Res Unit := (byteR l k).bind fun c k' => if (c.toNat : Int) = t then .ok () k' else .err 7 k
/-- A type of values. -/
def valR (l : List UInt8) (k : Nat) : Res UInt8 := (byteR l k).bind fun c k' => if valueZ c.toNat = 0 then .ok c k' else .err (valueZ c.toNat) k
end Go.Proofs.YtlicdmbmgjflpaaDoor

/- valTypes. -/
namespace Go.Proofs.YtlicdmbmgjflpaaDoor
set_option maxRecDepth 100000
open Go.RowKit
set_option linter.unusedVariables false

abbrev encS (t : List UInt8) : Value := .string (S t)
/-- n more types, behind those that were read. -/
def valsK (l : List UInt8) : Nat → Nat → List UInt8 → Res (List UInt8)
  | 0, k, acc => .ok acc k
  | n + 1, k, acc => (valR l k).bind fun c k' => valsK l n k' (acc ++ [c])
/-- How many types there are, and these. -/
noncomputable def valsR (l : List UInt8) (k : Nat) : Res (List UInt8) := (countR l k).bind fun n k' => valsK l n.toNat k' []
theorem valsK_more {l : List UInt8} {n i k : Nat} {acc : List UInt8} (h : i < n) : valsK l (n - i) k acc = (valR l k).bind fun c k' => valsK l (n - (i + 1)) k' (acc ++ [c]) := by
  rw [show n - i = n - (i + 1) + 1 by omega]
  rfl
theorem countR_ok {l : List UInt8} {k : Nat} {v : Int} {k' : Nat} (h : countR l k = .ok v k') : 0 ≤ v ∧ v ≤ 10000 := by
  unfold countR atMostR at h
  cases hr : indexR l k with
  | ok u q =>
    rw [hr, Res.bind_ok] at h
    have hb := uintR_ok (show uintR l k 32 = .ok u q from hr)
    by_cases hm : u ≤ 10000
    · rw [if_pos hm] at h; injection h with h1 h2; omega
    · rw [if_neg hm] at h; cases h
  | err c a => rw [hr, Res.bind_err] at h; cases h

/-- Cells that are made, of one kind. -/
theorem made_one (v : Value) (n : Nat) : madeCells #[v] n = Array.replicate n v := by
  apply Array.ext
  · simp [madeCells]
  · intro i h1 h2
    simp [madeCells, Nat.mod_one]
theorem make_bytes (n : Nat) (hn : n ≤ 100000) (w : World) : (Instr.makeSlice 26 (.int .i64 (n : Int)) (.int .i64 (n : Int))).run Tryd.prog w = .ok (.slice (some ⟨w.heap.size, 0, none⟩) n n) (w.alloc (.cells (List.replicate n (.int .u8 0)).toArray 5)) := by
  obtain ⟨i0, hi0, hz0, hz1, hz2⟩ := info_parts infoB
  have hr := run_make (P := Tryd.prog) w 26 5 i0 _ Tryd.underlying26 hi0 hz0 .i64 .i64 (n : Int) (n : Int) (by omega) (Int.le_refl _) (by rw [hz2]; omega) (by omega)
  rw [hr, hz1]
  have e : (Value.int IntKind.u8 0).cells = #[.int .u8 0] := rfl
  rw [e, made_one]
  simp
/-- A block of n bytes, of which the first are written. -/
def Part (w : World) (g n : Nat) (acc : List UInt8) : Prop := Whole w g 5 (cells (nums acc) ++ List.replicate (n - acc.length) (Value.int .u8 0)).toArray ∧ acc.length ≤ n
theorem Part.start (w : World) (n : Nat) : Part (w.alloc (.cells (List.replicate n (.int .u8 0)).toArray 5)) w.heap.size n [] := ⟨Whole.made _ _ _, Nat.zero_le _⟩
theorem Part.put {w : World} {g n : Nat} {acc : List UInt8} (h : Part w g n acc) (c : UInt8) (hlt : acc.length < n) : Part (w.setCell ⟨g, acc.length, none⟩ (.int .u8 c.toNat)) g n (acc ++ [c]) := by
  refine ⟨?_, by simp; omega⟩
  have h1 := h.1.put acc.length (.int .u8 c.toNat)
  have e : ((cells (nums acc) ++ List.replicate (n - acc.length) (Value.int .u8 0)).toArray.setIfInBounds acc.length (.int .u8 c.toNat)) = (cells (nums (acc ++ [c])) ++ List.replicate (n - (acc ++ [c]).length) (Value.int .u8 0)).toArray := by
    have hl : (cells (nums acc)).length = acc.length := by rw [cells_length, nums_length]
    have hr : List.replicate (n - acc.length) (Value.int .u8 0) = .int .u8 0 :: List.replicate (n - (acc.length + 1)) (.int .u8 0) := by
      rw [show n - acc.length = n - (acc.length + 1) + 1 by omega]; rfl
    rw [hr, List.setIfInBounds_toArray, List.set_append_right _ _ (by omega), hl, Nat.sub_self, List.set_cons_zero, nums_append]
    simp [cells, nums]
  rw [e] at h1
  exact h1
theorem Part.row {w : World} {g n : Nat} {acc : List UInt8} (h : Part w g n acc) (hn : acc.length = n) (base : Nat) (hb : base ≤ g) (hm : n ≤ 100000) : Row w base (.slice (some ⟨g, 0, none⟩) n n) acc := by
  subst hn
  have h1 := h.1
  rw [Nat.sub_self, List.replicate_zero, List.append_nil] at h1
  have hl : (cells (nums acc)).length = acc.length := by rw [cells_length, nums_length]
  exact ⟨by omega, .inr ⟨g, acc.length, (cells (nums acc)).toArray, rfl, hb, h1, Nat.le_refl _, by unfold maxLen; omega, by simp [hl], by rw [List.take_of_length_le (by simp [hl])]⟩⟩
theorem Part.cell {w : World} {g n : Nat} {acc : List UInt8} (h : Part w g n acc) (hlt : acc.length < n) : ∃ u, w.cell? ⟨g, acc.length, none⟩ = some u := by
  have hl : (cells (nums acc)).length = acc.length := by rw [cells_length, nums_length]
  exact ⟨_, (h.1.cell acc.length).trans (Array.getElem?_eq_getElem (by simp [hl]; omega))⟩
end Go.Proofs.YtlicdmbmgjflpaaDoor
