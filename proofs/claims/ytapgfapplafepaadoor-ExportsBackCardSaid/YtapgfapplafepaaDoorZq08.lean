/- The walk of UtfSigns. -/
import Derived.Test.YtapgfapplafepaaDoorZq07
import Derived.Laws.IdiomStrings
import Derived.Test.YtapgfapplafepaaDoorZq03
import Derived.Test.YtapgfapplafepaaDoorZq05
import Derived.Deep.QuietTactic
import Derived.Deep.LoopGhost
import Derived.OwnWalk
import Derived.RegionTactic
import Derived.Lib.SlBytesConst
import Derived.Test.YtapgfapplafepaaDoorZq04
namespace Go.Proofs.YtapgfapplafepaaDoor
set_option linter.unusedVariables false
set_option maxRecDepth 100000
open Go.RowKit Go.Lib

theorem right_any (l : List UInt8) (b off cap : Nat) (w : World) (hl : l.length ≤ 1000000) (hcap : l.length ≤ cap) (hT : Tabs w) (hp : Bys w b off l) :
    Calls Tryd.prog 89 #[.slice (some ⟨b, off, none⟩) l.length cap] w fun e w' => e = .returned (.bool (validD l)) ∧ Below w.heap.size w w' := by
  have hv := valid_slice (S l) b off cap w (by rw [S_size]; omega) (by rw [S_size]; omega) hT (Bya.of_bys hp)
  rw [S_list, S_size] at hv
  have HV := Lib.hid hv
  clear hv hp
  go_enter Tryd.func89, Tryd.ntmps89
  go_wp2_with (first
    | (go_at_call 104; go_must (refine HV.out.mono ?_; rintro e w1 ⟨rfl, hb1⟩; have H1 := Lib.hid hb1; clear hb1)))
  go_ret
  exact ⟨rfl, H1.out⟩

/-- []byte(s). -/
theorem conv_bytes (w : World) (z : ByteArray) (l : List UInt8) (hz : S l = z) : ∃ cap W, (convert 9 31 (.string z)).run Tryd.prog w = .ok (.slice (some ⟨w.heap.size, 0, none⟩) l.length cap) W ∧ l.length ≤ cap ∧ Bys W w.heap.size 0 l ∧ Below w.heap.size w W := by
  subst hz
  have h := run_bytes_of_string (P := Tryd.prog) w 9 31 5 (S l) Tryd.underlying9 Tryd.underlying31 Tryd.underlying5
  have hg := grownCap_ge w (S l).size 0 5
  rw [S_size] at h hg
  refine ⟨_, _, h, hg, fun j hj => ?_, (Below.refl _ _).drew.alloc (Nat.le_refl _) _⟩
  rw [Nat.zero_add]
  have hr : (bytesRow (S l) (grownCap w l.length 0 5))[j]? = some (.int .u8 ((l[j]'hj).toNat : Int)) := by
    unfold bytesRow S
    simp [Array.getElem?_append, hj]
  rw [← hr]
  exact cell_of_row _ w.heap.size j _ _ _ (heap_alloc_new w.drew _)

theorem same_valid (l : List UInt8) : (!(validD l == decide (0 ≤ countZ l))) = false := by
  unfold countZ
  by_cases hv : validD l = true
  · rw [if_pos hv, hv]; simp
  · have hv' : validD l = false := by simpa using hv
    rw [if_neg hv, hv']; rfl

end Go.Proofs.YtapgfapplafepaaDoor

/- bytes.Clone of any slice; take with its block; Scanner.At, Bytes, Name. -/
namespace Go.Proofs.YtapgfapplafepaaDoor
open Go.RowKit Go.Lib
set_option linter.unusedVariables false
set_option maxRecDepth 100000

/-- bytes.Clone of any slice. -/
theorem clone_all {w : World} {A : Option Addr} {cap : Nat} {l : List UInt8} (hl : Lies w w.heap.size A (cells (nums l))) (hc : l.length ≤ 1000000) :
    Calls Tryd.prog 56 #[.slice A l.length cap] w (BytesL l w) := by
  by_cases h0 : 0 < l.length
  · exact clone_ok hl h0 hc
  · have hl0 : l = [] := List.eq_nil_of_length_eq_zero (by omega)
    subst hl0
    cases A with
    | none =>
      show Calls Tryd.prog 56 #[.slice none 0 cap] w (BytesL [] w)
      have hnil : ∀ w : World, (binOp BinOp.eql 31 (.slice none 0 cap) (.slice none 0 0)).run Tryd.prog w = .ok (.bool true) w := fun w => by
        simp only [binOp]
        simp [run_equal_slice_nil w 31 5 _ _ _ Tryd.underlying31]
      clear hl h0 hc
      go_enter Tryd.func56, Tryd.ntmps56
      go_wp2
      go_ret
      exact ⟨_, rfl, Row.nil _ _, Below.refl _ _⟩
    | some ad =>
      show Calls Tryd.prog 56 #[.slice (some ad) 0 cap] w (BytesL [] w)
      have hnil : ∀ w : World, (binOp BinOp.eql 31 (.slice (some ad) 0 cap) (.slice none 0 0)).run Tryd.prog w = .ok (.bool false) w := fun w => by
        simp only [binOp]
        simp [run_equal_slice_nil w 31 5 _ _ _ Tryd.underlying31]
      have R0 := Lib.hid (Row.made w [] w.heap.size w.heap.size rfl (Nat.le_refl _) (by simp))
      have HL := Lib.hid (hl.below (below_box w (.cells #[] 5)) (Nat.le_refl _))
      clear hl h0 hc
      go_enter Tryd.func56, Tryd.ntmps56
      go_wp2_with (at_builtin; (refine row_any rfl _ _ rfl w.heap.size _ [] rfl R0.out (some ad) 0 cap _ [] rfl rfl HL.out (fun e => by cases e) (by simp) (by simp) ?_; intro v2 w2 hr2 hb2; have HR2 := Lib.hid hr2; have HB2 := Lib.hid hb2; clear hr2 hb2))
      go_ret
      exact ⟨_, rfl, HR2.out, (below_box w _).trans HB2.out⟩
/-- scan.Over of any slice. -/
theorem over_all {w : World} {A : Option Addr} {cap : Nat} {l : List UInt8} (hl : Lies w w.heap.size A (cells (nums l))) (hc : l.length ≤ 1000000) :
    Calls Tryd.prog 13 #[.slice A l.length cap] w (Overs l w) := by
  have HC := Lib.hid (clone_all (cap := cap) hl hc)
  clear hl
  go_enter Tryd.func13, Tryd.ntmps13
  go_wp2_with (go_at_call 56; go_must ((with_reducible refine HC.out.mono ?_); intro e w1 h; obtain ⟨v, rfl, hr, hb⟩ := h; obtain ⟨A1, c1, rfl, h1, h2, hl1, _⟩ := lies_own hr; have HL := Lib.hid hl1; have H1 := Lib.hid h1; have H2 := Lib.hid h2; have HB := Lib.hid hb; clear hl1 hr h1 h2 hb))
  go_ret
  exact ⟨w1.heap.size, rfl, HB.out.size, ⟨A1, c1, Whole.made _ _ _, HL.out.below (below_box w1 _) (Nat.le_refl _), H1.out, H2.out, by simp⟩, HB.out.trans ((below_box w1 _).mono HB.out.size)⟩
theorem at_any {w : World} {p : Nat} {l : List UInt8} {k : Nat} (h : Sc w p l k) : Calls Tryd.prog 90 #[.pointer (some ⟨p, 0, none⟩)] w fun e w' => e = .returned (.int .i64 k) ∧ w = w' := by
  have c1 := h.at
  clear h
  go_enter Tryd.func90, Tryd.ntmps90
  go_wp2
  go_ret
  exact ⟨rfl, rfl⟩
/-- Bytes: those that come next, in a row of their own. -/
def Byted (p : Nat) (l : List UInt8) (k n : Nat) (w : World) (e : Ending) (w' : World) : Prop :=
  ∃ v, e = .returned v ∧ Row w' w.heap.size v ((l.drop k).take n) ∧ Sc w' p l (k + n) ∧ w.grownBy w' (some p)
/-- take, of bytes that are not none: the cut lies at a block. -/
def TookB (p : Nat) (l : List UInt8) (k n : Nat) (w : World) (e : Ending) (w' : World) : Prop :=
  ∃ b o c, e = .returned (.slice (some ⟨b, o, none⟩) n c) ∧ n ≤ c ∧ Lies w' p (some ⟨b, o, none⟩) (cells (nums ((l.drop k).take n))) ∧ Sc w' p l (k + n) ∧ w.grownBy w' (some p)
set_option maxHeartbeats 800000 in
theorem take_some {w : World} {p : Nat} {l : List UInt8} {k : Nat} (h : Sc w p l k) (n : Nat) (hn : k + n ≤ l.length) (h0 : 0 < l.length) :
    Calls Tryd.prog 87 #[.pointer (some ⟨p, 0, none⟩), .int .i64 n] w (TookB p l k n w) := by
  have hle := h.le
  have HL := Lib.hid (fun m => left_any (h.drewN m))
  have HS := Lib.hid h
  have c1 := h.at
  have f1 := h.free
  clear h
  have d1 : (0 : Int) ≤ n := by omega
  have d2 : (n : Int) ≤ (l.length : Int) - k := by omega
  have d3 : (k : Int) + n ≤ 9223372036854775807 := by omega
  go_enter Tryd.func87, Tryd.ntmps87
  go_wp2_with (go_at_call 88; go_must ((with_reducible refine (unlessT _ _ _).mono ?_); rintro e w' ⟨rfl, rfl⟩))
  go_quiet (first
    | (go_at_call 19; exact Calls.quiet_of (HL.out _))
    | (go_at_call 88; exact (unlessT _ _ _).mono fun _ _ h => ⟨h.1, _, h.2.symm⟩))
  go_wp2
  obtain ⟨hs2, hg2⟩ := HS.out.moved nq ((k : Int) + n) (k + n) (by omega) hn
  generalize (w.drewN nq).setCell ⟨p, 1, none⟩ (.int .i64 ((k : Int) + n)) = W at *
  obtain ⟨A, cap, c0', hlies, hc, hm⟩ := hs2.data
  have c1' := hs2.at
  rw [show ((k + n : Nat) : Int) = (k : Int) + n by omega] at c1'
  obtain ⟨b, off, rfl, _⟩ : ∃ b off, A = some ⟨b, off, none⟩ ∧ True := by
    obtain ⟨b, off, e, _⟩ := hlies.at_ (i := 0) (by rw [cells_length, nums_length]; exact h0)
    exact ⟨b, off, e, trivial⟩
  obtain ⟨A', hcut, hcl⟩ := cut_run (some ⟨b, off, none⟩) l.length cap k n hn hc
  have hA' : ∃ o, A' = some ⟨b, o, none⟩ := by
    have hr := run_slice_lh (P := Tryd.prog) W 31 (some ⟨b, off, none⟩) l.length cap Tryd.underlying31 .i64 .i64 (k : Int) ((k : Int) + n) (by omega) (by omega) (by omega)
    have hz : (sizeOf (Tryd.prog.elem 31)).run Tryd.prog W = .ok 1 W := by kernel_rfl
    rw [hcut W, hz] at hr
    have e1 : (k : Int).toNat = k := by omega
    by_cases hk : cap = k
    · simp [Result.andThen, sliced, hk] at hr
      exact ⟨off, hr.1⟩
    · simp [Result.andThen, sliced, e1, hk, Go.WideShapes.add_plain] at hr
      exact ⟨_, hr.1⟩
  obtain ⟨o, rfl⟩ := hA'
  have HLI := Lib.hid (hcl W p (nums l) hlies)
  have HS2 := Lib.hid hs2
  have HG2 := Lib.hid hg2
  clear hlies hs2 hg2 c1 f1 hcl
  go_quiet (fail)
  go_wp2
  go_ret
  exact ⟨b, o, cap - k, rfl, by omega, by have := HLI.out; unfold nums at *; rw [List.map_take, List.map_drop]; exact this, HS2.out.drewN _, gb_drewN HG2.out _⟩

/-- string(b) of whatever lies. -/
theorem str_any {w : World} {B : Nat} {A : Option Addr} {o : List UInt8} (h : Lies w B A (cells (nums o))) (c : Nat) :
    ∀ dst, Tryd.prog.underlying dst = some .string → (convert 31 dst (.slice A o.length c)).run Tryd.prog w = .ok (.string (S o)) w := by
  by_cases h0 : 0 < (nums o).length
  · have := str_lies h h0 c Tryd.underlying31 Tryd.underlying5
    rw [strOfNums_nums, nums_length] at this
    exact this
  · have ho : o = [] := List.eq_nil_of_length_eq_zero (by rw [nums_length] at h0; omega)
    subst ho
    intro dst hd
    rw [run_convert_bytes_string w _ dst 5 _ _ c Tryd.underlying31 Tryd.underlying5 hd]
    have e : S [] = ByteArray.empty := rfl
    rw [e]
    cases A <;> simp [Conv.bytesToString, loadCells]
    all_goals rfl

/-- The tables of unicode/utf8 lie below a block. -/
def TbN (p : Nat) (w : World) : Prop := Tabs w ∧ 0 < p ∧ 1 < p ∧ p ≤ w.heap.size
theorem TbN.tabs {p : Nat} {w : World} (h : TbN p w) : Tabs w := h.1
theorem TbN.keep {p q : Nat} {w w' : World} (h : TbN p w) (hg : w.grownBy w' (some q)) (hq : p ≤ q) : TbN p w' := by
  obtain ⟨⟨h1, h2⟩, h3, h4, h5⟩ := h
  have key : ∀ b o, b < p → w'.cell? ⟨b, o, none⟩ = w.cell? ⟨b, o, none⟩ := fun b o hb => by
    unfold World.cell?
    rw [hg.block b (by omega) (by simp only [ne_eq, Option.some.injEq]; omega)]
  refine ⟨⟨fun c hc => (key _ _ h3).trans (h1 c hc), fun i hi => ⟨(key _ _ h4).trans (h2 i hi).1, (key _ _ h4).trans (h2 i hi).2⟩⟩, h3, h4, Nat.le_trans h5 hg.size⟩
theorem TbN.below {p : Nat} {w w' : World} (h : TbN p w) (hb : Below w.heap.size w w') : TbN p w' := h.keep (gb_of_below (some w.heap.size) hb) h.2.2.2
theorem TbN.more {p q : Nat} {w : World} (h : TbN p w) (hq : p ≤ q) (hz : q ≤ w.heap.size) : TbN q w := ⟨h.1, by have := h.2.1; omega, by have := h.2.2.1; omega, hz⟩

theorem uintR_lt {l : List UInt8} {k n : Nat} {v : Int} {k' : Nat} (h : uintR l k n = .ok v k') : k < k' := by
  unfold uintR at h
  repeat' split at h
  all_goals first | (injection h with h1 h2; omega) | cases h
theorem atMostR_ok {l : List UInt8} {k : Nat} {m c v : Int} {k' : Nat} (h : atMostR l k m c = .ok v k') : k' ≤ l.length ∧ 0 ≤ v ∧ v ≤ m ∧ k < k' := by
  unfold atMostR at h
  cases hr : indexR l k with
  | ok v2 k2 =>
    rw [hr, Res.bind_ok] at h
    obtain ⟨h1, h2, _⟩ := uintR_ok (show uintR l k 32 = .ok v2 k2 from hr)
    have h3 := uintR_lt (show uintR l k 32 = .ok v2 k2 from hr)
    split at h
    · injection h with e1 e2; subst e1; subst e2; exact ⟨h1, h2, by assumption, h3⟩
    · cases h
  | err c2 a => rw [hr, Res.bind_err] at h; cases h
theorem atMostR_err {l : List UInt8} {k : Nat} {m c : Int} {c2 a : Int} (h : atMostR l k m c = .err c2 a) (hc : c ≠ 0) : c2 ≠ 0 ∧ a = k := by
  unfold atMostR at h
  cases hr : indexR l k with
  | ok v2 k2 =>
    rw [hr, Res.bind_ok] at h
    split at h
    · cases h
    · injection h with e1 e2; subst e1; subst e2; exact ⟨hc, rfl⟩
  | err c3 a3 =>
    rw [hr, Res.bind_err] at h
    obtain ⟨h1, h2⟩ := uintR_err (show uintR l k 32 = .err c3 a3 from hr)
    injection h with e1 e2
    exact ⟨by omega, by omega⟩
/-- A name. -/
noncomputable def nameR (l : List UInt8) (k : Nat) : Res (List UInt8) := (atMostR l k 200 13).bind fun v k' =>
  if k' + v.toNat ≤ l.length then (if validD ((l.drop k').take v.toNat) then .ok ((l.drop k').take v.toNat) (k' + v.toNat) else .err 4 k') else .err 2 k'
theorem nameR_err {l : List UInt8} {k : Nat} {c a : Int} (h : nameR l k = .err c a) : c ≠ 0 ∧ 0 ≤ a ∧ a ≤ l.length + k := by
  unfold nameR at h
  cases hr : atMostR l k 200 13 with
  | ok v k' =>
    rw [hr, Res.bind_ok] at h
    have h1 := (atMostR_ok hr).1
    repeat' split at h
    all_goals first | (injection h with e1 e2; subst e1; subst e2; exact ⟨by omega, by omega, by omega⟩) | cases h
  | err c2 a2 =>
    rw [hr, Res.bind_err] at h
    obtain ⟨h1, h2⟩ := atMostR_err hr (by omega)
    injection h with e1 e2
    subst e1; subst e2; subst h2
    exact ⟨h1, by omega, by omega⟩
theorem nameR_ok {l t : List UInt8} {k k' : Nat} (h : nameR l k = .ok t k') : k' ≤ l.length ∧ k < k' ∧ t.length ≤ 200 := by
  unfold nameR at h
  cases hr : atMostR l k 200 13 with
  | ok v k1 =>
    rw [hr, Res.bind_ok] at h
    have h1 := atMostR_ok hr
    repeat' split at h
    all_goals first | (injection h with e1 e2; subst e1; subst e2; exact ⟨by assumption, by omega, by rw [List.length_take]; omega⟩) | cases h
  | err c2 a2 => rw [hr, Res.bind_err] at h; cases h
theorem bys_lies {W : World} {B b o : Nat} {t : List UInt8} (h : Lies W B (some ⟨b, o, none⟩) (cells (nums t))) : Bys W b o t := fun j hj => by
  obtain ⟨b2, o2, e, _, hc⟩ := h.byte (i := j) (c := (t[j].toNat : Int)) (by unfold nums; rw [List.getElem?_map, List.getElem?_eq_getElem hj]; rfl)
  simp only [Option.some.injEq, Addr.mk.injEq] at e
  obtain ⟨rfl, rfl, _⟩ := e
  exact hc
set_option maxHeartbeats 1000000 in
theorem name_scan {w : World} {p : Nat} {l : List UInt8} {k : Nat} (h : Sc w p l k) (hT : TbN p w) :
    Calls Tryd.prog 59 #[.pointer (some ⟨p, 0, none⟩)] w (Did encS p l w (nameR l k)) := by
  have hN := atMost_scan h 200 13
  have hp := h.lt
  unfold nameR
  cases hr : atMostR l k 200 13 with
  | err c a =>
    rw [hr] at hN
    rw [Res.bind_err]
    have HN := Lib.hid hN
    clear hN hr h hT
    go_enter Tryd.func59, Tryd.ntmps59
    go_wp2_with (go_at_call 86; go_must ((with_reducible refine HN.out.mono ?_); rintro e w1 ⟨rfl, hg⟩; have HG := Lib.hid hg; clear hg))
    exact ⟨rfl, rfl, HG.out⟩
  | ok v k' =>
    rw [hr] at hN
    rw [Res.bind_ok]
    have HN := Lib.hid hN
    obtain ⟨hk, v0, v1, hlt⟩ := atMostR_ok hr
    obtain ⟨n, rfl⟩ : ∃ n : Nat, v = n := ⟨v.toNat, by omega⟩
    have HT := Lib.hid hT
    rw [Int.toNat_natCast]
    clear hN hr h hT v0
    by_cases hn : k' + n ≤ l.length
    · rw [if_pos hn]
      have hlen : ((l.drop k').take n).length = n := by rw [List.length_take, List.length_drop]; omega
      have HTS := Lib.hid (fun (W : World) (hs : Sc W p l k') => take_some hs n hn (by omega))
      obtain ⟨t, ht⟩ : ∃ t, t = (l.drop k').take n := ⟨_, rfl⟩
      have HE := Lib.hid ht
      rw [← ht] at hlen ⊢
      subst hlen
      clear ht hn hlt
      have HRi := Lib.hid (fun (W : World) (b o c : Nat) (hc : t.length ≤ c) (hT : Tabs W) (hl : Lies W p (some ⟨b, o, none⟩) (cells (nums t))) => right_any t b o c W (by omega) hc hT (bys_lies hl))
      by_cases hv : validD t = true
      · rw [if_pos hv]
        rw [hv] at HRi
        clear hv
        go_enter Tryd.func59, Tryd.ntmps59
        go_wp2_with (first
          | (go_at_call 86; go_must ((with_reducible refine HN.out.mono ?_); rintro e w1 ⟨rfl, hs, hg⟩; have c1 := hs.at; have HTK := Lib.hid (HTS.out _ hs); have HG := Lib.hid hg; clear hs hg))
          | (go_at_call 87; go_must ((with_reducible refine HTK.out.mono ?_); rintro e w2 ⟨b, o, c, rfl, hc, hl, hs, hg⟩; rw [← HE.out] at hl; have HL := Lib.hid hl; have HS := Lib.hid hs; have HG2 := Lib.hid (gb_trans HG.out hg); have HC := Lib.hid hc; clear hl hs hg hc))
          | (go_at_call 89; go_must ((with_reducible refine (HRi.out _ _ _ _ HC.out (HT.out.keep HG2.out (Nat.le_refl _)).tabs HL.out).mono ?_); rintro e w3 ⟨rfl, hb⟩; have hst := str_any (HL.out.below hb (Nat.le_of_lt HS.out.lt)) c; have HB := Lib.hid hb; clear hb))
          | (go_at_call 88; go_must ((with_reducible refine (unlessT _ _ _).mono ?_); rintro e w' ⟨rfl, rfl⟩)))
        go_ret
        exact ⟨rfl, HS.out.below HB.out, gb_before HG2.out (gb_of_below (some p) HB.out) (fun g e => .inl e)⟩
      · rw [if_neg hv]
        have hv' : validD t = false := by simpa using hv
        rw [hv'] at HRi
        clear hv hv'
        go_enter Tryd.func59, Tryd.ntmps59
        go_wp2_with (first
          | (go_at_call 86; go_must ((with_reducible refine HN.out.mono ?_); rintro e w1 ⟨rfl, hs, hg⟩; have c1 := hs.at; have HTK := Lib.hid (HTS.out _ hs); have HG := Lib.hid hg; clear hs hg))
          | (go_at_call 87; go_must ((with_reducible refine HTK.out.mono ?_); rintro e w2 ⟨b, o, c, rfl, hc, hl, hs, hg⟩; rw [← HE.out] at hl; have HL := Lib.hid hl; have HS := Lib.hid hs; have HG2 := Lib.hid (gb_trans HG.out hg); have HC := Lib.hid hc; clear hl hs hg hc))
          | (go_at_call 89; go_must ((with_reducible refine (HRi.out _ _ _ _ HC.out (HT.out.keep HG2.out (Nat.le_refl _)).tabs HL.out).mono ?_); rintro e w3 ⟨rfl, hb⟩; have HB := Lib.hid hb; clear hb))
          | (go_at_call 88; go_must ((with_reducible refine (unlessF _ _ _).mono ?_); rintro e w' ⟨rfl, rfl⟩)))
        exact ⟨rfl, rfl, gb_before HG2.out (gb_of_below (some p) HB.out) (fun g e => .inl e)⟩
    · rw [if_neg hn]
      have HTS := Lib.hid (fun (W : World) (hs : Sc W p l k') => take_short hs n (by omega))
      clear hn
      go_enter Tryd.func59, Tryd.ntmps59
      go_wp2_with (first
        | (go_at_call 86; go_must ((with_reducible refine HN.out.mono ?_); rintro e w1 ⟨rfl, hs, hg⟩; have c1 := hs.at; have HTK := Lib.hid (HTS.out _ hs); have HG := Lib.hid hg; clear hs hg))
        | (go_at_call 87; go_must ((with_reducible refine HTK.out.mono ?_); rintro e w2 ⟨rfl, hg⟩; have HG2 := Lib.hid (gb_trans HG.out hg); clear hg)))
      exact ⟨rfl, rfl, HG2.out⟩
end Go.Proofs.YtapgfapplafepaaDoor

/- sect.number, contents, Next. -/
namespace Go.Proofs.YtapgfapplafepaaDoor
open Go.RowKit Go.Lib
set_option linter.unusedVariables false
set_option maxRecDepth 100000

/-- A section: its number, its name, its bytes, where these begin. -/
structure Sct where
  id : UInt8
  name : List UInt8
  body : List UInt8
  off : Int
/-- A section's number. -/
def numR (l : List UInt8) (k : Nat) : Res UInt8 := (byteR l k).bind fun c k' => if (c.toNat : Int) ≤ 11 then .ok c k' else .err 6 k
theorem byteR_ok {l : List UInt8} {k : Nat} {c : UInt8} {k' : Nat} (h : byteR l k = .ok c k') : k' = k + 1 ∧ k < l.length := by
  unfold byteR at h
  cases hl : l[k]? with
  | none => rw [hl] at h; cases h
  | some d =>
    rw [hl] at h
    injection h with h1 h2
    exact ⟨h2.symm, (List.getElem?_eq_some_iff.1 hl).1⟩
theorem byteR_err {l : List UInt8} {k : Nat} {c a : Int} (h : byteR l k = .err c a) : c = 2 ∧ a = k := by
  unfold byteR at h
  cases hl : l[k]? with
  | none => rw [hl] at h; injection h with h1 h2; exact ⟨h1.symm, h2.symm⟩
  | some d => rw [hl] at h; cases h
theorem numR_ok {l : List UInt8} {k : Nat} {c : UInt8} {k' : Nat} (h : numR l k = .ok c k') : k' = k + 1 ∧ k < l.length := by
  unfold numR at h
  cases hr : byteR l k with
  | ok d k2 =>
    rw [hr, Res.bind_ok] at h
    split at h
    · injection h with h1 h2; subst h1; subst h2; exact byteR_ok hr
    · cases h
  | err c2 a => rw [hr, Res.bind_err] at h; cases h
theorem numR_err {l : List UInt8} {k : Nat} {c a : Int} (h : numR l k = .err c a) : c ≠ 0 := by
  unfold numR at h
  cases hr : byteR l k with
  | ok d k2 =>
    rw [hr, Res.bind_ok] at h
    split at h
    · cases h
    · injection h with h1 h2; omega
  | err c2 a2 =>
    rw [hr, Res.bind_err] at h
    injection h with h1 h2
    have := (byteR_err hr).1
    omega
/-- How many bytes follow, and where they begin. -/
noncomputable def contR (l : List UInt8) (k : Nat) : Res Nat := (indexR l k).bind fun v k' => if k' + v.toNat ≤ l.length then .ok v.toNat k' else .err 2 k'
theorem contR_ok {l : List UInt8} {k n k' : Nat} (h : contR l k = .ok n k') : k < k' ∧ k' + n ≤ l.length := by
  unfold contR at h
  cases hr : indexR l k with
  | ok v k2 =>
    rw [hr, Res.bind_ok] at h
    split at h
    · injection h with h1 h2; subst h1; subst h2; exact ⟨uintR_lt (show uintR l k 32 = .ok v k2 from hr), by assumption⟩
    · cases h
  | err c2 a => rw [hr, Res.bind_err] at h; cases h
theorem contR_err {l : List UInt8} {k : Nat} {c a : Int} (h : contR l k = .err c a) : c ≠ 0 := by
  unfold contR at h
  cases hr : indexR l k with
  | ok v k2 =>
    rw [hr, Res.bind_ok] at h
    split at h
    · cases h
    · injection h with h1 h2; omega
  | err c2 a2 =>
    rw [hr, Res.bind_err] at h
    injection h with h1 h2
    have := (uintR_err (show uintR l k 32 = .err c2 a2 from hr)).2
    omega
/-- What contents leaves behind. -/
def Cont (p : Nat) (l : List UInt8) (w : World) (r : Res Nat) (e : Ending) (w' : World) : Prop := match r with
  | .ok n k => ∃ q, e = .returned (.tuple #[.pointer (some ⟨q, 0, none⟩), .int .i64 k]) ∧ w.heap.size ≤ q ∧ Sc w' q ((l.drop k).take n) 0 ∧ Sc w' p l (k + n) ∧ w.grownBy w' (some p)
  | .err c a => e = .panicked (stopP c a) ∧ w.grownBy w' (some p)
end Go.Proofs.YtapgfapplafepaaDoor

/- Single steps of a region that draws its order: what makes memory or writes. -/
namespace Go.Proofs.YtapgfapplafepaaDoor
open Go.RowKit
set_option linter.unusedVariables false

/-- []byte(s): its block. -/
def convRow (W : World) (s : ByteArray) : Obj := .cells (bytesRow s (grownCap W s.size 0 5)) 5 ((bytesRow s (grownCap W s.size 0 5)).size, (bytesRow s (grownCap W s.size 0 5)).size + 1)
theorem conv_run (s : ByteArray) (W : World) : (convert 9 31 (.string s)).run Tryd.prog W = .ok (.slice (some ⟨W.heap.size, 0, none⟩) s.size (grownCap W s.size 0 5)) (W.drew.alloc (convRow W s)) :=
  run_bytes_of_string (P := Tryd.prog) W 9 31 5 s Tryd.underlying9 Tryd.underlying31 Tryd.underlying5
theorem conv_lies (W : World) (l : List UInt8) : Lies (W.drew.alloc (convRow W (S l))) (W.heap.size + 1) (some ⟨W.heap.size, 0, none⟩) (cells (nums l)) := by
  intro i v hv
  refine ⟨W.heap.size, 0, rfl, by omega, ?_⟩
  have hi : i < l.length := by
    have := (List.getElem?_eq_some_iff.1 hv).1
    rw [cells_length, nums_length] at this
    exact this
  rw [Nat.zero_add, ← hv]
  have hr : (bytesRow (S l) (grownCap W (S l).size 0 5))[i]? = (cells (nums l))[i]? := by
    unfold bytesRow S cells nums
    simp [Array.getElem?_append, hi]
  rw [← hr]
  exact cell_of_row _ W.heap.size i _ _ _ (heap_alloc_new W.drew _)
theorem Lies.put {w : World} {B g bb : Nat} {vs : List Value} (h : Lies w B (some ⟨g, 0, none⟩) vs) (hne : g ≠ bb) (i : Nat) (v : Value) : Lies (w.setCell ⟨bb, i, none⟩ v) B (some ⟨g, 0, none⟩) vs := fun j u hu => by
  obtain ⟨b, off, e, h1, h2⟩ := h j u hu
  injection e with e
  injection e with e1 e2
  subst e1; subst e2
  refine ⟨g, 0, rfl, h1, ?_⟩
  rw [← h2]
  exact World.cell?_of_block (a := ⟨g, 0 + j, none⟩) (heap_setCell_other w ⟨bb, i, none⟩ g v hne)
section
variable {w : World} {ops : Array Oper} {o : Oper} {a : Act} {K : Act → World → Prop} {Q : Exit → Act → World → Prop} {E : Prop}
theorem step_value {v : Value} {w' : World} (hgd : o.guard = none) (h : (execOp a.eval o).run Tryd.prog w = .ok (.value v) w') (hK : K (a.put o.dst v) w') :
    if Region.wanted o (yielded ops a.tmps) = true then Oper.wp Tryd.prog o a w K Q else E := by
  have hw : Region.wanted o (yielded ops a.tmps) = true := by simp [Region.wanted, hgd]
  rw [if_pos hw]
  unfold Oper.wp
  rw [h]
  exact hK
theorem step_skip {w' : World} (hgd : o.guard = none) (h : (execOp a.eval o).run Tryd.prog w = .ok .skip w') (hK : K (a.put o.dst undef) w') :
    if Region.wanted o (yielded ops a.tmps) = true then Oper.wp Tryd.prog o a w K Q else E := by
  have hw : Region.wanted o (yielded ops a.tmps) = true := by simp [Region.wanted, hgd]
  rw [if_pos hw]
  unfold Oper.wp
  rw [h]
  exact hK
/-- A cell for a slice of bytes is made. -/
theorem step_alloc (hgd : o.guard = none) (ho : o.op = .alloc 31) (h : ∀ bb wa, w.heap.size ≤ bb → bb < wa.heap.size → Below w.heap.size w wa → Whole wa bb 31 #[.slice none 0 0] → K (a.put o.dst (.pointer (some ⟨bb, 0, none⟩))) wa) :
    if Region.wanted o (yielded ops a.tmps) = true then Oper.wp Tryd.prog o a w K Q else E := by
  refine step_value (w' := w.alloc (.cells #[.slice none 0 0] 31)) hgd ?_ (h _ _ (Nat.le_refl _) (by simp) (below_box w _) (Whole.made w _ _))
  cases o
  subst ho
  simp [go_sem]
/-- []byte(s). -/
theorem step_conv (hgd : o.guard = none) (x : Operand) (ho : o.op = .convert 9 31 x) (l : List UInt8) (hx : a.eval x = .string (S l))
    (h : ∀ g cap wc, w.heap.size ≤ g → g < wc.heap.size → l.length ≤ cap → Below w.heap.size w wc → Lies wc wc.heap.size (some ⟨g, 0, none⟩) (cells (nums l)) → K (a.put o.dst (.slice (some ⟨g, 0, none⟩) l.length cap)) wc) :
    if Region.wanted o (yielded ops a.tmps) = true then Oper.wp Tryd.prog o a w K Q else E := by
  have hr := conv_run (S l) w
  have hg := grownCap_ge w (S l).size 0 5
  rw [S_size] at hg
  refine step_value (v := .slice (some ⟨w.heap.size, 0, none⟩) l.length (grownCap w l.length 0 5)) (w' := w.drew.alloc (convRow w (S l))) hgd ?_ (h _ _ _ (Nat.le_refl _) (by simp) hg ((Below.refl _ _).drew.alloc (Nat.le_refl _) _) ((conv_lies w l).more (by simp)))
  cases o
  subst ho
  rw [S_size] at hr
  clear h
  generalize a.eval = ev at hx ⊢
  simp [go_sem, hx, hr]
/-- The cell is written. -/
theorem step_store (hgd : o.guard = none) (pa pv : Operand) (ho : o.op = .store 31 pa pv) (bb : Nat) (A : Option Addr) (n c : Nat) (hx : a.eval pa = .pointer (some ⟨bb, 0, none⟩)) (hv : a.eval pv = .slice A n c) {y : Value}
    (hw : Whole w bb 31 #[y]) (h : K (a.put o.dst undef) (w.setCell ⟨bb, 0, none⟩ (.slice A n c))) :
    if Region.wanted o (yielded ops a.tmps) = true then Oper.wp Tryd.prog o a w K Q else E := by
  have c0 := hw.cell 0
  have f0 := hw.frozen 0
  simp only [List.getElem?_toArray, List.getElem?_cons_zero] at c0
  refine step_skip hgd ?_ h
  cases o
  subst ho
  clear h
  generalize a.eval = ev at hx hv ⊢
  simp [go_sem, hx, hv, c0, f0]
end
end Go.Proofs.YtapgfapplafepaaDoor

/- sect.Next of any bytes. -/
namespace Go.Proofs.YtapgfapplafepaaDoor
open Go.RowKit Go.Lib
set_option linter.unusedVariables false
set_option maxRecDepth 100000

theorem size_box (w : World) (o : Obj) : (w.alloc o).heap.size = w.heap.size + 1 := by simp
def secZ : Array Value := #[.int .u8 0, .string { data := #[] }, .slice none 0 0, .int .i64 0]
def secC (c : UInt8) (t : List UInt8) (v : Value) (a : Int) : Array Value := #[.int .u8 c.toNat, .string (S t), v, .int .i64 a]
section
variable {w W W' : World} {p q P X : Nat} {l part : List UInt8} {k j : Nat} {x : Array Value}
end
theorem left_nat {w : World} {p : Nat} {l : List UInt8} {k : Nat} (h : Sc w p l k) :
    Calls Tryd.prog 19 #[.pointer (some ⟨p, 0, none⟩)] w fun e w' => e = .returned (.int .i64 ((l.length - k : Nat) : Int)) ∧ ∃ m, w' = w.drewN m :=
  (left_any h).mono fun e w' h1 => ⟨by rw [h1.1]; congr 2; have := h.le; omega, h1.2⟩
theorem Row.past {w w' : World} {B b : Nat} {v : Value} {xs : List UInt8} (h : Row w B v xs) (hg : w.grownBy w' (some b)) (hb : b < B) : Row w' B v xs :=
  World.ownsRow.kept h hg (by
    cases hv : v.ownBlock with
    | none => exact .inl rfl
    | some k => exact .inr (by have := (World.ownsRow.lt h k hv).1; simp only [ne_eq, Option.some.injEq]; omega))
theorem Row.slice {w : World} {B : Nat} {v : Value} {xs : List UInt8} (h : Row w B v xs) : ∃ A c, v = .slice A xs.length c := by
  obtain ⟨A, c, e, _⟩ := lies_own h
  exact ⟨A, c, e⟩
theorem step_put {w : World} {ops : Array Oper} {o : Oper} {a : Act} {K : Act → World → Prop} {Q : Exit → Act → World → Prop} {E : Prop} (hgd : o.guard = none) (pa pv : Operand) (ho : o.op = .store 31 pa pv) (bb i : Nat) (A : Option Addr) (n c : Nat) (hx : a.eval pa = .pointer (some ⟨bb, i, none⟩)) (hv : a.eval pv = .slice A n c) {y : Value}
    (c0 : w.cell? ⟨bb, i, none⟩ = some y) (f0 : w.frozen? ⟨bb, i, none⟩ = false) (h : K (a.put o.dst undef) (w.setCell ⟨bb, i, none⟩ (.slice A n c))) :
    if Region.wanted o (yielded ops a.tmps) = true then Oper.wp Tryd.prog o a w K Q else E := by
  refine step_skip hgd ?_ h
  cases o
  subst ho
  clear h
  generalize a.eval = ev at hx hv ⊢
  simp [go_sem, hx, hv, c0, f0]
/-- What Next reads. -/
noncomputable def nextR (l : List UInt8) (k : Nat) : Res Sct := (numR l k).bind fun c k1 => (contR l k1).bind fun n k2 =>
  if c.toNat = 0 then (match nameR ((l.drop k2).take n) 0 with
    | .ok t j => .ok ⟨c, t, ((l.drop k2).take n).drop j, (k2 : Int) + j⟩ (k2 + n)
    | .err e a => .err e (a + k2))
  else .ok ⟨c, [], (l.drop k2).take n, k2⟩ (k2 + n)
theorem nextR_err {l : List UInt8} {k : Nat} {c a : Int} (h : nextR l k = .err c a) : c ≠ 0 := by
  unfold nextR at h
  cases h1 : numR l k with
  | err c2 a2 =>
    rw [h1, Res.bind_err] at h
    injection h with e1 e2
    exact e1 ▸ numR_err h1
  | ok c2 k1 =>
    rw [h1, Res.bind_ok] at h
    cases h2 : contR l k1 with
    | err c3 a3 =>
      rw [h2, Res.bind_err] at h
      injection h with e1 e2
      exact e1 ▸ contR_err h2
    | ok n k2 =>
      rw [h2, Res.bind_ok] at h
      by_cases h0 : c2.toNat = 0
      · rw [if_pos h0] at h
        cases h3 : nameR ((l.drop k2).take n) 0 with
        | ok t j => rw [h3] at h; cases h
        | err e a =>
          rw [h3] at h
          injection h with e1 e2
          exact e1 ▸ (nameR_err h3).1
      · rw [if_neg h0] at h; cases h
/-- What Next hands back. -/
def Nexted (p : Nat) (l : List UInt8) (w : World) (r : Res Sct) (e : Ending) (w' : World) : Prop := match r with
  | .ok x k => ∃ v, e = .returned (.agg (secC x.id x.name v x.off)) ∧ Row w' w.heap.size v x.body ∧ Sc w' p l k ∧ w.grownBy w' (some p)
  | .err c a => e = .panicked (stopP c a) ∧ w.grownBy w' (some p)
theorem nexted_end {p k2 j k' : Nat} {l : List UInt8} {w W4 : World} {c : UInt8} {t y : List UInt8} {A : Option Addr} {cc : Nat} {x : Sct} (hx : x = ⟨c, t, y, (k2 : Int) + j⟩) (hr : Row W4 w.heap.size (.slice A y.length cc) y) (hs : Sc W4 p l k') (hg : w.grownBy W4 (some p)) :
    Nexted p l w (.ok x k') (.returned (.agg #[.int .u8 c.toNat, .string (S t), .slice A y.length cc, .int .i64 ((k2 : Int) + j)])) W4 := by
  subst hx
  exact ⟨_, rfl, hr, hs, hg⟩
theorem nextR_ok {l : List UInt8} {k k' : Nat} {x : Sct} (h : nextR l k = .ok x k') : k < k' ∧ k' ≤ l.length := by
  unfold nextR at h
  cases h1 : numR l k with
  | err c2 a2 => rw [h1, Res.bind_err] at h; cases h
  | ok c2 k1 =>
    rw [h1, Res.bind_ok] at h
    have e1 := numR_ok h1
    cases h2 : contR l k1 with
    | err c3 a3 => rw [h2, Res.bind_err] at h; cases h
    | ok n k2 =>
      rw [h2, Res.bind_ok] at h
      have e2 := contR_ok h2
      by_cases h0 : c2.toNat = 0
      · rw [if_pos h0] at h
        cases h3 : nameR ((l.drop k2).take n) 0 with
        | ok t j => rw [h3] at h; injection h with q1 q2; omega
        | err e a => rw [h3] at h; cases h
      · rw [if_neg h0] at h; injection h with q1 q2; omega
end Go.Proofs.YtapgfapplafepaaDoor

/- Sections in a row of the call's own; sect.rest of any bytes. -/
namespace Go.Proofs.YtapgfapplafepaaDoor
open Go.RowKit Go.Lib
set_option linter.unusedVariables false
set_option maxRecDepth 100000

abbrev SSlot := Sct × Option Addr × Nat
def rowS (x : SSlot) : List Value := [.int .u8 x.1.id.toNat, .string (S x.1.name), .slice x.2.1 x.1.body.length x.2.2, .int .i64 x.1.off]
/-- Each section's bytes lie in a row of their own. -/
def AllB (W : World) (base : Nat) (rows : List SSlot) : Prop := ∀ x ∈ rows, Row W base (.slice x.2.1 x.1.body.length x.2.2) x.1.body
theorem own_whole {W : World} {b : Nat} {e : TypeId} {s n q : Nat} {v : Value} {xs : List Value} {t : TypeId} {cs : Array Value} (h : W.ownsRow b e s v n xs) (hw : Whole W q t cs) (ht : t ≠ e) : some q ≠ v.ownBlock := by
  rcases h.2 with ⟨rfl, _⟩ | ⟨g, cap, cur, rfl, _, hg, _⟩
  · simp [Value.ownBlock]
  · simp only [Value.ownBlock, ne_eq, Option.some.injEq]
    exact hw.apart (show Whole W g e cur from hg) ht
theorem own_own {W : World} {b b' : Nat} {e e' : TypeId} {s s' n n' : Nat} {v v' : Value} {xs xs' : List Value} (h : W.ownsRow b e s v n xs) (h' : W.ownsRow b' e' s' v' n' xs') (ht : e ≠ e') : v.ownBlock = none ∨ v.ownBlock ≠ v'.ownBlock := by
  rcases h.2 with ⟨rfl, _⟩ | ⟨g, cap, cur, rfl, _, hg, _⟩
  · exact .inl rfl
  · exact .inr (own_whole h' (show Whole W g e cur from hg) ht)
theorem AllB.past {W W' : World} {base b : Nat} {rows : List SSlot} (h : AllB W base rows) (hg : W.grownBy W' (some b)) (hb : b < base) : AllB W' base rows := fun x hx => (h x hx).past hg hb
theorem AllB.alloc {W : World} {base : Nat} {rows : List SSlot} (h : AllB W base rows) (o : Obj) : AllB (W.alloc o) base rows := fun x hx => (h x hx).alloc o
/-- All the sections that are left. -/
noncomputable def restR (l : List UInt8) : Nat → Nat → Nat → List Sct → Res (List Sct)
  | 0, k, _, _ => .err 1 k
  | f + 1, k, last, acc => if k = l.length then .ok acc k else (nextR l k).bind fun x k' =>
      if x.id.toNat ≠ 0 ∧ ¬ last < x.id.toNat then .err 6 k else
      if acc.length < 10000 then restR l f k' (if x.id.toNat ≠ 0 then x.id.toNat else last) (acc ++ [x]) else .err 29 k
theorem restR_err {l : List UInt8} : ∀ {f k last : Nat} {acc : List Sct} {c a : Int}, restR l f k last acc = .err c a → c ≠ 0
  | 0, k, last, acc, c, a, h => by unfold restR at h; injection h with e1 e2; omega
  | f + 1, k, last, acc, c, a, h => by
    unfold restR at h
    by_cases h0 : k = l.length
    · rw [if_pos h0] at h; cases h
    · rw [if_neg h0] at h
      cases hn : nextR l k with
      | err c2 a2 =>
        rw [hn, Res.bind_err] at h
        injection h with e1 e2
        exact e1 ▸ nextR_err hn
      | ok x k' =>
        rw [hn, Res.bind_ok] at h
        split at h
        · injection h with e1 e2; omega
        · split at h
          · exact restR_err h
          · injection h with e1 e2; omega
end Go.Proofs.YtapgfapplafepaaDoor

/- The walk of sect.rest. -/
namespace Go.Proofs.YtapgfapplafepaaDoor
open Go.RowKit Go.Lib
set_option linter.unusedVariables false
set_option maxRecDepth 100000

theorem nextR_le {l : List UInt8} {k k' : Nat} {x : Sct} (h : nextR l k = .ok x k') : l.length - k' < l.length - k := by have := nextR_ok h; omega
/-- One step of the list that is being read. -/
theorem restR_end {l : List UInt8} {f last : Nat} {acc : List Sct} : restR l (f + 1) l.length last acc = .ok acc l.length := by unfold restR; rw [if_pos rfl]
theorem restR_bad {l : List UInt8} {f k last : Nat} {acc : List Sct} {c a : Int} (h0 : k ≠ l.length) (h : nextR l k = .err c a) : restR l (f + 1) k last acc = .err c a := by
  unfold restR; rw [if_neg h0, h, Res.bind_err]
theorem restR_low {l : List UInt8} {f k last k' : Nat} {acc : List Sct} {x : Sct} (h0 : k ≠ l.length) (h : nextR l k = .ok x k') (h1 : x.id.toNat ≠ 0) (h2 : ¬ last < x.id.toNat) : restR l (f + 1) k last acc = .err 6 k := by
  unfold restR; rw [if_neg h0, h, Res.bind_ok, if_pos ⟨h1, h2⟩]
theorem restR_many {l : List UInt8} {f k last k' : Nat} {acc : List Sct} {x : Sct} (h0 : k ≠ l.length) (h : nextR l k = .ok x k') (h1 : ¬ (x.id.toNat ≠ 0 ∧ ¬ last < x.id.toNat)) (h2 : ¬ acc.length < 10000) : restR l (f + 1) k last acc = .err 29 k := by
  unfold restR; rw [if_neg h0, h, Res.bind_ok, if_neg h1, if_neg h2]
theorem restR_next {l : List UInt8} {f k last k' : Nat} {acc : List Sct} {x : Sct} (h0 : k ≠ l.length) (h : nextR l k = .ok x k') (h1 : ¬ (x.id.toNat ≠ 0 ∧ ¬ last < x.id.toNat)) (h2 : acc.length < 10000) : restR l (f + 1) k last acc = restR l f k' (if x.id.toNat ≠ 0 then x.id.toNat else last) (acc ++ [x]) := by
  conv => lhs; unfold restR
  rw [if_neg h0, h, Res.bind_ok, if_neg h1, if_pos h2]
theorem made_2 (w : World) (o : Obj) (t : TypeId) (cs : Array Value) : Whole ((w.alloc o).alloc (.cells cs t)) (w.heap.size + 1) t cs := by
  have h := Whole.made (w.alloc o) t cs
  rwa [size_box] at h
end Go.Proofs.YtapgfapplafepaaDoor

/- abort.Value of a function that ends well, whatever it hands back: []sect.Section. Value of one that aborts. -/
namespace Go.Proofs.YtapgfapplafepaaDoor
open Go.RowKit
set_option linter.unusedVariables false
set_option maxRecDepth 100000

section
variable {T : (Option Addr × Nat × Nat) → World → Prop}
end
end Go.Proofs.YtapgfapplafepaaDoor

/- sect.Split of bytes that begin with Head; awake. -/
namespace Go.Proofs.YtapgfapplafepaaDoor
open Go.RowKit Go.Lib
set_option linter.unusedVariables false
set_option maxRecDepth 100000

/-- What a module begins with. -/
def headL : List UInt8 := [0, 97, 115, 109, 1, 0, 0, 0]
theorem TbN.of {w w' : World} {q : Nat} (h : Tabs w) (hb : Below w.heap.size w w') (hq : w.heap.size ≤ q) (hz : q ≤ w'.heap.size) : TbN q w' := by
  have h1 := block_lt_of_cell (h.1 0 (by omega))
  have h2 := block_lt_of_cell (h.2 0 (by omega)).1
  exact ⟨h.below hb, Nat.lt_of_lt_of_le h1 hq, Nat.lt_of_lt_of_le h2 hq, hz⟩
/-- What Split reads of bytes that begin with Head. -/
noncomputable def splitR (l : List UInt8) : Res (List Sct) := restR l (l.length + 1) 8 0 []
theorem below_new {w w1 w2 : World} {q : Nat} (h : Below w.heap.size w w1) (hg : w1.grownBy w2 (some q)) (hq : w.heap.size ≤ q) : Below w.heap.size w w2 :=
  Below.grown h hg h.size (fun g e => by injection e with e; omega)
theorem splitR_head : splitR headL = .ok [] 8 := by
  unfold splitR
  exact restR_end
/-- A block of bytes that reads as it was made, marked or not. -/
theorem lies_made (w : World) (xs : List UInt8) (fz : Nat × Nat) : Lies (w.alloc (.cells (cells (nums xs)).toArray 5 fz)) (w.heap.size + 1) (some ⟨w.heap.size, 0, none⟩) (cells (nums xs)) := fun i v hv => by
  refine ⟨w.heap.size, 0, rfl, by omega, ?_⟩
  rw [Nat.zero_add, cell_of_row _ w.heap.size i _ _ fz (heap_alloc_new w _)]
  simpa using hv
theorem head_cells : (cells (nums headL)).toArray = #[.int .u8 0, .int .u8 97, .int .u8 115, .int .u8 109, .int .u8 1, .int .u8 0, .int .u8 0, .int .u8 0] := by rfl
end Go.Proofs.YtapgfapplafepaaDoor

/- slices.Concat of three pieces; sect.size; single steps that make rows of slices. -/
namespace Go.Proofs.YtapgfapplafepaaDoor
open Go.RowKit
set_option linter.unusedVariables false
set_option maxRecDepth 100000

/-- Bytes that lie somewhere in this world; whose slice is nil only without room. -/
structure Pc (A : Option Addr) (c : Nat) (l : List UInt8) (w : World) : Prop where
  lies : Lies w w.heap.size A (cells (nums l))
  nil : A = none → c = 0
theorem Pc.below {A : Option Addr} {c : Nat} {l : List UInt8} {w w' : World} (h : Pc A c l w) (hb : Below w.heap.size w w') : Pc A c l w' := ⟨(h.lies.below hb (Nat.le_refl _)).more hb.size, h.nil⟩
theorem Pc.from {A : Option Addr} {c : Nat} {l : List UInt8} {w w' : World} {B : Nat} (h : Lies w B A (cells (nums l))) (hn : A = none → c = 0) (hB : B ≤ w.heap.size) (hb : Below w.heap.size w w') : Pc A c l w' := ⟨(h.below hb hB).more (Nat.le_trans hB hb.size), hn⟩
theorem Row.pc {w : World} {B : Nat} {v : Value} {xs : List UInt8} (h : Row w B v xs) : ∃ A c, v = .slice A xs.length c ∧ Pc A c xs w := by
  have h' := h
  obtain ⟨h1, h2⟩ := h
  obtain ⟨A, c, e, h3, h4, h5, _⟩ := lies_own h'
  refine ⟨A, c, e, h5, fun hA => ?_⟩
  rcases h2 with ⟨e2, _⟩ | ⟨g, cap, cur, e2, _⟩
  · rw [e] at e2
    injection e2
  · rw [e, hA] at e2
    injection e2 with e3
    cases e3
theorem Pc.room {A : Option Addr} {c : Nat} {l : List UInt8} {w : World} (h : Pc A c l w) : A = none → c = 0 := h.nil
set_option maxHeartbeats 1600000 in
/-- Concat of three pieces, of which one at least is not empty. -/
theorem concat3 {w : World} {g : Nat} {A1 A2 A3 : Option Addr} {c1 c2 c3 : Nat} {l1 l2 l3 : List UInt8} (hg : Whole w g 31 #[.slice A1 l1.length c1, .slice A2 l2.length c2, .slice A3 l3.length c3])
    (h1 : Pc A1 c1 l1 w) (h2 : Pc A2 c2 l2 w) (h3 : Pc A3 c3 l3 w) (n1 : 0 < l1.length + l2.length + l3.length) (n2 : l1.length + l2.length + l3.length ≤ 1000000) :
    Calls Tryd.prog 50 #[.slice (some ⟨g, 0, none⟩) 3 3] w (BytesL (l1 ++ l2 ++ l3) w) := by
  have g0 : w.cell? ⟨g, 0, none⟩ = some (.slice A1 l1.length c1) := hg.cell 0
  have g1 : w.cell? ⟨g, 1, none⟩ = some (.slice A2 l2.length c2) := hg.cell 1
  have g2 : w.cell? ⟨g, 2, none⟩ = some (.slice A3 l3.length c3) := hg.cell 2
  obtain ⟨m1, hm1⟩ : ∃ m, m = l1.length := ⟨_, rfl⟩
  obtain ⟨m2, hm2⟩ : ∃ m, m = l2.length := ⟨_, rfl⟩
  obtain ⟨m3, hm3⟩ : ∃ m, m = l3.length := ⟨_, rfl⟩
  rw [← hm1, ← hm2, ← hm3] at n1 n2
  rw [← hm1] at g0
  rw [← hm2] at g1
  rw [← hm3] at g2
  have HG := Lib.hid hg
  have H1 := Lib.hid h1
  have H2 := Lib.hid h2
  have H3 := Lib.hid h3
  have HM1 := Lib.hid hm1
  have HM2 := Lib.hid hm2
  have HM3 := Lib.hid hm3
  clear hg h1 h2 h3 hm1 hm2 hm3
  have HGr := Lib.hid (grow_any (m1 + m2 + m3) w (by omega) n2)
  go_enter Tryd.func50, Tryd.ntmps50
  go_wp2
  go_loop [3, 11] (fun s i => (s = .int .i64 0 ∧ i = .int .i64 0) ∨ (s = .int .i64 m1 ∧ i = .int .i64 1) ∨ (s = .int .i64 ((m1 + m2 : Nat) : Int) ∧ i = .int .i64 2) ∨ (s = .int .i64 ((m1 + m2 + m3 : Nat) : Int) ∧ i = .int .i64 3)) (fun _ i => 3 - (intOf i).toNat)
  case atStart => exact .inl ⟨rfl, rfl⟩
  case round =>
    rcases hrel with ⟨rfl, rfl⟩ | ⟨rfl, rfl⟩ | ⟨rfl, rfl⟩ | ⟨rfl, rfl⟩
    · go_wp2
      go_round
      case rel => exact .inr (.inl ⟨by go_num, rfl⟩)
      case measure => simp [intOf]
    · go_wp2
      go_round
      case rel => exact .inr (.inr (.inl ⟨by go_num, rfl⟩))
      case measure => simp [intOf]
    · go_wp2
      go_round
      case rel => exact .inr (.inr (.inr ⟨by go_num, rfl⟩))
      case measure => simp [intOf]
    · go_wp2_with (go_at_call 78; go_must (refine HGr.out.mono ?_; intro e w1 h; obtain ⟨v1, rfl, hr1, hb1⟩ := h; have HR1 := Lib.hid hr1; have HB1 := Lib.hid hb1; clear hr1 hb1))
      go_loopw [6, 27] (fun v i wr => Below w.heap.size w wr ∧ ((Row wr w.heap.size v [] ∧ i = .int .i64 0) ∨ (Row wr w.heap.size v l1 ∧ i = .int .i64 1) ∨ (Row wr w.heap.size v (l1 ++ l2) ∧ i = .int .i64 2) ∨ (Row wr w.heap.size v (l1 ++ l2 ++ l3) ∧ i = .int .i64 3))) (fun _ i _ => 3 - (intOf i).toNat)
      case atStart => exact ⟨HB1.out, .inl ⟨HR1.out, rfl⟩⟩
      case round =>
        obtain ⟨hb, ⟨hr, rfl⟩ | ⟨hr, rfl⟩ | ⟨hr, rfl⟩ | ⟨hr, rfl⟩⟩ := hrel
        · have c0 : wr.cell? ⟨g, 0, none⟩ = some (.slice A1 m1 c1) := by have := (HG.out.below hb).cell 0; rw [HM1.out]; exact this
          have HR := Lib.hid hr
          have HB := Lib.hid hb
          have hz := hb.size
          clear hr hb
          go_wp2_with (at_builtin; (refine row_any rfl _ _ rfl w.heap.size _ [] rfl HR.out A1 m1 c1 wr.heap.size l1 rfl HM1.out.symm (H1.out.below HB.out).lies H1.out.nil (by have := HM1.out; have := HM2.out; have := HM3.out; (try simp only [List.length_append, List.length_nil]); omega) hz ?_; intro v2 w2 hr2 hb2; have HR2 := Lib.hid hr2; have HB2 := Lib.hid hb2; clear hr2 hb2))
          go_roundw
          case rel => exact ⟨HB.out.trans HB2.out, .inr (.inl ⟨by simpa using HR2.out, rfl⟩)⟩
          case measure => simp [intOf]
        · have c0 : wr.cell? ⟨g, 1, none⟩ = some (.slice A2 m2 c2) := by have := (HG.out.below hb).cell 1; rw [HM2.out]; exact this
          have HR := Lib.hid hr
          have HB := Lib.hid hb
          have hz := hb.size
          clear hr hb
          go_wp2_with (at_builtin; (refine row_any rfl _ _ rfl w.heap.size _ l1 rfl HR.out A2 m2 c2 wr.heap.size l2 rfl HM2.out.symm (H2.out.below HB.out).lies H2.out.nil (by have := HM1.out; have := HM2.out; have := HM3.out; (try simp only [List.length_append, List.length_nil]); omega) hz ?_; intro v2 w2 hr2 hb2; have HR2 := Lib.hid hr2; have HB2 := Lib.hid hb2; clear hr2 hb2))
          go_roundw
          case rel => exact ⟨HB.out.trans HB2.out, .inr (.inr (.inl ⟨HR2.out, rfl⟩))⟩
          case measure => simp [intOf]
        · have c0 : wr.cell? ⟨g, 2, none⟩ = some (.slice A3 m3 c3) := by have := (HG.out.below hb).cell 2; rw [HM3.out]; exact this
          have HR := Lib.hid hr
          have HB := Lib.hid hb
          have hz := hb.size
          clear hr hb
          go_wp2_with (at_builtin; (refine row_any rfl _ _ rfl w.heap.size _ (l1 ++ l2) rfl HR.out A3 m3 c3 wr.heap.size l3 rfl HM3.out.symm (H3.out.below HB.out).lies H3.out.nil (by have := HM1.out; have := HM2.out; have := HM3.out; (try simp only [List.length_append, List.length_nil]); omega) hz ?_; intro v2 w2 hr2 hb2; have HR2 := Lib.hid hr2; have HB2 := Lib.hid hb2; clear hr2 hb2))
          go_roundw
          case rel => exact ⟨HB.out.trans HB2.out, .inr (.inr (.inr ⟨HR2.out, rfl⟩))⟩
          case measure => simp [intOf]
        · have HR := Lib.hid hr
          have HB := Lib.hid hb
          clear hr hb
          go_wp2
          go_ret
          exact ⟨_, rfl, HR.out, HB.out⟩
end Go.Proofs.YtapgfapplafepaaDoor
