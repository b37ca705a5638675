/- The scanner's At and Int; getOp, getBlock, getNumber, wire.Nought of bytes that are right. -/
import Derived.Test.YtebgmfjgapmpfabGreatDoorQe04
import Derived.Test.YtebgmfjgapmpfabGreatDoorQe07
namespace Go.Proofs.YtebgmfjgapmpfabGreatDoor
open Go.RowKit
set_option linter.unusedVariables false
set_option maxRecDepth 100000

/-- The tables lie below p, and nothing there has turned. -/
def TbP (p : Nat) (w : World) : Prop := ∃ W0, Tabs W0 ∧ W0.heap.size ≤ p ∧ Below W0.heap.size W0 w
theorem TbP.tabs {p : Nat} {w : World} (h : TbP p w) : Tabs w := by
  obtain ⟨W0, h1, _, h3⟩ := h
  exact h1.below h3
theorem TbP.of {p : Nat} {w : World} (h : Tabs w) (hp : w.heap.size ≤ p) : TbP p w := ⟨w, h, hp, Below.refl _ _⟩
theorem TbP.grown {p : Nat} {w w' : World} {row : Option Nat} (h : TbP p w) (hg : w.grownBy w' row) (hr : ∀ g, row = some g → p ≤ g) : TbP p w' := by
  obtain ⟨W0, h1, h2, h3⟩ := h
  exact ⟨W0, h1, h2, Below.grown h3 hg h3.size (fun g e => Nat.le_trans h2 (hr g e))⟩
theorem TbP.below {p B : Nat} {w w' : World} (h : TbP p w) (hb : Below B w w') (hB : p ≤ B) : TbP p w' := by
  obtain ⟨W0, h1, h2, h3⟩ := h
  exact ⟨W0, h1, h2, h3.trans (hb.mono (Nat.le_trans h2 hB))⟩
theorem TbP.self {p : Nat} {w w' : World} (h : TbP p w) (hg : w.grownBy w' (some p)) : TbP p w' := h.grown hg (fun g e => by injection e with e; omega)

theorem at_any {w : World} {p : Nat} {l : List UInt8} {k : Nat} (h : Sc w p l k) : Calls Tryz.prog 109 #[.pointer (some ⟨p, 0, none⟩)] w fun e w' => e = .returned (.int .i64 k) ∧ w = w' := by
  have c1 := h.at
  clear h
  go_enter Tryz.func109, Tryz.ntmps109
  go_wp2
  go_ret
  exact ⟨rfl, rfl⟩
abbrev encS64 (v : Int) : Value := .int .i64 v
theorem readI_at {w : World} {B : Nat} {A : Option Addr} {cap : Nat} {l r : List UInt8} {k n : Nat} {x : Int} (hl : Lies w B A (cells (nums l))) (hc : l.length ≤ cap) (hm : cap ≤ maxLen) (h : l.drop k = sebL x ++ r)
    (h0 : -2 ^ (n - 1) ≤ x) (h1 : x < 2 ^ (n - 1)) (n1 : 1 ≤ n) (n2 : n ≤ 64) (hk : k ≤ l.length) :
    Calls Tryz.prog 154 #[.slice A l.length cap, .int .i64 k, .int .i64 n] w fun e w' => e = .returned (.tuple #[.int .i64 x, .int .i64 ((k + (sebL x).length : Nat) : Int), .int .i64 0]) ∧ w = w' := by
  have m63 : (2 : Int) ^ (n - 1) ≤ 2 ^ 63 := mono2 (by omega)
  have e63 : (2 : Int) ^ 63 = 9223372036854775808 := rfl
  have hna := sebN_least x (by omega) (by omega)
  have hlen := sebL_length x
  have hnl := nums_sebL x
  obtain ⟨p, c, he, hg, hx, c0, c1, hf, hp⟩ := least_s h0 h1 n1 n2 hna
  rw [he] at hlen hnl
  have hd : (nums l).drop k = grps x p ++ c :: nums r := by
    have : (nums l).drop k = nums (l.drop k) := by unfold nums; rw [List.map_drop]
    rw [this, h, nums_append, hnl, ← he, hg]
    simp
  have hS : Stop ((n + 6) / 7) ((nums l).drop k) p := by rw [hd]; exact grps_stop x p _ c _ c1 (by omega)
  have hpc : ((nums l).drop k)[p]? = some c := by rw [hd]; exact grps_at x p c _
  have hN := nums_length l
  rw [← hN] at hc hk ⊢
  refine (ri_ok (nums l) A cap B k n p c w hl (nums_wf l) hc hm hk n1 n2 hS hp hpc hf).mono ?_
  rintro e w' ⟨rfl, rfl⟩
  refine ⟨?_, rfl⟩
  have e1 : numS (((nums l).drop k).take p) c = x := by
    rw [hd, grps_take]
    unfold numS
    rw [low_grps, grps_length]
    exact hx
  rw [e1, hlen]
  simp
set_option maxHeartbeats 800000 in
theorem numberI_scan {w : World} {p : Nat} {l r : List UInt8} {k n : Nat} {x : Int} (hs : Sc w p l k) (h : l.drop k = sebL x ++ r) (h0 : -2 ^ (n - 1) ≤ x) (h1 : x < 2 ^ (n - 1)) (n1 : 1 ≤ n) (n2 : n ≤ 64) :
    Calls Tryz.prog 153 #[.pointer (some ⟨p, 0, none⟩), .int .i64 n, .func (.func 154) #[] #[]] w (Did encS64 p l w (.ok x (k + (sebL x).length))) := by
  have c1 := hs.at
  obtain ⟨A, cap, c0, hl, hc, hm⟩ := hs.data
  have hU : ∀ m, _ := fun m => readI_at (w := w.drewN m) (n := n) hl hc hm h h0 h1 n1 n2 hs.le.1
  have HK : Hid (k + (sebL x).length ≤ l.length) := by
    have := congrArg List.length h
    have hk := hs.le.1
    rw [List.length_drop, List.length_append] at this
    show _ ≤ _
    omega
  have HU := Lib.hid hU
  have HS := Lib.hid hs
  have f1 := hs.free
  obtain ⟨k', hk'⟩ : ∃ k', k' = k + (sebL x).length := ⟨_, rfl⟩
  rw [← hk'] at HU HK ⊢
  clear hU hl hs h hk'
  go_enter Tryz.func153, Tryz.ntmps153
  go_wp2
  go_quiet (first
    | (go_at_call 154; exact (HU.out _).mono fun _ _ h => ⟨h.1, _, h.2.symm⟩))
  go_wp2_with (go_at_call 75; go_must ((with_reducible refine (unlessT _ _ _).mono ?_); rintro e w' ⟨rfl, rfl⟩))
  go_ret
  exact ⟨rfl, HS.out.moved nq k' k' rfl HK.out⟩
theorem int_scan {w : World} {p : Nat} {l r : List UInt8} {k n : Nat} {x : Int} (hs : Sc w p l k) (h : l.drop k = sebL x ++ r) (h0 : -2 ^ (n - 1) ≤ x) (h1 : x < 2 ^ (n - 1)) (n1 : 1 ≤ n) (n2 : n ≤ 64) :
    Calls Tryz.prog 132 #[.pointer (some ⟨p, 0, none⟩), .int .i64 n] w (Did encS64 p l w (.ok x (k + (sebL x).length))) := by
  have HN := Lib.hid (numberI_scan hs h h0 h1 n1 n2)
  clear hs h h0 h1
  generalize k + (sebL x).length = k' at *
  go_enter Tryz.func132, Tryz.ntmps132
  go_wp2_with (go_at_call 153; go_must ((with_reducible refine HN.out.mono ?_); rintro e w1 ⟨rfl, hs, hg⟩; have HS := Lib.hid hs; have HG := Lib.hid hg; clear hs hg))
  go_ret
  exact ⟨rfl, HS.out, HG.out⟩

theorem getOp_ok {w : World} {p : Nat} {l r : List UInt8} {k : Nat} {c : UInt8} (hs : Sc w p l k) (hT : TbP p w) (h : l.drop k = c :: r) (hc : checkR c.toNat = 0) :
    Calls Tryz.prog 127 #[.pointer (some ⟨p, 0, none⟩)] w (Did encB p l w (.ok c (k + 1))) := by
  have hB := byte_any hs
  rw [byteR_at h] at hB
  have HB := Lib.hid hB
  have HA := Lib.hid (at_any hs)
  have HT := Lib.hid hT
  have HC := Lib.hid (fun W (h : Tabs W) => by have := check_any c.toNat W h (by have := c.toNat_lt; omega); rw [hc] at this; exact this)
  clear hs hT h hB hc
  go_enter Tryz.func127, Tryz.ntmps127
  go_wp2_with (first
    | (go_at_call 109; go_must ((with_reducible refine HA.out.mono ?_); rintro e w' ⟨rfl, rfl⟩))
    | (go_at_call 126; go_must ((with_reducible refine HB.out.mono ?_); rintro e w1 ⟨rfl, hs, hg⟩; have HS := Lib.hid hs; have HG := Lib.hid hg; clear hs hg))
    | (go_at_call 139; go_must ((with_reducible refine (HC.out _ (HT.out.self HG.out).tabs).mono ?_); rintro e w' ⟨rfl, rfl⟩))
    | (go_at_call 75; go_must ((with_reducible refine (unlessT _ _ _).mono ?_); rintro e w' ⟨rfl, rfl⟩)))
  go_ret
  exact ⟨rfl, HS.out, HG.out⟩
theorem getBlock_ok {w : World} {p : Nat} {l r : List UInt8} {k : Nat} {c : UInt8} (hs : Sc w p l k) (h : l.drop k = c :: r) (hc : blockZ c.toNat = 0) :
    Calls Tryz.prog 129 #[.pointer (some ⟨p, 0, none⟩)] w (Did enc64 p l w (.ok c.toNat (k + 1))) := by
  have hB := byte_any hs
  rw [byteR_at h] at hB
  have HB := Lib.hid hB
  have HA := Lib.hid (at_any hs)
  have hw : IntKind.u64.wrap (c.toNat : Int) = c.toNat := by have := c.toNat_lt; simp [IntKind.wrap, IntKind.bits, IntKind.signed]; omega
  have HC := Lib.hid (fun W => by have := block_any c.toNat W (by omega); rw [hc] at this; exact this)
  clear hs h hB hc
  go_enter Tryz.func129, Tryz.ntmps129
  go_wp2_with (first
    | (go_at_call 109; go_must ((with_reducible refine HA.out.mono ?_); rintro e w' ⟨rfl, rfl⟩))
    | (go_at_call 126; go_must ((with_reducible refine HB.out.mono ?_); rintro e w1 ⟨rfl, hs, hg⟩; have HS := Lib.hid hs; have HG := Lib.hid hg; clear hs hg))
    | (go_at_call 151; go_must ((with_reducible refine (HC.out _).mono ?_); rintro e w' ⟨rfl, rfl⟩))
    | (go_at_call 75; go_must ((with_reducible refine (unlessT _ _ _).mono ?_); rintro e w' ⟨rfl, rfl⟩)))
  go_ret
  exact ⟨rfl, HS.out, HG.out⟩
theorem getNumber_ok {w : World} {p : Nat} {l r : List UInt8} {k : Nat} {x : Int} (hs : Sc w p l k) (h : l.drop k = lebL x ++ r) (h0 : 0 ≤ x) (h1 : x ≤ 4294967295) :
    Calls Tryz.prog 131 #[.pointer (some ⟨p, 0, none⟩)] w (Did enc64 p l w (.ok x (k + (lebL x).length))) := by
  have hN := index_scan hs
  rw [indexR_at h h0 h1] at hN
  have HN := Lib.hid hN
  have hw : IntKind.u64.wrap x = x := by simp [IntKind.wrap, IntKind.bits, IntKind.signed]; omega
  generalize k + (lebL x).length = k' at *
  clear hs h hN
  go_enter Tryz.func131, Tryz.ntmps131
  go_wp2_with (go_at_call 106; go_must ((with_reducible refine HN.out.mono ?_); rintro e w1 ⟨rfl, hs, hg⟩; have HS := Lib.hid hs; have HG := Lib.hid hg; clear hs hg))
  go_ret
  exact ⟨rfl, HS.out, HG.out⟩
theorem getNought_ok {w : World} {p : Nat} {l r : List UInt8} {k : Nat} (hs : Sc w p l k) (h : l.drop k = 0 :: r) :
    Calls Tryz.prog 115 #[.pointer (some ⟨p, 0, none⟩)] w (Did encU p l w (.ok () (k + 1))) := by
  have hB := byte_any hs
  rw [byteR_at h] at hB
  have HB := Lib.hid hB
  have HA := Lib.hid (at_any hs)
  clear hs h hB
  go_enter Tryz.func115, Tryz.ntmps115
  go_wp2_with (first
    | (go_at_call 109; go_must ((with_reducible refine HA.out.mono ?_); rintro e w' ⟨rfl, rfl⟩))
    | (go_at_call 126; go_must ((with_reducible refine HB.out.mono ?_); rintro e w1 ⟨rfl, hs, hg⟩; have HS := Lib.hid hs; have HG := Lib.hid hg; clear hs hg))
    | (go_at_call 75; go_must ((with_reducible refine (unlessT _ _ _).mono ?_); rintro e w' ⟨rfl, rfl⟩)))
  go_end0
  exact ⟨rfl, HS.out, HG.out⟩
end Go.Proofs.YtebgmfjgapmpfabGreatDoor

/- Of any bytes, errors and their places too: Scanner.Int, getOp, getBlock, getNumber, getNought. (For a later seat: ConstsReads.) -/
namespace Go.Proofs.YtebgmfjgapmpfabGreatDoor
open Go.RowKit
set_option linter.unusedVariables false
set_option maxRecDepth 100000

/-- A number of n bits, with a sign. -/
noncomputable def intR (l : List UInt8) (k n : Nat) : Res Int :=
  if 1 ≤ n ∧ n ≤ 64 then
    if onN l k n = (n + 6) / 7 then .err 3 k else
      match ((nums l).drop k)[onN l k n]? with
      | none => .err 2 k
      | some c => if sg c / 2 ^ (n - 7 * onN l k n - 1) = 0 ∨ sg c / 2 ^ (n - 7 * onN l k n - 1) = -1 then .ok (numS (((nums l).drop k).take (onN l k n)) c) (k + (onN l k n + 1)) else .err 3 k
  else .err 1 k
theorem intR_err {l : List UInt8} {k n : Nat} {c a : Int} (h : intR l k n = .err c a) : a = k ∧ (c = 1 ∨ c = 2 ∨ c = 3) := by
  unfold intR at h
  repeat' split at h
  all_goals first | (injection h with h1 h2; subst h1; subst h2; exact ⟨rfl, by omega⟩) | cases h
theorem intR_ok {l : List UInt8} {k n : Nat} {v : Int} {k' : Nat} (h : intR l k n = .ok v k') : k' ≤ l.length := by
  unfold intR at h
  by_cases h64 : 1 ≤ n ∧ n ≤ 64
  · rw [if_pos h64] at h
    by_cases h1 : onN l k n = (n + 6) / 7
    · rw [if_pos h1] at h; cases h
    · rw [if_neg h1] at h
      cases hpc : ((nums l).drop k)[onN l k n]? with
      | none => rw [hpc] at h; cases h
      | some c =>
        rw [hpc] at h
        have hlen := (List.getElem?_eq_some_iff.1 hpc).1
        rw [List.length_drop, nums_length] at hlen
        by_cases hf : sg c / 2 ^ (n - 7 * onN l k n - 1) = 0 ∨ sg c / 2 ^ (n - 7 * onN l k n - 1) = -1
        · simp only [if_pos hf] at h
          injection h with e1 e2
          omega
        · simp only [if_neg hf] at h; cases h
  · rw [if_neg h64] at h; cases h
def readI : Res Int → Value
  | .ok v k => .tuple #[.int .i64 v, .int .i64 k, .int .i64 0]
  | .err c _ => .tuple #[.int .i64 0, .int .i64 0, .int .i64 c]
theorem readI_any {w : World} {B : Nat} {A : Option Addr} {cap : Nat} {l : List UInt8} (hl : Lies w B A (cells (nums l))) (hc : l.length ≤ cap) (hm : cap ≤ maxLen) (k n : Nat) (hk : k ≤ l.length) :
    Calls Tryz.prog 154 #[.slice A l.length cap, .int .i64 k, .int .i64 n] w fun x w' => x = .returned (readI (intR l k n)) ∧ w = w' := by
  have hlen := nums_length l
  have hb := nums_wf l
  have hp := onN_stop l k n
  have hpM := hp.leM
  have hpR := hp.leR
  rw [List.length_drop, hlen] at hpR
  rw [← hlen] at hc hk ⊢
  unfold intR
  by_cases h64 : 1 ≤ n ∧ n ≤ 64
  · rw [if_pos h64]
    obtain ⟨n1, n2⟩ := h64
    by_cases h1 : onN l k n = (n + 6) / 7
    · rw [if_pos h1]
      refine ri_fail _ _ _ 3 w (.inr (.inr rfl)) ?_
      have := length_right (nums l) A cap B k n _ w hl hb hc hm hk n1 n2 hp
      unfold lenN lenE at this
      rwa [if_pos h1, if_pos h1] at this
    · rw [if_neg h1]
      by_cases h2 : onN l k n = (nums l).length - k
      · have e : ((nums l).drop k)[onN l k n]? = none := List.getElem?_eq_none (by rw [List.length_drop]; omega)
        rw [e]
        refine ri_fail _ _ _ 2 w (.inr (.inl rfl)) ?_
        have := length_right (nums l) A cap B k n _ w hl hb hc hm hk n1 n2 hp
        unfold lenN lenE at this
        rwa [if_neg h1, if_neg h1, if_pos h2, if_pos h2] at this
      · obtain ⟨c, hpc⟩ : ∃ c, ((nums l).drop k)[onN l k n]? = some c := ⟨_, List.getElem?_eq_getElem (by rw [List.length_drop]; omega)⟩
        rw [hpc]
        by_cases hf : sg c / 2 ^ (n - 7 * onN l k n - 1) = 0 ∨ sg c / 2 ^ (n - 7 * onN l k n - 1) = -1
        · simp only [if_pos hf]
          exact ri_ok (nums l) A cap B k n _ c w hl hb hc hm hk n1 n2 hp (by omega) hpc hf
        · simp only [if_neg hf]
          exact ri_far (nums l) A cap B k n _ c w hl hb hc hm hk n1 n2 hp (by omega) hpc hf
  · rw [if_neg h64]
    exact ri_fail _ _ _ 1 w (.inl rfl) (length_wrong (nums l) A cap _ _ w (by omega))
set_option maxHeartbeats 800000 in
theorem numberI_any {w : World} {p : Nat} {l : List UInt8} {k : Nat} (h : Sc w p l k) (n : Nat) :
    Calls Tryz.prog 153 #[.pointer (some ⟨p, 0, none⟩), .int .i64 n, .func (.func 154) #[] #[]] w (Did encS64 p l w (intR l k n)) := by
  have c1 := h.at
  obtain ⟨A, cap, c0, hl, hc, hm⟩ := h.data
  have hU : ∀ m, _ := fun m => readI_any (w := w.drewN m) hl hc hm k n h.le.1
  cases hr : intR l k n with
  | ok v k' =>
    simp only [hr, readI] at hU
    have HU := Lib.hid hU
    have HS := Lib.hid h
    have f1 := h.free
    have HK := Lib.hid (intR_ok hr)
    clear hU hr hl h
    go_enter Tryz.func153, Tryz.ntmps153
    go_wp2
    go_quiet (first
      | (go_at_call 154; exact (HU.out _).mono fun _ _ h => ⟨h.1, _, h.2.symm⟩))
    go_wp2_with (go_at_call 75; go_must ((with_reducible refine (unlessT _ _ _).mono ?_); rintro e w' ⟨rfl, rfl⟩))
    go_ret
    exact ⟨rfl, HS.out.moved nq k' k' rfl HK.out⟩
  | err c a =>
    simp only [hr, readI] at hU
    have HU := Lib.hid hU
    obtain ⟨rfl, hcs⟩ := intR_err hr
    have e2 : (c == 0) = false := by simp; omega
    clear hU hr hl h hcs
    go_enter Tryz.func153, Tryz.ntmps153
    go_wp2
    go_quiet (first
      | (go_at_call 154; exact (HU.out _).mono fun _ _ h => ⟨h.1, _, h.2.symm⟩))
    go_wp2_with (go_at_call 75; go_must ((with_reducible refine (unlessF _ _ _).mono ?_); rintro e w' ⟨rfl, rfl⟩))
    exact ⟨rfl, rfl, gb_drewN (gb_refl _ _) _⟩
theorem int_any2 {w : World} {p : Nat} {l : List UInt8} {k : Nat} (h : Sc w p l k) (n : Nat) :
    Calls Tryz.prog 132 #[.pointer (some ⟨p, 0, none⟩), .int .i64 n] w (Did encS64 p l w (intR l k n)) := by
  have hN := numberI_any h n
  cases hr : intR l k n with
  | ok v k' =>
    rw [hr] at hN
    have HN := Lib.hid hN
    clear hN hr h
    go_enter Tryz.func132, Tryz.ntmps132
    go_wp2_with (go_at_call 153; go_must ((with_reducible refine HN.out.mono ?_); rintro e w1 ⟨rfl, hs, hg⟩; have HS := Lib.hid hs; have HG := Lib.hid hg; clear hs hg))
    go_ret
    exact ⟨rfl, HS.out, HG.out⟩
  | err c a =>
    rw [hr] at hN
    have HN := Lib.hid hN
    clear hN hr h
    go_enter Tryz.func132, Tryz.ntmps132
    go_wp2_with (go_at_call 153; go_must ((with_reducible refine HN.out.mono ?_); rintro e w1 ⟨rfl, hg⟩; have HG := Lib.hid hg; clear hg))
    exact ⟨rfl, rfl, HG.out⟩

/-- The opcode that comes next, a block's type, a number, a byte that can only be 0. -/
def opR (l : List UInt8) (k : Nat) : Res UInt8 := (byteR l k).bind fun c k' => if checkR c.toNat = 0 then .ok c k' else .err (checkR c.toNat) k
def blockR (l : List UInt8) (k : Nat) : Res Int := (byteR l k).bind fun c k' => if blockZ c.toNat = 0 then .ok c.toNat k' else .err (blockZ c.toNat) k
def noughtR (l : List UInt8) (k : Nat) : Res Unit := (byteR l k).bind fun c k' => if c = 0 then .ok () k' else .err 10 k
theorem getOp_any {w : World} {p : Nat} {l : List UInt8} {k : Nat} (hs : Sc w p l k) (hT : TbP p w) :
    Calls Tryz.prog 127 #[.pointer (some ⟨p, 0, none⟩)] w (Did encB p l w (opR l k)) := by
  have hB := byte_any hs
  have HA := Lib.hid (at_any hs)
  have HT := Lib.hid hT
  unfold opR
  cases hr : byteR l k with
  | err c a =>
    rw [hr] at hB
    rw [Res.bind_err]
    have HB := Lib.hid hB
    clear hs hT hB hr
    go_enter Tryz.func127, Tryz.ntmps127
    go_wp2_with (first
      | (go_at_call 109; go_must ((with_reducible refine HA.out.mono ?_); rintro e w' ⟨rfl, rfl⟩))
      | (go_at_call 126; go_must ((with_reducible refine HB.out.mono ?_); rintro e w1 ⟨rfl, hg⟩; have HG := Lib.hid hg; clear hg)))
    exact ⟨rfl, rfl, HG.out⟩
  | ok c k' =>
    rw [hr] at hB
    rw [Res.bind_ok]
    have HB := Lib.hid hB
    obtain ⟨z, hz⟩ : ∃ z, z = checkR c.toNat := ⟨_, rfl⟩
    have HC := Lib.hid (fun W (h : Tabs W) => by have := check_any c.toNat W h (by have := c.toNat_lt; omega); rw [← hz] at this; exact this)
    rw [← hz]
    clear hs hT hB hr hz
    by_cases hc : z = 0
    · subst hc
      rw [if_pos rfl]
      go_enter Tryz.func127, Tryz.ntmps127
      go_wp2_with (first
        | (go_at_call 109; go_must ((with_reducible refine HA.out.mono ?_); rintro e w' ⟨rfl, rfl⟩))
        | (go_at_call 126; go_must ((with_reducible refine HB.out.mono ?_); rintro e w1 ⟨rfl, hs, hg⟩; have HS := Lib.hid hs; have HG := Lib.hid hg; clear hs hg))
        | (go_at_call 139; go_must ((with_reducible refine (HC.out _ (HT.out.self HG.out).tabs).mono ?_); rintro e w' ⟨rfl, rfl⟩))
        | (go_at_call 75; go_must ((with_reducible refine (unlessT _ _ _).mono ?_); rintro e w' ⟨rfl, rfl⟩)))
      go_ret
      exact ⟨rfl, HS.out, HG.out⟩
    · rw [if_neg hc]
      have d : ((z : Int) == 0) = false := by simp; omega
      go_enter Tryz.func127, Tryz.ntmps127
      go_wp2_with (first
        | (go_at_call 109; go_must ((with_reducible refine HA.out.mono ?_); rintro e w' ⟨rfl, rfl⟩))
        | (go_at_call 126; go_must ((with_reducible refine HB.out.mono ?_); rintro e w1 ⟨rfl, hs, hg⟩; have HS := Lib.hid hs; have HG := Lib.hid hg; clear hs hg))
        | (go_at_call 139; go_must ((with_reducible refine (HC.out _ (HT.out.self HG.out).tabs).mono ?_); rintro e w' ⟨rfl, rfl⟩))
        | (go_at_call 75; go_must ((with_reducible refine (unlessF _ _ _).mono ?_); rintro e w' ⟨rfl, rfl⟩)))
      exact ⟨rfl, rfl, HG.out⟩
theorem getBlock_any {w : World} {p : Nat} {l : List UInt8} {k : Nat} (hs : Sc w p l k) :
    Calls Tryz.prog 129 #[.pointer (some ⟨p, 0, none⟩)] w (Did enc64 p l w (blockR l k)) := by
  have hB := byte_any hs
  have HA := Lib.hid (at_any hs)
  unfold blockR
  cases hr : byteR l k with
  | err c a =>
    rw [hr] at hB
    rw [Res.bind_err]
    have HB := Lib.hid hB
    clear hs hB hr
    go_enter Tryz.func129, Tryz.ntmps129
    go_wp2_with (first
      | (go_at_call 109; go_must ((with_reducible refine HA.out.mono ?_); rintro e w' ⟨rfl, rfl⟩))
      | (go_at_call 126; go_must ((with_reducible refine HB.out.mono ?_); rintro e w1 ⟨rfl, hg⟩; have HG := Lib.hid hg; clear hg)))
    exact ⟨rfl, rfl, HG.out⟩
  | ok c k' =>
    rw [hr] at hB
    rw [Res.bind_ok]
    have HB := Lib.hid hB
    have hw : IntKind.u64.wrap (c.toNat : Int) = c.toNat := by have := c.toNat_lt; simp [IntKind.wrap, IntKind.bits, IntKind.signed]; omega
    obtain ⟨z, hz⟩ : ∃ z, z = blockZ c.toNat := ⟨_, rfl⟩
    have HC := Lib.hid (fun W => by have := block_any c.toNat W (by omega); rw [← hz] at this; exact this)
    rw [← hz]
    clear hs hB hr hz
    by_cases hc : z = 0
    · subst hc
      rw [if_pos rfl]
      go_enter Tryz.func129, Tryz.ntmps129
      go_wp2_with (first
        | (go_at_call 109; go_must ((with_reducible refine HA.out.mono ?_); rintro e w' ⟨rfl, rfl⟩))
        | (go_at_call 126; go_must ((with_reducible refine HB.out.mono ?_); rintro e w1 ⟨rfl, hs, hg⟩; have HS := Lib.hid hs; have HG := Lib.hid hg; clear hs hg))
        | (go_at_call 151; go_must ((with_reducible refine (HC.out _).mono ?_); rintro e w' ⟨rfl, rfl⟩))
        | (go_at_call 75; go_must ((with_reducible refine (unlessT _ _ _).mono ?_); rintro e w' ⟨rfl, rfl⟩)))
      go_ret
      exact ⟨rfl, HS.out, HG.out⟩
    · rw [if_neg hc]
      have d : (z == 0) = false := by simpa using hc
      go_enter Tryz.func129, Tryz.ntmps129
      go_wp2_with (first
        | (go_at_call 109; go_must ((with_reducible refine HA.out.mono ?_); rintro e w' ⟨rfl, rfl⟩))
        | (go_at_call 126; go_must ((with_reducible refine HB.out.mono ?_); rintro e w1 ⟨rfl, hs, hg⟩; have HS := Lib.hid hs; have HG := Lib.hid hg; clear hs hg))
        | (go_at_call 151; go_must ((with_reducible refine (HC.out _).mono ?_); rintro e w' ⟨rfl, rfl⟩))
        | (go_at_call 75; go_must ((with_reducible refine (unlessF _ _ _).mono ?_); rintro e w' ⟨rfl, rfl⟩)))
      exact ⟨rfl, rfl, HG.out⟩
theorem getNumber_any {w : World} {p : Nat} {l : List UInt8} {k : Nat} (hs : Sc w p l k) :
    Calls Tryz.prog 131 #[.pointer (some ⟨p, 0, none⟩)] w (Did enc64 p l w (indexR l k)) := by
  have hN := index_scan hs
  cases hr : indexR l k with
  | err c a =>
    rw [hr] at hN
    have HN := Lib.hid hN
    clear hs hN hr
    go_enter Tryz.func131, Tryz.ntmps131
    go_wp2_with (go_at_call 106; go_must ((with_reducible refine HN.out.mono ?_); rintro e w1 ⟨rfl, hg⟩; have HG := Lib.hid hg; clear hg))
    exact ⟨rfl, rfl, HG.out⟩
  | ok v k' =>
    rw [hr] at hN
    have HN := Lib.hid hN
    obtain ⟨_, v0, v1⟩ := uintR_ok (show uintR l k 32 = .ok v k' from hr)
    have v2 : v < 4294967296 := v1
    have hw : IntKind.u64.wrap v = v := by simp [IntKind.wrap, IntKind.bits, IntKind.signed]; omega
    clear hs hN hr v1
    go_enter Tryz.func131, Tryz.ntmps131
    go_wp2_with (go_at_call 106; go_must ((with_reducible refine HN.out.mono ?_); rintro e w1 ⟨rfl, hs, hg⟩; have HS := Lib.hid hs; have HG := Lib.hid hg; clear hs hg))
    go_ret
    exact ⟨rfl, HS.out, HG.out⟩
end Go.Proofs.YtebgmfjgapmpfabGreatDoor

/- The reference's Right. (By gen/genRefRight.py.) -/
namespace Go.Proofs.YtebgmfjgapmpfabGreatDoor
open Go.RowKit
set_option linter.unusedVariables false
set_option maxRecDepth 100000

theorem nums_low {m : Nat} {a b : Int} (hm : m ≠ 1 ∧ m ≠ 0 ∧ m ≠ 9) (h : (a ≤ 4294967295 ∧ b ≤ 4294967295) ∨ m = 11) : numsZ m a b = 0 := by
  unfold numsZ
  rw [if_neg hm.1, if_neg (by omega)]
  by_cases m11 : m = 11
  · rw [if_pos m11]
  · rw [if_neg m11, if_pos (by omega)]
theorem nums_high {m : Nat} {a b : Int} (hm : m ≠ 1 ∧ m ≠ 0 ∧ m ≠ 9 ∧ m ≠ 11) (h : ¬ (a ≤ 4294967295 ∧ b ≤ 4294967295)) : numsZ m a b = 1 := by
  unfold numsZ
  rw [if_neg hm.1, if_neg (by omega), if_neg (by omega), if_neg h]
theorem block_same {a : Int} (h : a ≠ 64) (h2 : a ≤ 256) : blockZ a = valueZ a := by
  unfold blockZ
  rw [if_neg h]
  by_cases h3 : 255 < a
  · obtain rfl : a = 256 := by omega
    rfl
  · rw [if_neg h3]
theorem refR_end {w W : World} {i : I} {A : Option Addr} {c : Nat} (h : BoxI w W i A c) {o : Obj} : Below w.heap.size w (W.alloc o) := h.2.alloc h.2.size _
set_option maxHeartbeats 1000000 in
theorem refRight_any (i : I) (A : Option Addr) (c : Nat) (w : World) (h : i.Ok) (hl : (i.l.length : Int) ≤ 9223372036854775807) :
    Calls Tryz.prog 31 #[insV i A c] w (IntPost (rightZ i) w) := by
  have hn := i.n_le
  obtain ⟨a0, a1, b0, b1, _⟩ := h
  have hwb : IntKind.i64.wrap (i.op.toNat : Int) = i.op.toNat := by rw [IntKind.wrap_i64]; have := i.op.toNat_lt; omega
  have HB := Lib.hid (BoxI.start w i A c)
  obtain ⟨k, hk⟩ : ∃ k, k = checkR i.n := ⟨_, rfl⟩
  have HC : Hid (∀ W, Calls Tryz.prog 60 #[.int .i64 i.op.toNat] W fun e w' => e = .returned (.int .i64 (k : Nat)) ∧ Below W.heap.size W w') := fun W => by rw [hk, check_same hn]; exact refCheck_any i.n W hn
  by_cases k0 : k = 0
  · subst k0
    obtain ⟨m, hm⟩ : ∃ m, m = immR i.n := ⟨_, rfl⟩
    obtain ⟨r, hr⟩ : ∃ r, r = refR i.n := ⟨_, rfl⟩
    have him : (r.getD row0).imm = m := by rw [hr, hm]; exact (imm_same hn hk.symm).2
    have HI : Hid (∀ W, Calls Tryz.prog 61 #[.int .i64 i.op.toNat] W (RefPost r W)) := fun W => by rw [hr]; exact ref_any i.n W hn
    have HR := Lib.hid (show rightZ i = if 0 < i.l.length ∧ m ≠ 3 then 1 else if 10000 < i.l.length then 29 else if i.b ≠ 0 ∧ m ≠ 8 then 1 else numsZ m i.a i.b by unfold rightZ; rw [← hk, ← hm]; rfl)
    generalize (r.getD row0).op = r1 at *
    clear hr hm hk
    by_cases hl0 : 0 < i.l.length
    · have dl : decide (0 < (i.l.length : Int)) = true := decide_eq_true (by omega)
      by_cases m3 : m = 3
      · subst m3
        by_cases hl1 : 10000 < i.l.length
        · have dl1 : decide (10000 < (i.l.length : Int)) = true := decide_eq_true (by omega)
          have HE := Lib.hid (show rightZ i = 29 by rw [HR.out]; rw [if_neg (by omega), if_pos hl1])
          go_enter Tryz.func31, Tryz.ntmps31
          go_wp2_with (first
            | (go_at_call 60; go_must ((with_reducible refine (HC.out _).mono ?_); rintro e w1 ⟨rfl, hb⟩; have HB1 := Lib.hid (HB.out.on hb); have c1 := HB1.out.c0; clear hb))
            | (go_at_call 61; go_must ((with_reducible refine (HI.out _).mono ?_); rintro e w2 ⟨rfl, hb⟩; have HB2 := Lib.hid (HB1.out.on hb); have hlt := HB2.out.lt; have c2 := HB2.out.c1; have c3 := HB2.out.c2; have c4 := HB2.out.c3; clear hb))
            | (go_at_call 58; go_must ((with_reducible refine (refValue_any _ _).mono ?_); rintro e w' ⟨rfl, rfl⟩)))
          go_ret
          exact ret_below HE.out.symm (refR_end HB2.out)
        · have dl1 : decide (10000 < (i.l.length : Int)) = false := decide_eq_false (by omega)
          by_cases hb0 : i.b = 0
          · have db : (i.b != 0) = false := by simp [hb0]
            by_cases ha : i.a ≤ 4294967295
            · have da : decide (i.a < 4294967296) = true := decide_eq_true (by omega)
              have dbb : decide (i.b < 4294967296) = true := decide_eq_true (by omega)
              have HE := Lib.hid (show rightZ i = 0 by rw [HR.out]; rw [if_neg (by omega), if_neg hl1, if_neg (by omega)]; exact nums_low (by omega) (.inl ⟨ha, by omega⟩))
              clear hb0
              go_enter Tryz.func31, Tryz.ntmps31
              go_wp2_with (first
                | (go_at_call 60; go_must ((with_reducible refine (HC.out _).mono ?_); rintro e w1 ⟨rfl, hb⟩; have HB1 := Lib.hid (HB.out.on hb); have c1 := HB1.out.c0; clear hb))
                | (go_at_call 61; go_must ((with_reducible refine (HI.out _).mono ?_); rintro e w2 ⟨rfl, hb⟩; have HB2 := Lib.hid (HB1.out.on hb); have hlt := HB2.out.lt; have c2 := HB2.out.c1; have c3 := HB2.out.c2; have c4 := HB2.out.c3; clear hb))
                | (go_at_call 58; go_must ((with_reducible refine (refValue_any _ _).mono ?_); rintro e w' ⟨rfl, rfl⟩)))
              go_ret
              exact ret_below HE.out.symm (refR_end HB2.out)
            · have da : decide (i.a < 4294967296) = false := decide_eq_false (by omega)
              have HE := Lib.hid (show rightZ i = 1 by rw [HR.out]; rw [if_neg (by omega), if_neg hl1, if_neg (by omega)]; exact nums_high (by omega) (by omega))
              clear hb0
              go_enter Tryz.func31, Tryz.ntmps31
              go_wp2_with (first
                | (go_at_call 60; go_must ((with_reducible refine (HC.out _).mono ?_); rintro e w1 ⟨rfl, hb⟩; have HB1 := Lib.hid (HB.out.on hb); have c1 := HB1.out.c0; clear hb))
                | (go_at_call 61; go_must ((with_reducible refine (HI.out _).mono ?_); rintro e w2 ⟨rfl, hb⟩; have HB2 := Lib.hid (HB1.out.on hb); have hlt := HB2.out.lt; have c2 := HB2.out.c1; have c3 := HB2.out.c2; have c4 := HB2.out.c3; clear hb))
                | (go_at_call 58; go_must ((with_reducible refine (refValue_any _ _).mono ?_); rintro e w' ⟨rfl, rfl⟩)))
              go_ret
              exact ret_below HE.out.symm (refR_end HB2.out)
          · have db : (i.b != 0) = true := by simpa using hb0
            have d8 : ((3 : Int) != 8) = true := by decide
            have HE := Lib.hid (show rightZ i = 1 by rw [HR.out]; rw [if_neg (by omega), if_neg hl1, if_pos (by omega)])
            go_enter Tryz.func31, Tryz.ntmps31
            go_wp2_with (first
              | (go_at_call 60; go_must ((with_reducible refine (HC.out _).mono ?_); rintro e w1 ⟨rfl, hb⟩; have HB1 := Lib.hid (HB.out.on hb); have c1 := HB1.out.c0; clear hb))
              | (go_at_call 61; go_must ((with_reducible refine (HI.out _).mono ?_); rintro e w2 ⟨rfl, hb⟩; have HB2 := Lib.hid (HB1.out.on hb); have hlt := HB2.out.lt; have c2 := HB2.out.c1; have c3 := HB2.out.c2; have c4 := HB2.out.c3; clear hb))
              | (go_at_call 58; go_must ((with_reducible refine (refValue_any _ _).mono ?_); rintro e w' ⟨rfl, rfl⟩)))
            go_ret
            exact ret_below HE.out.symm (refR_end HB2.out)
      · have d3 : ((m : Int) != 3) = true := by simp; omega
        have HE := Lib.hid (show rightZ i = 1 by rw [HR.out]; rw [if_pos ⟨hl0, m3⟩])
        go_enter Tryz.func31, Tryz.ntmps31
        go_wp2_with (first
          | (go_at_call 60; go_must ((with_reducible refine (HC.out _).mono ?_); rintro e w1 ⟨rfl, hb⟩; have HB1 := Lib.hid (HB.out.on hb); have c1 := HB1.out.c0; clear hb))
          | (go_at_call 61; go_must ((with_reducible refine (HI.out _).mono ?_); rintro e w2 ⟨rfl, hb⟩; have HB2 := Lib.hid (HB1.out.on hb); have hlt := HB2.out.lt; have c2 := HB2.out.c1; have c3 := HB2.out.c2; have c4 := HB2.out.c3; clear hb))
          | (go_at_call 58; go_must ((with_reducible refine (refValue_any _ _).mono ?_); rintro e w' ⟨rfl, rfl⟩)))
        go_ret
        exact ret_below HE.out.symm (refR_end HB2.out)
    · have dl : decide (0 < (i.l.length : Int)) = false := decide_eq_false (by omega)
      have dl1 : decide (10000 < (i.l.length : Int)) = false := decide_eq_false (by omega)
      by_cases hb0 : i.b = 0
      · have db : (i.b != 0) = false := by simp [hb0]
        have dbb : decide (i.b < 4294967296) = true := decide_eq_true (by omega)
        by_cases m0 : m = 0 ∨ m = 9
        · rcases m0 with m0 | m0
          · subst m0
            by_cases hz : i.a = 0
            · have dz : (i.a == 0) = true := by simpa using hz
              have da : decide (i.a < 4294967296) = true := decide_eq_true (by omega)
              have HE := Lib.hid (show rightZ i = 0 by rw [HR.out]; rw [if_neg (by omega), if_neg (by omega), if_neg (by omega)]; unfold numsZ; rw [if_neg (by omega), if_pos (by omega), if_pos hz])
              clear hz hb0
              go_enter Tryz.func31, Tryz.ntmps31
              go_wp2_with (first
                | (go_at_call 60; go_must ((with_reducible refine (HC.out _).mono ?_); rintro e w1 ⟨rfl, hb⟩; have HB1 := Lib.hid (HB.out.on hb); have c1 := HB1.out.c0; clear hb))
                | (go_at_call 61; go_must ((with_reducible refine (HI.out _).mono ?_); rintro e w2 ⟨rfl, hb⟩; have HB2 := Lib.hid (HB1.out.on hb); have hlt := HB2.out.lt; have c2 := HB2.out.c1; have c3 := HB2.out.c2; have c4 := HB2.out.c3; clear hb))
                | (go_at_call 58; go_must ((with_reducible refine (refValue_any _ _).mono ?_); rintro e w' ⟨rfl, rfl⟩)))
              go_ret
              exact ret_below HE.out.symm (refR_end HB2.out)
            · have dz : (i.a == 0) = false := by simpa using hz
              rcases Int.lt_or_le i.a 4294967296 with ha | ha
              · have da : decide (i.a < 4294967296) = true := decide_eq_true (by omega)
                have HE := Lib.hid (show rightZ i = 1 by rw [HR.out]; rw [if_neg (by omega), if_neg (by omega), if_neg (by omega)]; unfold numsZ; rw [if_neg (by omega), if_pos (by omega), if_neg hz])
                clear hb0
                go_enter Tryz.func31, Tryz.ntmps31
                go_wp2_with (first
                  | (go_at_call 60; go_must ((with_reducible refine (HC.out _).mono ?_); rintro e w1 ⟨rfl, hb⟩; have HB1 := Lib.hid (HB.out.on hb); have c1 := HB1.out.c0; clear hb))
                  | (go_at_call 61; go_must ((with_reducible refine (HI.out _).mono ?_); rintro e w2 ⟨rfl, hb⟩; have HB2 := Lib.hid (HB1.out.on hb); have hlt := HB2.out.lt; have c2 := HB2.out.c1; have c3 := HB2.out.c2; have c4 := HB2.out.c3; clear hb))
                  | (go_at_call 58; go_must ((with_reducible refine (refValue_any _ _).mono ?_); rintro e w' ⟨rfl, rfl⟩)))
                go_ret
                exact ret_below HE.out.symm (refR_end HB2.out)
              · have da : decide (i.a < 4294967296) = false := decide_eq_false (by omega)
                have HE := Lib.hid (show rightZ i = 1 by rw [HR.out]; rw [if_neg (by omega), if_neg (by omega), if_neg (by omega)]; unfold numsZ; rw [if_neg (by omega), if_pos (by omega), if_neg hz])
                clear hb0
                go_enter Tryz.func31, Tryz.ntmps31
                go_wp2_with (first
                  | (go_at_call 60; go_must ((with_reducible refine (HC.out _).mono ?_); rintro e w1 ⟨rfl, hb⟩; have HB1 := Lib.hid (HB.out.on hb); have c1 := HB1.out.c0; clear hb))
                  | (go_at_call 61; go_must ((with_reducible refine (HI.out _).mono ?_); rintro e w2 ⟨rfl, hb⟩; have HB2 := Lib.hid (HB1.out.on hb); have hlt := HB2.out.lt; have c2 := HB2.out.c1; have c3 := HB2.out.c2; have c4 := HB2.out.c3; clear hb))
                  | (go_at_call 58; go_must ((with_reducible refine (refValue_any _ _).mono ?_); rintro e w' ⟨rfl, rfl⟩)))
                go_ret
                exact ret_below HE.out.symm (refR_end HB2.out)
          · subst m0
            by_cases hz : i.a = 0
            · have dz : (i.a == 0) = true := by simpa using hz
              have da : decide (i.a < 4294967296) = true := decide_eq_true (by omega)
              have HE := Lib.hid (show rightZ i = 0 by rw [HR.out]; rw [if_neg (by omega), if_neg (by omega), if_neg (by omega)]; unfold numsZ; rw [if_neg (by omega), if_pos (by omega), if_pos hz])
              clear hz hb0
              go_enter Tryz.func31, Tryz.ntmps31
              go_wp2_with (first
                | (go_at_call 60; go_must ((with_reducible refine (HC.out _).mono ?_); rintro e w1 ⟨rfl, hb⟩; have HB1 := Lib.hid (HB.out.on hb); have c1 := HB1.out.c0; clear hb))
                | (go_at_call 61; go_must ((with_reducible refine (HI.out _).mono ?_); rintro e w2 ⟨rfl, hb⟩; have HB2 := Lib.hid (HB1.out.on hb); have hlt := HB2.out.lt; have c2 := HB2.out.c1; have c3 := HB2.out.c2; have c4 := HB2.out.c3; clear hb))
                | (go_at_call 58; go_must ((with_reducible refine (refValue_any _ _).mono ?_); rintro e w' ⟨rfl, rfl⟩)))
              go_ret
              exact ret_below HE.out.symm (refR_end HB2.out)
            · have dz : (i.a == 0) = false := by simpa using hz
              rcases Int.lt_or_le i.a 4294967296 with ha | ha
              · have da : decide (i.a < 4294967296) = true := decide_eq_true (by omega)
                have HE := Lib.hid (show rightZ i = 1 by rw [HR.out]; rw [if_neg (by omega), if_neg (by omega), if_neg (by omega)]; unfold numsZ; rw [if_neg (by omega), if_pos (by omega), if_neg hz])
                clear hb0
                go_enter Tryz.func31, Tryz.ntmps31
                go_wp2_with (first
                  | (go_at_call 60; go_must ((with_reducible refine (HC.out _).mono ?_); rintro e w1 ⟨rfl, hb⟩; have HB1 := Lib.hid (HB.out.on hb); have c1 := HB1.out.c0; clear hb))
                  | (go_at_call 61; go_must ((with_reducible refine (HI.out _).mono ?_); rintro e w2 ⟨rfl, hb⟩; have HB2 := Lib.hid (HB1.out.on hb); have hlt := HB2.out.lt; have c2 := HB2.out.c1; have c3 := HB2.out.c2; have c4 := HB2.out.c3; clear hb))
                  | (go_at_call 58; go_must ((with_reducible refine (refValue_any _ _).mono ?_); rintro e w' ⟨rfl, rfl⟩)))
                go_ret
                exact ret_below HE.out.symm (refR_end HB2.out)
              · have da : decide (i.a < 4294967296) = false := decide_eq_false (by omega)
                have HE := Lib.hid (show rightZ i = 1 by rw [HR.out]; rw [if_neg (by omega), if_neg (by omega), if_neg (by omega)]; unfold numsZ; rw [if_neg (by omega), if_pos (by omega), if_neg hz])
                clear hb0
                go_enter Tryz.func31, Tryz.ntmps31
                go_wp2_with (first
                  | (go_at_call 60; go_must ((with_reducible refine (HC.out _).mono ?_); rintro e w1 ⟨rfl, hb⟩; have HB1 := Lib.hid (HB.out.on hb); have c1 := HB1.out.c0; clear hb))
                  | (go_at_call 61; go_must ((with_reducible refine (HI.out _).mono ?_); rintro e w2 ⟨rfl, hb⟩; have HB2 := Lib.hid (HB1.out.on hb); have hlt := HB2.out.lt; have c2 := HB2.out.c1; have c3 := HB2.out.c2; have c4 := HB2.out.c3; clear hb))
                  | (go_at_call 58; go_must ((with_reducible refine (refValue_any _ _).mono ?_); rintro e w' ⟨rfl, rfl⟩)))
                go_ret
                exact ret_below HE.out.symm (refR_end HB2.out)
        · have d0 : ((m : Int) == 0) = false := by simp; omega
          have d9 : ((m : Int) == 9) = false := by simp; omega
          by_cases m1 : m = 1
          · subst m1
            by_cases h64 : i.a = 64
            · have dz : (i.a == 64) = true := by simpa using h64
              have da : decide (i.a < 4294967296) = true := decide_eq_true (by omega)
              have HE := Lib.hid (show rightZ i = 0 by rw [HR.out]; rw [if_neg (by omega), if_neg (by omega), if_neg (by omega)]; unfold numsZ blockZ; rw [if_pos rfl, if_pos h64])
              clear h64 hb0
              go_enter Tryz.func31, Tryz.ntmps31
              go_wp2_with (first
                | (go_at_call 60; go_must ((with_reducible refine (HC.out _).mono ?_); rintro e w1 ⟨rfl, hb⟩; have HB1 := Lib.hid (HB.out.on hb); have c1 := HB1.out.c0; clear hb))
                | (go_at_call 61; go_must ((with_reducible refine (HI.out _).mono ?_); rintro e w2 ⟨rfl, hb⟩; have HB2 := Lib.hid (HB1.out.on hb); have hlt := HB2.out.lt; have c2 := HB2.out.c1; have c3 := HB2.out.c2; have c4 := HB2.out.c3; clear hb))
                | (go_at_call 58; go_must ((with_reducible refine (refValue_any _ _).mono ?_); rintro e w' ⟨rfl, rfl⟩)))
              go_ret
              exact ret_below HE.out.symm (refR_end HB2.out)
            · have dz : (i.a == 64) = false := by simpa using h64
              by_cases h256 : i.a ≤ 256
              · have da : decide (i.a < 4294967296) = true := decide_eq_true (by omega)
                have hmin : min i.a 256 = i.a := by omega
                have hw : IntKind.i64.wrap i.a = i.a := by rw [IntKind.wrap_i64]; omega
                have HE := Lib.hid (show rightZ i = valueZ i.a by rw [HR.out]; rw [if_neg (by omega), if_neg (by omega), if_neg (by omega)]; unfold numsZ; rw [if_pos rfl]; exact block_same h64 h256)
                clear hb0
                go_enter Tryz.func31, Tryz.ntmps31
                go_wp2_with (first
                  | (go_at_call 60; go_must ((with_reducible refine (HC.out _).mono ?_); rintro e w1 ⟨rfl, hb⟩; have HB1 := Lib.hid (HB.out.on hb); have c1 := HB1.out.c0; clear hb))
                  | (go_at_call 61; go_must ((with_reducible refine (HI.out _).mono ?_); rintro e w2 ⟨rfl, hb⟩; have HB2 := Lib.hid (HB1.out.on hb); have hlt := HB2.out.lt; have c2 := HB2.out.c1; have c3 := HB2.out.c2; have c4 := HB2.out.c3; clear hb))
                  | (go_at_call 58; go_must ((with_reducible refine (refValue_any _ _).mono ?_); rintro e w' ⟨rfl, rfl⟩)))
                go_ret
                exact ret_below HE.out.symm (refR_end HB2.out)
              · have hmin : min i.a 256 = 256 := by omega
                have hv : valueZ 256 = 7 := rfl
                rcases Int.lt_or_le i.a 4294967296 with ha | ha
                · have da : decide (i.a < 4294967296) = true := decide_eq_true (by omega)
                  have HE := Lib.hid (show rightZ i = 7 by rw [HR.out]; rw [if_neg (by omega), if_neg (by omega), if_neg (by omega)]; unfold numsZ blockZ; rw [if_pos rfl, if_neg h64, if_pos (by omega)])
                  clear hb0
                  go_enter Tryz.func31, Tryz.ntmps31
                  go_wp2_with (first
                    | (go_at_call 60; go_must ((with_reducible refine (HC.out _).mono ?_); rintro e w1 ⟨rfl, hb⟩; have HB1 := Lib.hid (HB.out.on hb); have c1 := HB1.out.c0; clear hb))
                    | (go_at_call 61; go_must ((with_reducible refine (HI.out _).mono ?_); rintro e w2 ⟨rfl, hb⟩; have HB2 := Lib.hid (HB1.out.on hb); have hlt := HB2.out.lt; have c2 := HB2.out.c1; have c3 := HB2.out.c2; have c4 := HB2.out.c3; clear hb))
                    | (go_at_call 58; go_must ((with_reducible refine (refValue_any _ _).mono ?_); rintro e w' ⟨rfl, rfl⟩)))
                  go_ret
                  exact ret_below HE.out.symm (refR_end HB2.out)
                · have da : decide (i.a < 4294967296) = false := decide_eq_false (by omega)
                  have HE := Lib.hid (show rightZ i = 7 by rw [HR.out]; rw [if_neg (by omega), if_neg (by omega), if_neg (by omega)]; unfold numsZ blockZ; rw [if_pos rfl, if_neg h64, if_pos (by omega)])
                  clear hb0
                  go_enter Tryz.func31, Tryz.ntmps31
                  go_wp2_with (first
                    | (go_at_call 60; go_must ((with_reducible refine (HC.out _).mono ?_); rintro e w1 ⟨rfl, hb⟩; have HB1 := Lib.hid (HB.out.on hb); have c1 := HB1.out.c0; clear hb))
                    | (go_at_call 61; go_must ((with_reducible refine (HI.out _).mono ?_); rintro e w2 ⟨rfl, hb⟩; have HB2 := Lib.hid (HB1.out.on hb); have hlt := HB2.out.lt; have c2 := HB2.out.c1; have c3 := HB2.out.c2; have c4 := HB2.out.c3; clear hb))
                    | (go_at_call 58; go_must ((with_reducible refine (refValue_any _ _).mono ?_); rintro e w' ⟨rfl, rfl⟩)))
                  go_ret
                  exact ret_below HE.out.symm (refR_end HB2.out)
          · have d1 : ((m : Int) == 1) = false := by simp; omega
            by_cases m11 : m = 11
            · subst m11
              rcases Int.lt_or_le i.a 4294967296 with ha | ha
              · have da : decide (i.a < 4294967296) = true := decide_eq_true (by omega)
                have HE := Lib.hid (show rightZ i = 0 by rw [HR.out]; rw [if_neg (by omega), if_neg (by omega), if_neg (by omega)]; unfold numsZ; rw [if_neg (by omega), if_neg (by omega), if_pos rfl])
                clear hb0
                go_enter Tryz.func31, Tryz.ntmps31
                go_wp2_with (first
                  | (go_at_call 60; go_must ((with_reducible refine (HC.out _).mono ?_); rintro e w1 ⟨rfl, hb⟩; have HB1 := Lib.hid (HB.out.on hb); have c1 := HB1.out.c0; clear hb))
                  | (go_at_call 61; go_must ((with_reducible refine (HI.out _).mono ?_); rintro e w2 ⟨rfl, hb⟩; have HB2 := Lib.hid (HB1.out.on hb); have hlt := HB2.out.lt; have c2 := HB2.out.c1; have c3 := HB2.out.c2; have c4 := HB2.out.c3; clear hb))
                  | (go_at_call 58; go_must ((with_reducible refine (refValue_any _ _).mono ?_); rintro e w' ⟨rfl, rfl⟩)))
                go_ret
                exact ret_below HE.out.symm (refR_end HB2.out)
              · have da : decide (i.a < 4294967296) = false := decide_eq_false (by omega)
                have HE := Lib.hid (show rightZ i = 0 by rw [HR.out]; rw [if_neg (by omega), if_neg (by omega), if_neg (by omega)]; unfold numsZ; rw [if_neg (by omega), if_neg (by omega), if_pos rfl])
                clear hb0
                go_enter Tryz.func31, Tryz.ntmps31
                go_wp2_with (first
                  | (go_at_call 60; go_must ((with_reducible refine (HC.out _).mono ?_); rintro e w1 ⟨rfl, hb⟩; have HB1 := Lib.hid (HB.out.on hb); have c1 := HB1.out.c0; clear hb))
                  | (go_at_call 61; go_must ((with_reducible refine (HI.out _).mono ?_); rintro e w2 ⟨rfl, hb⟩; have HB2 := Lib.hid (HB1.out.on hb); have hlt := HB2.out.lt; have c2 := HB2.out.c1; have c3 := HB2.out.c2; have c4 := HB2.out.c3; clear hb))
                  | (go_at_call 58; go_must ((with_reducible refine (refValue_any _ _).mono ?_); rintro e w' ⟨rfl, rfl⟩)))
                go_ret
                exact ret_below HE.out.symm (refR_end HB2.out)
            · have d11 : ((m : Int) == 11) = false := by simp; omega
              by_cases ha : i.a ≤ 4294967295
              · have da : decide (i.a < 4294967296) = true := decide_eq_true (by omega)
                have dbb : decide (i.b < 4294967296) = true := decide_eq_true (by omega)
                have HE := Lib.hid (show rightZ i = 0 by rw [HR.out]; rw [if_neg (by omega), if_neg (by omega), if_neg (by omega)]; exact nums_low (by omega) (.inl ⟨ha, by omega⟩))
                clear hb0
                go_enter Tryz.func31, Tryz.ntmps31
                go_wp2_with (first
                  | (go_at_call 60; go_must ((with_reducible refine (HC.out _).mono ?_); rintro e w1 ⟨rfl, hb⟩; have HB1 := Lib.hid (HB.out.on hb); have c1 := HB1.out.c0; clear hb))
                  | (go_at_call 61; go_must ((with_reducible refine (HI.out _).mono ?_); rintro e w2 ⟨rfl, hb⟩; have HB2 := Lib.hid (HB1.out.on hb); have hlt := HB2.out.lt; have c2 := HB2.out.c1; have c3 := HB2.out.c2; have c4 := HB2.out.c3; clear hb))
                  | (go_at_call 58; go_must ((with_reducible refine (refValue_any _ _).mono ?_); rintro e w' ⟨rfl, rfl⟩)))
                go_ret
                exact ret_below HE.out.symm (refR_end HB2.out)
              · have da : decide (i.a < 4294967296) = false := decide_eq_false (by omega)
                have HE := Lib.hid (show rightZ i = 1 by rw [HR.out]; rw [if_neg (by omega), if_neg (by omega), if_neg (by omega)]; exact nums_high (by omega) (by omega))
                clear hb0
                go_enter Tryz.func31, Tryz.ntmps31
                go_wp2_with (first
                  | (go_at_call 60; go_must ((with_reducible refine (HC.out _).mono ?_); rintro e w1 ⟨rfl, hb⟩; have HB1 := Lib.hid (HB.out.on hb); have c1 := HB1.out.c0; clear hb))
                  | (go_at_call 61; go_must ((with_reducible refine (HI.out _).mono ?_); rintro e w2 ⟨rfl, hb⟩; have HB2 := Lib.hid (HB1.out.on hb); have hlt := HB2.out.lt; have c2 := HB2.out.c1; have c3 := HB2.out.c2; have c4 := HB2.out.c3; clear hb))
                  | (go_at_call 58; go_must ((with_reducible refine (refValue_any _ _).mono ?_); rintro e w' ⟨rfl, rfl⟩)))
                go_ret
                exact ret_below HE.out.symm (refR_end HB2.out)
      · have db : (i.b != 0) = true := by simpa using hb0
        by_cases m8 : m = 8
        · subst m8
          by_cases ha : i.a ≤ 4294967295
          · have da : decide (i.a < 4294967296) = true := decide_eq_true (by omega)
            by_cases hbb : i.b ≤ 4294967295
            · have dbb : decide (i.b < 4294967296) = true := decide_eq_true (by omega)
              have HE := Lib.hid (show rightZ i = 0 by rw [HR.out]; rw [if_neg (by omega), if_neg (by omega), if_neg (by omega)]; exact nums_low (by omega) (.inl ⟨ha, hbb⟩))
              go_enter Tryz.func31, Tryz.ntmps31
              go_wp2_with (first
                | (go_at_call 60; go_must ((with_reducible refine (HC.out _).mono ?_); rintro e w1 ⟨rfl, hb⟩; have HB1 := Lib.hid (HB.out.on hb); have c1 := HB1.out.c0; clear hb))
                | (go_at_call 61; go_must ((with_reducible refine (HI.out _).mono ?_); rintro e w2 ⟨rfl, hb⟩; have HB2 := Lib.hid (HB1.out.on hb); have hlt := HB2.out.lt; have c2 := HB2.out.c1; have c3 := HB2.out.c2; have c4 := HB2.out.c3; clear hb))
                | (go_at_call 58; go_must ((with_reducible refine (refValue_any _ _).mono ?_); rintro e w' ⟨rfl, rfl⟩)))
              go_ret
              exact ret_below HE.out.symm (refR_end HB2.out)
            · have dbb : decide (i.b < 4294967296) = false := decide_eq_false (by omega)
              have HE := Lib.hid (show rightZ i = 1 by rw [HR.out]; rw [if_neg (by omega), if_neg (by omega), if_neg (by omega)]; exact nums_high (by omega) (by omega))
              go_enter Tryz.func31, Tryz.ntmps31
              go_wp2_with (first
                | (go_at_call 60; go_must ((with_reducible refine (HC.out _).mono ?_); rintro e w1 ⟨rfl, hb⟩; have HB1 := Lib.hid (HB.out.on hb); have c1 := HB1.out.c0; clear hb))
                | (go_at_call 61; go_must ((with_reducible refine (HI.out _).mono ?_); rintro e w2 ⟨rfl, hb⟩; have HB2 := Lib.hid (HB1.out.on hb); have hlt := HB2.out.lt; have c2 := HB2.out.c1; have c3 := HB2.out.c2; have c4 := HB2.out.c3; clear hb))
                | (go_at_call 58; go_must ((with_reducible refine (refValue_any _ _).mono ?_); rintro e w' ⟨rfl, rfl⟩)))
              go_ret
              exact ret_below HE.out.symm (refR_end HB2.out)
          · have da : decide (i.a < 4294967296) = false := decide_eq_false (by omega)
            have HE := Lib.hid (show rightZ i = 1 by rw [HR.out]; rw [if_neg (by omega), if_neg (by omega), if_neg (by omega)]; exact nums_high (by omega) (by omega))
            go_enter Tryz.func31, Tryz.ntmps31
            go_wp2_with (first
              | (go_at_call 60; go_must ((with_reducible refine (HC.out _).mono ?_); rintro e w1 ⟨rfl, hb⟩; have HB1 := Lib.hid (HB.out.on hb); have c1 := HB1.out.c0; clear hb))
              | (go_at_call 61; go_must ((with_reducible refine (HI.out _).mono ?_); rintro e w2 ⟨rfl, hb⟩; have HB2 := Lib.hid (HB1.out.on hb); have hlt := HB2.out.lt; have c2 := HB2.out.c1; have c3 := HB2.out.c2; have c4 := HB2.out.c3; clear hb))
              | (go_at_call 58; go_must ((with_reducible refine (refValue_any _ _).mono ?_); rintro e w' ⟨rfl, rfl⟩)))
            go_ret
            exact ret_below HE.out.symm (refR_end HB2.out)
        · have d8 : ((m : Int) != 8) = true := by simp; omega
          have HE := Lib.hid (show rightZ i = 1 by rw [HR.out]; rw [if_neg (by omega), if_neg (by omega), if_pos ⟨hb0, m8⟩])
          go_enter Tryz.func31, Tryz.ntmps31
          go_wp2_with (first
            | (go_at_call 60; go_must ((with_reducible refine (HC.out _).mono ?_); rintro e w1 ⟨rfl, hb⟩; have HB1 := Lib.hid (HB.out.on hb); have c1 := HB1.out.c0; clear hb))
            | (go_at_call 61; go_must ((with_reducible refine (HI.out _).mono ?_); rintro e w2 ⟨rfl, hb⟩; have HB2 := Lib.hid (HB1.out.on hb); have hlt := HB2.out.lt; have c2 := HB2.out.c1; have c3 := HB2.out.c2; have c4 := HB2.out.c3; clear hb))
            | (go_at_call 58; go_must ((with_reducible refine (refValue_any _ _).mono ?_); rintro e w' ⟨rfl, rfl⟩)))
          go_ret
          exact ret_below HE.out.symm (refR_end HB2.out)
  · have HE := Lib.hid (show rightZ i = k by unfold rightZ; rw [← hk, if_pos k0])
    have dk : ((k : Int) != 0) = true := by simp; omega
    clear hk
    go_enter Tryz.func31, Tryz.ntmps31
    go_wp2_with (go_at_call 60; go_must ((with_reducible refine (HC.out _).mono ?_); rintro e w1 ⟨rfl, hb⟩; have HB1 := Lib.hid (HB.out.on hb); clear hb))
    go_ret
    exact ret_below HE.out.symm HB1.out.2
end Go.Proofs.YtebgmfjgapmpfabGreatDoor

/- consts.Right and the reference's Right. (By gen/genCRight.py.) -/
namespace Go.Proofs.YtebgmfjgapmpfabGreatDoor
open Go.RowKit
set_option linter.unusedVariables false
set_option maxRecDepth 100000

/-- May an instruction be a constant expression? -/
def IsC (n : Nat) : Prop := n = 35 ∨ n = 65 ∨ n = 66
instance (n : Nat) : Decidable (IsC n) := by unfold IsC; infer_instance
def crightZ (i : I) : Int := if rightZ i = 0 then (if IsC i.n then 0 else 12) else rightZ i
theorem cr_no {i : I} (h : ¬ rightZ i = 0) : crightZ i = rightZ i := by unfold crightZ; rw [if_neg h]
theorem cr_yes {i : I} (h : rightZ i = 0) (h2 : IsC i.n) : crightZ i = 0 := by unfold crightZ; rw [if_pos h, if_pos h2]
theorem cr_else {i : I} (h : rightZ i = 0) (h2 : ¬ IsC i.n) : crightZ i = 12 := by unfold crightZ; rw [if_pos h, if_neg h2]
theorem cr_zero {i : I} (h : crightZ i = 0) : rightZ i = 0 ∧ IsC i.n := by
  by_cases h1 : rightZ i = 0
  · by_cases h2 : IsC i.n
    · exact ⟨h1, h2⟩
    · rw [cr_else h1 h2] at h; omega
  · rw [cr_no h1] at h; exact absurd h h1

set_option maxHeartbeats 800000 in
theorem cright_any (i : I) (A : Option Addr) (c : Nat) (w : World) (h : i.Ok) (hT : Tabs w) (hl : (i.l.length : Int) ≤ 9223372036854775807) :
    Calls Tryz.prog 112 #[insV i A c] w (IntPost (crightZ i) w) := by
  have HB := Lib.hid (BoxI.start w i A c)
  have HR := Lib.hid (right_any i A c (w.alloc (.cells (insC i A c) 59)) h (hT.below HB.out.2) hl)
  by_cases h0 : rightZ i = 0
  · rw [h0] at HR
    have HE1 := Lib.hid (fun h2 => cr_yes (i := i) h0 h2)
    have HE2 := Lib.hid (fun h2 => cr_else (i := i) h0 h2)
    clear h hT hl h0
    by_cases h35 : i.n = 35
    · have d35 : ((i.op.toNat : Int) == 35) = true := beq_iff_eq.2 (by have : i.op.toNat = 35 := h35; omega)
      have HE := Lib.hid (HE1.out (by unfold IsC; omega))
      clear HE1 HE2 h35
      go_enter Tryz.func112, Tryz.ntmps112
      go_wp2_with (go_at_call 121; go_must ((with_reducible refine HR.out.mono ?_); rintro e w1 ⟨rfl, hb⟩; have HB1 := Lib.hid (HB.out.on hb); have c0 := HB1.out.c0; clear hb))
      go_ret
      exact ret_below HE.out.symm HB1.out.2
    have d35 : ((i.op.toNat : Int) == 35) = false := by have : ¬ i.op.toNat = 35 := h35; simp; omega
    by_cases h65 : i.n = 65
    · have d65 : ((i.op.toNat : Int) == 65) = true := beq_iff_eq.2 (by have : i.op.toNat = 65 := h65; omega)
      have HE := Lib.hid (HE1.out (by unfold IsC; omega))
      clear HE1 HE2 h35 h65
      go_enter Tryz.func112, Tryz.ntmps112
      go_wp2_with (go_at_call 121; go_must ((with_reducible refine HR.out.mono ?_); rintro e w1 ⟨rfl, hb⟩; have HB1 := Lib.hid (HB.out.on hb); have c0 := HB1.out.c0; clear hb))
      go_ret
      exact ret_below HE.out.symm HB1.out.2
    have d65 : ((i.op.toNat : Int) == 65) = false := by have : ¬ i.op.toNat = 65 := h65; simp; omega
    by_cases h66 : i.n = 66
    · have d66 : ((i.op.toNat : Int) == 66) = true := beq_iff_eq.2 (by have : i.op.toNat = 66 := h66; omega)
      have HE := Lib.hid (HE1.out (by unfold IsC; omega))
      clear HE1 HE2 h35 h65 h66
      go_enter Tryz.func112, Tryz.ntmps112
      go_wp2_with (go_at_call 121; go_must ((with_reducible refine HR.out.mono ?_); rintro e w1 ⟨rfl, hb⟩; have HB1 := Lib.hid (HB.out.on hb); have c0 := HB1.out.c0; clear hb))
      go_ret
      exact ret_below HE.out.symm HB1.out.2
    have d66 : ((i.op.toNat : Int) == 66) = false := by have : ¬ i.op.toNat = 66 := h66; simp; omega
    have HE := Lib.hid (HE2.out (by unfold IsC; omega))
    clear HE1 HE2 h35 h65 h66
    go_enter Tryz.func112, Tryz.ntmps112
    go_wp2_with (go_at_call 121; go_must ((with_reducible refine HR.out.mono ?_); rintro e w1 ⟨rfl, hb⟩; have HB1 := Lib.hid (HB.out.on hb); have c0 := HB1.out.c0; clear hb))
    go_ret
    exact ret_below HE.out.symm HB1.out.2
  · have HE := Lib.hid (cr_no h0)
    obtain ⟨z, hz⟩ : ∃ z, z = rightZ i := ⟨_, rfl⟩
    rw [← hz] at HR HE h0
    have dz : (z != 0) = true := by simpa using h0
    clear h hT hl h0 hz
    go_enter Tryz.func112, Tryz.ntmps112
    go_wp2_with (go_at_call 121; go_must ((with_reducible refine HR.out.mono ?_); rintro e w1 ⟨rfl, hb⟩; have HB1 := Lib.hid (HB.out.on hb); have c0 := HB1.out.c0; clear hb))
    go_ret
    exact ret_below HE.out.symm HB1.out.2
set_option maxHeartbeats 800000 in
theorem rcright_any (i : I) (A : Option Addr) (c : Nat) (w : World) (h : i.Ok) (hl : (i.l.length : Int) ≤ 9223372036854775807) :
    Calls Tryz.prog 48 #[insV i A c] w (IntPost (crightZ i) w) := by
  have HB := Lib.hid (BoxI.start w i A c)
  have HR := Lib.hid (refRight_any i A c (w.alloc (.cells (insC i A c) 59)) h hl)
  by_cases h0 : rightZ i = 0
  · rw [h0] at HR
    have HE1 := Lib.hid (fun h2 => cr_yes (i := i) h0 h2)
    have HE2 := Lib.hid (fun h2 => cr_else (i := i) h0 h2)
    clear h hl h0
    by_cases h35 : i.n = 35
    · have d35 : ((i.op.toNat : Int) == 35) = true := beq_iff_eq.2 (by have : i.op.toNat = 35 := h35; omega)
      have HE := Lib.hid (HE1.out (by unfold IsC; omega))
      clear HE1 HE2 h35
      go_enter Tryz.func48, Tryz.ntmps48
      go_wp2_with (go_at_call 31; go_must ((with_reducible refine HR.out.mono ?_); rintro e w1 ⟨rfl, hb⟩; have HB1 := Lib.hid (HB.out.on hb); have c0 := HB1.out.c0; clear hb))
      go_ret
      exact ret_below HE.out.symm HB1.out.2
    have d35 : ((i.op.toNat : Int) == 35) = false := by have : ¬ i.op.toNat = 35 := h35; simp; omega
    by_cases h65 : i.n = 65
    · have d65 : ((i.op.toNat : Int) == 65) = true := beq_iff_eq.2 (by have : i.op.toNat = 65 := h65; omega)
      have HE := Lib.hid (HE1.out (by unfold IsC; omega))
      clear HE1 HE2 h35 h65
      go_enter Tryz.func48, Tryz.ntmps48
      go_wp2_with (go_at_call 31; go_must ((with_reducible refine HR.out.mono ?_); rintro e w1 ⟨rfl, hb⟩; have HB1 := Lib.hid (HB.out.on hb); have c0 := HB1.out.c0; clear hb))
      go_ret
      exact ret_below HE.out.symm HB1.out.2
    have d65 : ((i.op.toNat : Int) == 65) = false := by have : ¬ i.op.toNat = 65 := h65; simp; omega
    by_cases h66 : i.n = 66
    · have d66 : ((i.op.toNat : Int) == 66) = true := beq_iff_eq.2 (by have : i.op.toNat = 66 := h66; omega)
      have HE := Lib.hid (HE1.out (by unfold IsC; omega))
      clear HE1 HE2 h35 h65 h66
      go_enter Tryz.func48, Tryz.ntmps48
      go_wp2_with (go_at_call 31; go_must ((with_reducible refine HR.out.mono ?_); rintro e w1 ⟨rfl, hb⟩; have HB1 := Lib.hid (HB.out.on hb); have c0 := HB1.out.c0; clear hb))
      go_ret
      exact ret_below HE.out.symm HB1.out.2
    have d66 : ((i.op.toNat : Int) == 66) = false := by have : ¬ i.op.toNat = 66 := h66; simp; omega
    have HE := Lib.hid (HE2.out (by unfold IsC; omega))
    clear HE1 HE2 h35 h65 h66
    go_enter Tryz.func48, Tryz.ntmps48
    go_wp2_with (go_at_call 31; go_must ((with_reducible refine HR.out.mono ?_); rintro e w1 ⟨rfl, hb⟩; have HB1 := Lib.hid (HB.out.on hb); have c0 := HB1.out.c0; clear hb))
    go_ret
    exact ret_below HE.out.symm HB1.out.2
  · have HE := Lib.hid (cr_no h0)
    obtain ⟨z, hz⟩ : ∃ z, z = rightZ i := ⟨_, rfl⟩
    rw [← hz] at HR HE h0
    have dz : (z != 0) = true := by simpa using h0
    clear h hl h0 hz
    go_enter Tryz.func48, Tryz.ntmps48
    go_wp2_with (go_at_call 31; go_must ((with_reducible refine HR.out.mono ?_); rintro e w1 ⟨rfl, hb⟩; have HB1 := Lib.hid (HB.out.on hb); have c0 := HB1.out.c0; clear hb))
    go_ret
    exact ret_below HE.out.symm HB1.out.2
end Go.Proofs.YtebgmfjgapmpfabGreatDoor
