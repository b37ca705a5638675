/- utf.Read. -/
import Derived.Test.YtcagnlafmakebaaShown
import Derived.Lib.Strings
namespace Go.Proofs.Ytcagnlafmakebaa
open Go.RowKit

/-- What a call of Read hands back. -/
def ReadOut (t : List UInt8) (w : World) (e : Ending) (w' : World) : Prop := ∃ u ok, e = .returned (.tuple #[.string (S u), .bool ok]) ∧ IsRead t u ok ∧ Below w.heap.size w w'
theorem readOut_no {t : List UInt8} {w w' : World} (h : ∀ v, showL v ≠ t) (hb : Below w.heap.size w w') : ReadOut t w (.returned (.tuple #[.string ⟨#[]⟩, .bool false])) w' := ⟨[], false, rfl, .inr ⟨rfl, rfl, h⟩, hb⟩
def strLen : Value → Nat
  | .string s => s.size
  | _ => 0
theorem below_drewN {B : Nat} {a w : World} (h : Below B a w) : ∀ q, Below B a (w.drewN q)
  | 0 => h
  | q + 1 => (below_drewN h q).drew
theorem show_ends {v t : List UInt8} (h : showL v = t) : ∃ m, t = 34 :: (m ++ [34]) := ⟨codes v, h.symm⟩
theorem show_first {a b : UInt8} {m : List UInt8} (ha : a ≠ 34) : ∀ v, showL v ≠ a :: (m ++ [b]) := fun v h => by
  unfold showL at h
  simp only [List.cons.injEq] at h
  exact ha h.1.symm
theorem show_last {a b : UInt8} {m : List UInt8} (hb : b ≠ 34) : ∀ v, showL v ≠ a :: (m ++ [b]) := fun v h => by
  unfold showL at h
  simp only [List.cons.injEq] at h
  have := List.append_inj_right' h.2 (by simp)
  simp at this
  exact hb this.symm
theorem show_short {t : List UInt8} (h : t.length < 2) : ∀ v, showL v ≠ t := fun v e => by
  rw [← e, showL_length] at h
  omega
theorem S_toList (l : List UInt8) : (S l).toList = l := by rw [ByteArray.toList_eq]; exact S_list l
theorem S_empty : (!(S []).toList.isEmpty) = false := by rw [S_toList]; rfl
theorem S_some (x : UInt8) (l : List UInt8) : (!(S (x :: l)).toList.isEmpty) = true := by rw [S_toList]; rfl
theorem split_ends {t : List UInt8} (h : 2 ≤ t.length) : ∃ a m b, t = a :: (m ++ [b]) := by
  match t, h with
  | a :: r, h =>
    have hr : r ≠ [] := by
      intro e; subst e; simp at h
    exact ⟨a, r.dropLast, r.getLast hr, by rw [List.dropLast_concat_getLast]⟩
theorem codes_stuck {m o r : List UInt8} (hm : m = codes o ++ r) (hr : r ≠ []) (hs : ∀ a r', r ≠ code a ++ r') : ∀ v, showL v ≠ 34 :: (m ++ [34]) := fun v h => by
  have h1 := codes_of_showL h
  subst hm
  clear h
  induction o generalizing v with
  | nil =>
    simp only [codes_nil, List.nil_append] at h1
    cases v with
    | nil => exact hr h1.symm
    | cons a v => rw [codes_cons] at h1; exact hs a _ h1.symm
  | cons a o ih =>
    cases v with
    | nil =>
      rw [codes_nil, codes_cons] at h1
      have := congrArg List.length h1
      have := code_pos a
      simp at *
      omega
    | cons b v =>
      rw [codes_cons, codes_cons, List.append_assoc] at h1
      exact ih v (code_split h1).2

theorem ends {a b : UInt8} {m : List UInt8} {z : ByteArray} (h : S (a :: (m ++ [b])) = z) : z.size = m.length + 2 ∧ (∀ h0 : 0 < z.size, z[0] = a) ∧ (∀ h1 : z.size - 1 < z.size, z[z.size - 1] = b) ∧ z.extract 1 (z.size - 1) = S m := by
  have hz : z.size = m.length + 2 := by rw [← h, S_size]; simp
  refine ⟨hz, fun h0 => ?_, fun h1 => ?_, ?_⟩
  · subst h; rw [S_get]; rfl
  · subst h
    rw [S_get]
    simp only [hz]
    simp [List.getElem_cons, List.getElem_append]
  · rw [hz, ← h, S_extract]
    simp

set_option maxHeartbeats 1000000 in
theorem read_any (t : List UInt8) (w : World) (hl : t.length ≤ 100000) : Calls Try.prog 6 #[.string (S t)] w (ReadOut t w) := by
  by_cases h2 : t.length < 2
  · have h2' : (S t).size < 2 := by rw [S_size]; exact h2
    have HF := Lib.hid (show_short h2)
    clear h2
    go_enter Try.func6, Try.ntmps6
    go_wp2
    go_ret2
    exact readOut_no HF.out (Below.refl _ _)
  · obtain ⟨a, m, b, rfl⟩ := split_ends (by omega : 2 ≤ t.length)
    obtain ⟨z, hz⟩ : ∃ z, S (a :: (m ++ [b])) = z := ⟨_, rfl⟩
    obtain ⟨hN, hb0, hbl, hx⟩ := ends hz
    rw [hz]
    have hm : m.length ≤ 100000 := by simp at hl; omega
    have hz0 : 2 ≤ z.size := by omega
    have hz9 : z.size ≤ 200000 := by omega
    have hzd : decide ((z.size : Int) < 2) = false := by simp; omega
    have q0 : 0 < z.size := by omega
    have q1 : z.size - 1 < z.size := by omega
    have b0 := hb0 q0
    have b1 := hbl q1
    have HN := Lib.hid hN
    have HX := Lib.hid hx
    have la := a.toNat_lt
    have lb := b.toNat_lt
    clear hN hx hl hb0 hbl hz h2
    by_cases ha : a = 34
    · by_cases hb : b = 34
      · subst ha
        subst hb
        have hsl : ∀ w, (Instr.slice 9 (.string z) (some (.int .i64 1)) (some (.int .i64 ((z.size : Int) - 1))) none).run Try.prog w = .ok (.string (S m)) w := fun w => by
          have h := run_slice_string (P := Try.prog) w 9 z .i64 .i64 1 ((z.size : Int) - 1) Try.underlying9 (by omega) (by omega) (by omega)
          rw [h, show (1 : Int).toNat = 1 from rfl, show ((z.size : Int) - 1).toNat = z.size - 1 from by omega, HX.out]
        go_enter Try.func6, Try.ntmps6
        go_wp2
        go_loopw [4, 5] (fun b v wr => ∃ o r : List UInt8, v = .string (S r) ∧ m = codes o ++ r ∧ wr.ownsRow w.heap.size 5 1 b o.length (cells (nums o)) ∧ Below w.heap.size w wr) (fun _ v _ => strLen v)
        case atStart => exact ⟨[], m, rfl, rfl, World.ownsRow_nil _ _ _ _, Below.refl _ _⟩
        case round =>
          obtain ⟨o, r, rfl, hmo, hown, hbe⟩ := hrel
          have ho9 : o.length ≤ 100000 := by
            have h1 := (codes_length o).1
            have h2 := congrArg List.length hmo
            rw [List.length_append] at h2
            omega
          have HM := Lib.hid hmo
          have HB := Lib.hid hbe
          have hsz := hbe.size
          clear hmo hbe
          match r, HM with
          | [], HM =>
            obtain ⟨A, c, rfl, hstr⟩ := str_own hown
            have he : (!(S []).toList.isEmpty) = false := S_empty
            go_wp2
            go_ret2
            exact ⟨o, true, rfl, .inl ⟨rfl, by rw [HM.out, List.append_nil]; rfl⟩, HB.out⟩
          | x :: r', HM =>
            have hr9 : r'.length ≤ 100000 := by
              have h2 := congrArg List.length HM.out
              rw [List.length_append] at h2
              simp at h2
              omega
            have he : (!(S (x :: r')).toList.isEmpty) = true := S_some x r'
            go_wp2_with fail
            refine (shown_any x r' _).mono ?_
            rintro e w1 ⟨c, n, rfl, hsh, q, rfl⟩
            rcases hsh with ⟨rfl, hno⟩ | ⟨a, r2, rfl, rfl, hcode⟩
            · have HF := Lib.hid (codes_stuck HM.out (by simp) hno)
              clear hno
              go_wp2
              go_ret2
              exact readOut_no HF.out (below_drewN HB.out q)
            · have HC := Lib.hid hcode
              have hc1 := code_len a
              have hc2 : (code a).length ≤ (S (x :: r')).size := by rw [S_size, hcode, List.length_append]; omega
              have hc3 : ((code a).length : Int) ≤ ((S (x :: r')).size : Int) := by omega
              have hxs : ∀ w, (Instr.slice 9 (.string (S (x :: r'))) (some (.int .i64 ((code a).length : Int))) none none).run Try.prog w = .ok (.string (S r2)) w := fun w => by
                have h := run_slice_string_l (P := Try.prog) w 9 (S (x :: r')) Try.underlying9 .i64 ((code a).length : Int) (by omega) (by have := hc2; omega)
                rw [h, S_extract, S_size]
                congr 3
                rw [hcode]
                simp
              have hne : (((code a).length : Int) == 0) = false := beq_eq_false_iff_ne.2 (by omega)
              have la := a.toNat_lt
              have hlt : strLen (.string (S r2)) < strLen (.string (S (x :: r'))) := by
                show (S r2).size < (S (x :: r')).size
                rw [S_size, S_size, hcode, List.length_append]; omega
              have HLT := Lib.hid hlt
              clear hcode hlt
              have hown1 := hown
              obtain ⟨W, hW⟩ : ∃ W, wr.drewN q = W := ⟨_, rfl⟩
              have hownW : W.ownsRow w.heap.size 5 1 u4 o.length (cells (nums o)) := by rw [← hW]; exact hown
              have hbW : Below w.heap.size w W := by rw [← hW]; exact below_drewN HB.out q
              rw [hW]
              have HBW := Lib.hid hbW
              have hszW := hbW.size
              clear hbW hW hown hown1 HB hsz
              go_wp2_with (first
                | (at_builtin; go_must (refine wpList_app rfl _ _ rfl w.heap.size _ _ _ rfl (hownW.alloc _) W.heap.size 1 [(a.toNat : Int)] rfl rfl (heap_alloc_new W _) (by omega) (by omega) (by simp; omega) ?_; intro v' w2 hown2 hgrow2; have HO2 := Lib.hid hown2; have HG2 := Lib.hid hgrow2; clear hown2 hgrow2)))
              go_roundw
              case rel => exact ⟨o ++ [a], r2, rfl, by rw [HM.out, HC.out, codes_snoc, List.append_assoc], by rw [nums_append, List.length_append]; exact HO2.out, below_app HBW.out hownW ((Below.refl _ _).alloc (Nat.le_refl _) _) HG2.out⟩
              case measure => exact HLT.out
      · have F : ∀ v, showL v ≠ a :: (m ++ [b]) := show_last hb
        have HF := Lib.hid F
        clear F
        subst ha
        have hne : ((b.toNat : Int) == 34) = false := by simp; intro e; exact hb (u8_ext (by simpa using by omega))
        have hne' : ((b.toNat : Int) != 34) = true := by simp; intro e; exact hb (u8_ext (by simpa using by omega))
        clear hb
        go_enter Try.func6, Try.ntmps6
        go_wp2
        go_ret2
        exact readOut_no HF.out (Below.refl _ _)
    · have F : ∀ v, showL v ≠ a :: (m ++ [b]) := show_first ha
      have HF := Lib.hid F
      clear F
      have hne : ((a.toNat : Int) == 34) = false := by simp; intro e; exact ha (u8_ext (by simpa using by omega))
      have hne' : ((a.toNat : Int) != 34) = true := by simp; intro e; exact ha (u8_ext (by simpa using by omega))
      clear ha
      go_enter Try.func6, Try.ntmps6
      go_wp2
      go_ret2
      exact readOut_no HF.out (Below.refl _ _)
end Go.Proofs.Ytcagnlafmakebaa
