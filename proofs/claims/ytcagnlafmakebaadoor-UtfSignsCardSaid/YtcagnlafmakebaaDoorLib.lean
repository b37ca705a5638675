/- utf.First, utf.Count, utf.Check over the library's contracts. -/
import Derived.Test.YtcagnlafmakebaaDoorRefCount
import Derived.Test.YtcagnlafmakebaaDoorShelf
namespace Go.Proofs.YtcagnlafmakebaaDoor
open Go.RowKit Go.Lib

/-- The two tables of unicode/utf8 hold what they are laid with. -/
def Tabs (w : World) : Prop := Lib.Utf8Tabs 0 1 w
theorem Tabs.below {w wr : World} (h : Tabs w) (hb : Below w.heap.size w wr) : Tabs wr := Utf8Tabs_below h hb
theorem Tabs.on {B w wr : World} (h : Tabs B) (hB : Below B.heap.size B w) (hb : Below w.heap.size w wr) : Tabs wr := (h.below hB).below hb

theorem valid_any (l : List UInt8) (w : World) (hl : l.length ≤ 1000000) (hT : Tabs w) : Calls Tryd.prog 15 #[.string (S l)] w fun e w' => e = .returned (.bool (validD l)) ∧ Below w.heap.size w w' := by
  have h := Any.utf8_ValidString Tryd.lays196 (S l) w (by rw [S_size]; omega) hT
  rw [S_list] at h
  exact h
theorem runes_any (l : List UInt8) (w : World) (hl : l.length ≤ 1000000) : Calls Tryd.prog 16 #[.string (S l)] w fun e w' => e = .returned (.int .i64 (runeCountL l : Int)) ∧ Below w.heap.size w w' := by
  have h := Any.utf8_RuneCountInString Tryd.lays195 (S l) w (by rw [S_size]; omega)
  exact h.mono fun e w' ⟨h1, pos, h2⟩ => ⟨h1, by subst h2; exact (Below.refl _ _).alloc (Nat.le_refl _) _⟩

theorem count_any (l : List UInt8) (w : World) (hl : l.length ≤ 1000000) (hT : Tabs w) : Calls Tryd.prog 9 #[.string (S l)] w fun e w' => e = .returned (.int .i64 (countZ l)) ∧ Below w.heap.size w w' := by
  by_cases hv : validD l = true
  · have e : countZ l = (runeCountL l : Int) := by unfold countZ; rw [if_pos hv]
    have HE := Lib.hid e
    clear e
    go_enter Tryd.func9, Tryd.ntmps9
    go_wp2_with (first
      | (go_at_call 15; go_must (refine (valid_any l _ hl hT).mono ?_; rintro e w1 ⟨rfl, hb1⟩; have H1 := Lib.hid hb1; clear hb1))
      | (go_at_call 16; go_must (refine (runes_any l _ hl).mono ?_; rintro e w2 ⟨rfl, hb2⟩; have H2 := Lib.hid hb2; clear hb2)))
    go_ret
    exact ⟨ret_val HE.out.symm, two H1.out (Nat.le_refl _) H2.out⟩
  · have hv' : validD l = false := by simpa using hv
    have e : countZ l = -1 := by unfold countZ; rw [if_neg hv]
    have HE := Lib.hid e
    clear e hv
    go_enter Tryd.func9, Tryd.ntmps9
    go_wp2_with (first
      | (go_at_call 15; go_must (refine (valid_any l _ hl hT).mono ?_; rintro e w1 ⟨rfl, hb1⟩; have H1 := Lib.hid hb1; clear hb1)))
    go_ret
    exact ⟨ret_val HE.out.symm, H1.out⟩
/-- api.ErrLong is 13, api.ErrUTF 4, api.OK 0. -/
def checkZ (l : List UInt8) : Int := if 200 < l.length then 13 else if validD l = true then 0 else 4
theorem check_any (l : List UInt8) (w : World) (hl : l.length ≤ 1000000) (hT : Tabs w) : Calls Tryd.prog 12 #[.string (S l)] w fun e w' => e = .returned (.int .i64 (checkZ l)) ∧ Below w.heap.size w w' := by
  have hs : (S l).size = l.length := S_size l
  by_cases h2 : 200 < l.length
  · have e : checkZ l = 13 := by unfold checkZ; rw [if_pos h2]
    have HE := Lib.hid e
    have hs2 : 200 < (S l).size := by omega
    clear e hs
    go_enter Tryd.func12, Tryd.ntmps12
    go_wp2
    go_ret
    exact ⟨ret_val HE.out.symm, Below.refl _ _⟩
  · have hd : decide ((200 : Int) < ((S l).size : Int)) = false := by simp; omega
    clear hs
    by_cases hv : validD l = true
    · have e : checkZ l = 0 := by unfold checkZ; rw [if_neg h2, if_pos hv]
      have HE := Lib.hid e
      clear e
      go_enter Tryd.func12, Tryd.ntmps12
      go_wp2_with (first
        | (go_at_call 15; go_must (refine (valid_any l _ hl hT).mono ?_; rintro e w1 ⟨rfl, hb1⟩; have H1 := Lib.hid hb1; clear hb1)))
      go_ret
      exact ⟨ret_val HE.out.symm, H1.out⟩
    · have hv' : validD l = false := by simpa using hv
      have e : checkZ l = 4 := by unfold checkZ; rw [if_neg h2, if_neg hv]
      have HE := Lib.hid e
      clear e hv
      go_enter Tryd.func12, Tryd.ntmps12
      go_wp2_with (first
        | (go_at_call 15; go_must (refine (valid_any l _ hl hT).mono ?_; rintro e w1 ⟨rfl, hb1⟩; have H1 := Lib.hid hb1; clear hb1)))
      go_ret
      exact ⟨ret_val HE.out.symm, H1.out⟩

/-- The bytes l lie at b, from off on. -/
def Bys (w : World) (b off : Nat) (l : List UInt8) : Prop := ∀ j (h : j < l.length), w.cell? ⟨b, off + j, none⟩ = some (.int .u8 ((l[j]'h).toNat : Int))
theorem Bys.below {w w' : World} {b off : Nat} {l : List UInt8} (h : Bys w b off l) (hb : Below w.heap.size w w') (hlt : b < w.heap.size) : Bys w' b off l := fun j hj =>
  (hb.cell (p := ⟨b, off + j, none⟩) hlt).trans (h j hj)
theorem decode_any (l : List UInt8) (b off cap : Nat) (w : World) (hT : Tabs w) (hp : Bys w b off l) :
    Calls Tryd.prog 14 #[.slice (some ⟨b, off, none⟩) l.length cap] w fun e w' => e = .returned (.tuple #[.int .i32 ((decodeGo (S l)).1 : Int), .int .i64 ((decodeGo (S l)).2 : Int)]) ∧ Below w.heap.size w w' := by
  have h := Any7.utf8_DecodeRune Tryd.lays32 (S l) b off cap w hT (fun j hj => by
    have hj' : j < l.length := by rw [S_size] at hj; exact hj
    rw [hp j hj']
    congr 3
    rw [show (S l).get! j = (S l)[j]'hj from Utf8W.get!_of_lt (S l) j hj, S_get])
  rw [S_size] at h
  exact h
theorem first_any (l : List UInt8) (b off cap : Nat) (w : World) (hT : Tabs w) (hp : Bys w b off l) :
    Calls Tryd.prog 6 #[.slice (some ⟨b, off, none⟩) l.length cap] w fun e w' => e = .returned (.tuple #[.int .i32 ((firstN l).1 : Int), .int .i64 ((firstN l).2 : Int)]) ∧ Below w.heap.size w w' := by
  have hd := decode_any l b off cap w hT hp
  have hf := firstN_of_go (S l)
  rw [S_list] at hf
  rw [hf]
  clear hf hp
  have HD := Lib.hid hd
  clear hd
  generalize hc : (decodeGo (S l)).1 = c at *
  generalize hn : (decodeGo (S l)).2 = n at *
  have hcn : decodeGo (S l) = (c, n) := by rw [← hc, ← hn]
  rw [hcn]
  clear hc hn hcn
  by_cases h1 : c = 65533
  · by_cases h2 : n < 2
    · rw [if_pos ⟨h1, h2⟩]
      have e1 : ((c : Int) == 65533) = true := beq_iff_eq.2 (by omega)
      have e2 : (n : Int) < 2 := by omega
      clear h1
      go_enter Tryd.func6, Tryd.ntmps6
      go_wp2_with (first
        | (go_at_call 14; go_must (refine HD.out.mono ?_; rintro e w1 ⟨rfl, hb1⟩; have H1 := Lib.hid hb1; clear hb1)))
      go_ret2
      exact ⟨rfl, H1.out⟩
    · rw [if_neg (fun k => h2 k.2)]
      have e1 : ((c : Int) == 65533) = true := beq_iff_eq.2 (by omega)
      have e2 : decide ((n : Int) < 2) = false := by simp; omega
      clear h1
      go_enter Tryd.func6, Tryd.ntmps6
      go_wp2_with (first
        | (go_at_call 14; go_must (refine HD.out.mono ?_; rintro e w1 ⟨rfl, hb1⟩; have H1 := Lib.hid hb1; clear hb1)))
      go_ret2
      exact ⟨rfl, H1.out⟩
  · rw [if_neg (fun k => h1 k.1)]
    have e1 : ((c : Int) == 65533) = false := beq_eq_false_iff_ne.2 (by omega)
    clear h1
    go_enter Tryd.func6, Tryd.ntmps6
    go_wp2_with (first
      | (go_at_call 14; go_must (refine HD.out.mono ?_; rintro e w1 ⟨rfl, hb1⟩; have H1 := Lib.hid hb1; clear hb1)))
    go_ret2
    exact ⟨rfl, H1.out⟩
end Go.Proofs.YtcagnlafmakebaaDoor
