/- The law OpsNames. -/
import Derived.Test.YtfimjjeabbbciaaDoorNamesM
import Derived.Test.YtfimjjeabbbciaaDoorAwake
namespace Go.Proofs.YtfimjjeabbbciaaDoor
open Go.RowKit

def NamesPost (w : World) (e : Ending) (w' : World) : Prop := e = .returned (.bool true) ∧ Below w.heap.size w w'
theorem names_long (s : ByteArray) (n : Nat) (w : World) (hT : Tabs w) (hl : 100 < s.size) (hm : s.size ≤ maxLen) : Calls Tryd.prog 4 #[.string s, .int .u8 n] w (NamesPost w) := by
  unfold maxLen at hm
  have G0 := Lib.hid (Good.start hT)
  clear hT
  go_enter Tryd.func4, Tryd.ntmps4
  go_wp2_with (go_at_call 6; go_must (refine (awake_any _ G0.out.tabs).mono ?_; rintro e w1 ⟨rfl, hb1⟩; have G1 := Lib.hid (G0.out.call hb1); clear hb1))
  go_ret
  exact ⟨rfl, G1.out.below⟩
theorem find_lt {s : List UInt8} {q : Nat} (h : findR s = some q) : q ≤ 255 := by
  unfold findR at h
  split at h
  · cases h
  · rw [List.find?_range_eq_some] at h
    have : q < 256 := by simpa using h.2.1
    omega
/-- Of's answer, its name plain. -/
abbrev ofV (n : Nat) : Value := .agg #[.string (S (nameR n)), .int .i64 (infR n).imm, .string (S (infR n).ps), .string (S (infR n).rs), .bool (infR n).free]
theorem field_name (a c d : ByteArray) (b : Int) (f : Bool) (wx : World) : (Instr.field 29 (.agg #[.string a, .int .i64 b, .string c, .string d, .bool f]) 0).run Tryd.prog wx = .ok (.string a) wx := by kernel_rfl
theorem of_named (n : Nat) (w : World) (hT : Tabs w) (hn : n ≤ 255) : Calls Tryd.prog 8 #[.int .u8 n] w fun e w' => e = .returned (ofV n) ∧ Below w.heap.size w w' := by
  have := of_any n w hT hn
  unfold infV at this
  rw [inf_name] at this
  exact this
set_option maxHeartbeats 1000000 in
set_option maxRecDepth 100000 in
theorem names_short (s : List UInt8) (n : Nat) (w : World) (hT : Tabs w) (hn : n ≤ 255) (hl : s.length ≤ 100) : Calls Tryd.prog 4 #[.string (S s), .int .u8 n] w (NamesPost w) := by
  have hz : (S s).size ≤ 100 := by rw [S_size]; exact hl
  have G0 := Lib.hid (Good.start hT)
  have HI := Lib.hid (fun W (hT : Tabs W) => of_named n W hT hn)
  have HF := Lib.hid (fun W (hT : Tabs W) => find_any s W hT)
  have HG := Lib.hid (fun W (hT : Tabs W) => find_any (nameR n) W hT)
  have HO := Lib.hid (find_own n hn)
  have hfield := fun wx => field_name (S (nameR n)) (S (infR n).ps) (S (infR n).rs) (infR n).imm (infR n).free wx
  clear hT hl
  go_enter Tryd.func4, Tryd.ntmps4
  go_wp2_with (first | (go_at_call 6; go_must (refine (awake_any _ G0.out.tabs).mono ?_; rintro e w1 ⟨rfl, hb1⟩; have G1 := Lib.hid (G0.out.call hb1); clear hb1)) | (go_at_call 13; go_must (refine (rows_any _).mono ?_; rintro e w2 ⟨v, rfl, hr, hb2⟩; have G2 := Lib.hid (G1.out.call hb2); have HL := Lib.hid hr; clear hb2 hr)))
  obtain ⟨g, cap, hv, hc⟩ := HL.out.cells (by rw [rows_len]; decide)
  rw [rows_len] at hv hc
  have HC := Lib.hid hc
  clear hc HL
  rw [hv]
  clear hv
  go_loop [6, 7, 8] (fun a b i => ∃ (k m : Nat) (f : Bool), k ≤ 104 ∧ i = .int .i64 k ∧ a = .int .i64 m ∧ b = .bool f ∧ Hid (Look s ((rowsTo 256).take k) m f)) (fun _ _ i => 104 - (intOf i).toNat)
  case atStart => exact ⟨0, 0, false, by omega, rfl, rfl, rfl, Lib.hid (.inl ⟨rfl, rfl, fun r hr => by simp at hr⟩)⟩
  case round =>
    obtain ⟨k, m, f, hk, rfl, rfl, rfl, HK⟩ := hrel
    by_cases hlt : k < 104
    · obtain ⟨c0, c1, _, _, _, _⟩ := HC.out k hlt
      have hlen : k < (rowsTo 256).length := by rw [rows_len]; exact hlt
      have HY := Lib.hid (look_yes (s := s) hlen)
      have HN := Lib.hid (look_no HK.out hlen)
      obtain ⟨r, hr⟩ : ∃ r, r = (rowsTo 256).getD k row0 := ⟨_, rfl⟩
      rw [← hr] at c0 c1 HY HN
      clear hr
      by_cases he : r.name = s
      · have hq : ((S r.name).toList == (S s).toList) = true := by rw [S_beq, he]; simp
        have HE := Lib.hid he
        clear he
        go_wp2
        go_round
        case rel => exact ⟨k + 1, r.op, true, by omega, by go_num, rfl, rfl, Lib.hid (HY.out HE.out)⟩
        case measure => simp [intOf]; omega
      · have hq : ((S r.name).toList == (S s).toList) = false := by rw [S_beq]; simpa using he
        have HE := Lib.hid he
        clear he
        go_wp2
        go_round
        case rel => exact ⟨k + 1, m, f, by omega, by go_num, rfl, rfl, Lib.hid (HN.out HE.out)⟩
        case measure => simp [intOf]; omega
    · obtain rfl : k = 104 := by omega
      have hL := look_end (s := s) (a := m) (b := f) (by have := HK.out; rwa [List.take_of_length_le (by rw [rows_len]; exact Nat.le_refl _)] at this)
      clear HC HK
      cases hF : findR s with
      | none =>
        rw [hF] at hL
        obtain ⟨rfl, rfl⟩ : m = 0 ∧ f = false := hL
        have HF1 := Lib.hid (fun W (hT : Tabs W) => show Calls Tryd.prog 14 #[.string (S s)] W fun e w' => e = .returned (.tuple #[.int .u8 0, .bool false]) ∧ W = w' from by have := HF.out W hT; rw [hF] at this; exact this)
        clear HF hF
        by_cases hN : nameR n = []
        · have s1 : (S (nameR n)).toList.isEmpty = true := by rw [S_toList, hN]; rfl
          have HG1 := Lib.hid (fun W (hT : Tabs W) => show Calls Tryd.prog 14 #[.string (S (nameR n))] W fun e w' => e = .returned (.tuple #[.int .u8 0, .bool false]) ∧ W = w' from by have := HG.out W hT; rw [HO.out, if_pos hN] at this; exact this)
          clear HG HO hN
          go_wp2_with (first | (go_at_call 14; ((with_reducible refine (HF1.out _ G2.out.tabs).mono ?_); rintro e w' ⟨rfl, rfl⟩)) | (go_at_call 8; ((with_reducible refine (HI.out _ G2.out.tabs).mono ?_); rintro e w3 ⟨rfl, hb3⟩; have G3 := Lib.hid (G2.out.call hb3); clear hb3)) | (go_at_call 14; ((with_reducible refine (HG1.out _ G3.out.tabs).mono ?_); rintro e w' ⟨rfl, rfl⟩)) | (go_at_call 8; ((with_reducible refine (HI.out _ G3.out.tabs).mono ?_); rintro e w4 ⟨rfl, hb4⟩; have G4 := Lib.hid (G3.out.call hb4); clear hb4)))
          go_ret
          exact ⟨rfl, G4.out.below⟩
        · have s1 : (S (nameR n)).toList.isEmpty = false := by rw [S_toList]; simpa using hN
          have HG1 := Lib.hid (fun W (hT : Tabs W) => show Calls Tryd.prog 14 #[.string (S (nameR n))] W fun e w' => e = .returned (.tuple #[.int .u8 n, .bool true]) ∧ W = w' from by have := HG.out W hT; rw [HO.out, if_neg hN] at this; exact this)
          clear HG HO hN
          go_wp2_with (first | (go_at_call 14; ((with_reducible refine (HF1.out _ G2.out.tabs).mono ?_); rintro e w' ⟨rfl, rfl⟩)) | (go_at_call 8; ((with_reducible refine (HI.out _ G2.out.tabs).mono ?_); rintro e w3 ⟨rfl, hb3⟩; have G3 := Lib.hid (G2.out.call hb3); clear hb3)) | (go_at_call 14; ((with_reducible refine (HG1.out _ G3.out.tabs).mono ?_); rintro e w' ⟨rfl, rfl⟩)) | (go_at_call 8; ((with_reducible refine (HI.out _ G3.out.tabs).mono ?_); rintro e w4 ⟨rfl, hb4⟩; have G4 := Lib.hid (G3.out.call hb4); clear hb4)))
          go_ret
          exact ⟨rfl, G4.out.below⟩
      | some q =>
        rw [hF] at hL
        obtain ⟨rfl, rfl⟩ : m = q ∧ f = true := hL
        have hq := find_lt hF
        have HF1 := Lib.hid (fun W (hT : Tabs W) => show Calls Tryd.prog 14 #[.string (S s)] W fun e w' => e = .returned (.tuple #[.int .u8 m, .bool true]) ∧ W = w' from by have := HF.out W hT; rw [hF] at this; exact this)
        clear HF hF
        by_cases hN : nameR n = []
        · have s1 : (S (nameR n)).toList.isEmpty = true := by rw [S_toList, hN]; rfl
          have HG1 := Lib.hid (fun W (hT : Tabs W) => show Calls Tryd.prog 14 #[.string (S (nameR n))] W fun e w' => e = .returned (.tuple #[.int .u8 0, .bool false]) ∧ W = w' from by have := HG.out W hT; rw [HO.out, if_pos hN] at this; exact this)
          clear HG HO hN
          go_wp2_with (first | (go_at_call 14; ((with_reducible refine (HF1.out _ G2.out.tabs).mono ?_); rintro e w' ⟨rfl, rfl⟩)) | (go_at_call 8; ((with_reducible refine (HI.out _ G2.out.tabs).mono ?_); rintro e w3 ⟨rfl, hb3⟩; have G3 := Lib.hid (G2.out.call hb3); clear hb3)) | (go_at_call 14; ((with_reducible refine (HG1.out _ G3.out.tabs).mono ?_); rintro e w' ⟨rfl, rfl⟩)) | (go_at_call 8; ((with_reducible refine (HI.out _ G3.out.tabs).mono ?_); rintro e w4 ⟨rfl, hb4⟩; have G4 := Lib.hid (G3.out.call hb4); clear hb4)))
          go_ret
          exact ⟨rfl, G4.out.below⟩
        · have s1 : (S (nameR n)).toList.isEmpty = false := by rw [S_toList]; simpa using hN
          have HG1 := Lib.hid (fun W (hT : Tabs W) => show Calls Tryd.prog 14 #[.string (S (nameR n))] W fun e w' => e = .returned (.tuple #[.int .u8 n, .bool true]) ∧ W = w' from by have := HG.out W hT; rw [HO.out, if_neg hN] at this; exact this)
          clear HG HO hN
          go_wp2_with (first | (go_at_call 14; ((with_reducible refine (HF1.out _ G2.out.tabs).mono ?_); rintro e w' ⟨rfl, rfl⟩)) | (go_at_call 8; ((with_reducible refine (HI.out _ G2.out.tabs).mono ?_); rintro e w3 ⟨rfl, hb3⟩; have G3 := Lib.hid (G2.out.call hb3); clear hb3)) | (go_at_call 14; ((with_reducible refine (HG1.out _ G3.out.tabs).mono ?_); rintro e w' ⟨rfl, rfl⟩)) | (go_at_call 8; ((with_reducible refine (HI.out _ G3.out.tabs).mono ?_); rintro e w4 ⟨rfl, hb4⟩; have G4 := Lib.hid (G3.out.call hb4); clear hb4)))
          go_ret
          exact ⟨rfl, G4.out.below⟩
theorem names_law (s : ByteArray) (n : Nat) (w : World) (hT : Tabs w) (hn : n ≤ 255) (hm : s.size ≤ maxLen) : Calls Tryd.prog 4 #[.string s, .int .u8 n] w (NamesPost w) := by
  by_cases hl : 100 < s.size
  · exact names_long s n w hT hl hm
  · have := names_short s.data.toList n w hT hn (by have := S_size s.data.toList; rw [S_of] at this; omega)
    rwa [S_of] at this
end Go.Proofs.YtfimjjeabbbciaaDoor

