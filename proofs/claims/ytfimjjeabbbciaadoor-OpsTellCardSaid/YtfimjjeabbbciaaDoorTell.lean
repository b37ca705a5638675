/- The law OpsTell. -/
import Derived.Test.YtfimjjeabbbciaaDoorAwake
import Derived.Test.YtfimjjeabbbciaaDoorRefs2
namespace Go.Proofs.YtfimjjeabbbciaaDoor
open Go.RowKit

theorem short_all : ∀ n, n < 256 → (match refR n with | some r => decide (r.takes.length ≤ 2 ∧ r.has.length ≤ 2) | none => true) = true := by decide +kernel
/-- What the lists give: the same answers. -/
structure Same (n : Nat) : Prop where
  check : refCheck n = checkR n
  opens : (immR n == 1) = (decide (2 ≤ n) && decide (n ≤ 4))
theorem same_of (n : Nat) (hn : n ≤ 255) : Same n ∧ infR n = (match refR n with | some r => ⟨r.name, r.imm, lettersR r.takes, lettersR r.has, r.free⟩ | none => ⟨[], 0, [], [], false⟩) := by
  have h := tell_all n (by omega)
  unfold sameTell at h
  simp only [Bool.and_eq_true, beq_iff_eq] at h
  exact ⟨⟨h.1.1.symm, h.1.2⟩, h.2⟩
def TellPost (w : World) (e : Ending) (w' : World) : Prop := e = .returned (.bool true) ∧ Below w.heap.size w w'
set_option maxRecDepth 100000 in
theorem tell_none (n : Nat) (w : World) (hT : Tabs w) (hn : n ≤ 255) (h : refR n = none) (b : Bool) (hb : (immR n == 1) = b) (hcase : (b = true ∧ 2 ≤ n ∧ decide ((n : Int) ≤ 4) = true) ∨ (b = false ∧ n < 2) ∨ (b = false ∧ 4 < n)) : Calls Tryd.prog 3 #[.int .u8 n] w (TellPost w) := by
  obtain ⟨hs, hi⟩ := same_of n hn
  have HR := Lib.hid (fun W => by have := ref_any n W hn; rw [h] at this; exact this)
  have HI := Lib.hid (fun W (hT : Tabs W) => show Calls Tryd.prog 8 #[.int .u8 n] W fun e w' => e = .returned (.agg #[.string ⟨#[]⟩, .int .i64 0, .string ⟨#[]⟩, .string ⟨#[]⟩, .bool false]) ∧ Below W.heap.size W w' by have := of_any n W hT hn; rw [hi, h] at this; exact this)
  have HC := Lib.hid (fun W (hT : Tabs W) => check_any n W hT hn)
  have HD := Lib.hid (fun W => by have := refCheck_any n W hn; rw [hs.check] at this; exact this)
  have HO := Lib.hid (fun W (hT : Tabs W) => by have := opens_any n W hT hn; rw [hb] at this; exact this)
  have G0 := Lib.hid (Good.start hT)
  clear hs hi h hb hT
  rcases hcase with ⟨rfl, h1, h2⟩ | ⟨rfl, h1⟩ | ⟨rfl, h1⟩
  all_goals
    go_enter Tryd.func3, Tryd.ntmps3
    go_wp2_with (first | (go_at_call 6; go_must (refine (awake_any _ G0.out.tabs).mono ?_; rintro e w1 ⟨rfl, hb1⟩; have G1 := Lib.hid (G0.out.call hb1); clear hb1)) | (go_at_call 7; go_must (refine (HR.out _).mono ?_; rintro e w2 ⟨rfl, hb2⟩; have G2 := Lib.hid (G1.out.call hb2); clear hb2)) | (go_at_call 8; go_must (refine (HI.out _ (G2.out.alloc _).tabs).mono ?_; rintro e w3 ⟨rfl, hb3⟩; have G3 := Lib.hid (Good.call (G2.out.alloc _) hb3); clear hb3)) | (go_at_call 9; go_must (refine (HC.out _ (G3.out.alloc _).tabs).mono ?_; rintro e w4 ⟨rfl, rfl⟩)) | (go_at_call 10; go_must (refine (HD.out _).mono ?_; rintro e w5 ⟨rfl, hb5⟩; have W5 := Lib.hid ((Whole.made w3 29 #[.string ⟨#[]⟩, .int .i64 0, .string ⟨#[]⟩, .string ⟨#[]⟩, .bool false]).below hb5); have G5 := Lib.hid (Good.call (G3.out.alloc _) hb5); clear hb5)) | (go_at_call 11; go_must (refine (HO.out _ G5.out.tabs).mono ?_; rintro e w6 ⟨rfl, hb6⟩; have W6 := Lib.hid (W5.out.below hb6); have G6 := Lib.hid (G5.out.call hb6); clear hb6; have c0 : w6.cell? ⟨w3.heap.size, 0, none⟩ = some (.string ⟨#[]⟩) := W6.out.cell 0; have c1 : w6.cell? ⟨w3.heap.size, 1, none⟩ = some (.int .i64 0) := W6.out.cell 1; have c2 : w6.cell? ⟨w3.heap.size, 2, none⟩ = some (.string ⟨#[]⟩) := W6.out.cell 2; have c3 : w6.cell? ⟨w3.heap.size, 3, none⟩ = some (.string ⟨#[]⟩) := W6.out.cell 3; have c4 : w6.cell? ⟨w3.heap.size, 4, none⟩ = some (.bool false) := W6.out.cell 4)))
    go_ret
    exact ⟨rfl, G6.out.below⟩
set_option maxRecDepth 100000 in
theorem tell_some (n : Nat) (w : World) (hT : Tabs w) (hn : n ≤ 255) (r : RowR) (h : refR n = some r) (k1 : r.takes.length ≤ 2) (k2 : r.has.length ≤ 2) (b : Bool) (hb : (immR n == 1) = b) (hcase : (b = true ∧ 2 ≤ n ∧ decide ((n : Int) ≤ 4) = true) ∨ (b = false ∧ n < 2) ∨ (b = false ∧ 4 < n)) : Calls Tryd.prog 3 #[.int .u8 n] w (TellPost w) := by
  obtain ⟨hs, hi⟩ := same_of n hn
  have HR := Lib.hid (fun W => by have := ref_any n W hn; rw [h] at this; exact this)
  have HI := Lib.hid (fun W (hT : Tabs W) => show Calls Tryd.prog 8 #[.int .u8 n] W fun e w' => e = .returned (.agg #[.string (S r.name), .int .i64 r.imm, .string (S (lettersR r.takes)), .string (S (lettersR r.has)), .bool r.free]) ∧ Below W.heap.size W w' by have := of_any n W hT hn; rw [hi, h] at this; exact this)
  have L1 := Lib.hid (fun W => (letters_any r.takes W (by omega)).mono fun e w' h => show e = .returned (.string (S (lettersR r.takes))) ∧ w' = W from ⟨h.1, h.2.symm⟩)
  have L2 := Lib.hid (fun W => (letters_any r.has W (by omega)).mono fun e w' h => show e = .returned (.string (S (lettersR r.has))) ∧ w' = W from ⟨h.1, h.2.symm⟩)
  have HC := Lib.hid (fun W (hT : Tabs W) => check_any n W hT hn)
  have HD := Lib.hid (fun W => by have := refCheck_any n W hn; rw [hs.check] at this; exact this)
  have HO := Lib.hid (fun W (hT : Tabs W) => by have := opens_any n W hT hn; rw [hb] at this; exact this)
  have G0 := Lib.hid (Good.start hT)
  clear hs hi h hb hT k1 k2
  rcases hcase with ⟨rfl, h1, h2⟩ | ⟨rfl, h1⟩ | ⟨rfl, h1⟩
  all_goals
    go_enter Tryd.func3, Tryd.ntmps3
    go_wp2_with (first | (go_at_call 6; go_must (refine (awake_any _ G0.out.tabs).mono ?_; rintro e w1 ⟨rfl, hb1⟩; have G1 := Lib.hid (G0.out.call hb1); clear hb1)) | (go_at_call 7; go_must (refine (HR.out _).mono ?_; rintro e w2 ⟨rfl, hb2⟩; have G2 := Lib.hid (G1.out.call hb2); clear hb2)) | (go_at_call 8; go_must (refine (HI.out _ (G2.out.alloc _).tabs).mono ?_; rintro e w3 ⟨rfl, hb3⟩; have V3 := Lib.hid ((Whole.made w2 24 #[.int .i64 r.op, .string (S r.name), .int .i64 r.imm, .string (S r.takes), .string (S r.has), .bool r.free]).below hb3); have G3 := Lib.hid (Good.call (G2.out.alloc _) hb3); clear hb3)) | (go_at_call 9; go_must (refine (HC.out _ (G3.out.alloc _).tabs).mono ?_; rintro e w4 ⟨rfl, rfl⟩)) | (go_at_call 10; go_must (refine (HD.out _).mono ?_; rintro e w5 ⟨rfl, hb5⟩; have V5 := Lib.hid ((V3.out.alloc _).below hb5); have W5 := Lib.hid ((Whole.made w3 29 #[.string (S r.name), .int .i64 r.imm, .string (S (lettersR r.takes)), .string (S (lettersR r.has)), .bool r.free]).below hb5); have G5 := Lib.hid (Good.call (G3.out.alloc _) hb5); clear hb5)) | (go_at_call 11; go_must (refine (HO.out _ G5.out.tabs).mono ?_; rintro e w6 ⟨rfl, hb6⟩; have W6 := Lib.hid (W5.out.below hb6); have G6 := Lib.hid (G5.out.call hb6); have hB6 := Lib.hid hb6; clear hb6; have V6 := Lib.hid (V5.out.below hB6.out); have c0 : w6.cell? ⟨w3.heap.size, 0, none⟩ = some (.string (S r.name)) := W6.out.cell 0; have c1 : w6.cell? ⟨w3.heap.size, 1, none⟩ = some (.int .i64 r.imm) := W6.out.cell 1; have c2 : w6.cell? ⟨w3.heap.size, 2, none⟩ = some (.string (S (lettersR r.takes))) := W6.out.cell 2; have c3 : w6.cell? ⟨w3.heap.size, 3, none⟩ = some (.string (S (lettersR r.has))) := W6.out.cell 3; have c4 : w6.cell? ⟨w3.heap.size, 4, none⟩ = some (.bool r.free) := W6.out.cell 4; have r0 : w6.cell? ⟨w2.heap.size, 0, none⟩ = some (.int .i64 r.op) := V6.out.cell 0; have r1 : w6.cell? ⟨w2.heap.size, 1, none⟩ = some (.string (S r.name)) := V6.out.cell 1; have r2 : w6.cell? ⟨w2.heap.size, 2, none⟩ = some (.int .i64 r.imm) := V6.out.cell 2; have r3 : w6.cell? ⟨w2.heap.size, 3, none⟩ = some (.string (S r.takes)) := V6.out.cell 3; have r4 : w6.cell? ⟨w2.heap.size, 4, none⟩ = some (.string (S r.has)) := V6.out.cell 4; have r5 : w6.cell? ⟨w2.heap.size, 5, none⟩ = some (.bool r.free) := V6.out.cell 5; clear hB6)))
    go_quiet ((go_at_call 12; first | (with_reducible exact Calls.quiet_of_same (L1.out _)) | (with_reducible exact Calls.quiet_of_same (L2.out _))))
    go_wp2
    go_ret
    exact ⟨rfl, below_drewN G6.out.below _⟩
theorem tell_law (n : Nat) (w : World) (hT : Tabs w) (hn : n ≤ 255) : Calls Tryd.prog 3 #[.int .u8 n] w (TellPost w) := by
  have hc : ∃ b, (immR n == 1) = b ∧ ((b = true ∧ 2 ≤ n ∧ decide ((n : Int) ≤ 4) = true) ∨ (b = false ∧ n < 2) ∨ (b = false ∧ 4 < n)) := by
    refine ⟨_, rfl, ?_⟩
    rw [(same_of n hn).1.opens]
    by_cases h1 : n < 2
    · exact .inr (.inl ⟨by simp; omega, h1⟩)
    · by_cases h2 : 4 < n
      · exact .inr (.inr ⟨by simp; omega, h2⟩)
      · exact .inl ⟨by simp; omega, by omega, by simp; omega⟩
  obtain ⟨b, hb, hcase⟩ := hc
  cases h : refR n with
  | none => exact tell_none n w hT hn h b hb hcase
  | some r =>
    have k := short_all n (by omega)
    rw [h] at k
    have k := of_decide_eq_true k
    exact tell_some n w hT hn r h k.1 k.2 b hb hcase
end Go.Proofs.YtfimjjeabbbciaaDoor

