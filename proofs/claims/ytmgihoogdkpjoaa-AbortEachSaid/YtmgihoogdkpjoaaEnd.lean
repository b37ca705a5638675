/- The contract of End: where a part of the steps ends. -/
import Derived.Test.YtmgihoogdkpjoaaMem
import Derived.Test.YtmgihoogdkpjoaaSteps
import Derived.Lib.Hide
import Derived.LoopTactic
import Derived.BigQuiet
namespace Go.Proofs.Ytmgihoogdkpjoaa
open Go.RowKit

/-- The slice value with address A and capacity cap reads as the steps l, in blocks below B. -/
def Reads (w : World) (B : Nat) (A : Option Addr) (l : List St) : Prop :=
  ∀ i, i < l.length → ∃ b off, A = some ⟨b, off, none⟩ ∧ b < B ∧ ∃ s, l[i]? = some s ∧
    w.cell? ⟨b, off + i * 3, none⟩ = some (.int .i64 s.k) ∧ w.cell? ⟨b, off + i * 3 + 1, none⟩ = some (.int .i64 s.c) ∧ w.cell? ⟨b, off + i * 3 + 2, none⟩ = some (.int .i64 s.a)

set_option maxHeartbeats 400000 in
theorem end_any (A : Option Addr) (cap B : Nat) (l : List St) (n : Nat) (w : World) (hr : Reads w B A l) (hn : n ≤ l.length) (hc : l.length ≤ cap) (hm : cap ≤ maxLen) :
    Calls Try.prog 26 #[.slice A l.length cap, .int .i64 n] w fun e w' => e = .returned (.int .i64 ((n : Int) + endFrom (l.drop n) 0)) ∧ w' = w := by
  unfold maxLen at hm
  go_enter Try.func26, Try.ntmps26
  go_wp2
  go_loop [5, 6] (fun d i => ∃ (k e : Nat), k ≤ l.length ∧ n ≤ k ∧ e ≤ k ∧ i = .int .i64 k ∧ d = .int .i64 e ∧ k + endFrom (l.drop k) e = n + endFrom (l.drop n) 0) (fun _ i => l.length - (intOf i).toNat)
  case atStart => exact ⟨n, 0, hn, Nat.le_refl _, Nat.zero_le _, rfl, rfl, rfl⟩
  case round =>
    obtain ⟨k, e, hk, hnk, hek, rfl, rfl, he⟩ := hrel
    by_cases hlt : k < l.length
    · obtain ⟨b, off, rfl, hb, s, hs, c0, c1, c2⟩ := hr k hlt
      have H := Lib.hid he
      have H2 := Lib.hid hs
      clear he hs hr
      by_cases k2 : s.k = 2
      · have T2 : (s.k == 2) = true := by simpa using k2
        have K := Lib.hid k2
        clear k2
        go_wp2
        go_round
        case rel => exact ⟨k + 1, e + 1, by omega, by omega, by omega, by go_num, by go_num, by have := ends_open (e := e) H2.out (.inl K.out); have := H.out; omega⟩
        case measure => simp [intOf]; omega
      · have T2 : (s.k == 2) = false := by simpa using k2
        have K2 := Lib.hid k2
        clear k2
        by_cases k3 : s.k = 3
        · have T3 : (s.k == 3) = true := by simpa using k3
          have K := Lib.hid k3
          clear k3
          go_wp2
          go_round
          case rel => exact ⟨k + 1, e + 1, by omega, by omega, by omega, by go_num, by go_num, by have := ends_open (e := e) H2.out (.inr K.out); have := H.out; omega⟩
          case measure => simp [intOf]; omega
        · have T3 : (s.k == 3) = false := by simpa using k3
          have K3 := Lib.hid k3
          clear k3
          by_cases k4 : s.k = 4
          · have T4 : (s.k == 4) = true := by simpa using k4
            have K := Lib.hid k4
            clear k4
            by_cases e0 : e = 0
            · subst e0
              go_wp2
              go_ret
              exact ⟨ret_int (by have h1 := H.out; have h2 := ends_here H2.out K.out; omega), rfl⟩
            · have E : 0 < e := by omega
              clear e0
              go_wp2
              go_round
              case rel => exact ⟨k + 1, e - 1, by omega, by omega, by omega, by go_num, by go_num, by have := ends_shut (e := e) H2.out K.out E; have := H.out; omega⟩
              case measure => simp [intOf]; omega
          · have T4 : (s.k == 4) = false := by simpa using k4
            have K := Lib.hid k4
            clear k4
            go_wp2
            go_round
            case rel => exact ⟨k + 1, e, by omega, by omega, by omega, by go_num, by go_num, by have := ends_plain (e := e) H2.out K2.out K3.out K.out; have := H.out; omega⟩
            case measure => simp [intOf]; omega
    · obtain rfl : k = l.length := by omega
      rw [drop_end (Nat.le_refl _)] at he
      have H : Hid ((l.length : Int) = n + endFrom (l.drop n) 0) := by simp only [endFrom] at he; show (l.length : Int) = _; omega
      clear he hr
      go_wp2
      go_ret
      exact ⟨ret_int H.out, rfl⟩

/-- The same, in the letters of a call within a walk. -/
theorem end_at {A : Option Addr} {len cap B : Nat} {l : List St} {n E : Nat} {N : Int} {w : World} (hr : Reads w B A l) (hl : l.length = len) (hn : n ≤ l.length) (hN : N = n) (hE : E = n + endFrom (l.drop n) 0) (hc : l.length ≤ cap) (hm : cap ≤ maxLen) :
    Calls Try.prog 26 #[.slice A len cap, .int .i64 N] w fun e w' => e = .returned (.int .i64 E) ∧ w = w' := by
  subst hl hN hE
  exact (end_any A cap B l n w hr hn hc hm).mono fun e w' h => ⟨by simpa using h.1, h.2.symm⟩

theorem Reads.sub {w : World} {B b off : Nat} {l : List St} (h : Reads w B (some ⟨b, off, none⟩) l) (n m : Nat) : Reads w B (some ⟨b, off + n * 3, none⟩) ((l.drop n).take m) := by
  intro i hi
  simp only [List.length_take, List.length_drop] at hi
  obtain ⟨b', off', e, hb, s, hs, c0, c1, c2⟩ := h (n + i) (by omega)
  simp only [Option.some.injEq, Addr.mk.injEq, and_true] at e
  obtain ⟨rfl, rfl⟩ := e
  have e3 : off + n * 3 + i * 3 = off + (n + i) * 3 := by omega
  refine ⟨b, off + n * 3, rfl, hb, s, by rw [List.getElem?_take_of_lt (by omega), List.getElem?_drop]; exact hs, ?_, ?_, ?_⟩
  · rw [e3]; exact c0
  · rw [e3]; exact c1
  · rw [e3]; exact c2
theorem Reads.drewN {w : World} {B : Nat} {A : Option Addr} {l : List St} (h : Reads w B A l) (n : Nat) : Reads (w.drewN n) B A l := h
theorem drew_again (w : World) (x y : Nat) : ∃ m, (w.drewN x).drewN y = w.drewN m := ⟨_, World.drewN_drewN ..⟩
/-- A part cut out of the steps, at whatever capacity. -/
theorem Reads.cut {w : World} {B b off cap : Nat} {l : List St} (h : Reads w B (some ⟨b, off, none⟩) l) (hc : l.length ≤ cap) (n m : Nat) : Reads w B (if cap = n then some ⟨b, off, none⟩ else some ⟨b, off + n * 3, none⟩) ((l.drop n).take m) := by
  split
  · exact fun i hi => by simp only [List.length_take, List.length_drop] at hi; omega
  · exact h.sub n m
theorem Reads.none_ {w : World} {B : Nat} {A : Option Addr} {l : List St} (h : l = []) : Reads w B A l := by
  subst h
  intro i hi
  simp at hi
theorem Reads.same {w w' : World} {B : Nat} {A : Option Addr} {l : List St} (h : Reads w B A l) (hc : ∀ p : Addr, p.block < B → (∀ b off, A = some ⟨b, off, none⟩ → p.block = b) → w'.cell? p = w.cell? p) : Reads w' B A l := by
  intro i hi
  obtain ⟨b, off, rfl, hb, s, hs, c0, c1, c2⟩ := h i hi
  have hA : ∀ o, ∀ b' off', some (⟨b, off, none⟩ : Addr) = some ⟨b', off', none⟩ → (⟨b, o, none⟩ : Addr).block = b' := by
    intro o b' off' e
    simp only [Option.some.injEq, Addr.mk.injEq] at e
    exact e.1
  exact ⟨b, off, rfl, hb, s, hs, (hc _ hb (hA _)).trans c0, (hc _ hb (hA _)).trans c1, (hc _ hb (hA _)).trans c2⟩
end Go.Proofs.Ytmgihoogdkpjoaa
