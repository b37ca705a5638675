/- A region that draws its order, walked step by step: what is held of the world may grow on the way. -/
import Derived.Test.YtmjcbliobjmmfaaRow
import Derived.Deep.RegionHeld3
namespace Go.Proofs.Ytmjcbliobjmmfaa
open Go.RowKit

section
variable {P : Program} {ops : Array Oper} {Q : Exit → Act → World → Prop} {md : Region.Mode} {S S' : World → Prop}
/-- More may be held from here on. -/
theorem held_imp (hS : ∀ w, S' w → S w) : ∀ (fuel : Nat) (listed : Array Bool) (a : Act) (w : World), wpAnyH P md ops Q S' fuel listed a w → wpAnyH P md ops Q S fuel listed a w
  | 0, _, _, _, h => h
  | fuel + 1, _, _, _, h => ⟨h.1, fun i hi => wpOp_mono (fun _ _ h2 => ⟨hS _ h2.1, held_imp hS fuel _ _ _ h2.2⟩) (h.2 i hi)⟩
/-- Operation i first: it yields v in every world of which S is held. -/
theorem heldTake {i : Nat} {oi : Oper} {v : Value} {fuel : Nat} {listed : Array Bool} {a : Act} {w : World} (hi : ops[i]? = some oi)
    (hs : Region.noSelect ops = true) (hf : Region.free md ops listed i = true) (hr : (Region.ready md ops listed).contains i = true)
    (hS : S w) (hy : YieldsIf P ops S oi v a)
    (h : wpAnyH P md ops (NoPanic Q) S fuel (listed.setIfInBounds i true) (a.put oi.dst v) w) : wpAnyH P md ops (NoPanic Q) S (fuel + 1) listed a w :=
  wpAnyH_take hi hs hf hr (fun _ _ _ h => h) hy hS h
end

/-- Bytes handed back that stay what they are. -/
def Stays (A : Option Addr) (_c : Nat) (l : List UInt8) (W : World) : Prop := ∃ B, B ≤ W.heap.size ∧ Lies W B A (cells (nums l))
theorem Stays.on {A : Option Addr} {c : Nat} {l : List UInt8} {w1 w2 : World} (h : Stays A c l w1) (hb : Below w1.heap.size w1 w2) : Stays A c l w2 := by
  obtain ⟨B, h1, h2⟩ := h
  exact ⟨B, Nat.le_trans h1 hb.size, h2.below hb h1⟩
theorem Stays.str {A : Option Addr} {c : Nat} {l : List UInt8} {w : World} (h : Stays A c l w) (hl : 0 < l.length) :
    ∀ dst, Try.prog.underlying dst = some .string → (convert 32 dst (.slice A l.length c)).run Try.prog w = .ok (.string (S l)) w := by
  obtain ⟨B, _, h2⟩ := h
  exact str_lies' h2 hl c
/-- Calls that leave what there was, where a fact is held that stays as long as nothing old turns. -/
theorem held_any {T : World → Prop} (hT : ∀ W W', T W → Below W.heap.size W W' → T W') {K : Nat} {args : Array Value} {R : Ending → Prop} (hN : ∀ w, Calls Try.prog K args w fun e w' => R e ∧ Below w.heap.size w w') {W : World} (h : T W) :
    Calls Try.prog K args W fun e w' => R e ∧ T w' := (hN W).mono fun _ _ ⟨h1, h2⟩ => ⟨h1, hT _ _ h h2⟩
/-- The callee hands bytes back. -/
theorem held_any_bytes {T : World → Prop} (hT : ∀ W W', T W → Below W.heap.size W W' → T W') {K : Nat} {args : Array Value} {l : List UInt8} (hN : ∀ w, Calls Try.prog K args w (BytesL l w)) (hl : 0 < l.length) {W : World} (h : T W) :
    Calls Try.prog K args W fun e w' => ∃ A c, e = .returned (.slice A l.length c) ∧ T w' ∧ Stays A c l w' ∧ (∀ dst, Try.prog.underlying dst = some .string → (convert 32 dst (.slice A l.length c)).run Try.prog w' = .ok (.string (S l)) w') :=
  (hN W).mono fun _ _ ⟨_, h1, h2, h3⟩ => by
    obtain ⟨A, c, rfl, h4⟩ := h2.lies
    exact ⟨A, c, h1, hT _ _ h h3, ⟨_, Nat.le_refl _, h4⟩, Stays.str ⟨_, Nat.le_refl _, h4⟩ hl⟩
/-- The bytes stay too. -/
theorem held_any2 {T : World → Prop} (hT : ∀ W W', T W → Below W.heap.size W W' → T W') {A : Option Addr} {c : Nat} {l : List UInt8} (hl : 0 < l.length) {K : Nat} {args : Array Value} {R : Ending → Prop} (hN : ∀ w, Calls Try.prog K args w fun e w' => R e ∧ Below w.heap.size w w') {W : World}
    (h : T W ∧ Stays A c l W ∧ (∀ dst, Try.prog.underlying dst = some .string → (convert 32 dst (.slice A l.length c)).run Try.prog W = .ok (.string (S l)) W)) :
    Calls Try.prog K args W fun e w' => R e ∧ T w' ∧ Stays A c l w' ∧ (∀ dst, Try.prog.underlying dst = some .string → (convert 32 dst (.slice A l.length c)).run Try.prog w' = .ok (.string (S l)) w') :=
  (hN W).mono fun _ _ ⟨h1, h2⟩ => ⟨h1, hT _ _ h.1 h2, h.2.1.on h2, (h.2.1.on h2).str hl⟩
end Go.Proofs.Ytmjcbliobjmmfaa

