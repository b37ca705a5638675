/- leb.Uint: the least number of groups of seven bits. -/
import Derived.Test.YtmjcbliobjmmfaaSmall
import Derived.WalkSpells
import Derived.Laws.MakeOwn
namespace Go.Proofs.Ytmjcbliobjmmfaa
open Go.RowKit

theorem byte_or (q : Int) : bits .or .u8 (q % 256) 128 = q % 128 + 128 := by rw [or128 _ (by omega) (by omega)]; omega
theorem byte_not (q : Int) : bits .andNot .u8 (q % 256) 128 = q % 128 := by rw [not128 _ (by omega) (by omega)]; omega
theorem pow_out (x : Int) (k : Nat) : x / 128 ^ (k + 1) = x / 128 ^ k / 128 := by rw [← div_pow128]; rfl

theorem info3 : (Try.prog.info? 5).map (fun i => (i.zero, i.size, i.bytes)) = some (some (.int .u8 0), 1, 1) := infoB

theorem below_append {w wr w2 : World} {e : TypeId} {b : Value} {k : Nat} {vs : List Value} {o : Obj} (hb : Below w.heap.size w wr) (ho : wr.ownsRow w.heap.size e 1 b k vs) (hg : (wr.alloc o).grownBy w2 b.ownBlock) : Below w.heap.size w w2 :=
  Below.grown (hb.alloc hb.size _) hg (by have := hb.size; simp; omega) (fun g h => (ho.lt g h).1)
theorem no_more {x : Int} {k : Nat} (h : ∀ m, 1 ≤ m → m ≤ k → ¬ fitU x m) (hq : ¬ x / 128 ^ k < 128) : ∀ m, 1 ≤ m → m ≤ k + 1 → ¬ fitU x m := by
  intro m h1 h2
  rcases Nat.lt_or_ge m (k + 1) with g | g
  · exact h m h1 (by omega)
  · obtain rfl : m = k + 1 := by omega
    exact hq
theorem bytes_end {x q : Int} {n k : Nat} {w w2 : World} {v : Value} (hq : q = x / 128 ^ k) (hn : Least (fitU x) n) (hno : ∀ m, 1 ≤ m → m ≤ k → ¬ fitU x m) (hf : q < 128)
    (ho : w2.ownsRow w.heap.size 5 1 v (k + 1) (cells (grps x k) ++ [.int .u8 q])) (hb : Below w.heap.size w w2) (h0 : 0 ≤ q) : Bytes (grp x n) w (.returned v) w2 := by
  have hk : Least (fitU x) (k + 1) := ⟨by omega, by show x / 128 ^ k < 128; omega, fun m h1 h2 => hno m h1 (by omega)⟩
  obtain rfl := hk.unique hn
  have e : cells (grp x (k + 1)) = cells (grps x k) ++ [.int .u8 q] := by rw [grp_snoc, cells_snoc, ← hq, show q % 128 = q by omega]
  exact bytes_own (by rw [e]; exact ho) (grp_length _ _) hb

end Go.Proofs.Ytmjcbliobjmmfaa

