/- The contract of plain: the steps anew, with an error's codes and small places. -/
import Derived.Test.YtmgihoogdkpjoaaEnd
import Derived.StillTactics
import Derived.WalkSpells
import Derived.Laws.Pointers
import Derived.Deep.RegionHeld3
import Derived.Deep.AppendLies
import Derived.KernelRfl
import Derived.Laws.BitsLemmas
import Derived.OwnWalk
namespace Go.Proofs.Ytmgihoogdkpjoaa
open Go.RowKit

theorem and63 (n : Int) : bits .and .i64 n 63 = n % 64 := by
  have h : (BitVec.ofInt 64 63).toNat = 2 ^ 6 - 1 := by decide
  have key : (BitVec.ofInt 64 n &&& BitVec.ofInt 64 63).toNat = (n % ((2 ^ 64 : Nat) : Int)).toNat % 2 ^ 6 := by
    rw [BitVec.toNat_and, BitVec.toNat_ofInt, h, Nat.and_two_pow_sub_one_eq_mod]
  show IntKind.i64.wrap ((BitVec.ofInt 64 n &&& BitVec.ofInt 64 63).toNat : Nat) = n % 64
  rw [key, IntKind.wrap_i64]
  omega
theorem and1023 (n : Int) : bits .and .i64 n 1023 = n % 1024 := by
  have h : (BitVec.ofInt 64 1023).toNat = 2 ^ 10 - 1 := by decide
  have key : (BitVec.ofInt 64 n &&& BitVec.ofInt 64 1023).toNat = (n % ((2 ^ 64 : Nat) : Int)).toNat % 2 ^ 10 := by
    rw [BitVec.toNat_and, BitVec.toNat_ofInt, h, Nat.and_two_pow_sub_one_eq_mod]
  show IntKind.i64.wrap ((BitVec.ofInt 64 n &&& BitVec.ofInt 64 1023).toNat : Nat) = n % 1024
  rw [key, IntKind.wrap_i64]
  omega

theorem infoSt : (Try.prog.info? 47).map (fun i => (i.zero, i.size, i.bytes)) = some (some (.agg #[.int .i64 0, .int .i64 0, .int .i64 0]), 3, 24) := by kernel_rfl

/-- The cells of steps. -/
def stCells (l : List St) : List Value := l.flatMap fun s => [.int .i64 s.k, .int .i64 s.c, .int .i64 s.a]

theorem stCells_at : ∀ (l : List St) (i : Nat) (s : St), l[i]? = some s → (stCells l)[i * 3]? = some (.int .i64 s.k) ∧ (stCells l)[i * 3 + 1]? = some (.int .i64 s.c) ∧ (stCells l)[i * 3 + 2]? = some (.int .i64 s.a) := by
  intro l
  induction l with
  | nil => intro i s h; simp at h
  | cons t r ih =>
    intro i s h
    have e : stCells (t :: r) = .int .i64 t.k :: .int .i64 t.c :: .int .i64 t.a :: stCells r := rfl
    rw [e]
    cases i with
    | zero => simp only [List.getElem?_cons_zero, Option.some.injEq] at h; subst h; exact ⟨rfl, rfl, rfl⟩
    | succ i =>
      obtain ⟨h0, h1, h2⟩ := ih i s (by simpa using h)
      have e0 : (i + 1) * 3 = i * 3 + 3 := by omega
      rw [e0]
      exact ⟨h0, h1, h2⟩
theorem stCells_snoc (l : List St) (s : St) : stCells (l ++ [s]) = stCells l ++ [.int .i64 s.k, .int .i64 s.c, .int .i64 s.a] := by
  simp [stCells]
theorem plain_snoc {l : List St} {k : Nat} {s : St} (h : l[k]? = some s) : stCells ((l.take (k + 1)).map plainSt) = stCells ((l.take k).map plainSt) ++ [.int .i64 s.k, .int .i64 (1 + s.c % 64), .int .i64 (s.a % 1024)] := by
  obtain ⟨hk, e⟩ := List.getElem?_eq_some_iff.1 h
  rw [List.take_succ_eq_append_getElem hk, List.map_append, e]
  exact stCells_snoc _ _

/-- A row of the call's own that holds steps reads as these steps. -/
theorem reads_own {w : World} {base n : Nat} {v : Value} {L : List St} (h : w.ownsRow base 47 3 v n (stCells L)) (hn : L.length = n) :
    ∃ A c, v = .slice A n c ∧ n ≤ c ∧ c ≤ maxLen ∧ Reads w w.heap.size A L ∧ ∀ a, A = some a → base ≤ a.block ∧ a.block < w.heap.size := by
  obtain ⟨h1, h2⟩ := h
  rcases h2 with ⟨rfl, h2⟩ | ⟨g, cap, cur, rfl, hg, hh, hc, hm, hs, ht⟩
  · have hL : L = [] := List.eq_nil_of_length_eq_zero (by omega)
    subst hL
    subst hn
    exact ⟨none, 0, rfl, by simp, by simp, Reads.none_ rfl, fun a e => by cases e⟩
  · have hlt : g < w.heap.size := (Array.getElem?_eq_some_iff.1 hh).1
    refine ⟨_, cap, rfl, hc, hm, ?_, fun a e => by simp only [Option.some.injEq] at e; subst e; exact ⟨hg, hlt⟩⟩
    intro i hi
    have hs' : L[i]? = some L[i] := List.getElem?_eq_getElem hi
    obtain ⟨x0, x1, x2⟩ := stCells_at L i L[i] hs'
    have hcell : ∀ j u, (stCells L)[j]? = some u → w.cell? ⟨g, j, none⟩ = some u := by
      intro j u hu
      rw [cell_of_row w g j cur _ (0, 0) hh]
      rw [← ht] at hu
      rw [List.getElem?_take] at hu
      split at hu
      · simpa using hu
      · cases hu
    refine ⟨g, 0, rfl, hlt, L[i], hs', ?_, ?_, ?_⟩
    · rw [Nat.zero_add]; exact hcell _ _ x0
    · rw [Nat.zero_add]; exact hcell _ _ x1
    · rw [Nat.zero_add]; exact hcell _ _ x2

/-- What plain hands back. -/
def PlainPost (l : List St) (w : World) (e : Ending) (w' : World) : Prop :=
  ∃ A c, e = .returned (.slice A l.length c) ∧ l.length ≤ c ∧ c ≤ maxLen ∧ Reads w' w'.heap.size A (l.map plainSt) ∧ (∀ a, A = some a → w.heap.size ≤ a.block ∧ a.block < w'.heap.size) ∧ Below w.heap.size w w'

set_option maxRecDepth 100000 in
set_option maxHeartbeats 1000000 in
theorem plain_any (A : Option Addr) (cap B : Nat) (l : List St) (w : World) (hr : Reads w B A l) (hB : B ≤ w.heap.size) (hm : cap ≤ maxLen) (h40 : l.length ≤ 40) :
    Calls Try.prog 7 #[.slice A l.length cap] w (PlainPost l w) := by
  have hm2 := hm
  unfold maxLen at hm2
  have HM := Lib.hid hm
  have HR := Lib.hid hr
  clear hm hr
  obtain ⟨i0, hi0, hz0, hz1, hz2⟩ := info_parts infoSt
  go_enter Try.func7, Try.ntmps7
  go_wp2
  go_loopw [3, 4] (fun v i wr => ∃ (k : Nat), k ≤ l.length ∧ i = .int .i64 k ∧ wr.ownsRow w.heap.size 47 3 v k (stCells ((l.take k).map plainSt)) ∧ Below w.heap.size w wr) (fun _ i _ => l.length - (intOf i).toNat)
  case atStart => exact ⟨0, by omega, rfl, World.ownsRow_nil _ _ _ _, Below.refl _ _⟩
  case round =>
    obtain ⟨k, hk, rfl, hown, hbe⟩ := hrel
    have HO := Lib.hid hown
    have HBE := Lib.hid hbe
    have hsz := hbe.size
    by_cases hlt : k < l.length
    · obtain ⟨b, off, rfl, hbB, s, hs, c0, c1, c2⟩ := HR.out k hlt
      have d0 := (HBE.out.cell (p := ⟨b, off + k * 3, none⟩) (by show b < _; omega)).trans c0
      have d1 := (HBE.out.cell (p := ⟨b, off + k * 3 + 1, none⟩) (by show b < _; omega)).trans c1
      have d2 := (HBE.out.cell (p := ⟨b, off + k * 3 + 2, none⟩) (by show b < _; omega)).trans c2
      have H2 := Lib.hid hs
      obtain ⟨x, hx⟩ : ∃ x, x = s.c % 64 := ⟨_, rfl⟩
      obtain ⟨y, hy⟩ : ∃ y, y = s.a % 1024 := ⟨_, rfl⟩
      have hx0 : 0 ≤ x ∧ x ≤ 63 := by omega
      have hy0 : 0 ≤ y ∧ y ≤ 1023 := by omega
      obtain ⟨hx1, hx2⟩ := hx0
      obtain ⟨hy1, hy2⟩ := hy0
      have ax : bits .and .i64 s.c 63 = x := by rw [and63, hx]
      have ay : bits .and .i64 s.a 1023 = y := by rw [and1023, hy]
      have wx : IntKind.i64.wrap (1 + x) = 1 + x := IntWalk.i64_in _ (by omega)
      have HX := Lib.hid hx
      have HY := Lib.hid hy
      have hnb : ∀ g, u3.ownBlock = some g → w.heap.size ≤ g := fun g hg => (hown.lt g hg).1
      have HNB := Lib.hid hnb
      have hbne : u3.ownBlock ≠ some b := fun e => by have := hnb b e; omega
      clear hs c0 c1 c2 hx hy hbe hnb
      go_wp2_with fail
      go_region_held3 (fun w' => w'.cell? ⟨b, off + k * 3, none⟩ = some (.int .i64 s.k) ∧ w'.cell? ⟨b, off + k * 3 + 1, none⟩ = some (.int .i64 s.c) ∧ w'.cell? ⟨b, off + k * 3 + 2, none⟩ = some (.int .i64 s.a))
        (first
          | go_keep
          | (go_split_ands
             refine ⟨?_, ?_, ?_⟩
             · (rw [hgrow.cell_far _ (by simp; omega) (Ne.symm hbne)]; assumption)
             · (rw [hgrow.cell_far _ (by simp; omega) (Ne.symm hbne)]; assumption)
             · (rw [hgrow.cell_far _ (by simp; omega) (Ne.symm hbne)]; assumption)))
        ((refine step_append_lies _ (by rfl) _ _ _ (by rfl) w.heap.size 47 i0 _ 3 24 Try.underlying22 hi0 hz0 hz1 hz2 rfl (by omega) u3 k _ (by rfl) ((hown.alloc _).drew)
            ⟨wr.heap.size, 0, none⟩ 1 1 [.int .i64 s.k, .int .i64 (1 + x), .int .i64 y] (by rfl) (by rfl) (World.news_of_block (cs := #[.int .i64 s.k, .int .i64 (1 + x), .int .i64 y]) (t := 47) (fr := (0, 0)) (heap_alloc_new wr _)) (by simp [Value.oneCell'])
            (by omega) (by unfold maxLen; omega) (by omega) (by simp; omega) (wr.heap.size + 1) (by simp) ?_; intro gg cap' w1 hown1 hgrow hat hlt1))
      clear wx ax ay
      go_wp2
      go_roundw
      case rel =>
        refine ⟨k + 1, by omega, by go_num, ?_, ?_⟩
        · rw [plain_snoc H2.out, ← HX.out, ← HY.out]; exact hown1
        · exact Below.grown ((HBE.out.alloc hsz _).drew) hgrow (by show w.heap.size ≤ (wr.alloc _).heap.size; simp; omega) HNB.out
      case measure => simp [intOf]; omega
    · obtain rfl : k = l.length := by omega
      have hf := reads_own (n := l.length) (L := l.map plainSt) (by have := HO.out; rwa [List.take_length] at this) (by simp)
      obtain ⟨A', c', rfl, g1, g2, g3, g4⟩ := hf
      have F : Hid (PlainPost l w (.returned (.slice A' l.length c')) wr) := ⟨A', c', rfl, g1, g2, g3, g4, HBE.out⟩
      clear g1 g2 g3 g4 hown hbe
      go_wp2
      go_ret
      exact F.out
end Go.Proofs.Ytmgihoogdkpjoaa
