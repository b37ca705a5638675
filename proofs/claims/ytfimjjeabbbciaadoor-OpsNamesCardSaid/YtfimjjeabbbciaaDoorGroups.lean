/- The reference's groups. -/
import Derived.Test.YtfimjjeabbbciaaDoorTabs
import Derived.Great.Walk
namespace Go.Proofs.YtfimjjeabbbciaaDoor
open Go.RowKit

/-- A row as cells. -/
def rowCells (r : RowR) : List Value := [.int .i64 r.op, .string (S r.name), .int .i64 r.imm, .string (S r.takes), .string (S r.has), .bool r.free]
def rowsArr (l : List RowR) : Array Value := (l.flatMap rowCells).toArray
set_option maxRecDepth 100000 in
set_option maxHeartbeats 4000000 in
theorem groups_any (w : World) : Calls Tryd.prog 17 #[] w fun e w' => e = .returned (.slice (some ⟨w.heap.size, 0, none⟩) 35 35) ∧ w' = w.alloc (.cells (rowsArr groupsL) 24) := by
  go_enter Tryd.func17, Tryd.ntmps17
  go_wp2_with (refine Go.Great.wpList_buildSliceTo rfl 36 24 35 _ rfl _ rfl _ rfl Tryd.underlying36 (rowsArr groupsL) (by kernel_rfl) ?_)
  go_ret
  exact ⟨rfl, rfl⟩
end Go.Proofs.YtfimjjeabbbciaaDoor

