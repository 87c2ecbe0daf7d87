/- The contract of policy.clashes: the table of the pairs of kinds that clash. -/
import Derived.Test.YtladjkkkhomngaaDoorH
namespace Go.Proofs.YtladjkkkhomngaaDoor
set_option maxRecDepth 8000
open Go.RowKit Go.Sort Go.BigFrame

/-- A function of the program as a value. -/
def fnV (n : Nat) : Value := .func (.func n) #[] #[]
/-- The cells of the table of clashes. -/
def clCells : Array Value := #[.int .i64 3, .int .i64 6, fnV 77, .int .i64 4, .int .i64 7, fnV 78, .int .i64 5, .int .i64 6, fnV 79, .int .i64 5, .int .i64 7, fnV 80, .int .i64 8, .int .i64 11, fnV 81, .int .i64 9, .int .i64 11, fnV 82, .int .i64 10, .int .i64 13, fnV 83]

set_option maxRecDepth 100000 in
set_option maxHeartbeats 1000000 in
theorem clashes_any (w : World) : Calls Tryd.prog 62 #[] w fun e w' => ∃ b, e = .returned (.slice (some ⟨b, 0, none⟩) 7 7) ∧ w.heap.size ≤ b ∧ w'.heap[b]? = some (.cells clCells 85 (0, 0)) ∧ Below w.heap.size w w' := by
  go_enter Tryd.func62, Tryd.ntmps62
  go_wp2
  go_ret
  refine ⟨_, rfl, ?_, heap_alloc_new _ _, ?_⟩
  · first | exact Nat.le_refl _ | simp
  · exact (Below.refl _ _).alloc (Nat.le_refl _) _

end Go.Proofs.YtladjkkkhomngaaDoor
