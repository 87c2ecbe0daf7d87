/- The contract of policy.clashes: the table of the pairs of kinds that clash. -/
import Derived.Test.YtpncdcncfinohaaDoorH
namespace Go.Proofs.YtpncdcncfinohaaDoor
open Go.RowKit Go.Sort Go.BigFrame

/-- A function of the program as a value. -/
def fnV (n : Nat) : Value := .func (.func n) #[] #[]
/-- The cells of the table of clashes. -/
def clCells : Array Value := #[.int .i64 3, .int .i64 6, fnV 46, .int .i64 4, .int .i64 7, fnV 47, .int .i64 5, .int .i64 6, fnV 48, .int .i64 5, .int .i64 7, fnV 49, .int .i64 8, .int .i64 11, fnV 50, .int .i64 9, .int .i64 11, fnV 51, .int .i64 10, .int .i64 13, fnV 52]

set_option maxRecDepth 100000 in
set_option maxHeartbeats 1000000 in
theorem clashes_any (w : World) : Calls Tryd.prog 32 #[] w fun e w' => ∃ b, e = .returned (.slice (some ⟨b, 0, none⟩) 7 7) ∧ w.heap.size ≤ b ∧ w'.heap[b]? = some (.cells clCells 59 (0, 0)) ∧ Below w.heap.size w w' := by
  go_enter Tryd.func32, Tryd.ntmps32
  go_wp2
  go_ret
  refine ⟨_, rfl, ?_, heap_alloc_new _ _, ?_⟩
  · first | exact Nat.le_refl _ | simp
  · exact (Below.refl _ _).alloc (Nat.le_refl _) _

end Go.Proofs.YtpncdcncfinohaaDoor
