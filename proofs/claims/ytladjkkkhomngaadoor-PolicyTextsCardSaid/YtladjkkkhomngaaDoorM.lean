/- The contracts of policy.Clashes for a row that is no set, and of policy.Get for a set and a kind. -/
import Derived.Test.YtladjkkkhomngaaDoorL
namespace Go.Proofs.YtladjkkkhomngaaDoor
set_option maxRecDepth 8000
open Go.RowKit Go.Sort Go.BigFrame

set_option maxRecDepth 100000 in
set_option maxHeartbeats 1000000 in
theorem clashes_bad (ao : Option Addr) (cap : Nat) (l : List PolD) (w : World) (hS : SortsAt w) (h : RowAt w ao l) (hl : l.length ≤ 9223372036854775807) (hok : okS l = false) :
    Calls Tryd.prog 31 #[.slice ao l.length cap] w fun e w' => e = .returned (.tuple #[.slice none 0 0, .int .i64 1]) ∧ Below w.heap.size w w' := by
  have VS := Lib.hid (validSet_any ao cap l w hS h hl)
  rw [hok] at VS
  clear hS h hl hok
  go_enter Tryd.func31, Tryd.ntmps31
  go_wp2_with (go_at_call 13; refine VS.out.mono ?_; rintro e w1 ⟨rfl, hb1⟩; have B1 := Lib.hid hb1; clear hb1)
  go_ret2
  exact ⟨rfl, B1.out⟩

set_option maxRecDepth 100000 in
set_option maxHeartbeats 1000000 in
theorem getSet_any (ao : Option Addr) (cap : Nat) (l : List PolD) (q : Int) (w : World) (hS : SortsAt w) (h : RowAt w ao l) (hl : l.length ≤ 9223372036854775807) (hok : okS l = true) (hq : isK q = true) :
    Calls Tryd.prog 9 #[.slice ao l.length cap, .int .i64 q] w fun e w' => e = .returned (.tuple #[.int .i64 (valOf l q), .int .i64 0]) ∧ Below w.heap.size w w' := by
  have VS := Lib.hid (validSet_any ao cap l w hS h hl)
  rw [hok] at VS
  have IK := Lib.hid fun wx => isKind_any q wx
  rw [hq] at IK
  have GE := Lib.hid fun wx (hx : Below w.heap.size w wx) => get_any ao cap l q wx (hS.below hx hS.pos) hq (h.below hx) hl
  obtain ⟨a, ha⟩ : ∃ a, valOf l q = a := ⟨_, rfl⟩
  rw [ha] at GE
  rw [ha]
  clear hS h hl hok hq ha
  go_enter Tryd.func9, Tryd.ntmps9
  go_wp2_with (first | (go_at_call 13; refine VS.out.mono ?_; rintro e w1 ⟨rfl, hb1⟩; have B1 := Lib.hid hb1; clear hb1) | (go_at_call 39; refine (IK.out _).mono ?_; rintro e w2 ⟨rfl, rfl⟩) | (go_at_call 40; refine (GE.out _ B1.out).mono ?_; rintro e w3 ⟨rfl, hb3⟩; have B3 := Lib.hid (B1.out.trans (hb3.mono B1.out.size)); clear hb3))
  go_ret2
  exact ⟨rfl, B3.out⟩

end Go.Proofs.YtladjkkkhomngaaDoor
