/- The contract of policy.Agree where it refuses: rows that are no sets, a route that does not fit. -/
import Derived.Test.YtladjkkkhomngaaDoorO
namespace Go.Proofs.YtladjkkkhomngaaDoor
set_option maxRecDepth 8000
open Go.RowKit Go.Sort Go.BigFrame

set_option maxRecDepth 100000 in
set_option maxHeartbeats 1000000 in
theorem agree_bad1 (ao1 ao2 : Option Addr) (cap1 cap2 : Nat) (c s : List PolD) (w : World) (hS : SortsAt w) (h1 : RowAt w ao1 c) (hl1 : c.length ≤ 9223372036854775807) (k1 : okS c = false) :
    Calls Tryd.prog 32 #[.slice ao1 c.length cap1, .slice ao2 s.length cap2] w fun e w' => e = .returned (.tuple #[.slice none 0 0, .int .i64 0, .int .i64 1]) ∧ Below w.heap.size w w' := by
  have VC := Lib.hid (validSet_any ao1 cap1 c w hS h1 hl1)
  rw [k1] at VC
  clear hS h1 hl1 k1
  go_enter Tryd.func32, Tryd.ntmps32
  go_wp2_with (go_at_call 13; refine VC.out.mono ?_; rintro e w1 ⟨rfl, hb1⟩; have B1 := Lib.hid hb1; clear hb1)
  go_ret3
  exact ⟨rfl, B1.out⟩

set_option maxRecDepth 100000 in
set_option maxHeartbeats 1000000 in
theorem agree_bad2 (ao1 ao2 : Option Addr) (cap1 cap2 : Nat) (c s : List PolD) (w : World) (hS : SortsAt w) (h1 : RowAt w ao1 c) (h2 : RowAt w ao2 s) (hl1 : c.length ≤ 9223372036854775807) (hl2 : s.length ≤ 9223372036854775807) (k1 : okS c = true) (k2 : okS s = false) :
    Calls Tryd.prog 32 #[.slice ao1 c.length cap1, .slice ao2 s.length cap2] w fun e w' => e = .returned (.tuple #[.slice none 0 0, .int .i64 0, .int .i64 1]) ∧ Below w.heap.size w w' := by
  have VC := Lib.hid (validSet_any ao1 cap1 c w hS h1 hl1)
  have VS := Lib.hid fun wx (hx : Below w.heap.size w wx) => validSet_any ao2 cap2 s wx (hS.below hx hS.pos) (h2.below hx) hl2
  rw [k1] at VC
  rw [k2] at VS
  clear hS h1 hl1 k1 h2 hl2 k2
  go_enter Tryd.func32, Tryd.ntmps32
  go_wp2_with (first | (go_at_call 13; (fail_if_success (have := B1)); refine VC.out.mono ?_; rintro e w1 ⟨rfl, hb1⟩; have B1 := Lib.hid hb1; clear hb1) | (go_at_call 13; refine (VS.out _ B1.out).mono ?_; rintro e w2 ⟨rfl, hb2⟩; have B2 := Lib.hid (B1.out.trans (hb2.mono B1.out.size)); clear hb2))
  go_ret3
  exact ⟨rfl, B2.out⟩

set_option maxRecDepth 100000 in
set_option maxHeartbeats 1000000 in
theorem agree_route (ao1 ao2 : Option Addr) (cap1 cap2 : Nat) (c s : List PolD) (w : World) (hS : SortsAt w) (h1 : RowAt w ao1 c) (h2 : RowAt w ao2 s) (hl1 : c.length ≤ 9223372036854775807) (hl2 : s.length ≤ 9223372036854775807) (k1 : okS c = true) (k2 : okS s = true) (k3 : valOf s 11 < valOf c 11) :
    Calls Tryd.prog 32 #[.slice ao1 c.length cap1, .slice ao2 s.length cap2] w fun e w' => e = .returned (.tuple #[.slice none 0 0, .int .i64 11, .int .i64 9]) ∧ Below w.heap.size w w' := by
  have VC := Lib.hid (validSet_any ao1 cap1 c w hS h1 hl1)
  have VS := Lib.hid fun wx (hx : Below w.heap.size w wx) => validSet_any ao2 cap2 s wx (hS.below hx hS.pos) (h2.below hx) hl2
  have GC := Lib.hid fun wx (hx : Below w.heap.size w wx) => get_any ao1 cap1 c 11 wx (hS.below hx hS.pos) (by decide) (h1.below hx) hl1
  have GS := Lib.hid fun wx (hx : Below w.heap.size w wx) => get_any ao2 cap2 s 11 wx (hS.below hx hS.pos) (by decide) (h2.below hx) hl2
  rw [k1] at VC
  rw [k2] at VS
  obtain ⟨a, ha⟩ : ∃ a, valOf c 11 = a := ⟨_, rfl⟩
  obtain ⟨b, hb⟩ : ∃ b, valOf s 11 = b := ⟨_, rfl⟩
  rw [ha] at GC k3
  rw [hb] at GS k3
  have e1 : decide (b < a) = true := by simpa using k3
  clear hS h1 hl1 k1 h2 hl2 k2 k3 ha hb
  go_enter Tryd.func32, Tryd.ntmps32
  go_wp2_with (first | (go_at_call 13; (fail_if_success (have := B1)); refine VC.out.mono ?_; rintro e w1 ⟨rfl, hb1⟩; have B1 := Lib.hid hb1; clear hb1) | (go_at_call 13; refine (VS.out _ B1.out).mono ?_; rintro e w2 ⟨rfl, hb2⟩; have B2 := Lib.hid (B1.out.trans (hb2.mono B1.out.size)); clear hb2) | (go_at_call 40; (fail_if_success (have := B3)); refine (GC.out _ B2.out).mono ?_; rintro e w3 ⟨rfl, hb3⟩; have B3 := Lib.hid (B2.out.trans (hb3.mono B2.out.size)); clear hb3) | (go_at_call 40; refine (GS.out _ B3.out).mono ?_; rintro e w4 ⟨rfl, hb4⟩; have B4 := Lib.hid (B3.out.trans (hb4.mono B3.out.size)); clear hb4))
  go_ret3
  exact ⟨rfl, B4.out⟩

end Go.Proofs.YtladjkkkhomngaaDoor
