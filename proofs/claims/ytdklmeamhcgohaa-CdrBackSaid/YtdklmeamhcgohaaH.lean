/-
  PROVED HERE: awake returns true, and of the memory that there was nothing changes.
-/
import Derived.Test.YtdklmeamhcgohaaG
namespace Go.Proofs.Ytdklmeamhcgohaa
open Go.RowKit

set_option maxRecDepth 100000 in
set_option maxHeartbeats 800000 in
/-- awake returns true; what it writes lies above what there was. -/
theorem awake_any (w : World) : Calls Try.prog 10 #[] w fun e w' => e = .returned (.bool true) ∧ Below w.heap.size w w' := by
  go_enter Try.func10, Try.ntmps10
  go_wp2_with (go_at_call 11; refine (newWriter_any true 0 w).mono ?_; rintro e w1 ⟨b1, rfl, hb1, ha1, hbe1⟩; have m1 := NewW.made (W0 := w) ha1 hb1 hbe1)
  refine (newWriter_any false 0 w1).mono ?_
  rintro e w2 ⟨b2, rfl, hb2, ha2, hbe2⟩
  have n1 := NewW.mk (m1.holds.older hbe2 (Nat.le_refl _)) m1.lo m1.own (m1.below.trans (hbe2.mono m1.below.size))
  have n2 := NewW.made (W0 := w) ha2 (Nat.le_trans m1.below.size hb2) n1.below
  have hne : b2 ≠ b1 := Nat.ne_of_gt (Nat.lt_of_lt_of_le m1.holds.1.lt hb2)
  have N1 := Lib.hid n1
  have N2 := Lib.hid n2
  clear m1 n1 n2 ha2 hbe2 ha1 hbe1
  go_wp2_with (go_at_call 19; refine (aw_octet b1 _ w2 N1.out.holds).mono ?_; rintro e w3 ⟨sv3, rfl, hh3, hw3⟩; have N2b := Lib.hid (N2.out.holds.other N1.out.holds hw3 hne (by simp [Value.ownBlock])); have N3 := Lib.hid (N1.out.wrote hh3 hw3); clear hh3 hw3)
  refine (aw_long b1 _ w3 N3.out.holds).mono ?_
  rintro e w4 ⟨sv4, rfl, hh4, hw4⟩
  have N2c := Lib.hid (N2b.out.other N3.out.holds hw4 hne (by simp [Value.ownBlock]))
  have N4 := Lib.hid (N3.out.wrote hh4 hw4)
  clear hh4 hw4
  go_wp2_with (go_at_call 17; refine (aw_all1 b1 _ w4 N4.out.holds).mono ?_; rintro e w5 ⟨rfl, rfl⟩)
  refine (aw_text b2 _ _ N2c.out).mono ?_
  rintro e w5 ⟨sv5, rfl, hh5, hw5⟩
  have N5 := Lib.hid ((NewW.mk N2c.out N2.out.lo N2.out.own N4.out.below).wrote hh5 hw5)
  clear hh5 hw5
  go_wp2_with (go_at_call 17; refine (aw_all2 b2 _ w5 N5.out.holds).mono ?_; rintro e w6 ⟨rfl, rfl⟩)
  all_goals trace_state
  go_ret
  exact ⟨rfl, N5.out.below⟩
end Go.Proofs.Ytdklmeamhcgohaa
