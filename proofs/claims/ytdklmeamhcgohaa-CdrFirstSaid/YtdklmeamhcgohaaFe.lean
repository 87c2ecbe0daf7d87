/-
  PROVED HERE: the law CdrFirst returns true for no acts.
-/
import Derived.Test.YtdklmeamhcgohaaFd
import Derived.Test.YtdklmeamhcgohaaRw
namespace Go.Proofs.Ytdklmeamhcgohaa
open Go.RowKit

set_option maxRecDepth 100000 in
set_option maxHeartbeats 4000000 in
theorem walk7_empty (s t0 : ByteArray) (big : Bool) (ao : Option Addr) (cap : Nat) (w : World) (hsz : s.size ≤ 140737488351232) (htz : t0.size ≤ 140737488351232) :
    Calls Try.prog 7 #[.string s, .string t0, .bool big, .slice ao 0 cap] w fun e w' => e = .returned (.bool true) ∧ Below w.heap.size w w' := by
  have LG := Lib.hid (light_empty ao cap w)
  by_cases h2000 : s.size ≤ 2000
  case neg =>
    have d0 : decide ((2000 : Int) < s.size) = true := by simp; omega
    go_enter Try.func7, Try.ntmps7
    go_wp2_with (first | (go_at_call 9; refine LG.out.mono ?_; rintro e w1 ⟨rfl, hb1⟩; have B1 := Lib.hid hb1; clear hb1) | (go_at_call 10; refine (awake_any _).mono ?_; rintro e w2 ⟨rfl, hb2⟩; have B2 := Lib.hid hb2; clear hb2))
    go_ret
    exact ⟨rfl, B1.out.trans (B2.out.mono B1.out.size)⟩
  have d0 : decide ((2000 : Int) < s.size) = false := by simp; omega
  by_cases h2001 : t0.size ≤ 2000
  case neg =>
    have d1 : decide ((2000 : Int) < t0.size) = true := by simp; omega
    go_enter Try.func7, Try.ntmps7
    go_wp2_with (first | (go_at_call 9; refine LG.out.mono ?_; rintro e w1 ⟨rfl, hb1⟩; have B1 := Lib.hid hb1; clear hb1) | (go_at_call 10; refine (awake_any _).mono ?_; rintro e w2 ⟨rfl, hb2⟩; have B2 := Lib.hid hb2; clear hb2))
    go_ret
    exact ⟨rfl, B1.out.trans (B2.out.mono B1.out.size)⟩
  have d1 : decide ((2000 : Int) < t0.size) = false := by simp; omega
  go_enter Try.func7, Try.ntmps7
  go_wp2_with (first | (go_at_call 9; refine LG.out.mono ?_; rintro e w1 ⟨rfl, hb1⟩; have B1 := Lib.hid hb1; clear hb1) | (go_at_call 21; refine (newReader_any _ _ _ _).mono ?_; rintro e w2 ⟨b1, rfl, hb2, hw2, hbe2⟩))
  have HP0 := Lib.hid (show NewR w w2 b1 big 0 s (0, false) from ⟨hw2, Nat.le_trans B1.out.size hb2, B1.out.trans (hbe2.mono B1.out.size)⟩)
  clear hw2 hb2 hbe2
  go_loopw [37] (fun v wr => v = .int .i64 0 ∧ wr = w2) (fun _ _ => 0)
  case atStart => exact ⟨rfl, rfl⟩
  case round =>
    obtain ⟨rfl, rfl⟩ := hrel
    have BD := Lib.hid (cbad_any b1 big 0 s 0 false wr HP0.out.at' (by omega) (by omega) (by omega))
    rw [show badN 0 0 false = -1 from rfl] at BD
    go_wp2_with (first | (go_at_call 29; refine BD.out.mono ?_; rintro e w4 ⟨rfl, nq, rfl⟩) | (go_at_call 10; refine (awake_any _).mono ?_; rintro e w5 ⟨rfl, hb5⟩; have B5 := Lib.hid hb5; clear hb5))
    go_ret
    exact ⟨rfl, (HP0.out.later (below_drewN' _ nq)).below.trans (B5.out.mono HP0.out.below.size)⟩

end Go.Proofs.Ytdklmeamhcgohaa
