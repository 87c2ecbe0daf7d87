/-
  PROVED HERE: the law CdrBack returns true for no acts, and for all that lie in memory.
-/
import Derived.Test.YtdklmeamhcgohaaBd
import Derived.Test.YtdklmeamhcgohaaBe
import Derived.Test.YtdklmeamhcgohaaBf
namespace Go.Proofs.Ytdklmeamhcgohaa
open Go.RowKit

set_option maxRecDepth 100000 in
set_option maxHeartbeats 4000000 in
theorem walk5e_in (big : Bool) (at' : Int) (ao : Option Addr) (cap : Nat) (w : World) (h1 : ¬ at' < 0) (h2 : ¬ 7 < at') :
    Calls Try.prog 5 #[.bool big, .int .i64 at', .slice ao 0 cap] w fun e w' => e = .returned (.bool true) ∧ Below w.heap.size w w' := by
  have LG := Lib.hid (light_empty ao cap w)
  have hat := atN_bd at'
  obtain ⟨a, hav⟩ : ∃ a, atN at' = a := ⟨_, rfl⟩
  rw [hav] at hat
  obtain ⟨ha, ha2⟩ := hat
  have e1 : decide (at' < 0) = false := by simpa using h1
  have e2 : decide (7 < at') = false := by simpa using h2
  have haa : a = at' := by rw [← hav]; unfold atN; rw [if_neg (by omega)]
  have HAA := Lib.hid haa
  clear haa
  have HA := Lib.hid hav
  clear hav
  go_enter Try.func5, Try.ntmps5
  go_wp2_with (first | (go_at_call 9; refine LG.out.mono ?_; rintro e w1 ⟨rfl, hb1⟩; have B1 := Lib.hid hb1; clear hb1) | (go_at_call 11; refine (newWriter_any _ _ _).mono ?_; rintro e w2 ⟨bw, rfl, hb2, hw2, hbe2⟩))
  rw [HA.out] at hw2
  have HB0 := Lib.hid (B1.out.trans (hbe2.mono B1.out.size))
  have HW0 := Lib.hid (show Holds w2 bw big a (.slice none 0 0) [] from ⟨hw2, World.ownsRow_nil _ 0 5 1⟩)
  clear hw2 hb2 hbe2
  go_loopw [8, 28] (fun d v wr => d = .slice none 0 0 ∧ v = .int .i64 0 ∧ wr = w2) (fun _ _ _ => 0)
  case atStart => exact ⟨rfl, rfl, rfl⟩
  case round =>
    obtain ⟨rfl, rfl, rfl⟩ := hrel
    have AA := all_any bw big a (.slice none 0 0) [] wr HW0.out
    obtain ⟨S, hS⟩ : ∃ S : ByteArray, S = ⟨([] : List UInt8).toArray⟩ := ⟨_, rfl⟩
    have hSz : S.size = 0 := by rw [hS]; rfl
    rw [← hS] at AA
    have AA := Lib.hid AA
    clear hS
    have HSZ := Lib.hid hSz
    clear hSz
    go_wp2_with (first | (go_at_call 17; refine AA.out.mono ?_; rintro e w4 ⟨rfl, rfl⟩) | (go_at_call 21; refine (newReader_any _ _ _ _).mono ?_; rintro e w5 ⟨br, rfl, hb5, hw5, hbe5⟩))
    rw [HA.out] at hw5
    have HR0 := Lib.hid hw5
    have HB5 := Lib.hid (HB0.out.trans (hbe5.mono HB0.out.size))
    have HW5 := Lib.hid (HW0.out.below hbe5)
    clear hw5 hb5 hbe5
    go_loopw [64] (fun v wr => v = .int .i64 0 ∧ wr = w5) (fun _ _ => 0)
    case atStart => exact ⟨rfl, rfl⟩
    case round =>
      obtain ⟨rfl, rfl⟩ := hrel
      have hSz := HSZ.out
      have hc1 : (a == (at' + (S.size : Int))) = true := by have := HAA.out; simp; omega
      have hc3 : ((S.size : Int) - 0 == 0) = true := by rw [hSz]; rfl
      have P1 := Lib.hid fun n => place_any bw big a none 0 0 (wr.drewN n) HW5.out.1 ha ha2 (by omega)
      have P0 := Lib.hid (place_any bw big a none 0 0 wr HW5.out.1 ha ha2 (by omega))
      have C1 := Lib.hid fun n => cplace_any br big a S 0 false (wr.drewN n) HR0.out ha ha2 (by omega)
      have C2 := Lib.hid fun n => cleft_any br big a S 0 false (wr.drewN n) HR0.out (by omega) (by omega)
      have C3 := Lib.hid fun n => cbad_any br big a S 0 false (wr.drewN n) HR0.out ha ha2 (by omega)
      rw [show badN a 0 false = -1 from rfl] at C3
      simp only [Int.natCast_zero, Int.add_zero, Int.sub_zero] at P0 P1 C1 C2 hc3
      go_wp2_with (first | (go_at_call 15; (fail_if_success (have := n1)); refine P0.out.mono ?_; rintro e w6 ⟨rfl, n1, rfl⟩) | (go_at_call 25; refine (C1.out n1).mono ?_; rintro e w7 ⟨rfl, n2, rfl⟩) | (go_at_call 15; refine (P1.out (n1 + n2)).mono ?_; rintro e w8 ⟨rfl, n3, rfl⟩) | (go_at_call 27; refine (C2.out (n1 + n2 + n3)).mono ?_; rintro e w9 ⟨rfl, n4, rfl⟩) | (go_at_call 29; refine (C3.out (n1 + n2 + n3 + n4)).mono ?_; rintro e w10 ⟨rfl, n5, rfl⟩) | (go_at_call 10; refine (awake_any _).mono ?_; rintro e w11 ⟨rfl, hb11⟩; have B11 := Lib.hid hb11; clear hb11))
      go_ret
      exact ⟨rfl, (HB5.out.trans ((below_drewN' wr _).mono HB5.out.size)).trans (B11.out.mono HB5.out.size)⟩

set_option maxRecDepth 100000 in
set_option maxHeartbeats 4000000 in
theorem walk5e_neg (big : Bool) (at' : Int) (ao : Option Addr) (cap : Nat) (w : World) (h1 : at' < 0) :
    Calls Try.prog 5 #[.bool big, .int .i64 at', .slice ao 0 cap] w fun e w' => e = .returned (.bool true) ∧ Below w.heap.size w w' := by
  have LG := Lib.hid (light_empty ao cap w)
  have hat := atN_bd at'
  obtain ⟨a, hav⟩ : ∃ a, atN at' = a := ⟨_, rfl⟩
  rw [hav] at hat
  obtain ⟨ha, ha2⟩ := hat
  have e1 : decide (at' < 0) = true := by simpa using h1
  have haa : a = 0 := by rw [← hav]; unfold atN; rw [if_pos (by omega)]
  have HAA := Lib.hid haa
  clear haa
  have HA := Lib.hid hav
  clear hav
  go_enter Try.func5, Try.ntmps5
  go_wp2_with (first | (go_at_call 9; refine LG.out.mono ?_; rintro e w1 ⟨rfl, hb1⟩; have B1 := Lib.hid hb1; clear hb1) | (go_at_call 11; refine (newWriter_any _ _ _).mono ?_; rintro e w2 ⟨bw, rfl, hb2, hw2, hbe2⟩))
  rw [HA.out] at hw2
  have HB0 := Lib.hid (B1.out.trans (hbe2.mono B1.out.size))
  have HW0 := Lib.hid (show Holds w2 bw big a (.slice none 0 0) [] from ⟨hw2, World.ownsRow_nil _ 0 5 1⟩)
  clear hw2 hb2 hbe2
  go_loopw [8, 28] (fun d v wr => d = .slice none 0 0 ∧ v = .int .i64 0 ∧ wr = w2) (fun _ _ _ => 0)
  case atStart => exact ⟨rfl, rfl, rfl⟩
  case round =>
    obtain ⟨rfl, rfl, rfl⟩ := hrel
    have AA := all_any bw big a (.slice none 0 0) [] wr HW0.out
    obtain ⟨S, hS⟩ : ∃ S : ByteArray, S = ⟨([] : List UInt8).toArray⟩ := ⟨_, rfl⟩
    have hSz : S.size = 0 := by rw [hS]; rfl
    rw [← hS] at AA
    have AA := Lib.hid AA
    clear hS
    have HSZ := Lib.hid hSz
    clear hSz
    go_wp2_with (first | (go_at_call 17; refine AA.out.mono ?_; rintro e w4 ⟨rfl, rfl⟩) | (go_at_call 21; refine (newReader_any _ _ _ _).mono ?_; rintro e w5 ⟨br, rfl, hb5, hw5, hbe5⟩))
    rw [HA.out] at hw5
    have HR0 := Lib.hid hw5
    have HB5 := Lib.hid (HB0.out.trans (hbe5.mono HB0.out.size))
    have HW5 := Lib.hid (HW0.out.below hbe5)
    clear hw5 hb5 hbe5
    go_loopw [64] (fun v wr => v = .int .i64 0 ∧ wr = w5) (fun _ _ => 0)
    case atStart => exact ⟨rfl, rfl⟩
    case round =>
      obtain ⟨rfl, rfl⟩ := hrel
      have hSz := HSZ.out
      have hc1 : (a == (S.size : Int)) = true := by have := HAA.out; simp; omega
      have hc3 : ((S.size : Int) - 0 == 0) = true := by rw [hSz]; rfl
      have P1 := Lib.hid fun n => place_any bw big a none 0 0 (wr.drewN n) HW5.out.1 ha ha2 (by omega)
      have P0 := Lib.hid (place_any bw big a none 0 0 wr HW5.out.1 ha ha2 (by omega))
      have C1 := Lib.hid fun n => cplace_any br big a S 0 false (wr.drewN n) HR0.out ha ha2 (by omega)
      have C2 := Lib.hid fun n => cleft_any br big a S 0 false (wr.drewN n) HR0.out (by omega) (by omega)
      have C3 := Lib.hid fun n => cbad_any br big a S 0 false (wr.drewN n) HR0.out ha ha2 (by omega)
      rw [show badN a 0 false = -1 from rfl] at C3
      simp only [Int.natCast_zero, Int.add_zero, Int.sub_zero] at P0 P1 C1 C2 hc3
      go_wp2_with (first | (go_at_call 15; (fail_if_success (have := n1)); refine P0.out.mono ?_; rintro e w6 ⟨rfl, n1, rfl⟩) | (go_at_call 25; refine (C1.out n1).mono ?_; rintro e w7 ⟨rfl, n2, rfl⟩) | (go_at_call 15; refine (P1.out (n1 + n2)).mono ?_; rintro e w8 ⟨rfl, n3, rfl⟩) | (go_at_call 27; refine (C2.out (n1 + n2 + n3)).mono ?_; rintro e w9 ⟨rfl, n4, rfl⟩) | (go_at_call 29; refine (C3.out (n1 + n2 + n3 + n4)).mono ?_; rintro e w10 ⟨rfl, n5, rfl⟩) | (go_at_call 10; refine (awake_any _).mono ?_; rintro e w11 ⟨rfl, hb11⟩; have B11 := Lib.hid hb11; clear hb11))
      go_ret
      exact ⟨rfl, (HB5.out.trans ((below_drewN' wr _).mono HB5.out.size)).trans (B11.out.mono HB5.out.size)⟩

set_option maxRecDepth 100000 in
set_option maxHeartbeats 4000000 in
theorem walk5e_big (big : Bool) (at' : Int) (ao : Option Addr) (cap : Nat) (w : World) (h1 : ¬ at' < 0) (h2 : 7 < at') :
    Calls Try.prog 5 #[.bool big, .int .i64 at', .slice ao 0 cap] w fun e w' => e = .returned (.bool true) ∧ Below w.heap.size w w' := by
  have LG := Lib.hid (light_empty ao cap w)
  have hat := atN_bd at'
  obtain ⟨a, hav⟩ : ∃ a, atN at' = a := ⟨_, rfl⟩
  rw [hav] at hat
  obtain ⟨ha, ha2⟩ := hat
  have e1 : decide (at' < 0) = false := by simpa using h1
  have e2 : decide (7 < at') = true := by simpa using h2
  have haa : a = 0 := by rw [← hav]; unfold atN; rw [if_pos (by omega)]
  have HAA := Lib.hid haa
  clear haa
  have HA := Lib.hid hav
  clear hav
  go_enter Try.func5, Try.ntmps5
  go_wp2_with (first | (go_at_call 9; refine LG.out.mono ?_; rintro e w1 ⟨rfl, hb1⟩; have B1 := Lib.hid hb1; clear hb1) | (go_at_call 11; refine (newWriter_any _ _ _).mono ?_; rintro e w2 ⟨bw, rfl, hb2, hw2, hbe2⟩))
  rw [HA.out] at hw2
  have HB0 := Lib.hid (B1.out.trans (hbe2.mono B1.out.size))
  have HW0 := Lib.hid (show Holds w2 bw big a (.slice none 0 0) [] from ⟨hw2, World.ownsRow_nil _ 0 5 1⟩)
  clear hw2 hb2 hbe2
  go_loopw [8, 28] (fun d v wr => d = .slice none 0 0 ∧ v = .int .i64 0 ∧ wr = w2) (fun _ _ _ => 0)
  case atStart => exact ⟨rfl, rfl, rfl⟩
  case round =>
    obtain ⟨rfl, rfl, rfl⟩ := hrel
    have AA := all_any bw big a (.slice none 0 0) [] wr HW0.out
    obtain ⟨S, hS⟩ : ∃ S : ByteArray, S = ⟨([] : List UInt8).toArray⟩ := ⟨_, rfl⟩
    have hSz : S.size = 0 := by rw [hS]; rfl
    rw [← hS] at AA
    have AA := Lib.hid AA
    clear hS
    have HSZ := Lib.hid hSz
    clear hSz
    go_wp2_with (first | (go_at_call 17; refine AA.out.mono ?_; rintro e w4 ⟨rfl, rfl⟩) | (go_at_call 21; refine (newReader_any _ _ _ _).mono ?_; rintro e w5 ⟨br, rfl, hb5, hw5, hbe5⟩))
    rw [HA.out] at hw5
    have HR0 := Lib.hid hw5
    have HB5 := Lib.hid (HB0.out.trans (hbe5.mono HB0.out.size))
    have HW5 := Lib.hid (HW0.out.below hbe5)
    clear hw5 hb5 hbe5
    go_loopw [64] (fun v wr => v = .int .i64 0 ∧ wr = w5) (fun _ _ => 0)
    case atStart => exact ⟨rfl, rfl⟩
    case round =>
      obtain ⟨rfl, rfl⟩ := hrel
      have hSz := HSZ.out
      have hc1 : (a == (S.size : Int)) = true := by have := HAA.out; simp; omega
      have hc3 : ((S.size : Int) - 0 == 0) = true := by rw [hSz]; rfl
      have P1 := Lib.hid fun n => place_any bw big a none 0 0 (wr.drewN n) HW5.out.1 ha ha2 (by omega)
      have P0 := Lib.hid (place_any bw big a none 0 0 wr HW5.out.1 ha ha2 (by omega))
      have C1 := Lib.hid fun n => cplace_any br big a S 0 false (wr.drewN n) HR0.out ha ha2 (by omega)
      have C2 := Lib.hid fun n => cleft_any br big a S 0 false (wr.drewN n) HR0.out (by omega) (by omega)
      have C3 := Lib.hid fun n => cbad_any br big a S 0 false (wr.drewN n) HR0.out ha ha2 (by omega)
      rw [show badN a 0 false = -1 from rfl] at C3
      simp only [Int.natCast_zero, Int.add_zero, Int.sub_zero] at P0 P1 C1 C2 hc3
      go_wp2_with (first | (go_at_call 15; (fail_if_success (have := n1)); refine P0.out.mono ?_; rintro e w6 ⟨rfl, n1, rfl⟩) | (go_at_call 25; refine (C1.out n1).mono ?_; rintro e w7 ⟨rfl, n2, rfl⟩) | (go_at_call 15; refine (P1.out (n1 + n2)).mono ?_; rintro e w8 ⟨rfl, n3, rfl⟩) | (go_at_call 27; refine (C2.out (n1 + n2 + n3)).mono ?_; rintro e w9 ⟨rfl, n4, rfl⟩) | (go_at_call 29; refine (C3.out (n1 + n2 + n3 + n4)).mono ?_; rintro e w10 ⟨rfl, n5, rfl⟩) | (go_at_call 10; refine (awake_any _).mono ?_; rintro e w11 ⟨rfl, hb11⟩; have B11 := Lib.hid hb11; clear hb11))
      go_ret
      exact ⟨rfl, (HB5.out.trans ((below_drewN' wr _).mono HB5.out.size)).trans (B11.out.mono HB5.out.size)⟩

theorem walk5_empty (big : Bool) (at' : Int) (ao : Option Addr) (cap : Nat) (w : World) :
    Calls Try.prog 5 #[.bool big, .int .i64 at', .slice ao 0 cap] w fun e w' => e = .returned (.bool true) ∧ Below w.heap.size w w' := by
  by_cases h1 : at' < 0
  · exact walk5e_neg big at' ao cap w h1
  · by_cases h2 : 7 < at'
    · exact walk5e_big big at' ao cap w h1 h2
    · exact walk5e_in big at' ao cap w h1 h2

theorem walk5_wide (big : Bool) (at' : Int) (b off cap : Nat) (l : List ActD) (w : World) (h : ActsAt w b off l) (hb : b < w.heap.size) (hl : l.length ≤ maxLen) (hs : ∀ i (h : i < l.length), l[i].s.size ≤ 140737488351232) (hns : ∀ i (h : i < l.length), -9223372036854775808 ≤ l[i].n ∧ l[i].n ≤ 9223372036854775807) :
    Calls Try.prog 5 #[.bool big, .int .i64 at', .slice (some ⟨b, off, none⟩) l.length cap] w fun e w' => e = .returned (.bool true) ∧ Below w.heap.size w w' := by
  by_cases h1 : at' < 0
  · exact walk5_neg big at' b off cap l w h hb hl hs hns h1
  · by_cases h2 : 7 < at'
    · exact walk5_big big at' b off cap l w h hb hl hs hns h1 h2
    · exact walk5_in big at' b off cap l w h hb hl hs hns h1 h2

end Go.Proofs.Ytdklmeamhcgohaa
