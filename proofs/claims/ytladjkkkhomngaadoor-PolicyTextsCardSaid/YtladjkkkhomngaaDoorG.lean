/- The contract of policy.agreed, kind by kind. -/
import Derived.Test.YtladjkkkhomngaaDoorF
namespace Go.Proofs.YtladjkkkhomngaaDoor
set_option maxRecDepth 8000
open Go.RowKit Go.Sort Go.BigFrame

/-- The value of a kind with which a call is made. -/
def agreedV (c s : List PolD) (q : Int) : Int :=
  if q = 8 then strongV (valOf c 8) (valOf s 8) (valOf c 8) (valOf s 8)
  else if q = 9 then strongV (cS (valOf c 9)) (cS (valOf s 9)) (valOf c 9) (valOf s 9)
  else if q = 10 then (if valOf c 10 = 0 ∨ (¬ valOf s 10 = 0 ∧ valOf s 10 < valOf c 10) then valOf s 10 else valOf c 10)
  else if q = 12 then (if hasOf s 12 = true then min (valOf c 12) (valOf s 12) else valOf c 12)
  else if q = 13 then (if valOf c 13 = 1 then valOf s 13 else valOf c 13)
  else valOf c q

set_option maxRecDepth 100000 in
set_option maxHeartbeats 1000000 in
theorem agreed8 (ao1 ao2 : Option Addr) (cap1 cap2 : Nat) (c s : List PolD) (w : World) (hS : SortsAt w) (h1 : RowAt w ao1 c) (h2 : RowAt w ao2 s) (hl1 : c.length ≤ 9223372036854775807) (hl2 : s.length ≤ 9223372036854775807) :
    Calls Tryd.prog 63 #[.slice ao1 c.length cap1, .slice ao2 s.length cap2, .int .i64 8] w fun e w' => e = .returned (.int .i64 (agreedV c s 8)) ∧ Below w.heap.size w w' := by
  have GA := Lib.hid (get_any ao1 cap1 c 8 w hS (by decide) h1 hl1)
  have GB := Lib.hid fun w1 (hb : Below w.heap.size w w1) => get_any ao2 cap2 s 8 w1 (hS.below hb hS.pos) (by decide) (h2.below hb) hl2
  clear h1 h2 hS
  obtain ⟨a, ha⟩ : ∃ a, valOf c 8 = a := ⟨_, rfl⟩
  obtain ⟨b, hb⟩ : ∃ b, valOf s 8 = b := ⟨_, rfl⟩
  obtain ⟨p, hp⟩ : ∃ p, hasOf s 8 = p := ⟨_, rfl⟩
  obtain ⟨p', hp'⟩ : ∃ p', hasOf c 8 = p' := ⟨_, rfl⟩
  rw [ha, hp'] at GA
  rw [hb, hp] at GB
  have HA := Lib.hid ha
  have HB := Lib.hid hb
  have HP := Lib.hid hp
  clear ha hb hp hp'
  have HF : Hid (strongV a b a b = agreedV c s 8) := Lib.hid (by unfold agreedV; simp [HA.out, HB.out])
  go_enter Tryd.func63, Tryd.ntmps63
  go_wp2_with (first | (go_at_call 40; (fail_if_success (have := B1)); refine GA.out.mono ?_; rintro e w1 ⟨rfl, hb1⟩; have B1 := Lib.hid hb1; clear hb1) | (go_at_call 40; refine (GB.out _ B1.out).mono ?_; rintro e w2 ⟨rfl, hb2⟩; have B2 := Lib.hid (B1.out.trans (hb2.mono B1.out.size)); clear hb2) | (go_at_call 84; refine (stronger_same a b _).mono ?_; rintro e w3 ⟨rfl, rfl⟩))
  go_ret
  exact ⟨ret_int HF.out, B2.out⟩

set_option maxRecDepth 100000 in
set_option maxHeartbeats 1000000 in
theorem agreed9 (ao1 ao2 : Option Addr) (cap1 cap2 : Nat) (c s : List PolD) (w : World) (hS : SortsAt w) (h1 : RowAt w ao1 c) (h2 : RowAt w ao2 s) (hl1 : c.length ≤ 9223372036854775807) (hl2 : s.length ≤ 9223372036854775807) (k1 : okS c = true) (k2 : okS s = true) :
    Calls Tryd.prog 63 #[.slice ao1 c.length cap1, .slice ao2 s.length cap2, .int .i64 9] w fun e w' => e = .returned (.int .i64 (agreedV c s 9)) ∧ Below w.heap.size w w' := by
  have GA := Lib.hid (get_any ao1 cap1 c 9 w hS (by decide) h1 hl1)
  have GB := Lib.hid fun w1 (hb : Below w.heap.size w w1) => get_any ao2 cap2 s 9 w1 (hS.below hb hS.pos) (by decide) (h2.below hb) hl2
  clear h1 h2 hS
  have q1 : Hid (1 ≤ valOf c 9 ∧ valOf c 9 ≤ 4) := Lib.hid (valOf_bd k1 9)
  have q2 : Hid (1 ≤ valOf s 9 ∧ valOf s 9 ≤ 4) := Lib.hid (valOf_bd k2 9)
  clear k1 k2
  obtain ⟨a, ha⟩ : ∃ a, valOf c 9 = a := ⟨_, rfl⟩
  obtain ⟨b, hb⟩ : ∃ b, valOf s 9 = b := ⟨_, rfl⟩
  obtain ⟨p, hp⟩ : ∃ p, hasOf s 9 = p := ⟨_, rfl⟩
  obtain ⟨p', hp'⟩ : ∃ p', hasOf c 9 = p' := ⟨_, rfl⟩
  rw [ha, hp'] at GA
  rw [ha] at q1
  rw [hb] at q2
  rw [hb, hp] at GB
  have HA := Lib.hid ha
  have HB := Lib.hid hb
  have HP := Lib.hid hp
  clear ha hb hp hp'
  have HF : Hid (strongV (cS a) (cS b) a b = agreedV c s 9) := Lib.hid (by unfold agreedV; simp [HA.out, HB.out])
  go_enter Tryd.func63, Tryd.ntmps63
  go_wp2_with (first | (go_at_call 40; (fail_if_success (have := B1)); refine GA.out.mono ?_; rintro e w1 ⟨rfl, hb1⟩; have B1 := Lib.hid hb1; clear hb1) | (go_at_call 40; refine (GB.out _ B1.out).mono ?_; rintro e w2 ⟨rfl, hb2⟩; have B2 := Lib.hid (B1.out.trans (hb2.mono B1.out.size)); clear hb2) | (go_at_call 84; refine (stronger_cert a b _ q1.out.1 q1.out.2 q2.out.1 q2.out.2).mono ?_; rintro e w3 ⟨rfl, rfl⟩))
  go_ret
  exact ⟨ret_int HF.out, B2.out⟩

set_option maxRecDepth 100000 in
set_option maxHeartbeats 1000000 in
theorem agreed10 (ao1 ao2 : Option Addr) (cap1 cap2 : Nat) (c s : List PolD) (w : World) (hS : SortsAt w) (h1 : RowAt w ao1 c) (h2 : RowAt w ao2 s) (hl1 : c.length ≤ 9223372036854775807) (hl2 : s.length ≤ 9223372036854775807) :
    Calls Tryd.prog 63 #[.slice ao1 c.length cap1, .slice ao2 s.length cap2, .int .i64 10] w fun e w' => e = .returned (.int .i64 (agreedV c s 10)) ∧ Below w.heap.size w w' := by
  have GA := Lib.hid (get_any ao1 cap1 c 10 w hS (by decide) h1 hl1)
  have GB := Lib.hid fun w1 (hb : Below w.heap.size w w1) => get_any ao2 cap2 s 10 w1 (hS.below hb hS.pos) (by decide) (h2.below hb) hl2
  clear h1 h2 hS
  obtain ⟨a, ha⟩ : ∃ a, valOf c 10 = a := ⟨_, rfl⟩
  obtain ⟨b, hb⟩ : ∃ b, valOf s 10 = b := ⟨_, rfl⟩
  obtain ⟨p, hp⟩ : ∃ p, hasOf s 10 = p := ⟨_, rfl⟩
  obtain ⟨p', hp'⟩ : ∃ p', hasOf c 10 = p' := ⟨_, rfl⟩
  rw [ha, hp'] at GA
  rw [hb, hp] at GB
  have HA := Lib.hid ha
  have HB := Lib.hid hb
  have HP := Lib.hid hp
  clear ha hb hp hp'
  by_cases g1 : a = 0
  · have e1 : (a == 0) = true := by simpa using g1
    have HF : Hid (b = agreedV c s 10) := Lib.hid (by unfold agreedV; simp [HA.out, HB.out, g1])
    go_enter Tryd.func63, Tryd.ntmps63
    go_wp2_with (first | (go_at_call 40; (fail_if_success (have := B1)); refine GA.out.mono ?_; rintro e w1 ⟨rfl, hb1⟩; have B1 := Lib.hid hb1; clear hb1) | (go_at_call 40; refine (GB.out _ B1.out).mono ?_; rintro e w2 ⟨rfl, hb2⟩; have B2 := Lib.hid (B1.out.trans (hb2.mono B1.out.size)); clear hb2))
    go_ret
    exact ⟨ret_int HF.out, B2.out⟩
  · have e1 : (a == 0) = false := by simpa using g1
    by_cases g2 : b = 0
    · have e2 : (b == 0) = true := by simpa using g2
      have e3 : (b != 0) = false := by simpa using g2
      have HF : Hid (a = agreedV c s 10) := Lib.hid (by unfold agreedV; simp [HA.out, HB.out, g1, g2])
      go_enter Tryd.func63, Tryd.ntmps63
      go_wp2_with (first | (go_at_call 40; (fail_if_success (have := B1)); refine GA.out.mono ?_; rintro e w1 ⟨rfl, hb1⟩; have B1 := Lib.hid hb1; clear hb1) | (go_at_call 40; refine (GB.out _ B1.out).mono ?_; rintro e w2 ⟨rfl, hb2⟩; have B2 := Lib.hid (B1.out.trans (hb2.mono B1.out.size)); clear hb2))
      go_ret
      exact ⟨ret_int HF.out, B2.out⟩
    · have e2 : (b == 0) = false := by simpa using g2
      have e3 : (b != 0) = true := by simpa using g2
      by_cases g3 : b < a
      · have e4 : decide (b < a) = true := by simpa using g3
        have HF : Hid (b = agreedV c s 10) := Lib.hid (by unfold agreedV; simp [HA.out, HB.out, g1, g2, g3])
        go_enter Tryd.func63, Tryd.ntmps63
        go_wp2_with (first | (go_at_call 40; (fail_if_success (have := B1)); refine GA.out.mono ?_; rintro e w1 ⟨rfl, hb1⟩; have B1 := Lib.hid hb1; clear hb1) | (go_at_call 40; refine (GB.out _ B1.out).mono ?_; rintro e w2 ⟨rfl, hb2⟩; have B2 := Lib.hid (B1.out.trans (hb2.mono B1.out.size)); clear hb2))
        go_ret
        exact ⟨ret_int HF.out, B2.out⟩
      · have e4 : decide (b < a) = false := by simpa using g3
        have HF : Hid (a = agreedV c s 10) := Lib.hid (by unfold agreedV; simp [HA.out, HB.out, g1, g2, g3])
        go_enter Tryd.func63, Tryd.ntmps63
        go_wp2_with (first | (go_at_call 40; (fail_if_success (have := B1)); refine GA.out.mono ?_; rintro e w1 ⟨rfl, hb1⟩; have B1 := Lib.hid hb1; clear hb1) | (go_at_call 40; refine (GB.out _ B1.out).mono ?_; rintro e w2 ⟨rfl, hb2⟩; have B2 := Lib.hid (B1.out.trans (hb2.mono B1.out.size)); clear hb2))
        go_ret
        exact ⟨ret_int HF.out, B2.out⟩

set_option maxRecDepth 100000 in
set_option maxHeartbeats 1000000 in
theorem agreed11 (ao1 ao2 : Option Addr) (cap1 cap2 : Nat) (c s : List PolD) (w : World) (hS : SortsAt w) (h1 : RowAt w ao1 c) (h2 : RowAt w ao2 s) (hl1 : c.length ≤ 9223372036854775807) (hl2 : s.length ≤ 9223372036854775807) :
    Calls Tryd.prog 63 #[.slice ao1 c.length cap1, .slice ao2 s.length cap2, .int .i64 11] w fun e w' => e = .returned (.int .i64 (agreedV c s 11)) ∧ Below w.heap.size w w' := by
  have GA := Lib.hid (get_any ao1 cap1 c 11 w hS (by decide) h1 hl1)
  have GB := Lib.hid fun w1 (hb : Below w.heap.size w w1) => get_any ao2 cap2 s 11 w1 (hS.below hb hS.pos) (by decide) (h2.below hb) hl2
  clear h1 h2 hS
  obtain ⟨a, ha⟩ : ∃ a, valOf c 11 = a := ⟨_, rfl⟩
  obtain ⟨b, hb⟩ : ∃ b, valOf s 11 = b := ⟨_, rfl⟩
  obtain ⟨p, hp⟩ : ∃ p, hasOf s 11 = p := ⟨_, rfl⟩
  obtain ⟨p', hp'⟩ : ∃ p', hasOf c 11 = p' := ⟨_, rfl⟩
  rw [ha, hp'] at GA
  rw [hb, hp] at GB
  have HA := Lib.hid ha
  have HB := Lib.hid hb
  have HP := Lib.hid hp
  clear ha hb hp hp'
  have HF : Hid (a = agreedV c s 11) := Lib.hid (by unfold agreedV; simp [HA.out])
  go_enter Tryd.func63, Tryd.ntmps63
  go_wp2_with (first | (go_at_call 40; (fail_if_success (have := B1)); refine GA.out.mono ?_; rintro e w1 ⟨rfl, hb1⟩; have B1 := Lib.hid hb1; clear hb1) | (go_at_call 40; refine (GB.out _ B1.out).mono ?_; rintro e w2 ⟨rfl, hb2⟩; have B2 := Lib.hid (B1.out.trans (hb2.mono B1.out.size)); clear hb2))
  go_ret
  exact ⟨ret_int HF.out, B2.out⟩

set_option maxRecDepth 100000 in
set_option maxHeartbeats 1000000 in
theorem agreed12 (ao1 ao2 : Option Addr) (cap1 cap2 : Nat) (c s : List PolD) (w : World) (hS : SortsAt w) (h1 : RowAt w ao1 c) (h2 : RowAt w ao2 s) (hl1 : c.length ≤ 9223372036854775807) (hl2 : s.length ≤ 9223372036854775807) :
    Calls Tryd.prog 63 #[.slice ao1 c.length cap1, .slice ao2 s.length cap2, .int .i64 12] w fun e w' => e = .returned (.int .i64 (agreedV c s 12)) ∧ Below w.heap.size w w' := by
  have GA := Lib.hid (get_any ao1 cap1 c 12 w hS (by decide) h1 hl1)
  have GB := Lib.hid fun w1 (hb : Below w.heap.size w w1) => get_any ao2 cap2 s 12 w1 (hS.below hb hS.pos) (by decide) (h2.below hb) hl2
  clear h1 h2 hS
  obtain ⟨a, ha⟩ : ∃ a, valOf c 12 = a := ⟨_, rfl⟩
  obtain ⟨b, hb⟩ : ∃ b, valOf s 12 = b := ⟨_, rfl⟩
  obtain ⟨p, hp⟩ : ∃ p, hasOf s 12 = p := ⟨_, rfl⟩
  obtain ⟨p', hp'⟩ : ∃ p', hasOf c 12 = p' := ⟨_, rfl⟩
  rw [ha, hp'] at GA
  rw [hb, hp] at GB
  have HA := Lib.hid ha
  have HB := Lib.hid hb
  have HP := Lib.hid hp
  clear ha hb hp hp'
  by_cases g1 : p = true
  · subst g1
    have HF : Hid (min a b = agreedV c s 12) := Lib.hid (by unfold agreedV; simp [HA.out, HB.out, HP.out])
    go_enter Tryd.func63, Tryd.ntmps63
    go_wp2_with (first | (go_at_call 40; (fail_if_success (have := B1)); refine GA.out.mono ?_; rintro e w1 ⟨rfl, hb1⟩; have B1 := Lib.hid hb1; clear hb1) | (go_at_call 40; refine (GB.out _ B1.out).mono ?_; rintro e w2 ⟨rfl, hb2⟩; have B2 := Lib.hid (B1.out.trans (hb2.mono B1.out.size)); clear hb2))
    · go_ret
      exact ⟨ret_int ((show b = min a b by omega).trans HF.out), B2.out⟩
    · go_ret
      exact ⟨ret_int ((show a = min a b by omega).trans HF.out), B2.out⟩
  · obtain rfl : p = false := by simpa using g1
    have HF : Hid (a = agreedV c s 12) := Lib.hid (by unfold agreedV; simp [HA.out, HP.out])
    go_enter Tryd.func63, Tryd.ntmps63
    go_wp2_with (first | (go_at_call 40; (fail_if_success (have := B1)); refine GA.out.mono ?_; rintro e w1 ⟨rfl, hb1⟩; have B1 := Lib.hid hb1; clear hb1) | (go_at_call 40; refine (GB.out _ B1.out).mono ?_; rintro e w2 ⟨rfl, hb2⟩; have B2 := Lib.hid (B1.out.trans (hb2.mono B1.out.size)); clear hb2))
    go_ret
    exact ⟨ret_int HF.out, B2.out⟩

set_option maxRecDepth 100000 in
set_option maxHeartbeats 1000000 in
theorem agreed13 (ao1 ao2 : Option Addr) (cap1 cap2 : Nat) (c s : List PolD) (w : World) (hS : SortsAt w) (h1 : RowAt w ao1 c) (h2 : RowAt w ao2 s) (hl1 : c.length ≤ 9223372036854775807) (hl2 : s.length ≤ 9223372036854775807) :
    Calls Tryd.prog 63 #[.slice ao1 c.length cap1, .slice ao2 s.length cap2, .int .i64 13] w fun e w' => e = .returned (.int .i64 (agreedV c s 13)) ∧ Below w.heap.size w w' := by
  have GA := Lib.hid (get_any ao1 cap1 c 13 w hS (by decide) h1 hl1)
  have GB := Lib.hid fun w1 (hb : Below w.heap.size w w1) => get_any ao2 cap2 s 13 w1 (hS.below hb hS.pos) (by decide) (h2.below hb) hl2
  clear h1 h2 hS
  obtain ⟨a, ha⟩ : ∃ a, valOf c 13 = a := ⟨_, rfl⟩
  obtain ⟨b, hb⟩ : ∃ b, valOf s 13 = b := ⟨_, rfl⟩
  obtain ⟨p, hp⟩ : ∃ p, hasOf s 13 = p := ⟨_, rfl⟩
  obtain ⟨p', hp'⟩ : ∃ p', hasOf c 13 = p' := ⟨_, rfl⟩
  rw [ha, hp'] at GA
  rw [hb, hp] at GB
  have HA := Lib.hid ha
  have HB := Lib.hid hb
  have HP := Lib.hid hp
  clear ha hb hp hp'
  by_cases g1 : a = 1
  · have e1 : (a == 1) = true := by simpa using g1
    have HF : Hid (b = agreedV c s 13) := Lib.hid (by unfold agreedV; simp [HA.out, HB.out, g1])
    go_enter Tryd.func63, Tryd.ntmps63
    go_wp2_with (first | (go_at_call 40; (fail_if_success (have := B1)); refine GA.out.mono ?_; rintro e w1 ⟨rfl, hb1⟩; have B1 := Lib.hid hb1; clear hb1) | (go_at_call 40; refine (GB.out _ B1.out).mono ?_; rintro e w2 ⟨rfl, hb2⟩; have B2 := Lib.hid (B1.out.trans (hb2.mono B1.out.size)); clear hb2))
    go_ret
    exact ⟨ret_int HF.out, B2.out⟩
  · have e1 : (a == 1) = false := by simpa using g1
    have HF : Hid (a = agreedV c s 13) := Lib.hid (by unfold agreedV; simp [HA.out, g1])
    go_enter Tryd.func63, Tryd.ntmps63
    go_wp2_with (first | (go_at_call 40; (fail_if_success (have := B1)); refine GA.out.mono ?_; rintro e w1 ⟨rfl, hb1⟩; have B1 := Lib.hid hb1; clear hb1) | (go_at_call 40; refine (GB.out _ B1.out).mono ?_; rintro e w2 ⟨rfl, hb2⟩; have B2 := Lib.hid (B1.out.trans (hb2.mono B1.out.size)); clear hb2))
    go_ret
    exact ⟨ret_int HF.out, B2.out⟩

end Go.Proofs.YtladjkkkhomngaaDoor
