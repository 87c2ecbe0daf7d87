/- The contracts of the reference's Strength and stronger, and of the seven functions in policy.clashes. -/
import Derived.Test.YtpncdcncfinohaaDoorG
namespace Go.Proofs.YtpncdcncfinohaaDoor
open Go.RowKit Go.Sort Go.BigFrame

/-- The reference's strength of a value. -/
def rS (q v : Int) : Int := if q = 9 then (if v = 1 then 2 else if v = 2 then 1 else v) else v

set_option maxHeartbeats 400000 in
theorem rstrength_any (q v : Int) (w : World) : Calls Tryd.prog 20 #[.int .i64 q, .int .i64 v] w fun e w' => e = .returned (.int .i64 (rS q v)) ∧ w = w' := by
  by_cases h9 : q = 9
  · have e0 : (q == 9) = true := by simpa using h9
    by_cases h1 : v = 1
    · have HF : Hid (2 = rS q v) := Lib.hid (by unfold rS; rw [if_pos h9, if_pos h1])
      have e1 : (v == 1) = true := by simpa using h1
      clear h9 h1
      go_enter Tryd.func20, Tryd.ntmps20
      go_wp2
      go_ret
      exact ⟨ret_int HF.out, rfl⟩
    · have e1 : (v == 1) = false := by simpa using h1
      by_cases h2 : v = 2
      · have HF : Hid (1 = rS q v) := Lib.hid (by unfold rS; rw [if_pos h9, if_neg h1, if_pos h2])
        have e2 : (v == 2) = true := by simpa using h2
        clear h9 h1 h2
        go_enter Tryd.func20, Tryd.ntmps20
        go_wp2
        go_ret
        exact ⟨ret_int HF.out, rfl⟩
      · have HF : Hid (v = rS q v) := Lib.hid (by unfold rS; rw [if_pos h9, if_neg h1, if_neg h2])
        have e2 : (v == 2) = false := by simpa using h2
        clear h9 h1 h2
        go_enter Tryd.func20, Tryd.ntmps20
        go_wp2
        go_ret
        exact ⟨ret_int HF.out, rfl⟩
  · have e0 : (q == 9) = false := by simpa using h9
    have HF : Hid (v = rS q v) := Lib.hid (by unfold rS; rw [if_neg h9])
    clear h9
    go_enter Tryd.func20, Tryd.ntmps20
    go_wp2
    go_ret
    exact ⟨ret_int HF.out, rfl⟩

set_option maxHeartbeats 400000 in
theorem rstronger_any (q a b : Int) (w : World) : Calls Tryd.prog 38 #[.int .i64 q, .int .i64 a, .int .i64 b] w fun e w' => e = .returned (.int .i64 (strongV (rS q a) (rS q b) a b)) ∧ w = w' := by
  have HA := Lib.hid (rstrength_any q a w)
  have HB := Lib.hid (rstrength_any q b w)
  obtain ⟨x, hx⟩ : ∃ x, rS q a = x := ⟨_, rfl⟩
  obtain ⟨y, hy⟩ : ∃ y, rS q b = y := ⟨_, rfl⟩
  rw [hx] at HA
  rw [hy] at HB
  rw [hx, hy]
  clear hx hy
  by_cases h : x < y
  · have HF : Hid (b = strongV x y a b) := Lib.hid (by unfold strongV; rw [if_pos h])
    have hd : decide (x < y) = true := by simpa using h
    clear h
    go_enter Tryd.func38, Tryd.ntmps38
    go_wp2_with (first | (go_at_call 20; (fail_if_success (have := k1)); refine HB.out.mono ?_; rintro e w1 ⟨rfl, rfl⟩; have k1 := true) | (go_at_call 20; refine HA.out.mono ?_; rintro e w2 ⟨rfl, rfl⟩))
    go_ret
    exact ⟨ret_int HF.out, rfl⟩
  · have HF : Hid (a = strongV x y a b) := Lib.hid (by unfold strongV; rw [if_neg h])
    have hd : decide (x < y) = false := by simpa using h
    clear h
    go_enter Tryd.func38, Tryd.ntmps38
    go_wp2_with (first | (go_at_call 20; (fail_if_success (have := k1)); refine HB.out.mono ?_; rintro e w1 ⟨rfl, rfl⟩; have k1 := true) | (go_at_call 20; refine HA.out.mono ?_; rintro e w2 ⟨rfl, rfl⟩))
    go_ret
    exact ⟨ret_int HF.out, rfl⟩

/-- Do the values of the n-th pair of kinds clash? -/
def clB (n : Nat) (a b : Int) : Bool :=
  if n = 0 then decide (a = 1) && decide (b = 2) else if n = 1 then decide (a = 2) && decide (b = 2) else if n = 2 then decide (a = 2) && decide (b = 1) else if n = 3 then decide (a = 2) && decide (b = 2)
  else if n = 4 then decide (a = 3) && decide (2 ≤ b) else if n = 5 then decide (a ≤ 2) && decide (b = 3) else decide (a = 0) && decide (b = 4)

set_option maxHeartbeats 400000 in
theorem clash0 (a b : Int) (w : World) : Calls Tryd.prog 46 #[.int .i64 a, .int .i64 b] w fun e w' => e = .returned (.bool (clB 0 a b)) ∧ w = w' := by
  by_cases h : a = 1
  · have HF : Hid ((b == 2) = clB 0 a b) := Lib.hid (by simp [clB, h]; rfl)
    have e1 : (a == 1) = true := by simpa using h
    clear h
    go_enter Tryd.func46, Tryd.ntmps46
    go_wp2
    go_ret
    exact ⟨ret_bool HF.out, rfl⟩
  · have HF : Hid (false = clB 0 a b) := Lib.hid (by simp [clB, h])
    have e1 : (a == 1) = false := by simpa using h
    clear h
    go_enter Tryd.func46, Tryd.ntmps46
    go_wp2
    go_ret
    exact ⟨ret_bool HF.out, rfl⟩

set_option maxHeartbeats 400000 in
theorem clash1 (a b : Int) (w : World) : Calls Tryd.prog 47 #[.int .i64 a, .int .i64 b] w fun e w' => e = .returned (.bool (clB 1 a b)) ∧ w = w' := by
  by_cases h : a = 2
  · have HF : Hid ((b == 2) = clB 1 a b) := Lib.hid (by simp [clB, h]; rfl)
    have e1 : (a == 2) = true := by simpa using h
    clear h
    go_enter Tryd.func47, Tryd.ntmps47
    go_wp2
    go_ret
    exact ⟨ret_bool HF.out, rfl⟩
  · have HF : Hid (false = clB 1 a b) := Lib.hid (by simp [clB, h])
    have e1 : (a == 2) = false := by simpa using h
    clear h
    go_enter Tryd.func47, Tryd.ntmps47
    go_wp2
    go_ret
    exact ⟨ret_bool HF.out, rfl⟩

set_option maxHeartbeats 400000 in
theorem clash2 (a b : Int) (w : World) : Calls Tryd.prog 48 #[.int .i64 a, .int .i64 b] w fun e w' => e = .returned (.bool (clB 2 a b)) ∧ w = w' := by
  by_cases h : a = 2
  · have HF : Hid ((b == 1) = clB 2 a b) := Lib.hid (by simp [clB, h]; rfl)
    have e1 : (a == 2) = true := by simpa using h
    clear h
    go_enter Tryd.func48, Tryd.ntmps48
    go_wp2
    go_ret
    exact ⟨ret_bool HF.out, rfl⟩
  · have HF : Hid (false = clB 2 a b) := Lib.hid (by simp [clB, h])
    have e1 : (a == 2) = false := by simpa using h
    clear h
    go_enter Tryd.func48, Tryd.ntmps48
    go_wp2
    go_ret
    exact ⟨ret_bool HF.out, rfl⟩

set_option maxHeartbeats 400000 in
theorem clash3 (a b : Int) (w : World) : Calls Tryd.prog 49 #[.int .i64 a, .int .i64 b] w fun e w' => e = .returned (.bool (clB 3 a b)) ∧ w = w' := by
  by_cases h : a = 2
  · have HF : Hid ((b == 2) = clB 3 a b) := Lib.hid (by simp [clB, h]; rfl)
    have e1 : (a == 2) = true := by simpa using h
    clear h
    go_enter Tryd.func49, Tryd.ntmps49
    go_wp2
    go_ret
    exact ⟨ret_bool HF.out, rfl⟩
  · have HF : Hid (false = clB 3 a b) := Lib.hid (by simp [clB, h])
    have e1 : (a == 2) = false := by simpa using h
    clear h
    go_enter Tryd.func49, Tryd.ntmps49
    go_wp2
    go_ret
    exact ⟨ret_bool HF.out, rfl⟩

set_option maxHeartbeats 400000 in
theorem clash4 (a b : Int) (w : World) : Calls Tryd.prog 50 #[.int .i64 a, .int .i64 b] w fun e w' => e = .returned (.bool (clB 4 a b)) ∧ w = w' := by
  by_cases h : a = 3
  · have HF : Hid (decide (2 ≤ b) = clB 4 a b) := Lib.hid (by simp [clB, h])
    have e1 : (a == 3) = true := by simpa using h
    clear h
    go_enter Tryd.func50, Tryd.ntmps50
    go_wp2
    go_ret
    exact ⟨ret_bool HF.out, rfl⟩
  · have HF : Hid (false = clB 4 a b) := Lib.hid (by simp [clB, h])
    have e1 : (a == 3) = false := by simpa using h
    clear h
    go_enter Tryd.func50, Tryd.ntmps50
    go_wp2
    go_ret
    exact ⟨ret_bool HF.out, rfl⟩

set_option maxHeartbeats 400000 in
theorem clash5 (a b : Int) (w : World) : Calls Tryd.prog 51 #[.int .i64 a, .int .i64 b] w fun e w' => e = .returned (.bool (clB 5 a b)) ∧ w = w' := by
  by_cases h : a ≤ 2
  · have HF : Hid ((b == 3) = clB 5 a b) := Lib.hid (by simp [clB, h]; rfl)
    have e1 : decide (a ≤ 2) = true := by simpa using h
    clear h
    go_enter Tryd.func51, Tryd.ntmps51
    go_wp2
    go_ret
    exact ⟨ret_bool HF.out, rfl⟩
  · have HF : Hid (false = clB 5 a b) := Lib.hid (by simp [clB, h])
    have e1 : decide (a ≤ 2) = false := by simpa using h
    clear h
    go_enter Tryd.func51, Tryd.ntmps51
    go_wp2
    go_ret
    exact ⟨ret_bool HF.out, rfl⟩

set_option maxHeartbeats 400000 in
theorem clash6 (a b : Int) (w : World) : Calls Tryd.prog 52 #[.int .i64 a, .int .i64 b] w fun e w' => e = .returned (.bool (clB 6 a b)) ∧ w = w' := by
  by_cases h : a = 0
  · have HF : Hid ((b == 4) = clB 6 a b) := Lib.hid (by simp [clB, h]; rfl)
    have e1 : (a == 0) = true := by simpa using h
    clear h
    go_enter Tryd.func52, Tryd.ntmps52
    go_wp2
    go_ret
    exact ⟨ret_bool HF.out, rfl⟩
  · have HF : Hid (false = clB 6 a b) := Lib.hid (by simp [clB, h])
    have e1 : (a == 0) = false := by simpa using h
    clear h
    go_enter Tryd.func52, Tryd.ntmps52
    go_wp2
    go_ret
    exact ⟨ret_bool HF.out, rfl⟩

end Go.Proofs.YtpncdcncfinohaaDoor
