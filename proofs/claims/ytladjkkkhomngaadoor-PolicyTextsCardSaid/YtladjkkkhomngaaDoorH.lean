/- The contracts of the reference's Strength and stronger, and of the seven functions in policy.clashes. -/
import Derived.Test.YtladjkkkhomngaaDoorG
namespace Go.Proofs.YtladjkkkhomngaaDoor
set_option maxRecDepth 8000
open Go.RowKit Go.Sort Go.BigFrame

/-- The reference's strength of a value. -/
def rS (q v : Int) : Int := if q = 9 then (if v = 1 then 2 else if v = 2 then 1 else v) else v

/-- Do the values of the n-th pair of kinds clash? -/
def clB (n : Nat) (a b : Int) : Bool :=
  if n = 0 then decide (a = 1) && decide (b = 2) else if n = 1 then decide (a = 2) && decide (b = 2) else if n = 2 then decide (a = 2) && decide (b = 1) else if n = 3 then decide (a = 2) && decide (b = 2)
  else if n = 4 then decide (a = 3) && decide (2 ≤ b) else if n = 5 then decide (a ≤ 2) && decide (b = 3) else decide (a = 0) && decide (b = 4)

set_option maxHeartbeats 400000 in
theorem clash0 (a b : Int) (w : World) : Calls Tryd.prog 77 #[.int .i64 a, .int .i64 b] w fun e w' => e = .returned (.bool (clB 0 a b)) ∧ w = w' := by
  by_cases h : a = 1
  · have HF : Hid ((b == 2) = clB 0 a b) := Lib.hid (by simp [clB, h]; rfl)
    have e1 : (a == 1) = true := by simpa using h
    clear h
    go_enter Tryd.func77, Tryd.ntmps77
    go_wp2
    go_ret
    exact ⟨ret_bool HF.out, rfl⟩
  · have HF : Hid (false = clB 0 a b) := Lib.hid (by simp [clB, h])
    have e1 : (a == 1) = false := by simpa using h
    clear h
    go_enter Tryd.func77, Tryd.ntmps77
    go_wp2
    go_ret
    exact ⟨ret_bool HF.out, rfl⟩

set_option maxHeartbeats 400000 in
theorem clash1 (a b : Int) (w : World) : Calls Tryd.prog 78 #[.int .i64 a, .int .i64 b] w fun e w' => e = .returned (.bool (clB 1 a b)) ∧ w = w' := by
  by_cases h : a = 2
  · have HF : Hid ((b == 2) = clB 1 a b) := Lib.hid (by simp [clB, h]; rfl)
    have e1 : (a == 2) = true := by simpa using h
    clear h
    go_enter Tryd.func78, Tryd.ntmps78
    go_wp2
    go_ret
    exact ⟨ret_bool HF.out, rfl⟩
  · have HF : Hid (false = clB 1 a b) := Lib.hid (by simp [clB, h])
    have e1 : (a == 2) = false := by simpa using h
    clear h
    go_enter Tryd.func78, Tryd.ntmps78
    go_wp2
    go_ret
    exact ⟨ret_bool HF.out, rfl⟩

set_option maxHeartbeats 400000 in
theorem clash2 (a b : Int) (w : World) : Calls Tryd.prog 79 #[.int .i64 a, .int .i64 b] w fun e w' => e = .returned (.bool (clB 2 a b)) ∧ w = w' := by
  by_cases h : a = 2
  · have HF : Hid ((b == 1) = clB 2 a b) := Lib.hid (by simp [clB, h]; rfl)
    have e1 : (a == 2) = true := by simpa using h
    clear h
    go_enter Tryd.func79, Tryd.ntmps79
    go_wp2
    go_ret
    exact ⟨ret_bool HF.out, rfl⟩
  · have HF : Hid (false = clB 2 a b) := Lib.hid (by simp [clB, h])
    have e1 : (a == 2) = false := by simpa using h
    clear h
    go_enter Tryd.func79, Tryd.ntmps79
    go_wp2
    go_ret
    exact ⟨ret_bool HF.out, rfl⟩

set_option maxHeartbeats 400000 in
theorem clash3 (a b : Int) (w : World) : Calls Tryd.prog 80 #[.int .i64 a, .int .i64 b] w fun e w' => e = .returned (.bool (clB 3 a b)) ∧ w = w' := by
  by_cases h : a = 2
  · have HF : Hid ((b == 2) = clB 3 a b) := Lib.hid (by simp [clB, h]; rfl)
    have e1 : (a == 2) = true := by simpa using h
    clear h
    go_enter Tryd.func80, Tryd.ntmps80
    go_wp2
    go_ret
    exact ⟨ret_bool HF.out, rfl⟩
  · have HF : Hid (false = clB 3 a b) := Lib.hid (by simp [clB, h])
    have e1 : (a == 2) = false := by simpa using h
    clear h
    go_enter Tryd.func80, Tryd.ntmps80
    go_wp2
    go_ret
    exact ⟨ret_bool HF.out, rfl⟩

set_option maxHeartbeats 400000 in
theorem clash4 (a b : Int) (w : World) : Calls Tryd.prog 81 #[.int .i64 a, .int .i64 b] w fun e w' => e = .returned (.bool (clB 4 a b)) ∧ w = w' := by
  by_cases h : a = 3
  · have HF : Hid (decide (2 ≤ b) = clB 4 a b) := Lib.hid (by simp [clB, h])
    have e1 : (a == 3) = true := by simpa using h
    clear h
    go_enter Tryd.func81, Tryd.ntmps81
    go_wp2
    go_ret
    exact ⟨ret_bool HF.out, rfl⟩
  · have HF : Hid (false = clB 4 a b) := Lib.hid (by simp [clB, h])
    have e1 : (a == 3) = false := by simpa using h
    clear h
    go_enter Tryd.func81, Tryd.ntmps81
    go_wp2
    go_ret
    exact ⟨ret_bool HF.out, rfl⟩

set_option maxHeartbeats 400000 in
theorem clash5 (a b : Int) (w : World) : Calls Tryd.prog 82 #[.int .i64 a, .int .i64 b] w fun e w' => e = .returned (.bool (clB 5 a b)) ∧ w = w' := by
  by_cases h : a ≤ 2
  · have HF : Hid ((b == 3) = clB 5 a b) := Lib.hid (by simp [clB, h]; rfl)
    have e1 : decide (a ≤ 2) = true := by simpa using h
    clear h
    go_enter Tryd.func82, Tryd.ntmps82
    go_wp2
    go_ret
    exact ⟨ret_bool HF.out, rfl⟩
  · have HF : Hid (false = clB 5 a b) := Lib.hid (by simp [clB, h])
    have e1 : decide (a ≤ 2) = false := by simpa using h
    clear h
    go_enter Tryd.func82, Tryd.ntmps82
    go_wp2
    go_ret
    exact ⟨ret_bool HF.out, rfl⟩

set_option maxHeartbeats 400000 in
theorem clash6 (a b : Int) (w : World) : Calls Tryd.prog 83 #[.int .i64 a, .int .i64 b] w fun e w' => e = .returned (.bool (clB 6 a b)) ∧ w = w' := by
  by_cases h : a = 0
  · have HF : Hid ((b == 4) = clB 6 a b) := Lib.hid (by simp [clB, h]; rfl)
    have e1 : (a == 0) = true := by simpa using h
    clear h
    go_enter Tryd.func83, Tryd.ntmps83
    go_wp2
    go_ret
    exact ⟨ret_bool HF.out, rfl⟩
  · have HF : Hid (false = clB 6 a b) := Lib.hid (by simp [clB, h])
    have e1 : (a == 0) = false := by simpa using h
    clear h
    go_enter Tryd.func83, Tryd.ntmps83
    go_wp2
    go_ret
    exact ⟨ret_bool HF.out, rfl⟩

end Go.Proofs.YtladjkkkhomngaaDoor
