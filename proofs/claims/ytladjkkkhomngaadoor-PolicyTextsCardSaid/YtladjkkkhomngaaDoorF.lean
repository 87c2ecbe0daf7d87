/- The bounds of what stands in a valid row; the contracts of policy.stronger and what it is called with, and of policy.agreed. -/
import Derived.Test.YtladjkkkhomngaaDoorE
namespace Go.Proofs.YtladjkkkhomngaaDoor
set_option maxRecDepth 8000
open Go.RowKit Go.Sort Go.BigFrame

theorem findK_some : ∀ (l : List PolD) (k v : Int), findK l k = some v → ∃ i, ∃ h : i < l.length, l[i].k = k ∧ l[i].v = v
  | [], _, _, h => by cases h
  | p :: r, k, v, h => by
    unfold findK at h
    split at h
    · rename_i hk
      exact ⟨0, by simp, hk, Option.some.inj h⟩
    · obtain ⟨i, hi, h1, h2⟩ := findK_some r k v h
      exact ⟨i + 1, by simpa using hi, by simpa using h1, by simpa using h2⟩

theorem okP_bd {k v : Int} (h : okP k v = true) : defV k ≤ v ∧ v ≤ mostV k := by
  simp only [okP, Bool.and_eq_true, decide_eq_true_eq] at h
  exact ⟨h.1.2, h.2⟩

theorem valOf_bd {l : List PolD} (h : okS l = true) (k : Int) : defV k ≤ valOf l k ∧ valOf l k ≤ mostV k := by
  unfold valOf
  cases hf : findK l k with
  | none =>
    refine ⟨Int.le_refl _, ?_⟩
    simp only [Option.getD_none]
    unfold defV mostV
    split <;> split <;> (try split) <;> (try split) <;> (try split) <;> omega
  | some v =>
    obtain ⟨i, hi, h1, h2⟩ := findK_some l k v hf
    have := okP_bd ((okS_of h) i hi hi).1
    rw [h1, h2] at this
    exact this

/-- How strong a certainty is. -/
def cS (v : Int) : Int := if v = 1 then 1 else if v = 2 then 0 else v - 1

set_option maxHeartbeats 400000 in
theorem same_any (n : Int) (w : World) : Calls Tryd.prog 85 #[.int .i64 n] w fun e w' => e = .returned (.int .i64 n) ∧ w = w' := by
  go_enter Tryd.func85, Tryd.ntmps85
  go_wp2
  go_ret
  exact ⟨rfl, rfl⟩

set_option maxHeartbeats 400000 in
theorem strength1 (w : World) : Calls Tryd.prog 86 #[.int .i64 1] w fun e w' => e = .returned (.int .i64 (cS 1)) ∧ w = w' := by
  have hix : ∀ w, (Instr.index 125 (.agg #[.int .i64 0, .int .i64 1, .int .i64 0, .int .i64 2, .int .i64 3]) (.int .i64 1)).run Tryd.prog w = .ok (.int .i64 1) w := fun _ => by kernel_rfl
  go_enter Tryd.func86, Tryd.ntmps86
  go_wp2
  go_ret
  exact ⟨rfl, rfl⟩

set_option maxHeartbeats 400000 in
theorem strength2 (w : World) : Calls Tryd.prog 86 #[.int .i64 2] w fun e w' => e = .returned (.int .i64 (cS 2)) ∧ w = w' := by
  have hix : ∀ w, (Instr.index 125 (.agg #[.int .i64 0, .int .i64 1, .int .i64 0, .int .i64 2, .int .i64 3]) (.int .i64 2)).run Tryd.prog w = .ok (.int .i64 0) w := fun _ => by kernel_rfl
  go_enter Tryd.func86, Tryd.ntmps86
  go_wp2
  go_ret
  exact ⟨rfl, rfl⟩

set_option maxHeartbeats 400000 in
theorem strength3 (w : World) : Calls Tryd.prog 86 #[.int .i64 3] w fun e w' => e = .returned (.int .i64 (cS 3)) ∧ w = w' := by
  have hix : ∀ w, (Instr.index 125 (.agg #[.int .i64 0, .int .i64 1, .int .i64 0, .int .i64 2, .int .i64 3]) (.int .i64 3)).run Tryd.prog w = .ok (.int .i64 2) w := fun _ => by kernel_rfl
  go_enter Tryd.func86, Tryd.ntmps86
  go_wp2
  go_ret
  exact ⟨rfl, rfl⟩

set_option maxHeartbeats 400000 in
theorem strength4 (w : World) : Calls Tryd.prog 86 #[.int .i64 4] w fun e w' => e = .returned (.int .i64 (cS 4)) ∧ w = w' := by
  have hix : ∀ w, (Instr.index 125 (.agg #[.int .i64 0, .int .i64 1, .int .i64 0, .int .i64 2, .int .i64 3]) (.int .i64 4)).run Tryd.prog w = .ok (.int .i64 3) w := fun _ => by kernel_rfl
  go_enter Tryd.func86, Tryd.ntmps86
  go_wp2
  go_ret
  exact ⟨rfl, rfl⟩

theorem strength_any (v : Int) (w : World) (h1 : 1 ≤ v) (h2 : v ≤ 4) : Calls Tryd.prog 86 #[.int .i64 v] w fun e w' => e = .returned (.int .i64 (cS v)) ∧ w = w' := by
  have hh : v = 1 ∨ v = 2 ∨ v = 3 ∨ v = 4 := by omega
  rcases hh with rfl | rfl | rfl | rfl
  · exact strength1 w
  · exact strength2 w
  · exact strength3 w
  · exact strength4 w

/-- The one of two values that has the greater strength. -/
def strongV (x y a b : Int) : Int := if x < y then b else a

set_option maxHeartbeats 400000 in
theorem stronger_cert (a b : Int) (w : World) (ha1 : 1 ≤ a) (ha2 : a ≤ 4) (hb1 : 1 ≤ b) (hb2 : b ≤ 4) :
    Calls Tryd.prog 84 #[.int .i64 a, .int .i64 b, .func (.func 86) #[] #[]] w fun e w' => e = .returned (.int .i64 (strongV (cS a) (cS b) a b)) ∧ w = w' := by
  have HA := Lib.hid fun w => strength_any a w ha1 ha2
  have HB := Lib.hid fun w => strength_any b w hb1 hb2
  obtain ⟨x, hx⟩ : ∃ x, cS a = x := ⟨_, rfl⟩
  obtain ⟨y, hy⟩ : ∃ y, cS b = y := ⟨_, rfl⟩
  have HX := Lib.hid hx
  have HY := Lib.hid hy
  clear hx hy
  by_cases h : x < y
  · have HF : Hid (b = strongV (cS a) (cS b) a b) := Lib.hid (by unfold strongV; rw [HX.out, HY.out, if_pos h])
    have hd : decide (x < y) = true := by simpa using h
    clear h
    go_enter Tryd.func84, Tryd.ntmps84
    go_wp2_with (go_at_call 86; first | (refine (HA.out _).mono ?_; (fail_if_success (have := k1)); rintro e w1 ⟨rfl, rfl⟩; have k1 := true; rw [HX.out]) | (refine (HB.out _).mono ?_; rintro e w2 ⟨rfl, rfl⟩; rw [HY.out]))
    go_ret
    exact ⟨ret_int HF.out, rfl⟩
  · have HF : Hid (a = strongV (cS a) (cS b) a b) := Lib.hid (by unfold strongV; rw [HX.out, HY.out, if_neg h])
    have hd : decide (x < y) = false := by simpa using h
    clear h
    go_enter Tryd.func84, Tryd.ntmps84
    go_wp2_with (go_at_call 86; first | (refine (HA.out _).mono ?_; (fail_if_success (have := k1)); rintro e w1 ⟨rfl, rfl⟩; have k1 := true; rw [HX.out]) | (refine (HB.out _).mono ?_; rintro e w2 ⟨rfl, rfl⟩; rw [HY.out]))
    go_ret
    exact ⟨ret_int HF.out, rfl⟩

set_option maxHeartbeats 400000 in
theorem stronger_same (a b : Int) (w : World) :
    Calls Tryd.prog 84 #[.int .i64 a, .int .i64 b, .func (.func 85) #[] #[]] w fun e w' => e = .returned (.int .i64 (strongV a b a b)) ∧ w = w' := by
  have HA := Lib.hid fun w => same_any a w
  have HB := Lib.hid fun w => same_any b w
  by_cases h : a < b
  · have HF : Hid (b = strongV a b a b) := Lib.hid (by unfold strongV; rw [if_pos h])
    have hd : decide (a < b) = true := by simpa using h
    clear h
    go_enter Tryd.func84, Tryd.ntmps84
    go_wp2_with (go_at_call 85; first | (refine (HA.out _).mono ?_; (fail_if_success (have := k1)); rintro e w1 ⟨rfl, rfl⟩; have k1 := true) | (refine (HB.out _).mono ?_; rintro e w2 ⟨rfl, rfl⟩))
    go_ret
    exact ⟨ret_int HF.out, rfl⟩
  · have HF : Hid (a = strongV a b a b) := Lib.hid (by unfold strongV; rw [if_neg h])
    have hd : decide (a < b) = false := by simpa using h
    clear h
    go_enter Tryd.func84, Tryd.ntmps84
    go_wp2_with (go_at_call 85; first | (refine (HA.out _).mono ?_; (fail_if_success (have := k1)); rintro e w1 ⟨rfl, rfl⟩; have k1 := true) | (refine (HB.out _).mono ?_; rintro e w2 ⟨rfl, rfl⟩))
    go_ret
    exact ⟨ret_int HF.out, rfl⟩

end Go.Proofs.YtladjkkkhomngaaDoor
