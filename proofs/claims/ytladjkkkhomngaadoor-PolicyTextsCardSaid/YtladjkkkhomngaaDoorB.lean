/- The contracts of the reference's words, Valid, Strength and stronger. -/
import Derived.Test.YtladjkkkhomngaaDoorA
import Derived.Deep.CutRange
import Derived.BigRegion
import Derived.Deep.RegionWith
namespace Go.Proofs.YtladjkkkhomngaaDoor
open Go.RowKit

/-- How many words a kind has, its name among them. -/
def wN (k : Int) : Nat := if k = 10 ∨ k = 12 then 1 else if k = 9 ∨ k = 13 then 5 else if k = 6 ∨ k = 8 ∨ k = 11 then 4 else 3

set_option maxHeartbeats 2000000 in
theorem words_any (k : Int) (w : World) (hk : isK k = true) :
    Calls Tryd.prog 44 #[.int .i64 k] w fun e w' => ∃ ao, e = .returned (.slice ao (wN k) (wN k)) ∧ Below w.heap.size w w' := by
  simp only [isK, Bool.and_eq_true, decide_eq_true_eq] at hk
  obtain ⟨h1, h2⟩ := hk
  have hh : k = 1 ∨ k = 2 ∨ k = 3 ∨ k = 4 ∨ k = 5 ∨ k = 6 ∨ k = 7 ∨ k = 8 ∨ k = 9 ∨ k = 10 ∨ k = 11 ∨ k = 12 ∨ k = 13 := by omega
  rcases hh with rfl | rfl | rfl | rfl | rfl | rfl | rfl | rfl | rfl | rfl | rfl | rfl | rfl <;>
  · clear h1 h2
    go_enter Tryd.func44, Tryd.ntmps44
    go_wp2
    go_ret
    exact ⟨_, rfl, (Below.refl _ _).alloc (Nat.le_refl _) _⟩

theorem wN_most {k : Int} (h1 : k ≠ 10) (h2 : k ≠ 12) : ((wN k : Nat) : Int) = mostV k + 1 := by
  unfold wN mostV
  rw [if_neg (by omega), if_neg h1, if_neg h2]
  split
  · rfl
  · split <;> rfl

theorem pol_c0 {W : World} {b : Nat} {k v : Int} (h : W.heap[b]? = some (polO k v)) : W.cell? ⟨b, 0, none⟩ = some (.int .i64 k) := by simp [World.cell?, h, polO]
theorem pol_c1 {W : World} {b : Nat} {k v : Int} (h : W.heap[b]? = some (polO k v)) : W.cell? ⟨b, 1, none⟩ = some (.int .i64 v) := by simp [World.cell?, h, polO]
theorem polO_c0 (k v : Int) (w : World) : (w.alloc (polO k v)).cell? ⟨w.heap.size, 0, none⟩ = some (.int .i64 k) := pol_c0 (heap_alloc_new _ _)
theorem polO_c1 (k v : Int) (w : World) : (w.alloc (polO k v)).cell? ⟨w.heap.size, 1, none⟩ = some (.int .i64 v) := pol_c1 (heap_alloc_new _ _)

theorem rvalid_bad (k v : Int) (w : World) (hK : isK k = false) :
    Calls Tryd.prog 12 #[.agg #[.int .i64 k, .int .i64 v]] w fun e w' => e = .returned (.bool (okP k v)) ∧ Below w.heap.size w w' := by
  have HB : Hid (Below w.heap.size w (w.alloc (polO k v))) := Lib.hid ((Below.refl _ _).alloc (Nat.le_refl _) _)
  have HF : Hid (false = okP k v) := Lib.hid (by simp [okP, hK])
  have IK := Lib.hid fun w => kind_any k w
  rw [hK] at IK
  clear hK
  go_enter Tryd.func12, Tryd.ntmps12
  go_wp2_with (go_at_call 41; refine (IK.out _).mono ?_; rintro e w1 ⟨rfl, rfl⟩)
  go_ret
  exact ⟨ret_bool HF.out, HB.out⟩

set_option maxHeartbeats 1000000 in
theorem rvalid_limit (v : Int) (w : World) :
    Calls Tryd.prog 12 #[.agg #[.int .i64 10, .int .i64 v]] w fun e w' => e = .returned (.bool (okP 10 v)) ∧ Below w.heap.size w w' := by
  have HB : Hid (Below w.heap.size w (w.alloc (polO 10 v))) := Lib.hid ((Below.refl _ _).alloc (Nat.le_refl _) _)
  have IK : Hid (∀ w, Calls Tryd.prog 41 #[.int .i64 10] w fun e w' => e = .returned (.bool true) ∧ w = w') := Lib.hid fun w => kind_any 10 w
  by_cases h : 0 ≤ v
  · have HF : Hid (decide (v ≤ 1000000) = okP 10 v) := Lib.hid (by simp [okP, isK, defV, mostV, h])
    have hd : decide (0 ≤ v) = true := by simpa using h
    clear h
    go_enter Tryd.func12, Tryd.ntmps12
    go_wp2_with (go_at_call 41; refine (IK.out _).mono ?_; rintro e w1 ⟨rfl, rfl⟩)
    go_ret
    exact ⟨ret_bool HF.out, HB.out⟩
  · have HF : Hid (false = okP 10 v) := Lib.hid (by simp [okP, isK, defV, mostV, h])
    have hd : decide (0 ≤ v) = false := by simpa using h
    clear h
    go_enter Tryd.func12, Tryd.ntmps12
    go_wp2_with (go_at_call 41; refine (IK.out _).mono ?_; rintro e w1 ⟨rfl, rfl⟩)
    go_ret
    exact ⟨ret_bool HF.out, HB.out⟩

set_option maxHeartbeats 1000000 in
theorem rvalid_priority (v : Int) (w : World) :
    Calls Tryd.prog 12 #[.agg #[.int .i64 12, .int .i64 v]] w fun e w' => e = .returned (.bool (okP 12 v)) ∧ Below w.heap.size w w' := by
  have HB : Hid (Below w.heap.size w (w.alloc (polO 12 v))) := Lib.hid ((Below.refl _ _).alloc (Nat.le_refl _) _)
  have IK : Hid (∀ w, Calls Tryd.prog 41 #[.int .i64 12] w fun e w' => e = .returned (.bool true) ∧ w = w') := Lib.hid fun w => kind_any 12 w
  by_cases h : 0 ≤ v
  · have HF : Hid (decide (v ≤ 100) = okP 12 v) := Lib.hid (by simp [okP, isK, defV, mostV, h])
    have hd : decide (0 ≤ v) = true := by simpa using h
    clear h
    go_enter Tryd.func12, Tryd.ntmps12
    go_wp2_with (go_at_call 41; refine (IK.out _).mono ?_; rintro e w1 ⟨rfl, rfl⟩)
    go_ret
    exact ⟨ret_bool HF.out, HB.out⟩
  · have HF : Hid (false = okP 12 v) := Lib.hid (by simp [okP, isK, defV, mostV, h])
    have hd : decide (0 ≤ v) = false := by simpa using h
    clear h
    go_enter Tryd.func12, Tryd.ntmps12
    go_wp2_with (go_at_call 41; refine (IK.out _).mono ?_; rintro e w1 ⟨rfl, rfl⟩)
    go_ret
    exact ⟨ret_bool HF.out, HB.out⟩

set_option maxRecDepth 100000 in
set_option maxHeartbeats 4000000 in
theorem rvalid_word (k v : Int) (w : World) (hK : isK k = true) (h10 : ¬ k = 10) (h12 : ¬ k = 12) :
    Calls Tryd.prog 12 #[.agg #[.int .i64 k, .int .i64 v]] w fun e w' => e = .returned (.bool (okP k v)) ∧ Below w.heap.size w w' := by
  have HB : Hid (Below w.heap.size w (w.alloc (polO k v))) := Lib.hid ((Below.refl _ _).alloc (Nat.le_refl _) _)
  have IK := Lib.hid fun w => kind_any k w
  have WA := Lib.hid fun w => words_any k w hK
  have hm := wN_most h10 h12
  have hdf : defV k = 1 := by unfold defV; rw [if_neg (by omega)]
  rw [hK] at IK
  obtain ⟨n, hnn⟩ : ∃ n, wN k = n := ⟨_, rfl⟩
  rw [hnn] at hm WA
  by_cases h : 1 ≤ v
  · have HF : Hid (decide (v < (n : Int)) = okP k v) := Lib.hid (by simp only [okP, hK, hdf, hm, h, decide_true, Bool.true_and]; exact decide_eq_decide.mpr (by omega))
    have hd : decide (1 ≤ v) = true := by simpa using h
    clear h hm hdf hnn hK
    go_enter Tryd.func12, Tryd.ntmps12
    go_wp2_with (go_at_call 41; refine (IK.out _).mono ?_; rintro e w1 ⟨rfl, rfl⟩)
    go_region_with (go_at_call 44; refine (WA.out _).mono ?_; rintro e w2 ⟨ao, rfl, hb2⟩; have B2 := Lib.hid hb2; have q1 := (hb2.cell (p := ⟨w.heap.size, 1, none⟩) (by simp)).trans (polO_c1 k v w); have q0 := (hb2.cell (p := ⟨w.heap.size, 0, none⟩) (by simp)).trans (polO_c0 k v w); clear hb2)
    all_goals
      have e2 : Below w.heap.size (w.alloc (polO k v)) w2 := ⟨B2.out.os, B2.out.tape, B2.out.output, B2.out.size, fun j hj => B2.out.block j (Nat.lt_of_lt_of_le hj HB.out.size)⟩
      have E2 := Lib.hid (HB.out.trans e2)
      clear e2
      go_wp2
      go_ret
      exact ⟨ret_bool HF.out, E2.out⟩
  · have HF : Hid (false = okP k v) := Lib.hid (by simp [okP, hdf, h])
    have hd : decide (1 ≤ v) = false := by simpa using h
    clear h hm hdf hnn hK
    go_enter Tryd.func12, Tryd.ntmps12
    go_wp2_with (go_at_call 41; refine (IK.out _).mono ?_; rintro e w1 ⟨rfl, rfl⟩)
    go_quiet (fail)
    go_wp2
    go_ret
    exact ⟨ret_bool HF.out, HB.out.trans ((below_drewN' _ _).mono HB.out.size)⟩

theorem rvalid_any (k v : Int) (w : World) :
    Calls Tryd.prog 12 #[.agg #[.int .i64 k, .int .i64 v]] w fun e w' => e = .returned (.bool (okP k v)) ∧ Below w.heap.size w w' := by
  cases hK : isK k
  · exact rvalid_bad k v w hK
  · by_cases h1 : k = 10
    · subst h1; exact rvalid_limit v w
    · by_cases h2 : k = 12
      · subst h2; exact rvalid_priority v w
      · exact rvalid_word k v w hK h1 h2

end Go.Proofs.YtladjkkkhomngaaDoor
