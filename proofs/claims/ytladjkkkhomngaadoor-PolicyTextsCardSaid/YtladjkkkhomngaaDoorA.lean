/- The kinds of policies and their values; what the package's table says of them; the contracts of policy.isKind, byDefault, Valid, isPlain and of the reference's Kind. -/
import Derived.Test.YtladjkkkhomngaaDoorProg
import Derived.WalkKit
import Derived.Lib.Hide
import Derived.Below
import Derived.IntWalk
import Derived.BigQuiet
import Derived.Deep.QuietTactic
namespace Go.Proofs.YtladjkkkhomngaaDoor
open Go.RowKit

theorem ret_bool {a b : Bool} (h : a = b) : Ending.returned (.bool a) = .returned (.bool b) := by rw [h]
theorem ret_int {k : IntKind} {a b : Int} (h : a = b) : Ending.returned (.int k a) = .returned (.int k b) := by rw [h]

/-- The value at which a kind stands. -/
def defV (k : Int) : Int := if k = 10 ∨ k = 12 then 0 else 1
/-- The greatest value of a kind. -/
def mostV (k : Int) : Int := if k = 10 then 1000000 else if k = 12 then 100 else if k = 9 ∨ k = 13 then 4 else if k = 6 ∨ k = 8 ∨ k = 11 then 3 else 2
/-- Is it a kind? -/
def isK (k : Int) : Bool := decide (1 ≤ k) && decide (k ≤ 13)
/-- Is a policy valid? -/
def okP (k v : Int) : Bool := isK k && decide (defV k ≤ v) && decide (v ≤ mostV k)

/-- WHAT THE PACKAGE's TABLE HOLDS, as far as it is read: of each kind the first word (none where the values are numbers) and the greatest value. -/
def SortsAt (W : World) : Prop := ∀ k : Nat, 1 ≤ k → k ≤ 13 → ∃ s : ByteArray, W.cell? ⟨0, k * 6 + 1, none⟩ = some (.string s) ∧ (s.toList.isEmpty = true ↔ (k = 10 ∨ k = 12)) ∧ W.cell? ⟨0, k * 6 + 5, none⟩ = some (.int .i64 (mostV k))

theorem SortsAt.pos {W : World} (h : SortsAt W) : 0 < W.heap.size := by
  obtain ⟨s, hs, _, _⟩ := h 1 (by omega) (by omega)
  exact World.block_lt_of_cell? W _ hs
theorem SortsAt.below {W W' : World} {B : Nat} (h : SortsAt W) (hb : Below B W W') (hB : 0 < B) : SortsAt W' := fun k h1 h2 => by
  obtain ⟨s, hs, hn, hm⟩ := h k h1 h2
  exact ⟨s, (hb.cell hB).trans hs, hn, (hb.cell hB).trans hm⟩
theorem SortsAt.drewN {W : World} (h : SortsAt W) (n : Nat) : SortsAt (W.drewN n) := h

theorem below_drewN' (W : World) (n : Nat) : Below W.heap.size W (W.drewN n) := ⟨rfl, rfl, rfl, Nat.le_refl _, fun _ _ => rfl⟩

set_option maxHeartbeats 400000 in
theorem isKind_any (k : Int) (w : World) : Calls Tryd.prog 39 #[.int .i64 k] w fun e w' => e = .returned (.bool (isK k)) ∧ w = w' := by
  by_cases h : 1 ≤ k
  · have HF : Hid (decide (k ≤ 13) = isK k) := Lib.hid (by simp [isK, h])
    go_enter Tryd.func39, Tryd.ntmps39
    go_wp2
    go_ret
    exact ⟨ret_bool HF.out, rfl⟩
  · have HF : Hid (false = isK k) := Lib.hid (by simp [isK, h])
    go_enter Tryd.func39, Tryd.ntmps39
    go_wp2
    go_ret
    exact ⟨ret_bool HF.out, rfl⟩

set_option maxHeartbeats 400000 in
theorem kind_any (k : Int) (w : World) : Calls Tryd.prog 41 #[.int .i64 k] w fun e w' => e = .returned (.bool (isK k)) ∧ w = w' := by
  by_cases h : 1 ≤ k
  · have HF : Hid (decide (k ≤ 13) = isK k) := Lib.hid (by simp [isK, h])
    go_enter Tryd.func41, Tryd.ntmps41
    go_wp2
    go_ret
    exact ⟨ret_bool HF.out, rfl⟩
  · have HF : Hid (false = isK k) := Lib.hid (by simp [isK, h])
    go_enter Tryd.func41, Tryd.ntmps41
    go_wp2
    go_ret
    exact ⟨ret_bool HF.out, rfl⟩

set_option maxHeartbeats 400000 in
theorem byDefault_nat (k : Nat) (w : World) (h : SortsAt w) (h1 : 1 ≤ k) (h2 : k ≤ 13) :
    Calls Tryd.prog 43 #[.int .i64 k] w fun e w' => e = .returned (.int .i64 (defV k)) ∧ w = w' := by
  obtain ⟨s, hs, hn, _⟩ := h k h1 h2
  clear h
  by_cases hk : k = 10 ∨ k = 12
  · have HF : Hid (0 = defV k) := Lib.hid (by unfold defV; rw [if_pos (by omega)])
    have he := hn.2 hk
    clear hn hk
    go_enter Tryd.func43, Tryd.ntmps43
    go_wp2
    go_ret
    exact ⟨ret_int HF.out, rfl⟩
  · have HF : Hid (1 = defV k) := Lib.hid (by unfold defV; rw [if_neg (by omega)])
    have he : s.toList.isEmpty = false := by
      cases hb : s.toList.isEmpty
      · rfl
      · exact absurd (hn.1 hb) hk
    clear hn hk
    go_enter Tryd.func43, Tryd.ntmps43
    go_wp2
    go_ret
    exact ⟨ret_int HF.out, rfl⟩

theorem byDefault_any (k : Int) (w : World) (h : SortsAt w) (hk : isK k = true) :
    Calls Tryd.prog 43 #[.int .i64 k] w fun e w' => e = .returned (.int .i64 (defV k)) ∧ w = w' := by
  simp only [isK, Bool.and_eq_true, decide_eq_true_eq] at hk
  obtain ⟨n, rfl⟩ : ∃ n : Nat, k = n := ⟨k.toNat, by omega⟩
  exact byDefault_nat n w h (by omega) (by omega)

/-- A policy in a block of its own. -/
def polO (k v : Int) : Obj := .cells #[.int .i64 k, .int .i64 v] 24

set_option maxHeartbeats 1000000 in
theorem valid_any (k v : Int) (w : World) (h : SortsAt w) :
    Calls Tryd.prog 11 #[.agg #[.int .i64 k, .int .i64 v]] w fun e w' => e = .returned (.bool (okP k v)) ∧ Below w.heap.size w w' := by
  have hbel : Below w.heap.size w (w.alloc (polO k v)) := (Below.refl _ _).alloc (Nat.le_refl _) _
  have hS := h.below hbel h.pos
  have HB := Lib.hid hbel
  have HS := Lib.hid hS
  clear hbel
  cases hK : isK k
  · have HF : Hid (false = okP k v) := Lib.hid (by simp [okP, hK])
    have IK := Lib.hid fun w => isKind_any k w
    rw [hK] at IK
    clear hK hS h
    go_enter Tryd.func11, Tryd.ntmps11
    go_wp2
    go_quiet ((go_at_call 39; exact Calls.quiet_of_same ((IK.out _).mono fun _ _ h => ⟨h.1, h.2.symm⟩)))
    go_wp2
    go_ret
    exact ⟨ret_bool HF.out, (HB.out.trans ((below_drewN' _ _).mono HB.out.size))⟩
  · have IK := Lib.hid fun w => isKind_any k w
    have ID := Lib.hid fun w h => byDefault_any k w h hK
    rw [hK] at IK
    obtain ⟨n, rfl⟩ : ∃ n : Nat, k = n := ⟨k.toNat, by simp only [isK, Bool.and_eq_true, decide_eq_true_eq] at hK; omega⟩
    have hn : 1 ≤ n ∧ n ≤ 13 := by simp only [isK, Bool.and_eq_true, decide_eq_true_eq] at hK; omega
    obtain ⟨n1, n2⟩ := hn
    obtain ⟨s, _, _, hm⟩ := h n n1 n2
    have hz := h.pos
    have hz2 : ¬ 0 = w.heap.size := by omega
    have n3 : (n : Int) < 14 := by omega
    have n4 : (1 : Int) ≤ (n : Int) := by omega
    by_cases hd : defV n ≤ v
    · have hd2 : decide (defV n ≤ v) = true := by simpa using hd
      have HF : Hid (decide (v ≤ mostV n) = okP n v) := Lib.hid (by simp [okP, hK, hd])
      clear hK hS h
      obtain ⟨d, hdd⟩ : ∃ d, defV n = d := ⟨_, rfl⟩
      obtain ⟨m, hmm⟩ : ∃ m, mostV n = m := ⟨_, rfl⟩
      rw [hdd] at ID hd hd2
      rw [hmm] at HF hm
      clear hdd hmm
      go_enter Tryd.func11, Tryd.ntmps11
      go_wp2
      go_quiet ((first | (go_at_call 39; exact Calls.quiet_of_same ((IK.out _).mono fun _ _ h => ⟨h.1, h.2.symm⟩)) | (go_at_call 43; exact Calls.quiet_of_same ((ID.out _ (HS.out.drewN _)).mono fun _ _ h => ⟨h.1, h.2.symm⟩))))
      go_wp2
      go_ret
      exact ⟨ret_bool HF.out, (HB.out.trans ((below_drewN' _ _).mono HB.out.size))⟩
    · have hd2 : decide (defV n ≤ v) = false := by simpa using hd
      have HF : Hid (false = okP n v) := Lib.hid (by simp [okP, hK, hd])
      clear hK hS h
      obtain ⟨d, hdd⟩ : ∃ d, defV n = d := ⟨_, rfl⟩
      obtain ⟨m, hmm⟩ : ∃ m, mostV n = m := ⟨_, rfl⟩
      rw [hdd] at ID hd hd2
      rw [hmm] at hm
      clear hdd hmm
      go_enter Tryd.func11, Tryd.ntmps11
      go_wp2
      go_quiet ((first | (go_at_call 39; exact Calls.quiet_of_same ((IK.out _).mono fun _ _ h => ⟨h.1, h.2.symm⟩)) | (go_at_call 43; exact Calls.quiet_of_same ((ID.out _ (HS.out.drewN _)).mono fun _ _ h => ⟨h.1, h.2.symm⟩))))
      go_wp2
      go_ret
      exact ⟨ret_bool HF.out, (HB.out.trans ((below_drewN' _ _).mono HB.out.size))⟩

/-- Is a policy not at its default? -/
def plainP (k v : Int) : Bool := decide (v ≠ defV k)

set_option maxHeartbeats 1000000 in
theorem isPlain_any (k v : Int) (w : World) (h : SortsAt w) (hK : isK k = true) :
    Calls Tryd.prog 52 #[.agg #[.int .i64 k, .int .i64 v]] w fun e w' => e = .returned (.bool (plainP k v)) ∧ Below w.heap.size w w' := by
  have hbel : Below w.heap.size w (w.alloc (polO k v)) := (Below.refl _ _).alloc (Nat.le_refl _) _
  have HS := Lib.hid (h.below hbel h.pos)
  have HB := Lib.hid hbel
  have ID := Lib.hid fun w h => byDefault_any k w h hK
  clear hbel h hK
  obtain ⟨d, hdd⟩ : ∃ d, defV k = d := ⟨_, rfl⟩
  have HF : Hid (plainP k v = decide (v ≠ d)) := Lib.hid (by rw [← hdd]; rfl)
  rw [hdd] at ID
  clear hdd
  go_enter Tryd.func52, Tryd.ntmps52
  go_wp2
  go_quiet ((go_at_call 43; exact Calls.quiet_of_same ((ID.out _ (HS.out.drewN _)).mono fun _ _ h => ⟨h.1, h.2.symm⟩)))
  go_wp2
  go_ret
  exact ⟨ret_bool (by rw [HF.out]; cases h : decide (v = d) <;> simp_all), HB.out.trans ((below_drewN' _ _).mono HB.out.size)⟩

end Go.Proofs.YtladjkkkhomngaaDoor
