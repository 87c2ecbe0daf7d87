/- THE MATHEMATICS of decimals: a whole number with a sign, and a scale; its text; what is read of a text. -/
import Derived.Test.YticbjhogdfpdkaaDoorS
import Derived.Lib.IndexBytes
import Derived.Lib.IndexMore
import Derived.Lib.SlTrimSet
namespace Go.Proofs.YticbjhogdfpdkaaDoor
set_option maxRecDepth 8000

def sg (b : Bool) (n : Nat) : Int := if b then -(n : Int) else n
theorem sg_abs (b : Bool) (n : Nat) : (sg b n).natAbs = n := by unfold sg; split <;> omega
theorem sg_neg (b : Bool) (n : Nat) : decide (sg b n < 0) = (b && decide (n ≠ 0)) := by
  unfold sg
  cases b
  · have : ¬ (n : Int) < 0 := by omega
    simp
  · by_cases h : n = 0
    · subst h; rfl
    · have h1 : -(n : Int) < 0 := by omega
      rw [if_pos rfl, decide_eq_true h1, decide_eq_true h]
      rfl
theorem sg_of (v : Int) : sg (decide (v < 0)) v.natAbs = v := by
  unfold sg
  by_cases h : v < 0
  · rw [decide_eq_true h, if_pos rfl]; omega
  · rw [decide_eq_false h, if_neg (by decide)]; omega
theorem sg_plus (b c : Bool) (n m : Nat) : sg (plusB b c n m) (plusN b c n m) = sg b n + sg c m := by
  unfold sg plusB plusN
  by_cases h : n < m
  · cases b <;> cases c <;> simp [h] <;> omega
  · cases b <;> cases c <;> simp [h] <;> omega
theorem sg_not (c : Bool) (m : Nat) : sg (!c) m = - sg c m := by unfold sg; cases c <;> simp
theorem sg_times (b c : Bool) (n m : Nat) : sg (b != c) (n * m) = sg b n * sg c m := by
  unfold sg
  cases b <;> cases c <;> simp [Int.neg_mul, Int.mul_neg]
theorem sg_up (b : Bool) (n k : Nat) : sg b (n * k) = sg b n * k := by
  unfold sg
  cases b <;> simp [Int.neg_mul]
theorem sg_zero {b : Bool} {n : Nat} : sg b n = 0 ↔ n = 0 := by unfold sg; cases b <;> simp <;> omega

/-- The text of the number v at the scale s. -/
def txtZ (v : Int) (s : Nat) : ByteArray := txt (decide (v < 0)) v.natAbs s
theorem txt_sg (b : Bool) (n s : Nat) : txt b n s = txtZ (sg b n) s := by
  unfold txtZ txt txtL
  rw [sg_abs, sg_neg]
  congr 3
  by_cases h : b = true ∧ n ≠ 0
  · rw [if_pos h, if_pos ⟨by rw [h.1, decide_eq_true h.2]; rfl, h.2⟩]
  · rw [if_neg h, if_neg]
    rintro ⟨h1, h2⟩
    cases b
    · cases h1
    · exact h ⟨rfl, h2⟩

/-- All digits? -/
def allD (l : List UInt8) : Bool := l.all isD
/-- The number that digits make. -/
def valL : List UInt8 → Nat
  | [] => 0
  | c :: l => (c.toNat - 48) * 10 ^ l.length + valL l
theorem allD_cons {c : UInt8} {l : List UInt8} (h : allD (c :: l) = true) : (48 ≤ c.toNat ∧ c.toNat ≤ 57) ∧ allD l = true := by
  simp only [allD, List.all_cons, Bool.and_eq_true, isD, decide_eq_true_eq] at h
  exact h
theorem valL_lt : ∀ l, allD l = true → valL l < 10 ^ l.length
  | [], _ => by simp [valL]
  | c :: l, h => by
    obtain ⟨h1, h2⟩ := allD_cons h
    have := valL_lt l h2
    have h3 : (c.toNat - 48) * 10 ^ l.length ≤ 9 * 10 ^ l.length := Nat.mul_le_mul_right _ (by omega)
    rw [valL, List.length_cons, Nat.pow_succ]
    omega
theorem decT_low (x v k : Nat) : ∀ j, j ≤ k → decT (x * 10 ^ k + v % 10 ^ k) j = decT v j
  | 0, _ => rfl
  | j + 1, h => by
    rw [decT, decT, decT_low x v k j (by omega)]
    congr 2
    have h1 := dig_mod (x * 10 ^ k + v % 10 ^ k) k j
    have h2 := dig_mod v k j
    rw [if_pos (by omega)] at h1 h2
    rw [← h1, ← h2, Nat.add_comm, Nat.add_mul_mod_self_right, Nat.mod_mod]
theorem ch_of {c : UInt8} (h : 48 ≤ c.toNat) : ch (c.toNat - 48) = c := by
  unfold ch
  rw [show 48 + (c.toNat - 48) = c.toNat by omega]
  simp
theorem decT_val : ∀ l, allD l = true → decT (valL l) l.length = l
  | [], _ => rfl
  | c :: l, h => by
    obtain ⟨h1, h2⟩ := allD_cons h
    have hl := valL_lt l h2
    have e : dig (valL (c :: l)) l.length = c.toNat - 48 := by
      unfold dig valL
      rw [Nat.add_comm, Nat.add_mul_div_right _ _ (pow_pos _), Nat.div_eq_of_lt hl]
      omega
    have e2 : decT (valL (c :: l)) l.length = l := by
      have := decT_low (c.toNat - 48) (valL l) l.length l.length (Nat.le_refl _)
      rw [Nat.mod_eq_of_lt hl] at this
      exact this.trans (decT_val l h2)
    rw [List.length_cons, decT, e, e2, ch_of h1.1]
theorem valL_decT (n : Nat) : ∀ k, valL (decT n k) = n % 10 ^ k
  | 0 => by rw [Nat.pow_zero, Nat.mod_one]; rfl
  | k + 1 => by
    rw [decT, valL, decT_len, valL_decT n k, ch_nat (dig_lt n k), mod_succ, Nat.mul_comm, Nat.add_comm]
    congr 2
    omega
theorem allD_decT (n k : Nat) : allD (decT n k) = true := List.all_eq_true.2 (decT_isD n k)
theorem allD_app {a b : List UInt8} : allD (a ++ b) = (allD a && allD b) := by simp [allD]
theorem allD_drop : ∀ l, allD l = true → allD (l.dropWhile (· == 48)) = true
  | [], _ => rfl
  | c :: l, h => by
    rw [List.dropWhile_cons]
    split
    · exact allD_drop l (allD_cons h).2
    · exact h

end Go.Proofs.YticbjhogdfpdkaaDoor
