/- THE MATHEMATICS of digits: a number below 10^128 as its 128 decimal digits. -/
import Derived.Lib.Hide
namespace Go.Proofs.YticbjhogdfpdkaaDoor

/-- A digit of a number. -/
def dig (n i : Nat) : Nat := n / 10 ^ i % 10
theorem dig_lt (n i : Nat) : dig n i < 10 := Nat.mod_lt _ (by decide)
theorem pow_pos (k : Nat) : 0 < 10 ^ k := Nat.pow_pos (by decide)
theorem mod_succ (n k : Nat) : n % 10 ^ (k + 1) = n % 10 ^ k + 10 ^ k * dig n k := by
  unfold dig
  rw [Nat.pow_succ, Nat.mod_mul]
theorem dig_mod (n k i : Nat) : dig (n % 10 ^ k) i = if i < k then dig n i else 0 := by
  unfold dig
  split
  · rename_i h
    obtain ⟨d, rfl⟩ : ∃ d, k = i + 1 + d := ⟨k - i - 1, by omega⟩
    rw [show 10 ^ (i + 1 + d) = 10 ^ i * (10 * 10 ^ d) by rw [Nat.pow_add, Nat.pow_succ, Nat.mul_assoc], Nat.mod_mul_right_div_self, Nat.mod_mul_right_mod]
  · rename_i h
    have h1 : n % 10 ^ k < 10 ^ i := Nat.lt_of_lt_of_le (Nat.mod_lt _ (pow_pos k)) (Nat.pow_le_pow_right (by decide) (by omega))
    rw [Nat.div_eq_of_lt h1]

/-- The carry behind k digits of a sum. -/
def carry (a b k : Nat) : Nat := (a % 10 ^ k + b % 10 ^ k) / 10 ^ k
theorem carry_le (a b k : Nat) : carry a b k ≤ 1 := by
  unfold carry
  have h1 := Nat.mod_lt a (pow_pos k)
  have h2 := Nat.mod_lt b (pow_pos k)
  have : (a % 10 ^ k + b % 10 ^ k) / 10 ^ k < 2 := Nat.div_lt_of_lt_mul (by omega)
  omega
theorem sum_div (a b k : Nat) : (a + b) / 10 ^ k = a / 10 ^ k + b / 10 ^ k + carry a b k := by
  unfold carry
  have h1 := Nat.div_add_mod a (10 ^ k)
  have h2 := Nat.div_add_mod b (10 ^ k)
  have hp := pow_pos k
  have e : a + b = (a % 10 ^ k + b % 10 ^ k) + 10 ^ k * (a / 10 ^ k + b / 10 ^ k) := by rw [Nat.mul_add]; omega
  rw [e, Nat.add_mul_div_left _ _ hp]
  omega
theorem dig_sum (a b k : Nat) : dig (a + b) k = (dig a k + dig b k + carry a b k) % 10 := by
  unfold dig
  rw [sum_div]
  omega
theorem carry_succ (a b k : Nat) : carry a b (k + 1) = (dig a k + dig b k + carry a b k) / 10 := by
  have h1 := mod_succ a k
  have h2 := mod_succ b k
  have hp := pow_pos k
  unfold carry
  rw [h1, h2, Nat.pow_succ, ← Nat.div_div_eq_div_mul]
  have e : a % 10 ^ k + 10 ^ k * dig a k + (b % 10 ^ k + 10 ^ k * dig b k) = (a % 10 ^ k + b % 10 ^ k) + 10 ^ k * (dig a k + dig b k) := by rw [Nat.mul_add]; omega
  rw [e, Nat.add_mul_div_left _ _ hp]
  congr 1
  omega

/-- What is owed behind k digits of a difference. -/
def owed (a b k : Nat) : Nat := if a % 10 ^ k < b % 10 ^ k then 1 else 0
theorem dig_diff {a b : Nat} (h : b ≤ a) (k : Nat) : dig (a - b) k = (10 + dig a k - dig b k - owed a b k) % 10 := by
  obtain ⟨c, rfl⟩ : ∃ c, a = b + c := ⟨a - b, by omega⟩
  rw [Nat.add_sub_cancel_left, dig_sum]
  have hc := carry_le b c k
  have ho : owed (b + c) b k = carry b c k := by
    unfold owed carry
    have h1 := Nat.mod_lt b (pow_pos k)
    have h2 := Nat.mod_lt c (pow_pos k)
    have e : (b + c) % 10 ^ k = (b % 10 ^ k + c % 10 ^ k) % 10 ^ k := Nat.add_mod _ _ _
    rw [e]
    by_cases hl : b % 10 ^ k + c % 10 ^ k < 10 ^ k
    · rw [Nat.mod_eq_of_lt hl, Nat.div_eq_of_lt hl, if_neg (by omega)]
    · have h3 : (b % 10 ^ k + c % 10 ^ k) % 10 ^ k = b % 10 ^ k + c % 10 ^ k - 10 ^ k := by
        rw [Nat.mod_eq_sub_mod (by omega), Nat.mod_eq_of_lt (by omega)]
      have h4 : (b % 10 ^ k + c % 10 ^ k) / 10 ^ k = 1 := by
        rw [Nat.div_eq_sub_div (pow_pos k) (by omega), Nat.div_eq_of_lt (by omega)]
      rw [h3, h4, if_pos (by omega)]
  rw [ho]
  have h1 := dig_lt b k
  have h2 := dig_lt c k
  omega
theorem owed_succ (a b k : Nat) : owed a b (k + 1) = 1 - (10 + dig a k - dig b k - owed a b k) / 10 := by
  have h1 := mod_succ a k
  have h2 := mod_succ b k
  have m1 := Nat.mod_lt a (pow_pos k)
  have m2 := Nat.mod_lt b (pow_pos k)
  have d1 := dig_lt a k
  have d2 := dig_lt b k
  unfold owed
  rw [h1, h2]
  obtain ⟨A, hA⟩ : ∃ A, a % 10 ^ k = A := ⟨_, rfl⟩
  obtain ⟨B, hB⟩ : ∃ B, b % 10 ^ k = B := ⟨_, rfl⟩
  obtain ⟨P, hP⟩ : ∃ P, 10 ^ k = P := ⟨_, rfl⟩
  obtain ⟨x, hx⟩ : ∃ x, dig a k = x := ⟨_, rfl⟩
  obtain ⟨y, hy⟩ : ∃ y, dig b k = y := ⟨_, rfl⟩
  rw [hA, hB, hP, hx, hy]
  rw [hA, hP] at m1
  rw [hB, hP] at m2
  rw [hx] at d1
  rw [hy] at d2
  rcases Nat.lt_trichotomy x y with h | h | h
  · have h3 : P * x + P ≤ P * y := by rw [← Nat.mul_succ]; exact Nat.mul_le_mul_left _ h
    rw [if_pos (by omega)]
    split <;> omega
  · subst h
    by_cases hAB : A < B
    · rw [if_pos (by omega), if_pos hAB]; omega
    · rw [if_neg (by omega), if_neg hAB]; omega
  · have h3 : P * y + P ≤ P * x := by rw [← Nat.mul_succ]; exact Nat.mul_le_mul_left _ h
    rw [if_neg (by omega)]
    split <;> omega

/-- How many digits a number has, one at least. -/
def len (n : Nat) : Nat → Nat
  | 0 => 1
  | k + 1 => if dig n (k + 1) = 0 then len n k else k + 2
/-- How two numbers compare in their first k digits. -/
def ordTo (a b k : Nat) : Int := if a % 10 ^ k < b % 10 ^ k then -1 else if b % 10 ^ k < a % 10 ^ k then 1 else 0
theorem ordTo_succ (a b k : Nat) : ordTo a b (k + 1) = if dig a k < dig b k then -1 else if dig b k < dig a k then 1 else ordTo a b k := by
  have h1 := mod_succ a k
  have h2 := mod_succ b k
  have m1 := Nat.mod_lt a (pow_pos k)
  have m2 := Nat.mod_lt b (pow_pos k)
  unfold ordTo
  rw [h1, h2]
  obtain ⟨A, hA⟩ : ∃ A, a % 10 ^ k = A := ⟨_, rfl⟩
  obtain ⟨B, hB⟩ : ∃ B, b % 10 ^ k = B := ⟨_, rfl⟩
  obtain ⟨P, hP⟩ : ∃ P, 10 ^ k = P := ⟨_, rfl⟩
  obtain ⟨x, hx⟩ : ∃ x, dig a k = x := ⟨_, rfl⟩
  obtain ⟨y, hy⟩ : ∃ y, dig b k = y := ⟨_, rfl⟩
  rw [hA, hB, hP, hx, hy]
  rw [hA, hP] at m1
  rw [hB, hP] at m2
  rcases Nat.lt_trichotomy x y with h | h | h
  · have h3 : P * x + P ≤ P * y := by rw [← Nat.mul_succ]; exact Nat.mul_le_mul_left _ h
    rw [if_pos (by omega), if_pos h]
  · subst h
    rw [if_neg (by omega : ¬ x < x), if_neg (by omega : ¬ x < x)]
    by_cases hAB : A < B
    · rw [if_pos (by omega), if_pos hAB]
    · rw [if_neg (by omega), if_neg hAB]
      by_cases hBA : B < A
      · rw [if_pos (by omega), if_pos hBA]
      · rw [if_neg (by omega), if_neg hBA]
  · have h3 : P * y + P ≤ P * x := by rw [← Nat.mul_succ]; exact Nat.mul_le_mul_left _ h
    rw [if_neg (by omega), if_pos (by omega), if_neg (by omega), if_pos h]

end Go.Proofs.YticbjhogdfpdkaaDoor
