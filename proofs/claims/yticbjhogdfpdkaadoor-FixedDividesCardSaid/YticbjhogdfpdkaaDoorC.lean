/- THE MATHEMATICS of digits: products and quotients, a digit at a time. -/
import Derived.Test.YticbjhogdfpdkaaDoorB
namespace Go.Proofs.YticbjhogdfpdkaaDoor

/-- What the lower places say while a row is added: j digits of b are reckoned. -/
def low (W x b i j : Nat) : Nat := W % 10 ^ (i + j) + x * (b % 10 ^ j) * 10 ^ i
def outP (W x b i j : Nat) : Nat := low W x b i j % 10 ^ (i + j) + 10 ^ (i + j) * (W / 10 ^ (i + j))
def carP (W x b i j : Nat) : Nat := low W x b i j / 10 ^ (i + j)
theorem low_succ (W x b i j : Nat) : low W x b i (j + 1) = low W x b i j + 10 ^ (i + j) * (dig W (i + j) + x * dig b j) := by
  unfold low
  rw [← Nat.add_assoc, mod_succ W (i + j), mod_succ b j, Nat.pow_add]
  simp only [Nat.mul_add, Nat.add_mul]
  have e : x * (10 ^ j * dig b j) * 10 ^ i = 10 ^ i * 10 ^ j * (x * dig b j) := by ac_rfl
  rw [e]
  omega
theorem dig_low {S P k t : Nat} (hk : k < P) : dig (S + 10 ^ P * t) k = dig S k := by
  obtain ⟨d, rfl⟩ : ∃ d, P = k + 1 + d := ⟨P - k - 1, by omega⟩
  unfold dig
  rw [show 10 ^ (k + 1 + d) * t = 10 ^ k * (10 * (10 ^ d * t)) by rw [Nat.pow_add, Nat.pow_succ]; ac_rfl, Nat.add_mul_div_left _ _ (pow_pos k)]
  omega
theorem dig_high {S P k t : Nat} (hS : S < 10 ^ P) (hk : P ≤ k) : dig (S + 10 ^ P * t) k = dig t (k - P) := by
  obtain ⟨d, rfl⟩ : ∃ d, k = P + d := ⟨k - P, by omega⟩
  unfold dig
  rw [Nat.pow_add, ← Nat.div_div_eq_div_mul, Nat.add_mul_div_left _ _ (pow_pos P), Nat.div_eq_of_lt hS, Nat.zero_add, Nat.add_sub_cancel_left]
theorem dig_outP (W x b i j k : Nat) : dig (outP W x b i j) k = if k < i + j then dig (low W x b i j) k else dig W k := by
  unfold outP
  split
  · rename_i h
    rw [dig_low h, dig_mod, if_pos h]
  · rename_i h
    rw [dig_high (Nat.mod_lt _ (pow_pos _)) (by omega), dig_down, Nat.sub_add_cancel (by omega)]
theorem carP_le {W x b i j : Nat} (hx : x < 10) : carP W x b i j ≤ 9 := by
  unfold carP low
  have h1 := Nat.mod_lt W (pow_pos (i + j))
  have h2 := Nat.mod_lt b (pow_pos j)
  have h3 : x * (b % 10 ^ j) * 10 ^ i ≤ 9 * 10 ^ (i + j) := by
    rw [Nat.pow_add, show 9 * (10 ^ i * 10 ^ j) = 9 * 10 ^ j * 10 ^ i by ac_rfl]
    exact Nat.mul_le_mul_right _ (Nat.mul_le_mul (by omega) (by omega))
  have : (W % 10 ^ (i + j) + x * (b % 10 ^ j) * 10 ^ i) / 10 ^ (i + j) < 10 := Nat.div_lt_of_lt_mul (by omega)
  omega
/-- A digit and a carry more. -/
theorem row_digit (W x b i j : Nat) : dig (outP W x b i (j + 1)) (i + j) = (dig W (i + j) + x * dig b j + carP W x b i j) % 10 ∧ carP W x b i (j + 1) = (dig W (i + j) + x * dig b j + carP W x b i j) / 10 := by
  have e : low W x b i (j + 1) / 10 ^ (i + j) = carP W x b i j + (dig W (i + j) + x * dig b j) := by
    rw [low_succ, Nat.add_mul_div_left _ _ (pow_pos _)]
    rfl
  constructor
  · rw [dig_outP, if_pos (by omega)]
    show low W x b i (j + 1) / 10 ^ (i + j) % 10 = _
    rw [e]
    omega
  · show low W x b i (j + 1) / 10 ^ (i + j + 1) = _
    rw [Nat.pow_succ, ← Nat.div_div_eq_div_mul, e]
    omega
theorem row_set (W x b i j : Nat) : (dC (outP W x b i j)).setIfInBounds (i + j) (.int .u8 (dig (outP W x b i (j + 1)) (i + j))) = dC (outP W x b i (j + 1)) := by
  refine dC_set fun k _ hne => ?_
  rw [dig_outP, dig_outP]
  by_cases h : k < i + j
  · rw [if_pos (by omega), if_pos h, low_succ, dig_low h]
  · rw [if_neg (by omega), if_neg h]
theorem row_zero (W x b i : Nat) : outP W x b i 0 = W ∧ carP W x b i 0 = 0 := by
  unfold outP carP low
  simp only [Nat.add_zero, Nat.pow_zero, Nat.mod_one, Nat.mul_zero, Nat.zero_mul, Nat.mod_mod]
  exact ⟨by have := Nat.div_add_mod W (10 ^ i); omega, Nat.div_eq_of_lt (Nat.mod_lt _ (pow_pos i))⟩
/-- A row is added. -/
theorem row_done {a b i : Nat} (hi : i ≤ 128) (hab : a * b < 10 ^ 128) : outP ((a % 10 ^ i) * b) (dig a i) b i (128 - i) = (a % 10 ^ (i + 1)) * b := by
  have hW : (a % 10 ^ (i + 1)) * b < 10 ^ 128 := Nat.lt_of_le_of_lt (Nat.mul_le_mul_right _ (Nat.mod_le _ _)) hab
  have hW0 : (a % 10 ^ i) * b < 10 ^ 128 := Nat.lt_of_le_of_lt (Nat.mul_le_mul_right _ (Nat.mod_le _ _)) hab
  have e0 : (a % 10 ^ (i + 1)) * b = (a % 10 ^ i) * b + dig a i * b * 10 ^ i := by
    rw [mod_succ, Nat.add_mul]
    congr 1
    ac_rfl
  have e1 : i + (128 - i) = 128 := by omega
  unfold outP low
  rw [e1, Nat.div_eq_of_lt hW0, Nat.mul_zero, Nat.add_zero, Nat.mod_eq_of_lt hW0]
  have e2 : dig a i * b * 10 ^ i = dig a i * (b % 10 ^ (128 - i)) * 10 ^ i + 10 ^ 128 * (dig a i * (b / 10 ^ (128 - i))) := by
    have hb := Nat.div_add_mod b (10 ^ (128 - i))
    have hp : (10 : Nat) ^ 128 = 10 ^ (128 - i) * 10 ^ i := by rw [← Nat.pow_add, Nat.sub_add_cancel hi]
    rw [hp]
    conv => lhs; rw [← hb]
    rw [Nat.mul_add, Nat.add_mul, Nat.add_comm]
    congr 1
    ac_rfl
  rw [e2] at e0
  have h3 : 10 ^ 128 * (dig a i * (b / 10 ^ (128 - i))) = 0 := by
    rcases Nat.eq_zero_or_pos (dig a i * (b / 10 ^ (128 - i))) with h | h
    · rw [h, Nat.mul_zero]
    · have : 10 ^ 128 * 1 ≤ 10 ^ 128 * (dig a i * (b / 10 ^ (128 - i))) := Nat.mul_le_mul_left _ h
      omega
  rw [h3, Nat.add_zero] at e0
  rw [e0, Nat.mod_eq_of_lt (by omega)]
  rfl

/-- A digit more of a quotient. -/
theorem quo_step (a b i : Nat) (hb : 0 < b) : a / 10 ^ i / b = 10 * (a / 10 ^ (i + 1) / b) + (a / 10 ^ (i + 1) % b * 10 + dig a i) / b ∧ a / 10 ^ i % b = (a / 10 ^ (i + 1) % b * 10 + dig a i) % b := by
  have e : a / 10 ^ i = 10 * (a / 10 ^ (i + 1)) + dig a i := by
    unfold dig
    rw [Nat.pow_succ, ← Nat.div_div_eq_div_mul]
    omega
  obtain ⟨A, hA⟩ : ∃ A, a / 10 ^ (i + 1) = A := ⟨_, rfl⟩
  rw [e, hA]
  have h := Nat.div_add_mod A b
  have e2 : 10 * A + dig a i = (A % b * 10 + dig a i) + b * (10 * (A / b)) := by
    have : b * (10 * (A / b)) = 10 * (b * (A / b)) := by ac_rfl
    omega
  rw [e2, Nat.add_mul_div_left _ _ hb, Nat.add_mul_mod_self_left]
  exact ⟨by omega, rfl⟩
theorem quo_small (a b i : Nat) (hb : 0 < b) : (a / 10 ^ (i + 1) % b * 10 + dig a i) / b < 10 := by
  have h1 := Nat.mod_lt (a / 10 ^ (i + 1)) hb
  have h2 := dig_lt a i
  exact Nat.div_lt_of_lt_mul (by omega)

end Go.Proofs.YticbjhogdfpdkaaDoor
