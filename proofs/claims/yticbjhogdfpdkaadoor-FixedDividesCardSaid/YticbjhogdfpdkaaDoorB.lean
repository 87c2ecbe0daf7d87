/- THE MATHEMATICS of digits: cells; length; products; quotients; shifts. -/
import Derived.Test.YticbjhogdfpdkaaDoorA
import Derived.WalkKit
namespace Go.Proofs.YticbjhogdfpdkaaDoor

/-- The cells of digits. -/
def dL (n : Nat) : List Value := (List.range 128).map fun i => Value.int .u8 (dig n i)
def dC (n : Nat) : Array Value := (dL n).toArray
theorem dL_len (n : Nat) : (dL n).length = 128 := by simp [dL]
theorem dC_size (n : Nat) : (dC n).size = 128 := by simp [dC, dL]
theorem dC_at (n : Nat) {i : Nat} (h : i < 128) : (dC n)[i]? = some (.int .u8 (dig n i)) := by simp [dC, dL, h]
theorem dig_zero (i : Nat) : dig 0 i = 0 := by simp [dig]
/-- A digit is set: the number whose digits are the same but for one. -/
theorem dC_set {n m : Nat} {k : Nat} (h : ∀ i, i < 128 → i ≠ k → dig m i = dig n i) : (dC n).setIfInBounds k (.int .u8 (dig m k)) = dC m := by
  apply Array.ext
  · simp [dC_size]
  · intro i h1 h2
    rw [dC_size] at h2
    have e1 : (dC m)[i] = .int .u8 (dig m i) := by
      have := dC_at m h2
      rw [Array.getElem?_eq_getElem (by rw [dC_size]; exact h2)] at this
      exact Option.some.inj this
    have e2 : (dC n)[i]'(by rw [dC_size]; exact h2) = .int .u8 (dig n i) := by
      have := dC_at n h2
      rw [Array.getElem?_eq_getElem (by rw [dC_size]; exact h2)] at this
      exact Option.some.inj this
    rw [Array.getElem_setIfInBounds]
    refine Eq.trans ?_ e1.symm
    split
    · rename_i e; subst e; rfl
    · rename_i e
      refine e2.trans ?_
      rw [h i h2 (fun g => e g.symm)]
theorem dC_next (n k : Nat) : (dC (n % 10 ^ k)).setIfInBounds k (.int .u8 (dig n k)) = dC (n % 10 ^ (k + 1)) := by
  have e : dig (n % 10 ^ (k + 1)) k = dig n k := by rw [dig_mod, if_pos (by omega)]
  rw [← e]
  refine dC_set fun i _ hne => ?_
  rw [dig_mod, dig_mod]
  by_cases h : i < k
  · rw [if_pos (by omega), if_pos h]
  · rw [if_neg (by omega), if_neg h]
theorem big : 0 < 10 ^ 128 := pow_pos 128
/-- Digits tell the number. -/
theorem dig_ext {a b : Nat} : ∀ k, (∀ i, i < k → dig a i = dig b i) → a % 10 ^ k = b % 10 ^ k
  | 0, _ => by simp [Nat.mod_one]
  | k + 1, h => by rw [mod_succ, mod_succ, dig_ext k fun i hi => h i (by omega), h k (by omega)]
theorem dC_inj {a b : Nat} (ha : a < 10 ^ 128) (hb : b < 10 ^ 128) (h : dC a = dC b) : a = b := by
  have := dig_ext (a := a) (b := b) 128 fun i hi => by
    have h1 := dC_at a hi
    rw [h, dC_at b hi] at h1
    have := Option.some.inj h1
    simp only [Value.int.injEq, true_and] at this
    omega
  rwa [Nat.mod_eq_of_lt ha, Nat.mod_eq_of_lt hb] at this

/-- The number of digits: all digits from there on are nothing. -/
theorem len_top (n : Nat) : ∀ k, n % 10 ^ (k + 1) < 10 ^ len n k
  | 0 => by rw [len]; exact Nat.mod_lt _ (by decide)
  | k + 1 => by
    rw [len]
    split
    · rename_i h
      rw [mod_succ, h, Nat.mul_zero, Nat.add_zero]
      exact len_top n k
    · exact Nat.mod_lt _ (pow_pos _)
theorem len_le (n : Nat) : ∀ k, 1 ≤ len n k ∧ len n k ≤ k + 1
  | 0 => by rw [len]; omega
  | k + 1 => by
    have := len_le n k
    rw [len]
    split <;> omega
def digs (n : Nat) : Nat := len n 127
theorem digs_lt {n : Nat} (h : n < 10 ^ 128) : n < 10 ^ digs n := by
  have := len_top n 127
  rwa [Nat.mod_eq_of_lt h] at this
theorem digs_le (n : Nat) : 1 ≤ digs n ∧ digs n ≤ 128 := len_le n 127
/-- The top digit is one, where there is more than one. -/
theorem len_dig (n : Nat) : ∀ k, 1 < len n k → ¬ dig n (len n k - 1) = 0
  | 0, h => by rw [len] at h; omega
  | k + 1, h => by
    rw [len] at h ⊢
    split
    · rename_i h0
      rw [if_pos h0] at h
      exact len_dig n k h
    · rename_i h0
      exact h0
theorem dig_ge {n i : Nat} (h : ¬ dig n i = 0) : 10 ^ i ≤ n := by
  by_cases hn : n < 10 ^ i
  · exact absurd (by unfold dig; rw [Nat.div_eq_of_lt hn]) h
  · omega
theorem digs_ge {n : Nat} (h : 1 < digs n) : 10 ^ (digs n - 1) ≤ n := dig_ge (len_dig n 127 h)
theorem digs_most {n k : Nat} (h : n < 10 ^ k) (hk : 1 ≤ k) : digs n ≤ k := by
  by_cases h1 : 1 < digs n
  · have h2 := digs_ge h1
    by_cases hc : digs n ≤ k
    · exact hc
    · have : 10 ^ k ≤ 10 ^ (digs n - 1) := Nat.pow_le_pow_right (by decide) (by omega)
      omega
  · omega

/-- Moved by some places. -/
def moved (n : Nat) (p : Int) : Nat := if 0 ≤ p then n * 10 ^ p.toNat % 10 ^ 128 else n / 10 ^ (-p).toNat
theorem dig_up (n p i : Nat) : dig (n * 10 ^ p) i = if p ≤ i then dig n (i - p) else 0 := by
  unfold dig
  split
  · rename_i h
    obtain ⟨d, rfl⟩ : ∃ d, i = p + d := ⟨i - p, by omega⟩
    rw [Nat.pow_add, ← Nat.div_div_eq_div_mul, Nat.mul_div_cancel _ (pow_pos p), Nat.add_sub_cancel_left]
  · rename_i h
    obtain ⟨d, rfl⟩ : ∃ d, p = i + 1 + d := ⟨p - i - 1, by omega⟩
    rw [show n * 10 ^ (i + 1 + d) = 10 ^ i * (10 * (n * 10 ^ d)) by rw [Nat.pow_add, Nat.pow_succ]; ac_rfl, Nat.mul_div_cancel_left _ (pow_pos i), Nat.mul_mod_right]
theorem dig_down (n p i : Nat) : dig (n / 10 ^ p) i = dig n (i + p) := by
  unfold dig
  rw [Nat.div_div_eq_div_mul, ← Nat.pow_add, Nat.add_comm p i]
theorem dig_big {n i : Nat} (h : n < 10 ^ 128) (hi : 128 ≤ i) : dig n i = 0 := by
  unfold dig
  rw [Nat.div_eq_of_lt (Nat.lt_of_lt_of_le h (Nat.pow_le_pow_right (by decide) hi))]
theorem dig_moved {n : Nat} (hn : n < 10 ^ 128) (p : Int) {i : Nat} (hi : i < 128) : dig (moved n p) i = if 0 ≤ (i : Int) - p ∧ (i : Int) - p < 128 then dig n ((i : Int) - p).toNat else 0 := by
  unfold moved
  by_cases hp : 0 ≤ p
  · rw [if_pos hp, dig_mod, if_pos hi, dig_up]
    by_cases hpi : p.toNat ≤ i
    · rw [if_pos hpi, if_pos (by omega), show ((i : Int) - p).toNat = i - p.toNat by omega]
    · rw [if_neg hpi, if_neg (by omega)]
  · rw [if_neg hp, dig_down]
    by_cases hb : (i : Int) - p < 128
    · rw [if_pos (by omega), show ((i : Int) - p).toNat = i + (-p).toNat by omega]
    · rw [if_neg (by omega)]
      exact dig_big hn (by omega)
theorem moved_lt {n : Nat} (hn : n < 10 ^ 128) (p : Int) : moved n p < 10 ^ 128 := by
  unfold moved
  split
  · exact Nat.mod_lt _ big
  · exact Nat.lt_of_le_of_lt (Nat.div_le_self _ _) hn

end Go.Proofs.YticbjhogdfpdkaaDoor
