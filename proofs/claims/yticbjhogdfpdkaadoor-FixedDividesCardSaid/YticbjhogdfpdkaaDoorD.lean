/- THE MATHEMATICS of texts: a number's text, and what is read of it. -/
import Derived.Test.YticbjhogdfpdkaaDoorC
import Derived.Lib.Strings
namespace Go.Proofs.YticbjhogdfpdkaaDoor

/-- A digit as a byte. -/
def ch (d : Nat) : UInt8 := UInt8.ofNat (48 + d)
/-- The digits below a place, the highest first. -/
def decT (n : Nat) : Nat → List UInt8
  | 0 => []
  | k + 1 => ch (dig n k) :: decT n k
/-- .. with a point behind the place s. -/
def tF (n s : Nat) : Nat → List UInt8
  | 0 => []
  | k + 1 => ch (dig n k) :: (if k = s ∧ 0 < k then 46 :: tF n s k else tF n s k)
theorem decT_len (n : Nat) : ∀ k, (decT n k).length = k
  | 0 => rfl
  | k + 1 => by rw [decT, List.length_cons, decT_len n k]
theorem tF_low (n s : Nat) : ∀ k, k ≤ s → tF n s k = decT n k
  | 0, _ => rfl
  | k + 1, h => by rw [tF, decT, if_neg (by omega), tF_low n s k (by omega)]
theorem tF_whole (n : Nat) : ∀ k, tF n 0 k = decT n k
  | 0 => rfl
  | k + 1 => by rw [tF, decT, if_neg (by omega), tF_whole n k]
theorem tF_high (n s : Nat) (hs : 0 < s) : ∀ k, tF n s (s + 1 + k) = decT (n / 10 ^ s) (k + 1) ++ 46 :: decT n s
  | 0 => by
    rw [Nat.add_zero, tF, if_pos ⟨rfl, hs⟩, tF_low n s s (Nat.le_refl _), decT, decT, dig_down, Nat.zero_add]
    rfl
  | k + 1 => by
    rw [← Nat.add_assoc, tF, if_neg (by omega), tF_high n s hs k]
    show ch (dig n (s + 1 + k)) :: (decT (n / 10 ^ s) (k + 1) ++ 46 :: decT n s) = ch (dig (n / 10 ^ s) (k + 1)) :: (decT (n / 10 ^ s) (k + 1) ++ 46 :: decT n s)
    rw [dig_down, show k + 1 + s = s + 1 + k by omega]
/-- The text of a number: its sign, its digits, a point. -/
def top (n s : Nat) : Nat := max (digs n) (s + 1)
def txtL (below : Bool) (n s : Nat) : List UInt8 := (if below = true ∧ n ≠ 0 then [45] else []) ++ tF n s (top n s)
def txt (below : Bool) (n s : Nat) : ByteArray := ⟨(txtL below n s).toArray⟩

/-- Is it a digit? -/
def isD (c : UInt8) : Bool := decide (48 ≤ c.toNat) && decide (c.toNat ≤ 57)
theorem ch_nat {d : Nat} (h : d < 10) : (ch d).toNat = 48 + d := by
  unfold ch
  rw [UInt8.toNat_ofNat']
  omega
theorem ch_isD {d : Nat} (h : d < 10) : isD (ch d) = true := by
  unfold isD
  rw [ch_nat h]
  simp
  omega
theorem decT_isD (n : Nat) : ∀ k, ∀ c ∈ decT n k, isD c = true
  | 0, c, h => by simp [decT] at h
  | k + 1, c, h => by
    rw [decT] at h
    rcases List.mem_cons.1 h with rfl | h
    · exact ch_isD (dig_lt _ _)
    · exact decT_isD n k c h
/-- The whole digits and those behind the point. -/
def wholeT (n s : Nat) : List UInt8 := decT (n / 10 ^ s) (top n s - s)
theorem txt_body (n s : Nat) : tF n s (top n s) = wholeT n s ++ (if 0 < s then 46 :: decT n s else []) := by
  unfold wholeT
  split
  · rename_i h
    obtain ⟨k, hk⟩ : ∃ k, top n s = s + 1 + k := ⟨top n s - (s + 1), by unfold top; omega⟩
    rw [hk, tF_high n s h k, show s + 1 + k - s = k + 1 by omega]
  · rename_i h
    obtain rfl : s = 0 := by omega
    rw [tF_whole, List.append_nil, Nat.pow_zero, Nat.div_one, Nat.sub_zero]
theorem whole_len (n s : Nat) : 1 ≤ (wholeT n s).length := by
  unfold wholeT
  rw [decT_len]
  unfold top
  omega
/-- All digits are those of the number. -/
theorem decT_join (n s : Nat) : ∀ k, decT (n / 10 ^ s) k ++ decT n s = decT n (s + k)
  | 0 => rfl
  | k + 1 => by
    rw [decT, List.cons_append, decT_join n s k, ← Nat.add_assoc, decT, dig_down, Nat.add_comm k s]
theorem all_digits (n s : Nat) : wholeT n s ++ decT n s = decT n (top n s) := by
  unfold wholeT
  rw [decT_join, show s + (top n s - s) = top n s by unfold top; omega]

/-- Leading zeros are dropped. -/
theorem drop_zeros {n : Nat} : ∀ k, k ≤ 128 → n < 10 ^ k → (decT n k).dropWhile (· == 48) = if n = 0 then [] else decT n (digs n)
  | 0, _, h => by
    obtain rfl : n = 0 := by simpa using h
    rfl
  | k + 1, hk, h => by
    rw [decT]
    by_cases h0 : dig n k = 0
    · have hlt : n < 10 ^ k := by
        by_cases hc : n < 10 ^ k
        · exact hc
        · exfalso
          unfold dig at h0
          have h1 : n / 10 ^ k < 10 := Nat.div_lt_of_lt_mul (by rw [Nat.pow_succ] at h; omega)
          have h2 : 1 ≤ n / 10 ^ k := Nat.div_pos (by omega) (pow_pos k)
          omega
      rw [h0, List.dropWhile_cons_of_pos (by rfl), drop_zeros k (by omega) hlt]
    · have hne : n ≠ 0 := fun e => h0 (by rw [e, dig_zero])
      have hge := dig_ge h0
      have hdk : digs n = k + 1 := by
        have h1 := digs_most h (by omega)
        by_cases hd : digs n = k + 1
        · exact hd
        · exfalso
          have h2 : n < 10 ^ 128 := Nat.lt_of_lt_of_le h (Nat.pow_le_pow_right (by decide) hk)
          have h3 := digs_lt h2
          have : 10 ^ digs n ≤ 10 ^ k := Nat.pow_le_pow_right (by decide) (by omega)
          omega
      rw [List.dropWhile_cons_of_neg (by
        intro g
        have g1 := congrArg UInt8.toNat (eq_of_beq g)
        rw [ch_nat (dig_lt n k)] at g1
        have : (48 : UInt8).toNat = 48 := rfl
        omega), if_neg hne, hdk, decT]

end Go.Proofs.YticbjhogdfpdkaaDoor
