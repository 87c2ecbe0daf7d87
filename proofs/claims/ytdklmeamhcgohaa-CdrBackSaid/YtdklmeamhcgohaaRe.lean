/-
  PROVED HERE: the number that bytes give when each is shifted to its place and joined with those before.
-/
import Derived.Test.YtdklmeamhcgohaaRd
import Derived.Lib.EndianBits
namespace Go.Proofs.Ytdklmeamhcgohaa
open Go.RowKit

theorem p256 (n : Nat) : (256 : Nat) ^ n = 2 ^ (8 * n) := by rw [Nat.pow_mul]

/-- One byte more: joined with what there is. -/
def join1 (u : Int) (x : Sh) (b : UInt8) : Int := bits .or .u64 u (IntKind.u64.wrap ((b.toNat : Int) * 2 ^ x.1.toNat))
/-- The number behind the bytes that were shifted so far. -/
def accP (P : List UInt8) (pre : List Sh) : Int := (pre.zip P).foldl (fun u xb => join1 u xb.1 xb.2) 0
theorem accP_nil (P : List UInt8) : accP P [] = 0 := rfl
theorem accP_snoc (P : List UInt8) (pre : List Sh) (x : Sh) (b : UInt8) (h : P[pre.length]? = some b) : accP P (pre ++ [x]) = join1 (accP P pre) x b := by
  have hl : pre.length < P.length := at_lt h
  have h1 : (pre ++ [x]).zip P = pre.zip P ++ [(x, b)] := by
    have hp : P = P.take pre.length ++ P.drop pre.length := (List.take_append_drop _ _).symm
    have hd : P.drop pre.length = b :: P.drop (pre.length + 1) := by
      rw [List.drop_eq_getElem_cons hl]
      congr 1
      rw [List.getElem?_eq_getElem hl] at h
      exact Option.some.inj h
    have hz : pre.zip P = pre.zip (P.take pre.length) := by
      conv => lhs; rw [hp]
      rw [← List.append_nil pre, List.zip_append (by simp; omega)]
      simp
    rw [hz]
    conv => lhs; rw [hp]
    rw [List.zip_append (by simp; omega), hd]
    simp
  unfold accP
  rw [h1, List.foldl_append]
  rfl

theorem sh_nat (big : Bool) (k m : Nat) (hm : m < k) (hk : k ≤ 8) : (mkSh (sh big k m)).1.toNat = if big then 8 * (k - 1 - m) else 8 * m := by
  cases big
  · rw [mkSh_val _ (by simp [sh]; omega)]; simp [sh]; omega
  · rw [mkSh_val _ (by simp [sh]; omega)]; simp [sh]; omega

theorem cast_mul_pow (b n : Nat) : (b : Int) * 2 ^ n = ((b * 2 ^ n : Nat) : Int) := by push_cast; rfl

theorem pow_le_64 {n : Nat} (h : n ≤ 64) : (2 : Nat) ^ n ≤ 2 ^ 64 := Nat.pow_le_pow_right (by omega) h

theorem acc_little (P : List UInt8) (k : Nat) (hk : k ≤ 8) (hP : P.length = k) : ∀ m, m ≤ k → accP P (shs false k m) = (hiN (P.take m).reverse : Nat)
  | 0, _ => by simp [shs, accP_nil, hiN_nil]
  | m + 1, hm => by
    have hlt : m < P.length := by omega
    have hb : P[(shs false k m).length]? = some P[m] := by rw [shs_length, List.getElem?_eq_getElem hlt]
    rw [shs_succ, accP_snoc P _ _ _ hb, acc_little P k hk hP m (by omega)]
    have hu := hiN_lt (P.take m).reverse
    rw [List.length_reverse, List.length_take, Nat.min_eq_left (by omega), p256] at hu
    have hbt : P[m].toNat < 256 := P[m].toNat_lt
    have hy : P[m].toNat * 2 ^ (8 * m) < 2 ^ (8 * (m + 1)) := by
      rw [show 8 * (m + 1) = 8 + 8 * m by omega, Nat.pow_add]
      exact Nat.mul_lt_mul_of_pos_right hbt (Nat.pow_pos (by omega))
    have h64 := pow_le_64 (show 8 * (m + 1) ≤ 64 by omega)
    have h64' := pow_le_64 (show 8 * m ≤ 64 by omega)
    have e1 : hiN (P.take (m + 1)).reverse = P[m].toNat * 2 ^ (8 * m) + hiN (P.take m).reverse := by
      rw [List.take_succ_eq_append_getElem hlt, List.reverse_append, List.reverse_singleton, List.singleton_append, hiN_cons, List.length_reverse, List.length_take, Nat.min_eq_left (by omega), p256]
    unfold join1
    rw [sh_nat false k m (by omega) hk, e1]
    simp only [Bool.false_eq_true, if_false]
    rw [cast_mul_pow, wraps_u64 _ (by omega) (by have : ((2 ^ 64 : Nat) : Int) = 2 ^ 64 := rfl
                                                 omega)]
    rw [bits_join_low .u64 64 (by decide) wraps_u64 (8 * m) _ _ (by omega) ?_ ?_ (by omega) ?_ ?_]
    · push_cast; omega
    · have : ((2 ^ (8 * m) : Nat) : Int) = 2 ^ (8 * m) := by push_cast; rfl
      omega
    · have : ((2 ^ 64 : Nat) : Int) = 2 ^ 64 := rfl
      omega
    · rw [← cast_mul_pow]; exact Int.mul_emod_left _ _
    · have : ((2 ^ 64 : Nat) : Int) = 2 ^ 64 := rfl
      omega

theorem acc_big (P : List UInt8) (k : Nat) (hk : k ≤ 8) (hP : P.length = k) : ∀ m, m ≤ k → accP P (shs true k m) = (hiN (P.take m) * 2 ^ (8 * (k - m)) : Nat)
  | 0, _ => by simp [shs, accP_nil, hiN_nil]
  | m + 1, hm => by
    have hlt : m < P.length := by omega
    have hb : P[(shs true k m).length]? = some P[m] := by rw [shs_length, List.getElem?_eq_getElem hlt]
    rw [shs_succ, accP_snoc P _ _ _ hb, acc_big P k hk hP m (by omega)]
    have hu := hiN_lt (P.take m)
    rw [List.length_take, Nat.min_eq_left (by omega), p256] at hu
    have hbt : P[m].toNat < 256 := P[m].toNat_lt
    obtain ⟨q, hq⟩ : ∃ q, k - (m + 1) = q := ⟨_, rfl⟩
    have hq1 : k - 1 - m = q := by omega
    have hq2 : k - m = q + 1 := by omega
    have hy : P[m].toNat * 2 ^ (8 * q) < 2 ^ (8 * (q + 1)) := by
      rw [show 8 * (q + 1) = 8 + 8 * q by omega, Nat.pow_add]
      exact Nat.mul_lt_mul_of_pos_right hbt (Nat.pow_pos (by omega))
    have hx : hiN (P.take m) * 2 ^ (8 * (q + 1)) < 2 ^ (8 * m) * 2 ^ (8 * (q + 1)) := Nat.mul_lt_mul_of_pos_right hu (Nat.pow_pos (by omega))
    rw [← Nat.pow_add] at hx
    have h64 := pow_le_64 (show 8 * m + 8 * (q + 1) ≤ 64 by omega)
    have h64' := pow_le_64 (show 8 * (q + 1) ≤ 64 by omega)
    have e1 : hiN (P.take (m + 1)) * 2 ^ (8 * q) = hiN (P.take m) * 2 ^ (8 * (q + 1)) + P[m].toNat * 2 ^ (8 * q) := by
      rw [List.take_succ_eq_append_getElem hlt, hiN_snoc, Nat.add_mul, show 8 * (q + 1) = 8 + 8 * q by omega, Nat.pow_add, ← Nat.mul_assoc]
    unfold join1
    rw [sh_nat true k m (by omega) hk, hq, hq2, e1]
    simp only [if_true, hq1]
    rw [cast_mul_pow, wraps_u64 _ (by omega) (by have : ((2 ^ 64 : Nat) : Int) = 2 ^ 64 := rfl
                                                 omega)]
    rw [bits_join .u64 64 (by decide) wraps_u64 (8 * (q + 1)) _ _ (by omega) ?_ ?_ (by omega) ?_ ?_]
    · push_cast; omega
    · have := Int.mul_emod_left (hiN (P.take m) : Int) (2 ^ (8 * (q + 1)))
      push_cast
      exact this
    · have : ((2 ^ 64 : Nat) : Int) = 2 ^ 64 := rfl
      omega
    · have : ((2 ^ (8 * (q + 1)) : Nat) : Int) = 2 ^ (8 * (q + 1)) := by push_cast; rfl
      omega
    · have : ((2 ^ 64 : Nat) : Int) = 2 ^ 64 := rfl
      omega

theorem acc_all (big : Bool) (P : List UInt8) (k : Nat) (hk : k ≤ 8) (hP : P.length = k) : accP P (shs big k k) = (valU big P : Nat) := by
  cases big
  · rw [acc_little P k hk hP k (Nat.le_refl _), ← hP, List.take_length]; rfl
  · rw [acc_big P k hk hP k (Nat.le_refl _), Nat.sub_self, ← hP, List.take_length]; simp [valU]

theorem join1_bd (u : Int) (x : Sh) (b : UInt8) : 0 ≤ join1 u x b ∧ join1 u x b < 18446744073709551616 := by
  unfold join1
  have : ∀ z : Int, 0 ≤ IntKind.u64.wrap z ∧ IntKind.u64.wrap z < 18446744073709551616 := fun z => by rw [IntKind.wrap_u64]; omega
  exact this _

end Go.Proofs.Ytdklmeamhcgohaa
