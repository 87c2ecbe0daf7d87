/- THE MATHEMATICS of texts, second part: a policy is read from its own text. -/
import Derived.Test.YtladjkkkhomngaaDoorPg
namespace Go.Proofs.YtladjkkkhomngaaDoor
set_option maxRecDepth 8000
open Go.RowKit Go.Sort Go.BigFrame

theorem parse_append : ∀ (l : List UInt8) (acc a : Nat) (c : UInt8), Lib.parseUint10 acc l = .ok a → Lib.parseUint10 acc (l ++ [c]) = Lib.parseUint10 a [c]
  | [], acc, a, c, h => by
    simp only [Lib.parseUint10] at h
    injection h with h
    subst h
    rfl
  | b :: l, acc, a, c, h => by
    rw [List.cons_append]
    rw [Lib.parseUint10] at h ⊢
    split at h
    · rename_i h1
      rw [if_pos h1]
      split at h
      · cases h
      · rename_i h2
        rw [if_neg h2]
        split at h
        · cases h
        · rename_i h3
          rw [if_neg h3]
          exact parse_append l _ a c h
    · cases h
theorem digit_nat (d : Nat) (h : d < 10) : (UInt8.ofNat (48 + d)).toNat = 48 + d := by
  have hh : d = 0 ∨ d = 1 ∨ d = 2 ∨ d = 3 ∨ d = 4 ∨ d = 5 ∨ d = 6 ∨ d = 7 ∨ d = 8 ∨ d = 9 := by omega
  rcases hh with rfl | rfl | rfl | rfl | rfl | rfl | rfl | rfl | rfl | rfl <;> rfl
theorem parse_digit (a d : Nat) (h : d < 10) (ha : a ≤ 1000000) : Lib.parseUint10 a [UInt8.ofNat (48 + d)] = .ok (a * 10 + d) := by
  rw [Lib.parseUint10, digit_nat d h, if_pos (by omega), if_neg (by omega), if_neg (by omega)]
  rw [Lib.parseUint10]
  congr 1
  omega
theorem parse_digits : ∀ (n u : Nat), u ≤ n → u ≤ 1000000 → Lib.parseUint10 0 (Lib.decDigits u) = .ok u
  | n, u, hn, hu => by
    by_cases h : u < 10
    · rw [Lib.decDigits, dif_pos h, parse_digit 0 u h (by omega)]
      simp
    · rw [Lib.decDigits, dif_neg h]
      match n, hn with
      | 0, hn => omega
      | n + 1, hn =>
        rw [parse_append _ _ _ _ (parse_digits n (u / 10) (by omega) (by omega)), parse_digit (u / 10) (u % 10) (by omega) (by omega)]
        congr 1
        omega
theorem digits_head (n u : Nat) (hn : u ≤ n) : ∃ d r, d < 10 ∧ Lib.decDigits u = UInt8.ofNat (48 + d) :: r := by
  induction n generalizing u with
  | zero => exact ⟨u, [], by omega, by rw [Lib.decDigits, dif_pos (by omega)]⟩
  | succ n ih =>
    by_cases h : u < 10
    · exact ⟨u, [], h, by rw [Lib.decDigits, dif_pos h]⟩
    · obtain ⟨d, r, hd, he⟩ := ih (u / 10) (by omega)
      exact ⟨d, r ++ [UInt8.ofNat (48 + u % 10)], hd, by rw [Lib.decDigits, dif_neg h, he]; rfl⟩
theorem atoi_itoa (v : Int) (h0 : 0 ≤ v) (h1 : v ≤ 1000000) : atoiV ⟨(Lib.itoa v).toArray⟩ = v := by
  obtain ⟨u, rfl⟩ : ∃ u : Nat, v = u := ⟨v.toNat, by omega⟩
  have hp := parse_digits u u (Nat.le_refl _) (by omega)
  obtain ⟨d, r, hd, he⟩ := digits_head u u (Nat.le_refl _)
  have hi : Lib.itoa (u : Int) = UInt8.ofNat (48 + d) :: r := by unfold Lib.itoa; rw [if_neg (by omega)]; simpa using he
  have ha : Lib.atoiAll (Lib.itoa (u : Int)) = .ok (u : Int) := by
    rw [hi, Lib.atoiAll_plain _ _ (by rw [digit_nat d hd]; omega) (by rw [digit_nat d hd]; omega), ← he]
    unfold Lib.parseMag
    rw [if_neg (by rw [he]; simp), hp]
    unfold Lib.signless
    simp only
    rw [if_neg (by omega)]
  unfold atoiV
  simp only
  rw [ha]

theorem name_inj : ∀ a, a < 14 → ∀ b, b < 14 → 1 ≤ a → 1 ≤ b → nameN a = nameN b → a = b := by decide
theorem kind_det {k : Nat} {q : Nat} (h1 : 1 ≤ q) (h2 : q ≤ 13) (h : KindIs (nameN q) k) : k = q := by
  rcases h with ⟨_, h⟩ | ⟨g1, g2, g3⟩
  · exact absurd rfl (h q h1 (by omega))
  · exact name_inj k (by omega) q (by omega) g1 h1 g3
theorem word_tab : ((List.range 14).all fun k => (List.range 5).all fun i => (List.range 5).all fun j => (k == 0 || k == 10 || k == 12 || i == 0 || j == 0 || decide (mostV (k : Int) < (i : Int)) || decide (mostV (k : Int) < (j : Int)) || !(decide (wordN k i = wordN k j)) || i == j)) = true := by decide
theorem word_inj (k : Nat) (hk : k < 14) (hk1 : 1 ≤ k) (hk2 : k ≠ 10) (hk3 : k ≠ 12) (i : Nat) (hi : i < 5) (j : Nat) (hj : j < 5) (h1 : 1 ≤ i) (h2 : 1 ≤ j) (h3 : (i : Int) ≤ mostV (k : Int)) (h4 : (j : Int) ≤ mostV (k : Int)) (he : wordN k i = wordN k j) : i = j := by
  have h := List.all_eq_true.1 (List.all_eq_true.1 (List.all_eq_true.1 word_tab k (List.mem_range.2 hk)) i (List.mem_range.2 hi)) j (List.mem_range.2 hj)
  simp only [Bool.or_eq_true, beq_iff_eq, decide_eq_true_eq, Bool.not_eq_true', decide_eq_false_iff_not] at h
  rcases h with (((((((h | h) | h) | h) | h) | h) | h) | h) | h
  · omega
  · omega
  · omega
  · omega
  · omega
  · omega
  · omega
  · exact absurd he h
  · exact h
theorem value_det {k v n : Nat} (hk : k < 14) (hk1 : 1 ≤ k) (hk2 : k ≠ 10) (hk3 : k ≠ 12) (h1 : 1 ≤ v) (h2 : (v : Int) ≤ mostV k) (h4 : v ≤ 4) (h : ValueIs k (wordN k v) n) : n = v := by
  rcases h with ⟨_, h⟩ | ⟨g1, g2, g3, g4⟩
  · exact absurd rfl (h v h1 (by omega))
  · by_cases hlt : v < n
    · exact absurd rfl (g4 v h1 hlt)
    · exact word_inj k hk hk1 hk2 hk3 n (by omega) v (by omega) g1 h1 (by omega) h2 g3

end Go.Proofs.YtladjkkkhomngaaDoor
