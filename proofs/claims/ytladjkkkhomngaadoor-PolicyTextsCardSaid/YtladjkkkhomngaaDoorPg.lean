/- THE MATHEMATICS of texts: what is joined is split again; a policy's text is cut again. -/
import Derived.Test.YtladjkkkhomngaaDoorPf
namespace Go.Proofs.YtladjkkkhomngaaDoor
set_option maxRecDepth 8000
open Go.RowKit Go.Sort Go.BigFrame

theorem index_sep : ∀ (x r : List UInt8), (44 : UInt8) ∉ x → Lib.index (x ++ 44 :: 32 :: r) [44, 32] = x.length
  | [], r, _ => by simp [Lib.index, List.isPrefixOf]
  | b :: x, r, h => by
    have hb : ¬ (44 : UInt8) = b := fun e => h (by simp [e])
    have ih := index_sep x r (fun g => h (by simp [g]))
    rw [List.cons_append, Lib.index, if_neg (by simp [List.isPrefixOf, hb]), ih, if_neg (by first | (simp; done) | (simp; omega))]
    simp
theorem index_none : ∀ (x : List UInt8), (44 : UInt8) ∉ x → Lib.index x [44, 32] = -1
  | [], _ => by simp [Lib.index]
  | b :: x, h => by
    have hb : ¬ (44 : UInt8) = b := fun e => h (by simp [e])
    have ih := index_none x (fun g => h (by simp [g]))
    rw [Lib.index, if_neg (by simp [List.isPrefixOf, hb]), ih, if_pos (by rfl)]
theorem index_space : ∀ (x r : List UInt8), (32 : UInt8) ∉ x → Lib.index (x ++ 32 :: r) [32] = x.length
  | [], r, _ => by simp [Lib.index, List.isPrefixOf]
  | b :: x, r, h => by
    have hb : ¬ (32 : UInt8) = b := fun e => h (by simp [e])
    have ih := index_space x r (fun g => h (by simp [g]))
    rw [List.cons_append, Lib.index, if_neg (by simp [List.isPrefixOf, hb]), ih, if_neg (by first | (simp; done) | (simp; omega))]
    simp
theorem cut_text (x r : List UInt8) (h : (32 : UInt8) ∉ x) : Lib.cut (x ++ 32 :: r) [32] = (x, r, true) := by
  unfold Lib.cut
  rw [index_space x r h, if_pos (by omega)]
  simp

theorem join_cons (x y : List UInt8) (r : List (List UInt8)) : Lib.join (x :: y :: r) [44, 32] = x ++ 44 :: 32 :: Lib.join (y :: r) [44, 32] := by simp [Lib.join, List.intercalate, List.intersperse]
theorem join_one (x : List UInt8) : Lib.join [x] [44, 32] = x := by simp [Lib.join, List.intercalate]

theorem split_join : ∀ (x : List UInt8) (r : List (List UInt8)), (∀ y ∈ x :: r, (44 : UInt8) ∉ y) → Lib.splitK [44, 32] 0 r.length (Lib.join (x :: r) [44, 32]) = x :: r
  | x, [], _ => by simp [Lib.splitK, join_one]
  | x, y :: r, h => by
    have ih := split_join y r (fun z hz => h z (by simp at hz ⊢; exact .inr hz))
    rw [join_cons, List.length_cons, Lib.splitK, index_sep x _ (h x (by simp)), if_neg (by first | (simp; done) | (simp; omega))]
    simp [ih]
theorem count_join : ∀ (x : List UInt8) (r : List (List UInt8)) (f : Nat), (∀ y ∈ x :: r, (44 : UInt8) ∉ y) → r.length < f → Lib.countFrom [44, 32] f (Lib.join (x :: r) [44, 32]) = r.length
  | x, [], f + 1, h, _ => by rw [join_one, Lib.countFrom, index_none x (h x (by simp))]; rfl
  | x, y :: r, f + 1, h, hf => by
    have ih := count_join y r f (fun z hz => h z (by simp at hz ⊢; exact .inr hz)) (by simp at hf; omega)
    rw [join_cons, Lib.countFrom, index_sep x _ (h x (by simp)), if_neg (by first | (simp; done) | (simp; omega))]
    simp [ih]
    omega
theorem join_long : ∀ (x : List UInt8) (r : List (List UInt8)), r.length ≤ (Lib.join (x :: r) [44, 32]).length
  | x, [] => by simp
  | x, y :: r => by
    have ih := join_long y r
    rw [join_cons]
    simp only [List.length_append, List.length_cons] at ih ⊢
    omega
theorem count_joined (x : List UInt8) (r : List (List UInt8)) (h : ∀ y ∈ x :: r, (44 : UInt8) ∉ y) : Lib.count (Lib.join (x :: r) [44, 32]) [44, 32] = r.length :=
  count_join x r _ h (by have := join_long x r; omega)

theorem decDigits_no (c : UInt8) (h : ∀ d : Nat, d < 10 → UInt8.ofNat (48 + d) ≠ c) : ∀ (n u : Nat), u ≤ n → c ∉ Lib.decDigits u
  | n, u, hn => by
    by_cases hu : u < 10
    · rw [Lib.decDigits, dif_pos hu]
      intro g
      simp only [List.mem_singleton] at g
      exact h u hu g.symm
    · rw [Lib.decDigits, dif_neg hu]
      intro g
      rcases List.mem_append.1 g with g | g
      · match n, hn with
        | 0, hn => omega
        | n + 1, hn => exact decDigits_no c h n (u / 10) (by omega) g
      · simp only [List.mem_singleton] at g
        exact h (u % 10) (by omega) g.symm
theorem itoa_no (c : UInt8) (h : ∀ d : Nat, d < 10 → UInt8.ofNat (48 + d) ≠ c) (v : Int) (hv : 0 ≤ v) : c ∉ Lib.itoa v := by
  unfold Lib.itoa
  rw [if_neg (by omega)]
  exact decDigits_no c h _ _ (Nat.le_refl _)

/-- No comma and no space in the words. -/
theorem words_clean (n : Nat) (h1 : 1 ≤ n) (h2 : n ≤ 13) : ∀ j, j < 5 → (44 : UInt8) ∉ (wordN n j).data.toList ∧ (32 : UInt8) ∉ (wordN n j).data.toList := by
  have hh : n = 1 ∨ n = 2 ∨ n = 3 ∨ n = 4 ∨ n = 5 ∨ n = 6 ∨ n = 7 ∨ n = 8 ∨ n = 9 ∨ n = 10 ∨ n = 11 ∨ n = 12 ∨ n = 13 := by omega
  rcases hh with rfl | rfl | rfl | rfl | rfl | rfl | rfl | rfl | rfl | rfl | rfl | rfl | rfl <;> decide
theorem wordP_clean (k v : Int) (h : okP k v = true) : (44 : UInt8) ∉ (wordP ⟨k, v⟩).data.toList := by
  simp only [okP, isK, Bool.and_eq_true, decide_eq_true_eq] at h
  obtain ⟨⟨⟨h1, h2⟩, h3⟩, h4⟩ := h
  have h0 : 0 ≤ v := by unfold defV at h3; split at h3 <;> omega
  unfold wordP
  simp only
  split
  · exact itoa_no 44 (by decide) v h0
  · rename_i hd
    have hne : ¬ (k = 10 ∨ k = 12) := fun g => hd (by unfold defV; rw [if_pos g])
    have h6 : v ≤ 4 := by unfold mostV at h4; rw [if_neg (by omega), if_neg (by omega)] at h4; split at h4 <;> (try split at h4) <;> omega
    exact (words_clean k.toNat (by omega) (by omega) v.toNat (by omega)).1
theorem textP_list (p : PolD) : (textP p).data.toList = (wordN p.k.toNat 0).data.toList ++ 32 :: (wordP p).data.toList := by
  unfold textP wordN wordsL
  simp [ByteArray.data_append]
theorem textP_clean (p : PolD) (h : okP p.k p.v = true) : (44 : UInt8) ∉ (textP p).data.toList := by
  have hk := h
  simp only [okP, isK, Bool.and_eq_true, decide_eq_true_eq] at hk
  rw [textP_list]
  intro g
  rcases List.mem_append.1 g with g | g
  · exact (words_clean p.k.toNat (by omega) (by omega) 0 (by omega)).1 g
  · rcases List.mem_cons.1 g with g | g
    · cases g
    · exact wordP_clean p.k p.v h g
/-- A policy's text is cut into the kind's name and the word. -/
theorem cut_textP (p : PolD) (h : okP p.k p.v = true) : Lib.cut (textP p).data.toList [32] = ((wordN p.k.toNat 0).data.toList, (wordP p).data.toList, true) := by
  simp only [okP, isK, Bool.and_eq_true, decide_eq_true_eq] at h
  rw [textP_list]
  exact cut_text _ _ (words_clean p.k.toNat (by omega) (by omega) 0 (by omega)).2

end Go.Proofs.YtladjkkkhomngaaDoor
