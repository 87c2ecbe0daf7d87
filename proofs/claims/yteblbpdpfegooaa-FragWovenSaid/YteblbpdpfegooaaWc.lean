/- What is cut from the bodies: it is woven and taken whole. -/
import Derived.Test.YteblbpdpfegooaaWb
import Derived.Test.YteblbpdpfegooaaG
import Derived.Test.YteblbpdpfegooaaL
namespace Go.Proofs.Yteblbpdpfegooaa
open Go.RowKit

theorem tail_cut (id : Int) (b : ByteArray) (m : Nat) (hm : 1 ≤ m) (hid1 : numB id = true) (hb : b.size ≤ 100) : ∀ (n k : Nat) (acc s : ByteArray), s.size ≤ n → s.size ≤ 100 → k + s.size ≤ 1000 → acc ++ s = b → tailOk id b k acc (cutP id (fun _ => some m) k s)
  | n, k, acc, s, hn, hs, hk, he => by
    have num : numB ((k : Nat) : Int) = true := by
      unfold numB
      rw [decide_eq_true (by omega), decide_eq_true (by omega)]; rfl
    by_cases h : s.size ≤ m
    · rw [cut_last (g := fun _ => some m) (n := m) rfl h]
      refine ⟨rfl, rfl, rfl, ?_, ?_⟩
      · unfold vP
        rw [hid1, num, decide_eq_true (by simp only; omega)]; rfl
      · rw [if_pos rfl]; exact he
    · have h2 := size_drop s m
      have h3 := size_take s m (by omega)
      match n, hn with
      | 0, hn => omega
      | n + 1, hn =>
      rw [cut_more (g := fun _ => some m) (n := m) rfl (by omega) (by omega)]
      have hj : acc ++ s.extract 0 m ++ s.extract m s.size = b := by
        rw [← he, ByteArray.append_assoc]
        congr 1
        have := ByteArray.extract_append_extract (a := s) (i := 0) (j := m) (k := s.size)
        simp only [Nat.zero_le, Nat.min_eq_left] at this
        rw [this, show max m s.size = s.size by omega]
        exact ByteArray.extract_zero_size
      have ih := tail_cut id b m hm hid1 hb n (k + 1) (acc ++ s.extract 0 m) (s.extract m s.size) (by omega) (by omega) (by omega) hj
      have hne := (tailOk_hid ih).2
      refine ⟨rfl, rfl, ?_, ?_, ?_⟩
      · have : (cutP id (fun _ => some m) (k + 1) (s.extract m s.size)).isEmpty = false := by cases hc : cutP id (fun _ => some m) (k + 1) (s.extract m s.size) with
          | nil => exact absurd hc hne
          | cons => rfl
        rw [this]; rfl
      · unfold vP
        rw [hid1, num, decide_eq_true (by simp only; omega), decide_eq_false (by simp only; omega)]; rfl
      · rw [if_neg hne]
        exact ih

theorem bytes_cut (id : Int) (m : Nat) (hm : 1 ≤ m) : ∀ (n k : Nat) (s : ByteArray), s.size ≤ n → bytesP (cutP id (fun _ => some m) k s) = s.size
  | n, k, s, hn => by
    by_cases h : s.size ≤ m
    · rw [cut_last (g := fun _ => some m) (n := m) rfl h]
      rfl
    · have h2 := size_drop s m
      have h3 := size_take s m (by omega)
      match n, hn with
      | 0, hn => omega
      | n + 1, hn =>
      rw [cut_more (g := fun _ => some m) (n := m) rfl (by omega) (by omega), bytesP, bytes_cut id m hm n (k + 1) _ (by omega)]
      simp only
      omega

theorem tail_all {id : Int} {b : ByteArray} : ∀ (R : List Pc) {k : Int} {acc : ByteArray}, tailOk id b k acc R → allV R = true
  | p :: r, k, acc, h => by
    obtain ⟨_, _, _, h4, h5⟩ := h
    unfold allV
    rw [List.all_cons, h4]
    by_cases hr : r = []
    · rw [hr]; rfl
    · rw [if_neg hr] at h5
      exact tail_all r h5

/-- The body of a number. -/
def bodyOf (bs : List ByteArray) (id : Int) : ByteArray := bs.getD (id - 1).toNat ⟨#[]⟩
/-- The size for a place. -/
def sizeOf2 (ss : List Int) (i : Nat) : Int := ss.getD (i % ss.length) 0
/-- What is cut of the first k bodies. -/
def cuts (bs : List ByteArray) (ss : List Int) (k : Nat) : List (List Pc) := (List.range k).map fun (i : Nat) => cutL ((i : Int) + 1) (bs.getD i ⟨#[]⟩) (sizeOf2 ss i)
/-- The numbers of the first k bodies. -/
def nums (k : Nat) : List Int := (List.range k).map fun (i : Nat) => (i : Int) + 1
/-- The bytes of the first k bodies. -/
def tot (bs : List ByteArray) : Nat → Nat
  | 0 => 0
  | k + 1 => tot bs k + (bs.getD k ⟨#[]⟩).size

/-- The first k bodies and their sizes are as the law wants them. -/
def fits (bs : List ByteArray) (ss : List Int) (k : Nat) : Prop := ∀ i, i < k → (bs.getD i ⟨#[]⟩).size ≤ 100 ∧ 1 ≤ sizeOf2 ss i ∧ sizeOf2 ss i ≤ 100

theorem cuts_succ (bs : List ByteArray) (ss : List Int) (k : Nat) : cuts bs ss (k + 1) = cuts bs ss k ++ [cutL ((k : Int) + 1) (bs.getD k ⟨#[]⟩) (sizeOf2 ss k)] := by
  unfold cuts
  rw [List.range_succ, List.map_append]; rfl

theorem cuts_len (bs : List ByteArray) (ss : List Int) (k : Nat) : (cuts bs ss k).length = k := by unfold cuts; simp

theorem num_ok {i : Nat} (h : i < 10) : numB ((i : Int) + 1) = true := by
  unfold numB
  rw [decide_eq_true (by omega), decide_eq_true (by omega)]; rfl

theorem cutL_ok {i : Nat} (hi : i < 10) {b : ByteArray} (hb : b.size ≤ 100) {n : Int} (h1 : 1 ≤ n) (h2 : n ≤ 100) : cutL ((i : Int) + 1) b n = cutP ((i : Int) + 1) (fun _ => some n.toNat) 0 b ∧ cutE ((i : Int) + 1) b n = 0 := by
  have hm : msgB ((i : Int) + 1) b = true := by unfold msgB; rw [num_ok hi, decide_eq_true (by omega)]; rfl
  have hs : sizeB n = true := by unfold sizeB; rw [decide_eq_true h1, decide_eq_true (by omega)]; rfl
  unfold cutL cutE
  rw [if_pos hm, if_pos hs, if_pos hm, if_pos hs]
  exact ⟨rfl, rfl⟩

theorem cutL_tail {i : Nat} (hi : i < 10) {b : ByteArray} (hb : b.size ≤ 100) {n : Int} (h1 : 1 ≤ n) (h2 : n ≤ 100) : tailOk ((i : Int) + 1) b 0 ⟨#[]⟩ (cutL ((i : Int) + 1) b n) := by
  rw [(cutL_ok hi hb h1 h2).1]
  exact tail_cut _ b n.toNat (by omega) (num_ok hi) hb b.size 0 ⟨#[]⟩ b (Nat.le_refl _) hb (by omega) (by apply ByteArray.ext; simp)

attribute [local irreducible] cutL in
theorem cuts_at {bs : List ByteArray} {ss : List Int} {k : Nat} {R : List Pc} (h : R ∈ cuts bs ss k) : ∃ i, i < k ∧ R = cutL ((i : Int) + 1) (bs.getD i ⟨#[]⟩) (sizeOf2 ss i) := by
  obtain ⟨i, hi, rfl⟩ := List.mem_map.1 h
  exact ⟨i, List.mem_range.1 hi, rfl⟩

attribute [local irreducible] cutL in
theorem cuts_tail {bs : List ByteArray} {ss : List Int} {k : Nat} (hk : k ≤ 10) (h : fits bs ss k) {R : List Pc} (hR : R ∈ cuts bs ss k) : ∃ i, i < k ∧ tailOk ((i : Int) + 1) (bs.getD i ⟨#[]⟩) 0 ⟨#[]⟩ R := by
  obtain ⟨i, hi, he⟩ := cuts_at hR
  obtain ⟨h1, h2, h3⟩ := h i hi
  have hi' : i < 10 := by omega
  refine ⟨i, hi, ?_⟩
  rw [he]
  exact cutL_tail hi' h1 h2 h3

theorem cuts_ne {bs : List ByteArray} {ss : List Int} {k : Nat} (hk : k ≤ 10) (h : fits bs ss k) : ∀ x ∈ cuts bs ss k, x ≠ [] := fun x hx => by
  obtain ⟨i, _, ht⟩ := cuts_tail hk h hx
  exact (tailOk_hid ht).2

theorem map_to {f : Nat → List Pc} {k : Nat} (h : ∀ i, i < k → hid (f i) = (i : Int) + 1) : ((List.range k).map f).map hid = nums k := by
  unfold nums
  rw [List.map_map]
  apply List.map_congr_left
  intro i hi
  exact h i (List.mem_range.1 hi)

attribute [local irreducible] cutL in
theorem cuts_hid {bs : List ByteArray} {ss : List Int} {k : Nat} (hk : k ≤ 10) (h : fits bs ss k) : (cuts bs ss k).map hid = nums k := by
  have hR : ∀ i, i < k → ∀ R, R = cutL ((i : Int) + 1) (bs.getD i ⟨#[]⟩) (sizeOf2 ss i) → hid R = (i : Int) + 1 := fun i hi R e => by
    obtain ⟨h1, h2, h3⟩ := h i hi
    have hi9 : i < 10 := by omega
    have ht := cutL_tail hi9 h1 h2 h3
    rw [← e] at ht
    exact (tailOk_hid ht).1
  unfold cuts
  exact map_to fun i hi => hR i hi _ rfl

theorem bytesL_append : ∀ S T, bytesL (S ++ T) = bytesL S + bytesL T
  | [], T => by simp [bytesL]
  | x :: r, T => by rw [List.cons_append, bytesL, bytesL, bytesL_append r T]; omega

theorem cuts_bytes {bs : List ByteArray} {ss : List Int} : ∀ (k : Nat), k ≤ 10 → fits bs ss k → bytesL (cuts bs ss k) = tot bs k
  | 0, _, _ => rfl
  | k + 1, hk, h => by
    obtain ⟨h1, h2, h3⟩ := h k (Nat.lt_succ_self k)
    rw [cuts_succ, bytesL_append, cuts_bytes k (by omega) fun i hi => h i (by omega), tot]
    simp only [bytesL]
    rw [(cutL_ok (by omega) h1 h2 h3).1, bytes_cut _ _ (by omega) _ 0 _ (Nat.le_refl _)]
    omega

theorem tot_le {bs : List ByteArray} {ss : List Int} : ∀ (k : Nat), fits bs ss k → tot bs k ≤ 100 * k
  | 0, _ => Nat.le_refl _
  | k + 1, h => by
    have := tot_le (bs := bs) (ss := ss) k fun i hi => h i (by omega)
    have := (h k (Nat.lt_succ_self k)).1
    rw [tot]
    omega

theorem cuts_total {bs : List ByteArray} {ss : List Int} : ∀ (k : Nat), k ≤ 10 → fits bs ss k → total (cuts bs ss k) ≤ 101 * k
  | 0, _, _ => Nat.le_refl _
  | k + 1, hk, h => by
    obtain ⟨h1, h2, h3⟩ := h k (Nat.lt_succ_self k)
    have := cuts_total k (by omega) fun i hi => h i (by omega)
    have := cutL_len ((k : Int) + 1) (bs.getD k ⟨#[]⟩) (sizeOf2 ss k)
    rw [cuts_succ, total_append]
    simp only [total]
    omega

theorem nums_nodup (k : Nat) : (nums k).Nodup := by
  unfold nums
  refine List.Pairwise.map _ ?_ List.nodup_range
  intro a b h e
  exact h (by omega)

theorem mem_nums {k : Nat} {id : Int} : id ∈ nums k ↔ 1 ≤ id ∧ id ≤ k := by
  unfold nums
  simp only [List.mem_map, List.mem_range]
  constructor
  · rintro ⟨i, hi, rfl⟩; omega
  · intro h; exact ⟨(id - 1).toNat, by omega, by omega⟩

theorem cuts_start {bs : List ByteArray} {ss : List Int} {k : Nat} (hk : k ≤ 10) (h : fits bs ss k) : WnI (bodyOf bs) k ((tot bs k : Int) + 1) [] (ne (cuts bs ss k)) := by
  rw [ne_id (cuts_ne hk h)]
  refine ⟨by rw [cuts_hid hk h]; exact nums_nodup k, by simp [idsO], fun R hR => ?_, fun x hx => (by cases hx), ?_, by rw [cuts_len]; exact Int.le_refl _, fun R hR => ?_⟩
  · obtain ⟨i, hi, ht⟩ := cuts_tail hk h hR
    refine ⟨0, ⟨#[]⟩, Int.le_refl _, ?_, by rw [if_pos rfl]; simp [idsO]⟩
    rw [(tailOk_hid ht).1]
    unfold bodyOf
    rw [show ((i : Int) + 1 - 1).toNat = i by omega]
    exact ht
  · rw [cuts_bytes k hk h]
    simp only [bytesO]
    omega
  · obtain ⟨i, hi, ht⟩ := cuts_tail hk h hR
    rw [(tailOk_hid ht).1]
    unfold bodyOf
    rw [show ((i : Int) + 1 - 1).toNat = i by omega]
    have := (h i hi).1
    omega

/-- What the law asks of what is woven. -/
theorem cuts_all {bs : List ByteArray} {ss ts : List Int} {k : Nat} (h0 : 1 ≤ k) (hk : k ≤ 10) (h : fits bs ss k) (hts : allN ts = true) :
    wvE (cuts bs ss k) ts = 0 ∧ ∃ A : List Int, A.Perm (nums k) ∧ allT k ((tot bs k : Int) + 1) (wvL (cuts bs ss k) ts) = ⟨A, A.map (bodyOf bs), -1, 0⟩ := by
  have ht := cuts_total k hk h
  have hg : goodL (cuts bs ss k) = true := by
    unfold goodL
    rw [decide_eq_true (by omega), Bool.true_and]
    refine List.all_eq_true.2 fun R hR => ?_
    obtain ⟨i, hi, ht⟩ := cuts_tail hk h hR
    exact tail_all R ht
  have he := wvE_ok hg (by rw [cuts_len]; exact h0) (by rw [cuts_len]; omega) hts
  refine ⟨he, ?_⟩
  have hl := wvL_len (cuts bs ss k) ts
  have htot := tot_le k h
  have hlim : limB (k : Int) ((tot bs k : Int) + 1) = true := by
    unfold limB
    rw [decide_eq_true (by omega), decide_eq_true (by omega), decide_eq_true (by omega), decide_eq_true (by omega)]; rfl
  obtain ⟨A, hA, hR⟩ := woven_all (total (cuts bs ss k)) (ts.map Int.toNat) (cuts bs ss k) [] 0 [] [] rfl (cuts_start hk h)
  rw [ne_id (cuts_ne hk h), cuts_hid hk h] at hA
  refine ⟨A, hA, ?_⟩
  unfold allT
  rw [if_neg (by omega), if_pos hlim]
  unfold wvL
  rw [if_pos he, hR]
  simp

end Go.Proofs.Yteblbpdpfegooaa
