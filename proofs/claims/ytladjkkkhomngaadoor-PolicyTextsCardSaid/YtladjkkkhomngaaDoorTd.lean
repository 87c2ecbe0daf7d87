/- Sets of policies, two of them as one, by their kinds: what the policy package's merged and the reference's gathered make is the same. No walk stands here. -/
import Derived.Test.YtladjkkkhomngaaDoorTb
import Derived.Test.YtladjkkkhomngaaDoorX
namespace Go.Proofs.YtladjkkkhomngaaDoor
set_option maxRecDepth 8000
open Go.RowKit

/-- Kinds go up. -/
abbrev Up (l : List PolD) : Prop := l.Pairwise fun a b => a.k < b.k

theorem okTo_lt {l : List PolD} (h : okTo l l.length) : ∀ (d i : Nat) (hj : i + d + 1 < l.length), (l[i]'(by omega)).k < (l[i + d + 1]'hj).k
  | 0, i, hj => (h (i + 1) hj hj).2 (by omega)
  | d + 1, i, hj => by
    have h1 := okTo_lt h d i (by omega)
    have h2 := (h (i + (d + 1) + 1) hj hj).2 (by omega)
    have e : i + (d + 1) + 1 - 1 = i + d + 1 := by omega
    simp only [e] at h2
    omega
theorem okS_up {l : List PolD} (h : okS l = true) : Up l := by
  have h0 := okS_of h
  rw [Up, List.pairwise_iff_getElem]
  intro i j hi hj hij
  obtain ⟨d, rfl⟩ : ∃ d, j = i + d + 1 := ⟨j - i - 1, by omega⟩
  exact okTo_lt h0 d i hj
theorem okS_val {l : List PolD} (h : okS l = true) : ∀ p ∈ l, okP p.k p.v = true := by
  intro p hp
  obtain ⟨i, hi, rfl⟩ := List.getElem_of_mem hp
  exact ((okS_of h) i hi hi).1

theorem up_ext : ∀ (l m : List PolD), Up l → Up m → (∀ k, findK l k = findK m k) → l = m
  | [], [], _, _, _ => rfl
  | [], q :: t, _, _, h => by have := h q.k; simp [findK] at this
  | p :: r, [], _, _, h => by have := h p.k; simp [findK] at this
  | p :: r, q :: t, hl, hm, h => by
    have hl' := List.pairwise_cons.1 hl
    have hm' := List.pairwise_cons.1 hm
    have hk : p.k = q.k := by
      rcases Int.lt_trichotomy p.k q.k with h1 | h1 | h1
      · have h2 := h p.k
        have h3 : findK (q :: t) p.k = none := findK_absent _ _ fun x hx => by
          rcases List.mem_cons.1 hx with rfl | hx
          · omega
          · have := hm'.1 x hx; omega
        rw [h3] at h2
        simp [findK] at h2
      · exact h1
      · have h2 := h q.k
        have h3 : findK (p :: r) q.k = none := findK_absent _ _ fun x hx => by
          rcases List.mem_cons.1 hx with rfl | hx
          · omega
          · have := hl'.1 x hx; omega
        rw [h3] at h2
        simp [findK] at h2
    have hv : p.v = q.v := by
      have h2 := h p.k
      simp [findK, hk] at h2
      exact h2
    have hr : r = t := up_ext r t hl'.2 hm'.2 fun k => by
      by_cases hpk : p.k = k
      · rw [findK_absent k r fun x hx => by have := hl'.1 x hx; omega, findK_absent k t fun x hx => by have := hm'.1 x hx; omega]
      · have h2 := h k
        simp only [findK, if_neg hpk, if_neg (show ¬ q.k = k by omega)] at h2
        exact h2
    cases p
    cases q
    simp only at hk hv
    subst hk hv hr
    rfl

/-- The second of two, where there is one. -/
def orV : Option Int → Option Int → Option Int
  | some x, _ => some x
  | none, b => b
theorem orV_assoc (a b c : Option Int) : orV a (orV b c) = orV (orV a b) c := by cases a <;> rfl
theorem orV_self (a : Option Int) : orV a a = a := by cases a <;> rfl
theorem orV_none (a : Option Int) : orV a none = a := by cases a <;> rfl

theorem mrg_nil : mrg [] [] = [] := rfl
theorem mrg_spec : ∀ (n : Nat) (s o : List PolD), s.length + o.length ≤ n → Up s → Up o →
    Up (mrg s o) ∧ (∀ x ∈ mrg s o, x ∈ s ∨ x ∈ o) ∧ ∀ k, findK (mrg s o) k = orV (findK o k) (findK s k)
  | n, [], [], _, _, _ => by
    rw [mrg_nil]
    exact ⟨List.Pairwise.nil, (fun x h => by cases h), fun k => rfl⟩
  | 0, p :: r, o, h, _, _ => by simp at h
  | 0, [], q :: t, h, _, _ => by simp at h
  | n + 1, p :: r, [], h, hs, ho => by
    have hs' := List.pairwise_cons.1 hs
    rw [mrg_step (s := p :: r) (o := []) (x := p) (s' := r) (o' := []) (by simp [mrgStep])]
    obtain ⟨h1, h2, h3⟩ := mrg_spec n r [] (by simp at h ⊢; omega) hs'.2 ho
    refine ⟨List.pairwise_cons.2 ⟨fun x hx => ?_, h1⟩, fun x hx => ?_, fun k => ?_⟩
    · rcases h2 x hx with h4 | h4
      · exact hs'.1 x h4
      · cases h4
    · rcases List.mem_cons.1 hx with rfl | hx
      · exact .inl (List.mem_cons_self ..)
      · exact (h2 x hx).imp (List.mem_cons_of_mem _) id
    · simp only [findK, h3, orV]
  | n + 1, [], q :: t, h, hs, ho => by
    have ho' := List.pairwise_cons.1 ho
    rw [mrg_step (s := []) (o := q :: t) (x := q) (s' := []) (o' := t) (by simp [mrgStep])]
    obtain ⟨h1, h2, h3⟩ := mrg_spec n [] t (by simp at h ⊢; omega) hs ho'.2
    refine ⟨List.pairwise_cons.2 ⟨fun x hx => ?_, h1⟩, fun x hx => ?_, fun k => ?_⟩
    · rcases h2 x hx with h4 | h4
      · cases h4
      · exact ho'.1 x h4
    · rcases List.mem_cons.1 hx with rfl | hx
      · exact .inr (List.mem_cons_self ..)
      · exact (h2 x hx).imp id (List.mem_cons_of_mem _)
    · simp only [findK, h3, orV_none]
  | n + 1, p :: r, q :: t, h, hs, ho => by
    have hs' := List.pairwise_cons.1 hs
    have ho' := List.pairwise_cons.1 ho
    simp only [List.length_cons] at h
    by_cases c1 : p.k < q.k
    · rw [mrg_step (s := p :: r) (o := q :: t) (x := p) (s' := r) (o' := q :: t) (by simp [mrgStep, c1])]
      obtain ⟨h1, h2, h3⟩ := mrg_spec n r (q :: t) (by simp only [List.length_cons]; omega) hs'.2 ho
      refine ⟨List.pairwise_cons.2 ⟨fun x hx => ?_, h1⟩, fun x hx => ?_, fun k => ?_⟩
      · rcases h2 x hx with h4 | h4
        · exact hs'.1 x h4
        · rcases List.mem_cons.1 h4 with rfl | h4
          · exact c1
          · have := ho'.1 x h4; omega
      · rcases List.mem_cons.1 hx with rfl | hx
        · exact .inl (List.mem_cons_self ..)
        · exact (h2 x hx).imp (List.mem_cons_of_mem _) id
      · by_cases hk : p.k = k
        · rw [findK_absent k (q :: t) fun x hx => by
            rcases List.mem_cons.1 hx with rfl | hx
            · omega
            · have := ho'.1 x hx; omega]
          simp only [findK, if_pos hk, orV]
        · rw [show findK (p :: mrg r (q :: t)) k = findK (mrg r (q :: t)) k by simp only [findK, if_neg hk], show findK (p :: r) k = findK r k by simp only [findK, if_neg hk], h3]
    · by_cases c2 : p.k = q.k
      · rw [mrg_step (s := p :: r) (o := q :: t) (x := q) (s' := r) (o' := t) (by simp [mrgStep, c2])]
        obtain ⟨h1, h2, h3⟩ := mrg_spec n r t (by omega) hs'.2 ho'.2
        refine ⟨List.pairwise_cons.2 ⟨fun x hx => ?_, h1⟩, fun x hx => ?_, fun k => ?_⟩
        · rcases h2 x hx with h4 | h4
          · have := hs'.1 x h4; omega
          · exact ho'.1 x h4
        · rcases List.mem_cons.1 hx with rfl | hx
          · exact .inr (List.mem_cons_self ..)
          · exact (h2 x hx).imp (List.mem_cons_of_mem _) (List.mem_cons_of_mem _)
        · by_cases hk : q.k = k
          · simp only [findK, if_pos hk, orV]
          · simp only [findK, if_neg hk, if_neg (show ¬ p.k = k by omega), h3]
      · rw [mrg_step (s := p :: r) (o := q :: t) (x := q) (s' := p :: r) (o' := t) (by simp [mrgStep, c1, c2])]
        obtain ⟨h1, h2, h3⟩ := mrg_spec n (p :: r) t (by simp only [List.length_cons]; omega) hs ho'.2
        refine ⟨List.pairwise_cons.2 ⟨fun x hx => ?_, h1⟩, fun x hx => ?_, fun k => ?_⟩
        · rcases h2 x hx with h4 | h4
          · rcases List.mem_cons.1 h4 with rfl | h4
            · omega
            · have := hs'.1 x h4; omega
          · exact ho'.1 x h4
        · rcases List.mem_cons.1 hx with rfl | hx
          · exact .inr (List.mem_cons_self ..)
          · exact (h2 x hx).imp id (List.mem_cons_of_mem _)
        · by_cases hk : q.k = k
          · rw [show findK (q :: mrg (p :: r) t) k = some q.v by simp only [findK, if_pos hk], show findK (q :: t) k = some q.v by simp only [findK, if_pos hk]]
            rfl
          · rw [show findK (q :: mrg (p :: r) t) k = findK (mrg (p :: r) t) k by simp only [findK, if_neg hk], show findK (q :: t) k = findK t k by simp only [findK, if_neg hk], h3]

theorem mrg_up {s o : List PolD} (hs : Up s) (ho : Up o) : Up (mrg s o) := (mrg_spec _ s o (Nat.le_refl _) hs ho).1
theorem mrg_find {s o : List PolD} (hs : Up s) (ho : Up o) (k : Int) : findK (mrg s o) k = orV (findK o k) (findK s k) := (mrg_spec _ s o (Nat.le_refl _) hs ho).2.2 k
theorem mrg_okS {s o : List PolD} (hs : okS s = true) (ho : okS o = true) : okS (mrg s o) = true :=
  okS_mk (fun p hp => by
    rcases (mrg_spec _ s o (Nat.le_refl _) (okS_up hs) (okS_up ho)).2.1 p hp with h | h
    · exact okS_val hs p h
    · exact okS_val ho p h) (mrg_up (okS_up hs) (okS_up ho))

theorem mrg_assoc {a b c : List PolD} (ha : Up a) (hb : Up b) (hc : Up c) : mrg (mrg a b) c = mrg a (mrg b c) :=
  up_ext _ _ (mrg_up (mrg_up ha hb) hc) (mrg_up ha (mrg_up hb hc)) fun k => by
    rw [mrg_find (mrg_up ha hb) hc, mrg_find ha hb, mrg_find ha (mrg_up hb hc), mrg_find hb hc, orV_assoc]
theorem mrg_self {a : List PolD} (ha : Up a) : mrg a a = a := up_ext _ _ (mrg_up ha ha) ha fun k => by rw [mrg_find ha ha, orV_self]
theorem mrg_nil_left {a : List PolD} (ha : Up a) : mrg [] a = a := up_ext _ _ (mrg_up List.Pairwise.nil ha) ha fun k => by rw [mrg_find List.Pairwise.nil ha]; exact orV_none _

/-! ### What the reference gathers -/

/-- The value of the last policy of a kind. -/
def lastV (l : List PolD) (k : Int) : Option Int := findK l.reverse k
/-- The last policies of the kinds 1 to n. -/
def gthTo (l : List PolD) : Nat → List PolD
  | 0 => []
  | n + 1 => match lastV l (n + 1 : Nat) with
    | some v => gthTo l n ++ [⟨((n + 1 : Nat) : Int), v⟩]
    | none => gthTo l n
theorem gthTo_some {l : List PolD} {n : Nat} {v : Int} (h : lastV l (n + 1 : Nat) = some v) : gthTo l (n + 1) = gthTo l n ++ [⟨((n + 1 : Nat) : Int), v⟩] := by
  rw [gthTo, h]
theorem gthTo_none {l : List PolD} {n : Nat} (h : lastV l (n + 1 : Nat) = none) : gthTo l (n + 1) = gthTo l n := by
  rw [gthTo, h]
theorem gthTo_len (l : List PolD) : ∀ n, (gthTo l n).length ≤ n
  | 0 => Nat.le_refl _
  | n + 1 => by
    have := gthTo_len l n
    unfold gthTo
    split
    · simp; omega
    · omega
theorem gthTo_le (l : List PolD) : ∀ n, ∀ x ∈ gthTo l n, 1 ≤ x.k ∧ x.k ≤ n
  | 0, x, h => by cases h
  | n + 1, x, h => by
    unfold gthTo at h
    split at h
    · rcases List.mem_append.1 h with h | h
      · have := gthTo_le l n x h; omega
      · obtain rfl := List.mem_singleton.1 h
        simp only
        omega
    · have := gthTo_le l n x h; omega
theorem gthTo_up (l : List PolD) : ∀ n, Up (gthTo l n)
  | 0 => List.Pairwise.nil
  | n + 1 => by
    unfold gthTo
    split
    · refine List.pairwise_append.2 ⟨gthTo_up l n, List.pairwise_singleton _ _, fun a ha b hb => ?_⟩
      obtain rfl := List.mem_singleton.1 hb
      have := gthTo_le l n a ha
      simp only
      omega
    · exact gthTo_up l n
theorem findK_append (k : Int) : ∀ (l m : List PolD), findK (l ++ m) k = orV (findK l k) (findK m k)
  | [], _ => rfl
  | p :: r, m => by
    by_cases h : p.k = k
    · simp only [List.cons_append, findK, if_pos h, orV]
    · simp only [List.cons_append, findK, if_neg h]
      exact findK_append k r m
theorem gthTo_find (l : List PolD) (k : Int) : ∀ n : Nat, findK (gthTo l n) k = if 1 ≤ k ∧ k ≤ n then lastV l k else none
  | 0 => by rw [if_neg (by omega)]; rfl
  | n + 1 => by
    have ih := gthTo_find l k n
    by_cases hk : k = ((n + 1 : Nat) : Int)
    · subst hk
      rw [if_pos ⟨by omega, by omega⟩]
      rw [if_neg (by omega)] at ih
      cases hv : lastV l ((n + 1 : Nat) : Int) with
      | some v =>
        rw [gthTo_some hv, findK_append, ih]
        simp [orV, findK]
      | none => rw [gthTo_none hv, ih]
    · have e : (1 ≤ k ∧ k ≤ ((n + 1 : Nat) : Int)) ↔ (1 ≤ k ∧ k ≤ (n : Int)) := by omega
      simp only [e]
      rw [← ih]
      cases hv : lastV l ((n + 1 : Nat) : Int) with
      | some v =>
        rw [gthTo_some hv, findK_append]
        have hk' : ¬ ((n + 1 : Nat) : Int) = k := fun h => hk h.symm
        simp only [findK, if_neg hk', orV_none]
      | none => rw [gthTo_none hv]

theorem lastV_up {l : List PolD} (h : Up l) (k : Int) : lastV l k = findK l k := by
  unfold lastV
  induction l with
  | nil => rfl
  | cons p r ih =>
    have h' := List.pairwise_cons.1 h
    rw [List.reverse_cons, findK_append, ih h'.2]
    by_cases hk : p.k = k
    · rw [findK_absent k r fun x hx => by have := h'.1 x hx; omega]
      simp only [findK, if_pos hk, orV]
    · simp only [findK, if_neg hk, orV_none]
theorem lastV_append (l m : List PolD) (k : Int) : lastV (l ++ m) k = orV (lastV m k) (lastV l k) := by
  unfold lastV
  rw [List.reverse_append, findK_append]

theorem find_kind {l : List PolD} (h : ∀ p ∈ l, okP p.k p.v = true) {k : Int} (hk : ¬ (1 ≤ k ∧ k ≤ 13)) : findK l k = none :=
  findK_absent k l fun x hx => by
    have := h x hx
    simp [okP, isK] at this
    omega
/-- Whatever list of policies has the last values of a set, is gathered to that set. -/
theorem gth_eq {l m : List PolD} (hm : okS m = true) (h : ∀ k, lastV l k = findK m k) : gthTo l 13 = m :=
  up_ext _ _ (gthTo_up l 13) (okS_up hm) fun k => by
    rw [gthTo_find]
    by_cases hk : 1 ≤ k ∧ k ≤ 13
    · rw [if_pos (by simpa using hk), h]
    · rw [if_neg (by simpa using hk), find_kind (okS_val hm) hk]

theorem gth_two {s o : List PolD} (hs : okS s = true) (ho : okS o = true) : gthTo (s ++ o) 13 = mrg s o :=
  gth_eq (mrg_okS hs ho) fun k => by rw [lastV_append, lastV_up (okS_up hs), lastV_up (okS_up ho), mrg_find (okS_up hs) (okS_up ho)]
theorem gth_three {a b c : List PolD} (ha : okS a = true) (hb : okS b = true) (hc : okS c = true) : gthTo (a ++ b ++ c) 13 = mrg (mrg a b) c :=
  gth_eq (mrg_okS (mrg_okS ha hb) hc) fun k => by
    rw [lastV_append, lastV_append, lastV_up (okS_up ha), lastV_up (okS_up hb), lastV_up (okS_up hc), mrg_find (okS_up (mrg_okS ha hb)) (okS_up hc), mrg_find (okS_up ha) (okS_up hb)]

/-! ### Two sets are the same where they are so without their defaults -/

theorem findK_plain {l : List PolD} (h : Up l) (k : Int) : findK (l.filter fun p => plainP p.k p.v) k = if valOf l k = defV k then none else some (valOf l k) := by
  induction l with
  | nil => rw [if_pos (show valOf [] k = defV k from rfl)]; rfl
  | cons p r ih =>
    have h' := List.pairwise_cons.1 h
    have ih := ih h'.2
    by_cases hk : p.k = k
    · have hv : valOf (p :: r) k = p.v := by simp [valOf, findK, hk]
      rw [hv]
      by_cases hf : plainP p.k p.v = true
      · rw [List.filter_cons_of_pos (by simpa using hf)]
        have hne : ¬ p.v = defV k := by rw [← hk]; simpa [plainP] using hf
        rw [if_neg hne]
        simp only [findK, if_pos hk]
      · rw [List.filter_cons_of_neg (by simpa using hf)]
        have he : p.v = defV k := by rw [← hk]; simpa [plainP] using hf
        rw [if_pos he]
        exact findK_absent k _ fun x hx => by
          have h1 := h'.1 x (List.mem_filter.1 hx).1
          omega
    · have hv : valOf (p :: r) k = valOf r k := by simp only [valOf, findK, if_neg hk]
      rw [hv, ← ih]
      by_cases hf : plainP p.k p.v = true
      · rw [List.filter_cons_of_pos (by simpa using hf)]
        simp only [findK, if_neg hk]
      · rw [List.filter_cons_of_neg (by simpa using hf)]

/-- A row without what stands at its default. -/
def plainL (l : List PolD) : List PolD := l.filter fun p => plainP p.k p.v
theorem keptTo_all (l : List PolD) : keptTo l l.length = plainL l := by unfold keptTo plainL; rw [List.take_length]
/-- Have two rows the same value of each kind? -/
def sameTo (a b : List PolD) (n : Nat) : Prop := ∀ k : Nat, 1 ≤ k → k ≤ n → valOf a k = valOf b k

theorem same_iff {a b : List PolD} (ha : okS a = true) (hb : okS b = true) : plainL a = plainL b ↔ sameTo a b 13 := by
  constructor
  · intro h k _ _
    rw [← valOf_plain (k : Int) a (okS_up ha), ← valOf_plain (k : Int) b (okS_up hb)]
    exact congrArg (fun l => valOf l (k : Int)) h
  · intro h
    refine up_ext _ _ ((okS_up ha).filter _) ((okS_up hb).filter _) fun k => ?_
    rw [plainL, plainL, findK_plain (okS_up ha), findK_plain (okS_up hb)]
    by_cases hk : 1 ≤ k ∧ k ≤ 13
    · obtain ⟨n, rfl⟩ : ∃ n : Nat, k = n := ⟨k.toNat, by omega⟩
      rw [h n (by omega) (by omega)]
    · have e1 : valOf a k = defV k := by unfold valOf; rw [find_kind (okS_val ha) hk]; rfl
      have e2 : valOf b k = defV k := by unfold valOf; rw [find_kind (okS_val hb) hk]; rfl
      rw [e1, e2]

end Go.Proofs.YtladjkkkhomngaaDoor
