/- What the policies with which a call is made are like: they are a set, they clash as the full row does, and they are as strong as asked. No walk stands here. -/
import Derived.Test.YtladjkkkhomngaaDoorW
namespace Go.Proofs.YtladjkkkhomngaaDoor
set_option maxRecDepth 8000
open Go.RowKit Go.Sort Go.BigFrame

theorem findK_filter (f : PolD → Bool) (k : Int) : ∀ (l : List PolD), (∀ p ∈ l, p.k = k → f p = true) → findK (l.filter f) k = findK l k
  | [], _ => rfl
  | p :: r, h => by
    have ih := findK_filter f k r fun x hx => h x (List.mem_cons_of_mem _ hx)
    by_cases hk : p.k = k
    · have hf := h p (List.mem_cons_self ..) hk
      rw [List.filter_cons_of_pos hf]
      simp only [findK, if_pos hk]
    · by_cases hf : f p = true
      · rw [List.filter_cons_of_pos hf]
        simp only [findK, if_neg hk]
        exact ih
      · rw [List.filter_cons_of_neg hf]
        simp only [findK, if_neg hk]
        exact ih

theorem findK_part {l : List PolD} {q : Int} (h : betw 8 13 q = true) : findK (partTo 8 13 l l.length) q = findK l q := by
  unfold partTo
  rw [List.take_length]
  exact findK_filter _ q l fun p _ hp => by rw [hp]; exact h
theorem valOf_part {l : List PolD} {q : Int} (h : betw 8 13 q = true) : valOf (partTo 8 13 l l.length) q = valOf l q := by unfold valOf; rw [findK_part h]
theorem hasOf_part {l : List PolD} {q : Int} (h : betw 8 13 q = true) : hasOf (partTo 8 13 l l.length) q = hasOf l q := by unfold hasOf; rw [findK_part h]

theorem findK_absent (k : Int) : ∀ (l : List PolD), (∀ p ∈ l, p.k ≠ k) → findK l k = none
  | [], _ => rfl
  | p :: r, h => by
    simp only [findK, if_neg (h p (List.mem_cons_self ..))]
    exact findK_absent k r fun x hx => h x (List.mem_cons_of_mem _ hx)

theorem valOf_plain (q : Int) : ∀ (l : List PolD), l.Pairwise (fun a b => a.k < b.k) → valOf (l.filter fun p => plainP p.k p.v) q = valOf l q
  | [], _ => rfl
  | p :: r, h => by
    have hr := List.pairwise_cons.1 h
    have ih := valOf_plain q r hr.2
    by_cases hk : p.k = q
    · by_cases hf : plainP p.k p.v = true
      · rw [List.filter_cons_of_pos (by simpa using hf)]
        simp only [valOf, findK, if_pos hk]
      · rw [List.filter_cons_of_neg (by simpa using hf)]
        have hv : p.v = defV q := by
          rw [← hk]
          simpa [plainP] using hf
        have hn : findK (r.filter fun p => plainP p.k p.v) q = none := findK_absent q _ fun x hx => by
          have h1 := hr.1 x (List.mem_filter.1 hx).1
          omega
        simp only [valOf, findK, if_pos hk, hn, Option.getD_none, Option.getD_some]
        exact hv.symm
    · by_cases hf : plainP p.k p.v = true
      · rw [List.filter_cons_of_pos (by simpa using hf)]
        simp only [valOf, findK, if_neg hk] at ih ⊢
        exact ih
      · rw [List.filter_cons_of_neg (by simpa using hf)]
        simp only [valOf, findK, if_neg hk] at ih ⊢
        exact ih

theorem okS_mk {l : List PolD} (h1 : ∀ p ∈ l, okP p.k p.v = true) (h2 : l.Pairwise (fun a b => a.k < b.k)) : okS l = true :=
  okS_true fun i hi hl => ⟨h1 _ (List.getElem_mem hl), fun h0 => List.pairwise_iff_getElem.1 h2 (i - 1) i (by omega) hl (by omega)⟩

theorem okP_mk {k v : Int} (h1 : 1 ≤ k) (h2 : k ≤ 13) (h3 : defV k ≤ v) (h4 : v ≤ mostV k) : okP k v = true := by
  simp [okP, isK, h1, h2, h3, h4]

theorem agL_six (c s : List PolD) : agL c s 6 = [⟨8, agreedV c s 8⟩, ⟨9, agreedV c s 9⟩, ⟨10, agreedV c s 10⟩, ⟨11, agreedV c s 11⟩, ⟨12, agreedV c s 12⟩, ⟨13, agreedV c s 13⟩] := by
  simp [agL]

theorem agL_up (c s : List PolD) : (agL c s 6).Pairwise (fun a b => a.k < b.k) := by
  rw [agL_six]
  simp [List.pairwise_cons]

theorem strongV_or (x y a b : Int) : strongV x y a b = a ∨ strongV x y a b = b := by
  unfold strongV
  split
  · exact .inr rfl
  · exact .inl rfl

theorem agreed_bd {c s : List PolD} (k1 : okS c = true) (k2 : okS s = true) (q : Int) : defV q ≤ agreedV c s q ∧ agreedV c s q ≤ mostV q := by
  have c1 := fun q => valOf_bd k1 q
  have c2 := fun q => valOf_bd k2 q
  unfold agreedV
  split
  · subst q
    rcases strongV_or (valOf c 8) (valOf s 8) (valOf c 8) (valOf s 8) with h | h <;> rw [h]
    · exact c1 8
    · exact c2 8
  split
  · subst q
    rcases strongV_or (cS (valOf c 9)) (cS (valOf s 9)) (valOf c 9) (valOf s 9) with h | h <;> rw [h]
    · exact c1 9
    · exact c2 9
  split
  · subst q
    split
    · exact c2 10
    · exact c1 10
  split
  · subst q
    have h1 := c1 12
    have h2 := c2 12
    split
    · omega
    · exact h1
  split
  · subst q
    split
    · exact c2 13
    · exact c1 13
  · exact c1 q

theorem keptTo_six (c s : List PolD) : keptTo (agL c s 6) 6 = (agL c s 6).filter fun p => plainP p.k p.v := by
  unfold keptTo
  rw [List.take_of_length_le (by rw [agL_len]; omega)]

/-- What is kept is a set. -/
theorem kept_okS {c s : List PolD} (k1 : okS c = true) (k2 : okS s = true) : okS (keptTo (agL c s 6) 6) = true := by
  rw [keptTo_six]
  refine okS_mk (fun p hp => ?_) ((agL_up c s).filter _)
  have hp := (List.mem_filter.1 hp).1
  rw [agL_six] at hp
  have hb := fun q => agreed_bd k1 k2 q
  simp only [List.mem_cons, List.not_mem_nil, or_false] at hp
  rcases hp with rfl | rfl | rfl | rfl | rfl | rfl <;> exact okP_mk (by simp) (by simp) (hb _).1 (hb _).2

theorem kept_valOf (c s : List PolD) (q : Int) : valOf (keptTo (agL c s 6) 6) q = valOf (agL c s 6) q := by
  rw [keptTo_six]
  exact valOf_plain q _ (agL_up c s)

theorem agL_valOf (c s : List PolD) (q : Int) (h1 : 8 ≤ q) (h2 : q ≤ 13) : valOf (agL c s 6) q = agreedV c s q := by
  rw [agL_six]
  have hq : q = 8 ∨ q = 9 ∨ q = 10 ∨ q = 11 ∨ q = 12 ∨ q = 13 := by omega
  rcases hq with rfl | rfl | rfl | rfl | rfl | rfl <;> simp [valOf, findK]
theorem agL_valOf_low (c s : List PolD) (q : Int) (h2 : q ≤ 7) : valOf (agL c s 6) q = defV q := by
  unfold valOf
  rw [findK_absent q _ (fun p hp => ?_)]
  · rfl
  · rw [agL_six] at hp
    simp only [List.mem_cons, List.not_mem_nil, or_false] at hp
    rcases hp with rfl | rfl | rfl | rfl | rfl | rfl <;> (intro e; simp only at e; omega)

theorem clAt_kept (c s : List PolD) (n : Nat) : clAt (keptTo (agL c s 6) 6) n = clAt (agL c s 6) n := by
  unfold clAt
  rw [kept_valOf, kept_valOf]
theorem clTo_kept (c s : List PolD) : ∀ n, clTo (keptTo (agL c s 6) 6) n = clTo (agL c s 6) n
  | 0 => rfl
  | n + 1 => by simp only [clTo, clAt_kept, clTo_kept c s n]

theorem clTo_four (c s : List PolD) : clTo (agL c s 6) 4 = [] := by
  have h3 := agL_valOf_low c s 3 (by decide)
  have h4 := agL_valOf_low c s 4 (by decide)
  have h5 := agL_valOf_low c s 5 (by decide)
  have h6 := agL_valOf_low c s 6 (by decide)
  have h7 := agL_valOf_low c s 7 (by decide)
  simp only [clTo]
  have a0 : clAt (agL c s 6) 0 = false := by simp [clAt, clK, h3, h6, clB, defV]
  have a1 : clAt (agL c s 6) 1 = false := by simp [clAt, clK, h4, h7, clB, defV]
  have a2 : clAt (agL c s 6) 2 = false := by simp [clAt, clK, h5, h6, clB, defV]
  have a3 : clAt (agL c s 6) 3 = false := by simp [clAt, clK, h5, h7, clB, defV]
  simp [a0, a1, a2, a3]

theorem clTo_seven (l : List PolD) : ∀ p ∈ clTo l 7, p ∈ clTo l 4 ∨ 8 ≤ p.1 := by
  intro p hp
  have e7 : clTo l 7 = if clAt l 6 = true then clTo l 6 ++ [clK 6] else clTo l 6 := rfl
  have e6 : clTo l 6 = if clAt l 5 = true then clTo l 5 ++ [clK 5] else clTo l 5 := rfl
  have e5 : clTo l 5 = if clAt l 4 = true then clTo l 4 ++ [clK 4] else clTo l 4 := rfl
  have k6 : clK 6 = (10, 13) := rfl
  have k5 : clK 5 = (9, 11) := rfl
  have k4 : clK 4 = (8, 11) := rfl
  have m6 : p ∈ clTo l 6 ∨ 8 ≤ p.1 := by
    rw [e7] at hp
    split at hp
    · rcases List.mem_append.1 hp with h | h
      · exact .inl h
      · rw [k6] at h
        obtain rfl := List.mem_singleton.1 h
        exact .inr (by decide)
    · exact .inl hp
  rcases m6 with hp | h
  · have m5 : p ∈ clTo l 5 ∨ 8 ≤ p.1 := by
      rw [e6] at hp
      split at hp
      · rcases List.mem_append.1 hp with h | h
        · exact .inl h
        · rw [k5] at h
          obtain rfl := List.mem_singleton.1 h
          exact .inr (by decide)
      · exact .inl hp
    rcases m5 with hp | h
    · rw [e5] at hp
      split at hp
      · rcases List.mem_append.1 hp with h | h
        · exact .inl h
        · rw [k4] at h
          obtain rfl := List.mem_singleton.1 h
          exact .inr (by decide)
      · exact .inl hp
    · exact .inr h
  · exact .inr h

theorem clTo_first {c s : List PolD} {p : Int × Int} {rest : List (Int × Int)} (h : clTo (agL c s 6) 7 = p :: rest) : 8 ≤ p.1 := by
  have hp : p ∈ clTo (agL c s 6) 7 := by rw [h]; exact List.mem_cons_self ..
  rcases clTo_seven _ p hp with h1 | h1
  · rw [clTo_four] at h1
    cases h1
  · exact h1

/-! ### As strong as asked -/

end Go.Proofs.YtladjkkkhomngaaDoor
