/- THE MATHEMATICS of the law: what is written is read; what is chosen is spoken by both. -/
import Derived.Test.YtnebjdjebnphnaaDoorIb
namespace Go.Proofs.YtnebjdjebnphnaaDoor
set_option maxRecDepth 8000

theorem index_sep : ∀ (x r : List UInt8), (44 : UInt8) ∉ x → Lib.index (x ++ 44 :: r) [44] = x.length
  | [], r, _ => by simp [Lib.index, List.isPrefixOf]
  | b :: x, r, h => by
    have hb : ¬ (44 : UInt8) = b := fun e => h (by simp [e])
    have ih := index_sep x r (fun g => h (by simp [g]))
    rw [List.cons_append, Lib.index, if_neg (by simp [List.isPrefixOf, hb]), ih, if_neg (by first | (simp; done) | (simp; omega))]
    simp
theorem index_none : ∀ (x : List UInt8), (44 : UInt8) ∉ x → Lib.index x [44] = -1
  | [], _ => by simp [Lib.index]
  | b :: x, h => by
    have hb : ¬ (44 : UInt8) = b := fun e => h (by simp [e])
    have ih := index_none x (fun g => h (by simp [g]))
    rw [Lib.index, if_neg (by simp [List.isPrefixOf, hb]), ih, if_pos (by rfl)]
theorem join_cons (x y : List UInt8) (r : List (List UInt8)) : Lib.join (x :: y :: r) [44] = x ++ 44 :: Lib.join (y :: r) [44] := by simp [Lib.join, List.intercalate, List.intersperse]
theorem join_one (x : List UInt8) : Lib.join [x] [44] = x := by simp [Lib.join, List.intercalate]
theorem split_join : ∀ (x : List UInt8) (r : List (List UInt8)), (∀ y ∈ x :: r, (44 : UInt8) ∉ y) → Lib.splitK [44] 0 r.length (Lib.join (x :: r) [44]) = x :: r
  | x, [], _ => by simp [Lib.splitK, join_one]
  | x, y :: r, h => by
    have ih := split_join y r (fun z hz => h z (by simp at hz ⊢; exact .inr hz))
    rw [join_cons, List.length_cons, Lib.splitK, index_sep x _ (h x (by simp)), if_neg (by first | (simp; done) | (simp; omega))]
    simp [ih]
theorem count_join : ∀ (x : List UInt8) (r : List (List UInt8)) (f : Nat), (∀ y ∈ x :: r, (44 : UInt8) ∉ y) → r.length < f → Lib.countFrom [44] f (Lib.join (x :: r) [44]) = r.length
  | x, [], f + 1, h, _ => by rw [join_one, Lib.countFrom, index_none x (h x (by simp))]; rfl
  | x, y :: r, f + 1, h, hf => by
    have ih := count_join y r f (fun z hz => h z (by simp at hz ⊢; exact .inr hz)) (by simp at hf; omega)
    rw [join_cons, Lib.countFrom, index_sep x _ (h x (by simp)), if_neg (by first | (simp; done) | (simp; omega))]
    simp [ih]
    omega
theorem join_long : ∀ (x : List UInt8) (r : List (List UInt8)), r.length ≤ (Lib.join (x :: r) [44]).length
  | x, [] => by simp
  | x, y :: r => by
    have ih := join_long y r
    rw [join_cons]
    simp only [List.length_append, List.length_cons] at ih ⊢
    omega
theorem count_joined (x : List UInt8) (r : List (List UInt8)) (h : ∀ y ∈ x :: r, (44 : UInt8) ∉ y) : Lib.count (Lib.join (x :: r) [44]) [44] = r.length :=
  count_join x r _ h (by have := join_long x r; omega)

theorem name_clean (x : Int) : (44 : UInt8) ∉ (nameB x).data.toList := by
  unfold nameB
  repeat' split
  all_goals decide
/-- THE PARTS OF CODES' TEXT are their names. -/
theorem parts_fmt (n : Int) (l : List Int) : partsB (nameB n ++ catN l) = nameB n :: l.map nameB := by
  have hc : ∀ y ∈ (nameB n).data.toList :: l.map (fun x => (nameB x).data.toList), (44 : UInt8) ∉ y := by
    intro y hy
    rcases List.mem_cons.1 hy with rfl | hy
    · exact name_clean n
    · obtain ⟨q, _, rfl⟩ := List.mem_map.1 hy
      exact name_clean q
  have e1 : (nameB n ++ catN l).data.toList = Lib.join ((nameB n).data.toList :: l.map (fun x => (nameB x).data.toList)) [44] := by
    rw [← fmt_join]
    simp
    rfl
  have hcount : Lib.countB (nameB n ++ catN l) ⟨#[44]⟩ = l.length := by
    have := count_joined _ _ hc
    rw [← e1, List.length_map] at this
    exact this
  have h2 := Lib.splitB_data ⟨#[44]⟩ 0 l.length (nameB n ++ catN l)
  have h3 := split_join _ _ hc
  rw [List.length_map, ← e1] at h3
  have h4 : (partsB (nameB n ++ catN l)).map (·.data.toList) = (nameB n :: l.map nameB).map (·.data.toList) := by
    unfold partsB
    rw [hcount, h2]
    refine h3.trans ?_
    simp
  refine List.map_inj_right (fun x y e => ?_) |>.1 h4
  cases x; cases y; simp only at e
  rw [Array.toList_inj.1 e]

theorem setN_name {x : Int} (h : isSetB x = true) : setN (nameB x) = x := by
  unfold isSetB at h
  simp only [Bool.and_eq_true, decide_eq_true_eq] at h
  have hh : x = 1 ∨ x = 2 ∨ x = 3 ∨ x = 4 ∨ x = 5 := by omega
  rcases hh with rfl | rfl | rfl | rfl | rfl <;> decide
theorem nums_names {n : Int} {l : List Int} (h : ∀ x ∈ n :: l, isSetB x = true) : numsP (nameB n :: l.map nameB) = n :: l := by
  unfold numsP
  rw [← List.map_cons (f := nameB), List.map_map]
  refine (List.map_congr_left fun x hx => ?_).trans (List.map_id _)
  exact setN_name (h x hx)
theorem valid_mem {n : Int} {l : List Int} (h : validC n l = true) : ∀ x ∈ n :: l, isSetB x = true := by
  intro x hx
  rcases List.mem_cons.1 hx with rfl | hx
  · exact (validC_parts h).1
  · obtain ⟨k, hk, rfl⟩ := List.getElem_of_mem hx
    exact validC_at h (List.getElem?_eq_getElem hk)
theorem prs_fmt {n : Int} {l : List Int} (h : validC n l = true) : prsOk (fmtB n l) = true ∧ prsE (fmtB n l) = 0 ∧ prsN (fmtB n l) = n ∧ prsL (fmtB n l) = l := by
  have hf : fmtB n l = nameB n ++ catN l := by unfold fmtB; rw [if_pos h]
  have hn := nums_names (valid_mem h)
  have hok : prsOk (fmtB n l) = true := by
    unfold prsOk
    rw [hf, parts_fmt, hn]
    have h1 : allN (n :: l) = true := by
      unfold allN
      refine List.all_eq_true.2 fun x hx => ?_
      have := valid_mem h x hx
      unfold isSetB at this
      simp only [Bool.and_eq_true, decide_eq_true_eq] at this
      rw [decide_eq_false (by omega)]
      rfl
    rw [h1]
    exact h
  unfold prsE prsN prsL
  rw [if_pos hok, if_pos hok, if_pos hok, hf, parts_fmt, hn]
  exact ⟨by rw [← hf]; exact hok, rfl, rfl, rfl⟩
theorem fmt_size (n : Int) (l : List Int) : (fmtB n l).size ≤ 2000 := by
  unfold fmtB
  split
  · rename_i h
    have h1 := (validC_parts h).2.1
    have h2 := name_size n
    have h3 := catN_size l
    rw [ByteArray.size_append]
    omega
  · decide

theorem speaks_own (n : Int) (l : List Int) : speaksC n l n = true := by
  unfold speaksC
  rw [decide_eq_true rfl]
  rfl
theorem hasI_mem {l : List Int} {x : Int} (h : x ∈ l) : hasI l x = true := by
  unfold hasI
  rw [List.contains_eq_mem]
  exact decide_eq_true h
theorem com_has {n : Int} {l : List Int} {m : Int} {r : List Int} {x : Int} (h : (validC n l && validC m r) = true) (hx : isSetB x = true) (h1 : speaksC n l x = true) (h2 : speaksC m r x = true) : hasI (comL n l m r) x = true := by
  unfold comL
  rw [if_pos h]
  unfold isSetB at hx
  simp only [Bool.and_eq_true, decide_eq_true_eq] at hx
  exact hasI_mem (comG_mem hx.1 hx.2 (by unfold comP; rw [h1, h2]; rfl))
/-- WHAT IS CHOSEN is spoken by both, or utf8; of equal natives it is that. -/
theorem chosen_ok {n : Int} {l : List Int} {m : Int} {r : List Int} (h : chE n l m r = 0) : validC n l = true ∧ (decide (chN n l m r = 3) || hasI (comL n l m r) (chN n l m r)) = true ∧ (n = m → chN n l m r = n) := by
  cases hv : validC n l && validC m r with
  | false =>
    unfold chE at h
    rw [if_pos hv] at h
    omega
  | true =>
    have hv' := hv
    rw [Bool.and_eq_true] at hv'
    refine ⟨hv'.1, ?_⟩
    unfold chE at h
    have hnv : ¬ (validC n l && validC m r) = false := by rw [hv]; decide
    rw [if_neg hnv] at h
    cases h1 : speaksC n l m with
    | true =>
      have hc : chN n l m r = m := by unfold chN; rw [if_neg hnv, if_pos h1]
      rw [hc]
      exact ⟨by rw [com_has hv (validC_parts hv'.2).1 h1 (speaks_own m r), Bool.or_true], fun e => e.symm⟩
    | false =>
      have hne : n ≠ m := fun e => by
        rw [← e, speaks_own] at h1
        exact absurd h1 (by decide)
      have h1' : ¬ speaksC n l m = true := by rw [h1]; decide
      refine ⟨?_, fun e => absurd e hne⟩
      rw [if_neg h1'] at h
      cases h2 : speaksC m r n with
      | true =>
        have hc : chN n l m r = n := by unfold chN; rw [if_neg hnv, if_neg h1', if_pos h2]
        rw [hc, com_has hv (validC_parts hv'.1).1 (speaks_own n l) h2, Bool.or_true]
      | false =>
        have h2' : ¬ speaksC m r n = true := by rw [h2]; decide
        rw [if_neg h2'] at h
        cases hf : l.find? (speaksC m r) with
        | some x =>
          have hc : chN n l m r = x := by unfold chN; rw [if_neg hnv, if_neg h1', if_neg h2', hf]
          have hxm := List.mem_of_find?_eq_some hf
          have hxs := List.find?_some hf
          rw [hc, com_has hv (valid_mem hv'.1 x (List.mem_cons_of_mem _ hxm)) (by unfold speaksC; rw [hasI_mem hxm, Bool.or_true]) hxs, Bool.or_true]
        | none =>
          rw [hf] at h
          simp only at h
          by_cases h4 : n = 4 ∨ m = 4
          · rw [if_pos h4] at h
            omega
          · have hc : chN n l m r = 3 := by unfold chN; rw [if_neg hnv, if_neg h1', if_neg h2', hf]; simp only; rw [if_neg h4]
            rw [hc]
            rfl

end Go.Proofs.YtnebjdjebnphnaaDoor
