/- What is cut joins again to what it was: the mathematics of FragCuts. -/
import Derived.Test.YtclhnpbjmefpeaaT
namespace Go.Proofs.Ytclhnpbjmefpeaa
open Go.RowKit Go.BigFrame

theorem extract_join (b : ByteArray) (n : Nat) (h : n ≤ b.size) : b.extract 0 n ++ b.extract n b.size = b := by
  apply ByteArray.ext
  apply Array.toList_inj.1
  simp [h]

/-- What every piece that is cut is like. -/
structure CutAt (id : Int) (k len m : Nat) (i : Nat) (p : Pc) : Prop where
  id : p.id = id
  place : p.place = ((k + i : Nat) : Int)
  more : p.more = decide (i + 1 < len)
  few : p.body.size ≤ m
  some : p.more = true → ¬ p.body.size = 0
theorem cut_one (id : Int) (k m : Nat) (b : ByteArray) (h : b.size ≤ m) : ∀ i (h : i < [(⟨id, k, false, b⟩ : Pc)].length), CutAt id k 1 m i [(⟨id, k, false, b⟩ : Pc)][i] := fun i hi => by
  obtain rfl : i = 0 := by simpa using hi
  exact ⟨rfl, by simp, by simp, h, fun h => by cases h⟩
theorem cut_at (id : Int) (g : Nat → Option Nat) (m : Nat) : ∀ (n k : Nat) (b : ByteArray), b.size ≤ n → b.size ≤ m → 1 ≤ (cutP id g k b).length ∧ catB (cutP id g k b) = b ∧ ∀ i (h : i < (cutP id g k b).length), CutAt id k (cutP id g k b).length m i (cutP id g k b)[i] := by
  have one : ∀ (k : Nat) (b : ByteArray), b.size ≤ m → cutP id g k b = [⟨id, k, false, b⟩] → 1 ≤ (cutP id g k b).length ∧ catB (cutP id g k b) = b ∧ ∀ i (h : i < (cutP id g k b).length), CutAt id k (cutP id g k b).length m i (cutP id g k b)[i] := by
    intro k b hb e
    rw [e]
    refine ⟨by simp, ?_, cut_one id k m b hb⟩
    apply ByteArray.ext
    simp [catB]
  intro n
  induction n with
  | zero =>
    intro k b hn hm
    refine one k b hm ?_
    cases hg : g k with
    | none => exact cut_none hg
    | some s => exact cut_last hg (by omega)
  | succ n ih =>
    intro k b hn hm
    cases hg : g k with
    | none => exact one k b hm (cut_none hg)
    | some s =>
      by_cases h2 : 0 < s ∧ s < b.size
      · obtain ⟨h3, h4, h5⟩ := ih (k + 1) (b.extract s b.size) (by rw [size_drop]; omega) (by rw [size_drop]; omega)
        have e := cut_more (id := id) hg h2.1 h2.2
        rw [e]
        refine ⟨by simp, by rw [catB, h4, extract_join b s (by omega)], ?_⟩
        intro i hi
        cases i with
        | zero =>
          have hs := size_take b s (by omega)
          refine ⟨rfl, by simp, ?_, ?_, fun _ => ?_⟩
          · simp only [List.getElem_cons_zero, List.length_cons]
            rw [decide_eq_true (by omega)]
          · simp only [List.getElem_cons_zero]; omega
          · simp only [List.getElem_cons_zero]; omega
        | succ i =>
          have h6 := h5 i (by simpa using hi)
          simp only [List.getElem_cons_succ, List.length_cons]
          refine ⟨h6.id, by rw [h6.place]; congr 1; omega, ?_, h6.few, h6.some⟩
          rw [h6.more]
          exact decide_eq_decide.2 (by omega)
      · refine one k b hm ?_
        rw [cutP, hg]
        simp only
        rw [dif_neg h2]
theorem ordN_all {l : List Pc} (h : ∀ i, i < l.length → okAt l i = true) : ∀ n, n ≤ l.length → ordN l n = true
  | 0, _ => rfl
  | n + 1, hn => by rw [ordN, ordN_all h n (by omega), h n (by omega)]; rfl

/-- What is cut of a small message is valid, and joins to it. -/
theorem cut_joined (id : Int) (g : Nat → Option Nat) (b : ByteArray) (hm : msgB id b = true) (hs : b.size ≤ 300) : okL (cutP id g 0 b) = true ∧ joinE (cutP id g 0 b) = 0 ∧ idOf (cutP id g 0 b) = id ∧ catB (cutP id g 0 b) = b := by
  obtain ⟨h1, h2, h3⟩ := cut_at id g 300 b.size 0 b (Nat.le_refl _) hs
  have h4 := cut_len id g b.size 0 b (Nat.le_refl _)
  obtain ⟨l, hl⟩ : ∃ l, cutP id g 0 b = l := ⟨_, rfl⟩
  rw [hl] at h1 h2 h3 h4 ⊢
  have hid : idOf l = id := by rw [idOf_at (by omega)]; exact (h3 0 (by omega)).id
  have hnum : numB id = true := by
    simp only [msgB, Bool.and_eq_true] at hm
    exact hm.1
  refine ⟨?_, ?_, hid, h2⟩
  · unfold okL
    rw [decide_eq_true (by omega), Bool.true_and]
    refine allV_all fun i hi hil => ?_
    have h5 := h3 i hil
    obtain ⟨p, hp⟩ : ∃ p, l[i] = p := ⟨_, rfl⟩
    rw [hp] at h5 ⊢
    obtain ⟨e1, e2, e3, e4, e5⟩ := h5
    have n1 : numB p.place = true := by
      simp only [numB, Bool.and_eq_true, decide_eq_true_eq]
      rw [e2]; omega
    unfold vP
    rw [e1, hnum, n1, decide_eq_true (by omega : p.body.size ≤ 65536)]
    cases hmo : p.more with
    | false => rfl
    | true => rw [decide_eq_false (e5 hmo)]; rfl
  · refine joinE_ok (by omega) (same_all fun i hi hil => by rw [hid]; exact (h3 i hil).id) (ordN_all (fun i hi => ?_) _ (Nat.le_refl _)) (by rw [h2]; omega)
    have h5 := h3 i hi
    rw [okAt_at hi, h5.place, h5.more, Nat.zero_add, decide_eq_true rfl, Bool.true_and]
    simp only [beq_iff_eq]
    exact decide_eq_decide.2 (by omega)

/-- .. for both ways of cutting. -/
theorem cutL_joined {id : Int} {b : ByteArray} {n : Int} (h : cutE id b n = 0) (hs : b.size ≤ 300) : okL (cutL id b n) = true ∧ jnE (cutL id b n) = 0 ∧ jnI (cutL id b n) = id ∧ jnB (cutL id b n) = b ∧ ∀ o, agL (cutL id b n) o = cutL id b o ∧ agE (cutL id b n) o = cutE id b o := by
  have hm : msgB id b = true := by
    cases hm : msgB id b with
    | true => rfl
    | false => unfold cutE at h; rw [if_neg (by rw [hm]; decide)] at h; cases h
  have hz : sizeB n = true := by
    cases hz : sizeB n with
    | true => rfl
    | false => unfold cutE at h; rw [if_pos hm, if_neg (by rw [hz]; decide)] at h; cases h
  have e : cutL id b n = cutP id (fun _ => some n.toNat) 0 b := by unfold cutL; rw [if_pos hm, if_pos hz]
  obtain ⟨h1, h2, h3, h4⟩ := cut_joined id (fun _ => some n.toNat) b hm hs
  rw [← e] at h1 h2 h3 h4
  have h5 : jnE (cutL id b n) = 0 := by rw [jnE_ok h1, h2]
  refine ⟨h1, h5, by rw [jnI, if_pos h5, h3], by rw [jnB, if_pos h5, h4], fun o => ?_⟩
  unfold agL agE
  rw [if_pos h1, if_pos h1, if_pos h2, if_pos h2, h3, h4]
  cases ho : sizeB o with
  | true => exact ⟨rfl, rfl⟩
  | false => exact ⟨by rw [if_neg (by decide)]; unfold cutL; rw [if_pos hm, if_neg (by rw [ho]; decide)], by rw [if_neg (by decide)]; unfold cutE; rw [if_pos hm, if_neg (by rw [ho]; decide)]⟩
theorem sizL_joined {id : Int} {b : ByteArray} {ss : List Int} (h : sizE id b ss = 0) (hs : b.size ≤ 300) : jnE (sizL id b ss) = 0 ∧ jnI (sizL id b ss) = id ∧ jnB (sizL id b ss) = b := by
  have hm : msgB id b = true := by
    cases hm : msgB id b with
    | true => rfl
    | false => unfold sizE at h; rw [if_neg (by rw [hm]; decide)] at h; cases h
  have hz : allS ss = true := by
    cases hz : allS ss with
    | true => rfl
    | false => unfold sizE at h; rw [if_pos hm, if_neg (by rw [hz]; decide)] at h; cases h
  have e : sizL id b ss = cutP id (gS ss) 0 b := by unfold sizL; rw [if_pos hm, if_pos hz]
  obtain ⟨h1, h2, h3, h4⟩ := cut_joined id (gS ss) b hm hs
  rw [← e] at h1 h2 h3 h4
  have h5 : jnE (sizL id b ss) = 0 := by rw [jnE_ok h1, h2]
  exact ⟨h5, by rw [jnI, if_pos h5, h3], by rw [jnB, if_pos h5, h4]⟩
theorem sizL_few (id : Int) (b : ByteArray) (ss : List Int) : (sizL id b ss).length ≤ 65537 := by
  cases hm : msgB id b
  · unfold sizL; rw [if_neg (by rw [hm]; decide)]; simp
  · have h1 := sizL_len id b ss
    have h2 := msg_body hm
    omega

end Go.Proofs.Ytclhnpbjmefpeaa
