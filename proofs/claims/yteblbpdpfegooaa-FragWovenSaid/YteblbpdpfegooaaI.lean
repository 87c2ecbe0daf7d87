/- THE MATHEMATICS of weaving: lists, one piece of one of them at a time. -/
import Derived.Test.YteblbpdpfegooaaB
namespace Go.Proofs.Yteblbpdpfegooaa
open Go.RowKit

/-- The lists that have some left. -/
def ne (S : List (List Pc)) : List (List Pc) := S.filter fun l => !l.isEmpty

/-- How much is left. -/
def total : List (List Pc) → Nat
  | [] => 0
  | x :: r => x.length + total r

def wvN : Nat → List Nat → List (List Pc) → List Pc
  | 0, _, _ => []
  | f + 1, ts, S => match (ne S)[ts.headD 0 % (ne S).length]? with
    | some (p :: r) => p :: wvN f ts.tail ((ne S).set (ts.headD 0 % (ne S).length) r)
    | _ => []

/-- What is woven, by turns, then from the first one on. -/
def wv (ts : List Nat) (S : List (List Pc)) : List Pc := wvN (total S) ts S

theorem total_ne : ∀ S, total (ne S) = total S
  | [] => rfl
  | x :: r => by
    have ih := total_ne r
    unfold ne at ih ⊢
    cases x with
    | nil => simpa [List.filter_cons, total] using ih
    | cons p t => simp only [List.filter_cons, List.isEmpty_cons, Bool.not_false, if_true, total]; rw [ih]

theorem ne_ne (S : List (List Pc)) : ne (ne S) = ne S := by unfold ne; rw [List.filter_filter]; congr 1; funext x; simp

theorem ne_mem {S : List (List Pc)} {x : List Pc} (h : x ∈ ne S) : x ≠ [] := by
  have := (List.mem_filter.1 h).2
  intro e
  subst e
  simp at this

theorem total_set : ∀ (S : List (List Pc)) (i : Nat) (p : Pc) (r : List Pc), S[i]? = some (p :: r) → total (S.set i r) + 1 = total S
  | [], i, p, r, h => by simp at h
  | x :: t, 0, p, r, h => by
    have : x = p :: r := by simpa using h
    subst this
    simp only [List.set_cons_zero, total, List.length_cons]
    omega
  | x :: t, i + 1, p, r, h => by
    have := total_set t i p r (by simpa using h)
    simp only [List.set_cons_succ, total]
    omega

theorem wvN_ne (f : Nat) (ts : List Nat) (S : List (List Pc)) : wvN f ts S = wvN f ts (ne S) := by
  cases f with
  | zero => rfl
  | succ f => simp only [wvN, ne_ne]

theorem wv_of_ne {ts : List Nat} {S S' : List (List Pc)} (h : ne S = ne S') : wv ts S = wv ts S' := by
  unfold wv
  have : total S = total S' := by rw [← total_ne, h, total_ne]
  rw [wvN_ne, wvN_ne (total S'), h, this]

theorem wv_end {ts : List Nat} {S : List (List Pc)} (h : ne S = []) : wv ts S = [] := by
  unfold wv
  have : total S = 0 := by rw [← total_ne, h]; rfl
  rw [this]
  rfl

theorem wv_step {ts : List Nat} {S : List (List Pc)} {p : Pc} {r : List Pc} (h : (ne S)[ts.headD 0 % (ne S).length]? = some (p :: r)) : wv ts S = p :: wv ts.tail ((ne S).set (ts.headD 0 % (ne S).length) r) := by
  have h1 := total_set _ _ _ _ h
  rw [total_ne] at h1
  unfold wv
  rw [← h1]
  simp only [wvN]
  rw [h]

/-- Some list has some left: then the turn takes a piece. -/
theorem turn_some {S : List (List Pc)} (n : Nat) (h : ne S ≠ []) : ∃ p r, (ne S)[n % (ne S).length]? = some (p :: r) := by
  have hl : 0 < (ne S).length := List.length_pos_iff.2 h
  have hi := Nat.mod_lt n hl
  have hm := List.getElem_mem hi
  have hne := ne_mem hm
  rw [List.getElem?_eq_getElem hi]
  cases hx : (ne S)[n % (ne S).length] with
  | nil => exact absurd hx hne
  | cons p r => exact ⟨p, r, rfl⟩

theorem wv_len : ∀ (n : Nat) (ts : List Nat) (S : List (List Pc)), total S = n → (wv ts S).length = n
  | 0, ts, S, h => by unfold wv; rw [h]; rfl
  | n + 1, ts, S, h => by
    have hne : ne S ≠ [] := by
      intro e
      have := total_ne S
      rw [e, h] at this
      simp [total] at this
    obtain ⟨p, r, hp⟩ := turn_some (ts.headD 0) hne
    rw [wv_step hp, List.length_cons]
    have h1 := total_set _ _ _ _ hp
    rw [total_ne, h] at h1
    rw [wv_len n ts.tail _ (by omega)]

theorem ne_nil_total {S : List (List Pc)} : ne S = [] ↔ total S = 0 := by
  constructor
  · intro h
    rw [← total_ne, h]
    rfl
  · intro h
    cases hn : ne S with
    | nil => rfl
    | cons x t =>
      have hx : x ∈ ne S := by rw [hn]; exact List.mem_cons_self ..
      have h2 := total_ne S
      rw [hn, h] at h2
      have : x.length = 0 := by simp only [total] at h2; omega
      exact absurd (List.eq_nil_of_length_eq_zero this) (ne_mem hx)

/-- The places of the lists that have some left. -/
def nz : List (List Pc) → Nat → List Nat
  | [], _ => []
  | [] :: r, o => nz r (o + 1)
  | (_ :: _) :: r, o => o :: nz r (o + 1)

theorem nz_spec : ∀ (S : List (List Pc)) (o i : Nat) (x : List Pc), (ne S)[i]? = some x → ∃ k, (nz S o)[i]? = some (o + k) ∧ S[k]? = some x ∧ ∀ r, ne (S.set k r) = ne ((ne S).set i r)
  | [], o, i, x, h => by simp [ne] at h
  | [] :: t, o, i, x, h => by
    have e : ne ([] :: t) = ne t := by simp [ne]
    rw [e] at h
    obtain ⟨k, h1, h2, h3⟩ := nz_spec t (o + 1) i x h
    refine ⟨k + 1, by rw [nz, h1]; congr 1; omega, by simpa using h2, fun r => ?_⟩
    rw [List.set_cons_succ, e, ← h3 r]
    simp [ne]
  | (p :: q) :: t, o, 0, x, h => by
    have e : ne ((p :: q) :: t) = (p :: q) :: ne t := by simp [ne]
    rw [e] at h
    refine ⟨0, by simp [nz], by simpa using h, fun r => ?_⟩
    rw [e, List.set_cons_zero, List.set_cons_zero]
    unfold ne
    rw [List.filter_cons, List.filter_cons, List.filter_filter]
    simp
  | (p :: q) :: t, o, i + 1, x, h => by
    have e : ne ((p :: q) :: t) = (p :: q) :: ne t := by simp [ne]
    rw [e] at h
    obtain ⟨k, h1, h2, h3⟩ := nz_spec t (o + 1) i x (by simpa using h)
    refine ⟨k + 1, by rw [nz, List.getElem?_cons_succ, h1]; congr 1; omega, by simpa using h2, fun r => ?_⟩
    rw [e, List.set_cons_succ, List.set_cons_succ]
    have h4 := h3 r
    unfold ne at h4 ⊢
    rw [List.filter_cons, List.filter_cons, h4]

theorem nz_len : ∀ (S : List (List Pc)) (o : Nat), (nz S o).length = (ne S).length
  | [], _ => rfl
  | [] :: t, o => by rw [nz, nz_len t]; simp [ne]
  | (p :: q) :: t, o => by
    have e : ne ((p :: q) :: t) = (p :: q) :: ne t := by simp [ne]
    rw [nz, e, List.length_cons, List.length_cons, nz_len t]

/-- The places among the first k lists. -/
theorem nz_append : ∀ (S T : List (List Pc)) (o : Nat), nz (S ++ T) o = nz S o ++ nz T (o + S.length)
  | [], T, o => by simp [nz]
  | [] :: t, T, o => by
    rw [List.cons_append, nz, nz, nz_append t T (o + 1)]
    congr 2
    simp only [List.length_cons]; omega
  | (p :: q) :: t, T, o => by
    rw [List.cons_append, nz, nz, nz_append t T (o + 1), List.cons_append]
    congr 3
    simp only [List.length_cons]; omega

theorem nz_take (S : List (List Pc)) (k : Nat) (h : k < S.length) : nz (S.take (k + 1)) 0 = nz (S.take k) 0 ++ (if S[k].length = 0 then [] else [k]) := by
  rw [List.take_succ_eq_append_getElem h, nz_append, List.length_take, Nat.min_eq_left (by omega), Nat.zero_add]
  congr 1
  cases hx : S[k] with
  | nil => simp [nz]
  | cons p q => simp [nz]

end Go.Proofs.Yteblbpdpfegooaa
