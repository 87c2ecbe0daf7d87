/- The mathematics of the joiner: what the reference holds. -/
import Derived.Test.YteblbpdpfegooaaA
namespace Go.Proofs.Yteblbpdpfegooaa
/-- An open message, as the reference holds it. -/
structure Op where
  id : Int
  pieces : Int
  body : ByteArray
instance : Inhabited Op := ⟨⟨0, 0, ⟨#[]⟩⟩⟩
def bytesO : List Op → Nat
  | [] => 0
  | x :: r => x.body.size + bytesO r
theorem bytesO_append : ∀ (l m : List Op), bytesO (l ++ m) = bytesO l + bytesO m
  | [], m => by simp [bytesO]
  | x :: r, m => by rw [List.cons_append, bytesO, bytesO, bytesO_append r m]; omega
theorem bytesO_take {l : List Op} {k : Nat} (h : k < l.length) : bytesO (l.take (k + 1)) = bytesO (l.take k) + l[k].body.size := by
  rw [← List.take_append_getElem h, bytesO_append]
  simp [bytesO]
/-- Where a message stands among the open ones. -/
def idxO : List Op → Int → Option Nat
  | [], _ => none
  | x :: r, id => if x.id = id then some 0 else (idxO r id).map (· + 1)
def notTo (l : List Op) (id : Int) (k : Nat) : Prop := ∀ i, i < k → ∀ h : i < l.length, ¬ l[i].id = id
theorem notTo.snoc {l : List Op} {id : Int} {n : Nat} (h : notTo l id n) (hv : ∀ h : n < l.length, ¬ l[n].id = id) : notTo l id (n + 1) := fun i hi hl => by
  by_cases e : i = n
  · subst e; exact hv hl
  · exact h i (by omega) hl
theorem idxO_none : ∀ {l : List Op} {id : Int}, notTo l id l.length → idxO l id = none
  | [], _, _ => rfl
  | x :: r, id, h => by
    have h0 := h 0 (by simp) (by simp)
    simp only [List.getElem_cons_zero] at h0
    rw [idxO, if_neg h0, idxO_none fun i hi hl => by
      have := h (i + 1) (by simpa using hi) (by simpa using hl)
      simpa using this]
    rfl
theorem idxO_some : ∀ {l : List Op} {id : Int} {k : Nat} (hk : k < l.length), notTo l id k → l[k].id = id → idxO l id = some k
  | x :: r, id, 0, _, _, hv => by
    simp only [List.getElem_cons_zero] at hv
    rw [idxO, if_pos hv]
  | x :: r, id, k + 1, hk, h, hv => by
    have h0 := h 0 (by omega) (by simp)
    simp only [List.getElem_cons_zero] at h0
    simp only [List.getElem_cons_succ] at hv
    rw [idxO, if_neg h0, idxO_some (k := k) (by simpa using hk) (fun i hi hl => by
      have := h (i + 1) (by omega) (by simpa using hl)
      simpa using this) hv]
    rfl
theorem idxO_lt : ∀ {l : List Op} {id : Int} {k : Nat}, idxO l id = some k → ∃ h : k < l.length, l[k].id = id ∧ notTo l id k
  | x :: r, id, k, h => by
    rw [idxO] at h
    by_cases h0 : x.id = id
    · rw [if_pos h0] at h
      obtain rfl := Option.some.inj h
      exact ⟨by simp, by simpa using h0, fun i hi => absurd hi (Nat.not_lt_zero i)⟩
    · rw [if_neg h0] at h
      obtain ⟨j, hj, rfl⟩ := Option.map_eq_some_iff.1 h
      obtain ⟨g1, g2, g3⟩ := idxO_lt hj
      refine ⟨by simpa using g1, by simpa using g2, fun i hi hl => ?_⟩
      cases i with
      | zero => simpa using h0
      | succ i => simpa using g3 i (by omega) (by simpa using hl)
def findO (l : List Op) (id : Int) : Int := match idxO l id with
  | none => -1
  | some k => k
/-- What taking a piece does. -/
structure Took where
  l : List Op
  body : ByteArray
  whole : Bool
  er : Int
def tookN (most room : Int) (l : List Op) (p : Pc) : Took :=
  if ¬ p.place = 0 then ⟨l, ⟨#[]⟩, false, 9⟩
  else if (p.more = false ∧ room < (p.body.size : Int)) ∨ (p.more = true ∧ room < (bytesO l : Int) + (p.body.size : Int)) then ⟨l, ⟨#[]⟩, false, 11⟩
  else if p.more = false then ⟨l, p.body, true, 0⟩
  else if most ≤ (l.length : Int) then ⟨l, ⟨#[]⟩, false, 4⟩
  else ⟨l ++ [⟨p.id, 1, p.body⟩], ⟨#[]⟩, false, 0⟩
def tookS (room : Int) (l : List Op) (p : Pc) (i : Nat) (x : Op) : Took :=
  if ¬ p.place = x.pieces then ⟨l.eraseIdx i, ⟨#[]⟩, false, 9⟩
  else if 65536 < x.body.size + p.body.size ∨ room < (bytesO l : Int) + (p.body.size : Int) then ⟨l.eraseIdx i, ⟨#[]⟩, false, 11⟩
  else if p.more = false then ⟨l.eraseIdx i, x.body ++ p.body, true, 0⟩
  else ⟨l.set i ⟨x.id, x.pieces + 1, x.body ++ p.body⟩, ⟨#[]⟩, false, 0⟩
def took (most room : Int) (l : List Op) (p : Pc) : Took :=
  if vP p = true then (match idxO l p.id with
    | none => tookN most room l p
    | some i => tookS room l p i (l.getD i default))
  else ⟨l, ⟨#[]⟩, false, 1⟩
/-- What may be open. -/
structure OpsOk (most : Int) (l : List Op) : Prop where
  few : (l.length : Int) ≤ most
  body : ∀ x ∈ l, x.body.size ≤ 65536
  pieces : ∀ x ∈ l, 0 ≤ x.pieces ∧ x.pieces ≤ 1000001
theorem bytesO_le {l : List Op} (h : ∀ x ∈ l, x.body.size ≤ 65536) : bytesO l ≤ 65536 * l.length := by
  induction l with
  | nil => simp [bytesO]
  | cons x r ih =>
    have h1 := h x (List.mem_cons_self ..)
    have h2 := ih fun y hy => h y (List.mem_cons_of_mem _ hy)
    rw [bytesO, List.length_cons]
    omega
theorem OpsOk.erase {most : Int} {l : List Op} (h : OpsOk most l) (i : Nat) : OpsOk most (l.eraseIdx i) := by
  have hs : (l.eraseIdx i).length ≤ l.length := by rw [List.length_eraseIdx]; split <;> omega
  refine ⟨by have := h.few; omega, fun x hx => h.body x (List.mem_of_mem_eraseIdx hx), fun x hx => h.pieces x (List.mem_of_mem_eraseIdx hx)⟩
theorem vP_place {p : Pc} (h : vP p = true) : 0 ≤ p.place ∧ p.place ≤ 1000000 := by
  simp only [vP, numB, Bool.and_eq_true, decide_eq_true_eq] at h
  exact h.2.1
theorem OpsOk.took {most room : Int} {l : List Op} (h : OpsOk most l) (p : Pc) : OpsOk most (took most room l p).l := by
  unfold Go.Proofs.Yteblbpdpfegooaa.took
  split
  · rename_i hv
    have hb : p.body.size ≤ 65536 := by
      simp only [vP, Bool.and_eq_true, decide_eq_true_eq] at hv
      exact hv.2.2.1
    have hp := vP_place hv
    split
    · unfold tookN
      split
      · exact h
      · split
        · exact h
        · split
          · exact h
          · split
            · exact h
            · rename_i h9
              refine ⟨by simp only [List.length_append, List.length_cons, List.length_nil]; omega, fun x hx => ?_, fun x hx => ?_⟩
              · rcases List.mem_append.1 hx with hx | hx
                · exact h.body x hx
                · obtain rfl := List.mem_singleton.1 hx; exact hb
              · rcases List.mem_append.1 hx with hx | hx
                · exact h.pieces x hx
                · rw [List.mem_singleton.1 hx]; exact ⟨by simp, by simp⟩
    · rename_i i hi
      obtain ⟨g1, g2, g3⟩ := idxO_lt hi
      have hx : l.getD i default = l[i] := by simp [List.getD, List.getElem?_eq_getElem g1]
      rw [hx]
      unfold tookS
      split
      · exact h.erase i
      · rename_i hpl
        split
        · exact h.erase i
        · rename_i hsz
          split
          · exact h.erase i
          · refine ⟨by simpa using h.few, fun x hx => ?_, fun x hx => ?_⟩
            · rcases List.mem_or_eq_of_mem_set hx with hx | rfl
              · exact h.body x hx
              · simp only [ByteArray.size_append]; omega
            · rcases List.mem_or_eq_of_mem_set hx with hx | rfl
              · exact h.pieces x hx
              · simp only; omega
  · exact h

end Go.Proofs.Yteblbpdpfegooaa
