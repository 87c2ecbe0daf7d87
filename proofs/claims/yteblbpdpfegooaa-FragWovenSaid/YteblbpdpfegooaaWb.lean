/- What is cut and woven is taken: each message once, whole. -/
import Derived.Test.YteblbpdpfegooaaWa
namespace Go.Proofs.Yteblbpdpfegooaa
open Go.RowKit

theorem hid_ne {T : List (List Pc)} (h : (T.map hid).Nodup) {i j : Nat} (hi : i < T.length) (hj : j < T.length) (hij : ¬ i = j) : ¬ hid T[i] = hid T[j] := fun e => by
  have hp := List.pairwise_iff_getElem.1 h
  have hi' : i < (T.map hid).length := by simpa using hi
  have hj' : j < (T.map hid).length := by simpa using hj
  rcases Nat.lt_or_ge i j with g | g
  · exact hp i j hi' hj' g (by simpa using e)
  · exact hp j i hj' hi' (by omega) (by simpa using e.symm)

theorem mem_erase_at {T : List (List Pc)} {j : Nat} {R : List Pc} (h : R ∈ T.eraseIdx j) : ∃ i, ∃ hi : i < T.length, ¬ i = j ∧ T[i] = R := by
  obtain ⟨i, hij, hi⟩ := List.mem_eraseIdx_iff_getElem?.1 h
  obtain ⟨hl, e⟩ := List.getElem?_eq_some_iff.1 hi
  exact ⟨i, hl, hij, e⟩

theorem mem_set_at {T : List (List Pc)} {j : Nat} {r R : List Pc} (h : R ∈ T.set j r) : R = r ∨ ∃ i, ∃ hi : i < T.length, ¬ i = j ∧ T[i] = R := by
  obtain ⟨i, hi, e⟩ := List.getElem_of_mem h
  rw [List.getElem_set] at e
  split at e
  · exact .inl e.symm
  · rename_i g
    exact .inr ⟨i, by simpa using hi, fun x => g x.symm, e⟩

theorem map_set_hid {T : List (List Pc)} {j : Nat} (hj : j < T.length) {r : List Pc} (h : hid r = hid T[j]) : (T.set j r).map hid = T.map hid := by
  apply List.ext_getElem (by simp)
  intro i h1 h2
  simp only [List.getElem_map, List.getElem_set]
  split
  · subst_vars; exact h
  · rfl

variable {body : Int → ByteArray} {most room : Int} {ops : List Op} {T : List (List Pc)} {p : Pc} {r : List Pc} {j : Nat}

theorem WnI.drop (h : WnI body most room ops T) (hj : j < T.length) (e : T[j] = [p]) (hne : ∀ x ∈ T, x ≠ []) (hb : bytesO (dropO ops p.id) ≤ bytesO ops) : WnI body most room (dropO ops p.id) (T.eraseIdx j) := by
  have hd : hid T[j] = p.id := by rw [e]; rfl
  have hin : ∀ {R}, R ∈ T.eraseIdx j → R ∈ T := fun g => (List.eraseIdx_sublist ..).subset g
  have hoth : ∀ {R}, R ∈ T.eraseIdx j → ¬ hid R = p.id := fun g => by
    obtain ⟨i, hi, hij, rfl⟩ := mem_erase_at g
    rw [← hd]
    exact hid_ne h.nd hi hj hij
  refine ⟨h.nd.sublist ((List.eraseIdx_sublist ..).map _), ids_dropO h.nops _, fun R hR => ?_, fun x hx => ?_, ?_, ?_, fun R hR => h.small R (hin hR)⟩
  · obtain ⟨k, acc, hk, ht, hst⟩ := h.good R (hin hR)
    refine ⟨k, acc, hk, ht, ?_⟩
    split at hst
    · rename_i h0
      rw [if_pos h0]
      refine ⟨fun g => hst.1 ?_, hst.2⟩
      obtain ⟨x, hx, hxe⟩ := mem_idsO.1 g
      exact mem_idsO.2 ⟨x, ((mem_dropO h.nops _ _).1 hx).1, hxe⟩
    · rename_i h0
      rw [if_neg h0]
      exact (mem_dropO h.nops _ _).2 ⟨hst, hoth hR⟩
  · obtain ⟨h1, h2⟩ := (mem_dropO h.nops _ _).1 hx
    obtain ⟨R, hR, he⟩ := List.mem_map.1 (h.opn x h1)
    obtain ⟨i, hi, rfl⟩ := List.getElem_of_mem hR
    refine List.mem_map.2 ⟨T[i], List.mem_eraseIdx_iff_getElem?.2 ⟨i, fun g => h2 ?_, List.getElem?_eq_getElem hi⟩, he⟩
    subst g
    rw [← he, hd]
  · have h1 := bytesL_set T j p [] (by rw [List.getElem?_eq_getElem hj, e])
    rw [← bytesL_ne (T.set j []), ne_set_nil hne j hj] at h1
    have := h.bytes
    omega
  · have := h.few
    have := (List.eraseIdx_sublist T j).length_le
    omega

theorem WnI.put {x : Op} {k : Int} {acc : ByteArray} (h : WnI body most room ops T) (hj : j < T.length) (e : T[j] = p :: r) (hx : x = ⟨p.id, k + 1, acc⟩) (hk : 0 ≤ k) (ht : tailOk p.id (body p.id) (k + 1) acc r) (hb : bytesO (putO ops x) = bytesO ops + p.body.size) : WnI body most room (putO ops x) (T.set j r) := by
  obtain ⟨hid1, hr⟩ := tailOk_hid ht
  have hd : hid T[j] = p.id := by rw [e]; rfl
  have hm := map_set_hid hj (hid1.trans hd.symm)
  have hxid : x.id = p.id := by rw [hx]
  have hoth : ∀ {R}, (∃ i, ∃ hi : i < T.length, ¬ i = j ∧ T[i] = R) → ¬ hid R = x.id := fun g => by
    obtain ⟨i, hi, hij, rfl⟩ := g
    rw [hxid, ← hd]
    exact hid_ne h.nd hi hj hij
  refine ⟨by rw [hm]; exact h.nd, ids_putO h.nops _, fun R hR => ?_, fun y hy => ?_, ?_, by rw [List.length_set]; exact h.few, fun R hR => ?_⟩
  · rcases mem_set_at hR with rfl | g
    · refine ⟨k + 1, acc, by omega, by rw [hid1]; exact ht, ?_⟩
      rw [if_neg (by omega), hid1]
      exact (mem_putO h.nops _ _).2 (.inl hx.symm)
    · have hne := hoth g
      obtain ⟨i, hi, hij, rfl⟩ := g
      obtain ⟨k', acc', hk', ht', hst⟩ := h.good T[i] (List.getElem_mem hi)
      refine ⟨k', acc', hk', ht', ?_⟩
      split at hst
      · rename_i h0
        rw [if_pos h0]
        refine ⟨fun g => hst.1 ?_, hst.2⟩
        obtain ⟨y, hy, hye⟩ := mem_idsO.1 g
        rcases (mem_putO h.nops _ _).1 hy with rfl | hy
        · exact absurd hye.symm hne
        · exact mem_idsO.2 ⟨y, hy.1, hye⟩
      · rename_i h0
        rw [if_neg h0]
        exact (mem_putO h.nops _ _).2 (.inr ⟨hst, hne⟩)
  · rw [hm]
    rcases (mem_putO h.nops _ _).1 hy with rfl | hy
    · rw [hxid, ← hd]
      exact List.mem_map.2 ⟨_, List.getElem_mem hj, rfl⟩
    · exact h.opn y hy.1
  · have h1 := bytesL_set T j p r (by rw [List.getElem?_eq_getElem hj, e])
    have := h.bytes
    omega
  · rcases mem_set_at hR with rfl | ⟨i, hi, _, rfl⟩
    · rw [hid1, ← hd]
      exact h.small _ (List.getElem_mem hj)
    · exact h.small _ (List.getElem_mem hi)

theorem erase_perm {α : Type} : ∀ {l : List α} {i : Nat} (h : i < l.length), (l[i] :: l.eraseIdx i).Perm l
  | x :: r, 0, _ => by simp
  | x :: r, i + 1, h => by
    rw [List.eraseIdx_cons_succ, List.getElem_cons_succ]
    exact (List.Perm.swap ..).trans ((erase_perm (l := r) (i := i) (by simpa using h)).cons _)

theorem woven_all : ∀ (n : Nat) (ts : List Nat) (S : List (List Pc)) (ops : List Op) (i : Int) (a : List Int) (c : List ByteArray), total S = n → WnI body most room ops (ne S) →
    ∃ A : List Int, A.Perm ((ne S).map hid) ∧ allR most room ops (wv ts S) i a c = ⟨a ++ A, c ++ A.map body, -1, 0⟩
  | 0, ts, S, ops, i, a, c, hn, h => by
    have he := ne_nil_total.2 hn
    refine ⟨[], by rw [he]; exact .nil, ?_⟩
    rw [wv_end he, allR]
    simp
  | n + 1, ts, S, ops, i, a, c, hn, h => by
    have hne : ne S ≠ [] := fun e => by have := ne_nil_total.1 e; omega
    obtain ⟨p, r, hp⟩ := turn_some (ts.headD 0) hne
    rw [wv_step hp]
    have h1 := total_set _ _ _ _ hp
    rw [total_ne, hn] at h1
    generalize hm : ts.headD 0 % (ne S).length = m at hp h1 ⊢
    obtain ⟨hml, hme⟩ := List.getElem?_eq_some_iff.1 hp
    have hnm : ∀ x ∈ ne S, x ≠ [] := fun x hx => ne_mem hx
    obtain ⟨acc, k, e1, e2, e3, e4, e5⟩ := h.takes (p := p) (r := r) (by rw [← hme]; exact List.getElem_mem hml)
    rw [allR_cons rfl, if_pos e1, e2]
    by_cases hr : r = []
    · subst hr
      obtain ⟨e6, e7⟩ := e3 rfl
      rw [e6, e7, List.isEmpty_nil, if_pos rfl]
      have hs : ne ((ne S).set m []) = (ne S).eraseIdx m := ne_set_nil hnm m hml
      obtain ⟨A, hA, hR⟩ := woven_all n ts.tail ((ne S).set m []) (dropO ops p.id) (i + 1) (a ++ [p.id]) (c ++ [body p.id]) (by omega) (by rw [hs]; exact h.drop hml hme hnm (e5 rfl))
      refine ⟨p.id :: A, ?_, by rw [hR]; simp⟩
      rw [hs] at hA
      have h9 := (erase_perm hml).map hid
      rw [List.map_cons, hme] at h9
      exact (hA.cons _).trans h9
    · obtain ⟨e6, e7, e8, e9⟩ := e4 hr
      rw [e6]
      have hie : r.isEmpty = false := by cases r with | nil => exact absurd rfl hr | cons q s => rfl
      rw [hie, if_neg (by decide)]
      have hs : ne ((ne S).set m r) = (ne S).set m r := ne_set_some hnm m hr
      obtain ⟨A, hA, hR⟩ := woven_all n ts.tail ((ne S).set m r) (putO ops ⟨p.id, k + 1, acc ++ p.body⟩) (i + 1) a c (by omega) (by rw [hs]; exact h.put hml hme rfl e7 e8 e9)
      refine ⟨A, ?_, hR⟩
      rw [hs, map_set_hid hml ((tailOk_hid e8).1.trans (by rw [hme]; rfl))] at hA
      exact hA

end Go.Proofs.Yteblbpdpfegooaa
