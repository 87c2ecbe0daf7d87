/- THE MATHEMATICS of Of: what lies sorted is a set exactly if no kind stands there twice. -/
import Derived.Test.YtladjkkkhomngaaDoorTd
import Derived.Test.YtladjkkkhomngaaDoorSb
namespace Go.Proofs.YtladjkkkhomngaaDoor
set_option maxRecDepth 8000
open Go.RowKit Go.Sort Go.BigFrame

theorem nd_len : ∀ (xs ys : List Int), xs.Nodup → (∀ x ∈ xs, x ∈ ys) → xs.length ≤ ys.length
  | [], _, _, _ => Nat.zero_le _
  | x :: xs, ys, hn, hs => by
    have h1 := List.nodup_cons.1 hn
    have hm := hs x (by simp)
    have h2 := nd_len xs (ys.erase x) h1.2 (fun z hz => (List.mem_erase_of_ne (by rintro rfl; exact h1.1 hz)).2 (hs z (by simp [hz])))
    rw [List.length_erase_of_mem hm] at h2
    have h3 := List.length_pos_of_mem hm
    simp only [List.length_cons]
    omega
theorem nd_eq : ∀ (G K : List Int), G.Nodup → (∀ x ∈ G, x ∈ K) → K.length ≤ G.length → K.Nodup
  | [], K, _, _, h => by
    have : K = [] := List.eq_nil_of_length_eq_zero (by simpa using h)
    subst this
    exact List.nodup_nil
  | x :: G, K, hn, hs, h => by
    have h1 := List.nodup_cons.1 hn
    have hm := hs x (by simp)
    have h3 := List.length_pos_of_mem hm
    have hsub : ∀ z ∈ G, z ∈ K.erase x := fun z hz => (List.mem_erase_of_ne (by rintro rfl; exact h1.1 hz)).2 (hs z (by simp [hz]))
    have hlen : (K.erase x).length ≤ G.length := by
      rw [List.length_erase_of_mem hm]
      simp only [List.length_cons] at h
      omega
    have ih := nd_eq G (K.erase x) h1.2 hsub hlen
    have hx : x ∉ K.erase x := fun hmem => by
      have h4 := nd_len G ((K.erase x).erase x) h1.2 (fun z hz => (List.mem_erase_of_ne (by rintro rfl; exact h1.1 hz)).2 (hsub z hz))
      rw [List.length_erase_of_mem hmem] at h4
      have h5 := List.length_pos_of_mem hmem
      rw [List.length_erase_of_mem hm] at h4 h5
      simp only [List.length_cons] at h
      omega
    exact (List.perm_cons_erase hm).nodup_iff.2 (List.nodup_cons.2 ⟨hx, ih⟩)

theorem findK_mem : ∀ (l : List PolD) (k v : Int), findK l k = some v → ∃ p ∈ l, p.k = k ∧ p.v = v
  | [], k, v, h => by simp [findK] at h
  | p :: r, k, v, h => by
    unfold findK at h
    split at h
    · rename_i hk
      exact ⟨p, by simp, hk, Option.some.inj h⟩
    · obtain ⟨q, hq, h1, h2⟩ := findK_mem r k v h
      exact ⟨q, by simp [hq], h1, h2⟩
theorem findK_none_of : ∀ (l : List PolD) (k : Int), findK l k = none → ∀ p ∈ l, p.k ≠ k
  | [], _, _, _, hp => by cases hp
  | q :: r, k, h, p, hp => by
    unfold findK at h
    split at h
    · cases h
    · rename_i hk
      rcases List.mem_cons.1 hp with rfl | hp
      · exact hk
      · exact findK_none_of r k h p hp
theorem findK_perm {l m : List PolD} (hp : l.Perm m) (hu : ∀ x ∈ l, ∀ y ∈ l, x.k = y.k → x = y) (k : Int) : findK l k = findK m k := by
  cases h1 : findK l k with
  | none =>
    cases h2 : findK m k with
    | none => rfl
    | some v =>
      obtain ⟨p, hpm, hk, _⟩ := findK_mem m k v h2
      exact absurd hk (findK_none_of l k h1 p (hp.mem_iff.2 hpm))
  | some v =>
    obtain ⟨p, hpl, hk, hv⟩ := findK_mem l k v h1
    cases h2 : findK m k with
    | none => exact absurd hk (findK_none_of m k h2 p (hp.mem_iff.1 hpl))
    | some v' =>
      obtain ⟨q, hqm, hk', hv'⟩ := findK_mem m k v' h2
      have := hu p hpl q (hp.mem_iff.2 hqm) (by rw [hk, hk'])
      rw [← hv, ← hv', this]
theorem up_uniq : ∀ {l : List PolD}, Up l → ∀ x ∈ l, ∀ y ∈ l, x.k = y.k → x = y
  | [], _, _, hx, _, _, _ => by cases hx
  | p :: r, h, x, hx, y, hy, e => by
    have h1 := List.pairwise_cons.1 h
    rcases List.mem_cons.1 hx with e1 | hx1
    · rcases List.mem_cons.1 hy with e2 | hy1
      · rw [e1, e2]
      · have := h1.1 y hy1; rw [e1] at e; omega
    · rcases List.mem_cons.1 hy with e2 | hy1
      · have := h1.1 x hx1; rw [e2] at e; omega
      · exact up_uniq h1.2 x hx1 y hy1 e
theorem okS_of_up {l : List PolD} (hu : Up l) (hv : ∀ p ∈ l, okP p.k p.v = true) : okS l = true := by
  refine okS_true fun i hi h => ⟨hv _ (List.getElem_mem h), fun h0 => ?_⟩
  exact List.pairwise_iff_getElem.1 hu (i - 1) i (by omega) h (by omega)
theorem up_of {l : List PolD} (h1 : l.Pairwise fun a b => a.k ≤ b.k) (h2 : (l.map PolD.k).Nodup) : Up l := by
  have h3 := List.pairwise_map.1 h2
  rw [List.pairwise_iff_getElem] at h1 h3
  refine List.pairwise_iff_getElem.2 fun i j hi hj hij => ?_
  have a := h1 i j hi hj hij
  have b := h3 i j hi hj hij
  omega


theorem of_math {l s : List PolD} (hv : ∀ p ∈ l, okP p.k p.v = true) (hp : s.Perm l) (hs : s.Pairwise fun a b => a.k ≤ b.k) :
    (okS s = true ∧ gthTo l 13 = s ∧ (gthTo l 13).length = l.length) ∨ (okS s = false ∧ (gthTo l 13).length ≠ l.length) := by
  have hvs : ∀ p ∈ s, okP p.k p.v = true := fun p h => hv p (hp.mem_iff.1 h)
  by_cases hd : (s.map PolD.k).Nodup
  · have hu := up_of hs hd
    have hok := okS_of_up hu hvs
    have hg : gthTo l 13 = s := gth_eq hok fun k => by
      unfold lastV
      exact (findK_perm (hp.trans (List.reverse_perm l).symm) (up_uniq hu) k).symm
    exact .inl ⟨hok, hg, by rw [hg]; exact hp.length_eq⟩
  · refine .inr ⟨?_, fun he => hd ?_⟩
    · cases h : okS s with
      | false => rfl
      | true =>
        exact absurd (List.pairwise_map.2 ((okS_up h).imp fun {a b} (h : a.k < b.k) => (by omega : a.k ≠ b.k))) hd
    · refine nd_eq ((gthTo l 13).map PolD.k) _ (List.pairwise_map.2 ((gthTo_up l 13).imp fun {a b} (h : a.k < b.k) => (by omega : a.k ≠ b.k))) ?_ (by rw [List.length_map, List.length_map, he, hp.length_eq]; exact Nat.le_refl _)
      intro x hx
      obtain ⟨p, hpm, rfl⟩ := List.mem_map.1 hx
      cases hf : findK (gthTo l 13) p.k with
      | none => exact absurd rfl (findK_none_of _ _ hf p hpm)
      | some v =>
        rw [gthTo_find] at hf
        split at hf
        · obtain ⟨q, hq, hk, _⟩ := findK_mem _ _ _ hf
          exact List.mem_map.2 ⟨q, hp.mem_iff.2 (List.mem_reverse.1 hq), hk⟩
        · cases hf

/-- What Of returns, and its error. -/
noncomputable def ofE (l : List PolD) : Int := if l.length ≤ 100 ∧ allV l = true then (if (gthTo l 13).length = l.length then 0 else 6) else 1
noncomputable def ofL (l : List PolD) : List PolD := if l.length ≤ 100 ∧ allV l = true ∧ (gthTo l 13).length = l.length then gthTo l 13 else []

end Go.Proofs.YtladjkkkhomngaaDoor
