/- THE MATHEMATICS of texts, third part: what policy.Parse and the reference's read from one part; a policy's own text gives the policy. -/
import Derived.Test.YtladjkkkhomngaaDoorPi
namespace Go.Proofs.YtladjkkkhomngaaDoor
set_option maxRecDepth 8000
open Go.RowKit Go.Sort Go.BigFrame

/-- What policy.Parse reads from a part. -/
def PartIs (t : ByteArray) (p : PolD) : Prop := ∃ k : Nat, 1 ≤ k ∧ k ≤ 13 ∧ KindIs (nameB t) k ∧ p.k = k ∧ (((k = 10 ∨ k = 12) ∧ p.v = atoiV (valB t)) ∨ (¬ (k = 10 ∨ k = 12) ∧ ∃ n : Nat, ValueIs k (valB t) n ∧ p.v = n))
theorem ba_eta (b : ByteArray) : (⟨b.data.toList.toArray⟩ : ByteArray) = b := by cases b; simp
theorem nameB_text (q : PolD) (h : okP q.k q.v = true) : nameB (textP q) = nameN q.k.toNat := by
  unfold nameB
  rw [cut_textP q h]
  all_goals exact ba_eta _
theorem valB_text (q : PolD) (h : okP q.k q.v = true) : valB (textP q) = wordP q := by
  unfold valB
  rw [cut_textP q h]
  all_goals exact ba_eta _
theorem part_det {q p : PolD} (h : okP q.k q.v = true) (hp : PartIs (textP q) p) : p = q := by
  obtain ⟨k, k1, k2, hk, hpk, hv⟩ := hp
  rw [nameB_text q h] at hk
  rw [valB_text q h] at hv
  have hq := h
  simp only [okP, isK, Bool.and_eq_true, decide_eq_true_eq] at hq
  obtain ⟨⟨⟨q1, q2⟩, q3⟩, q4⟩ := hq
  have hkq : k = q.k.toNat := kind_det (by omega) (by omega) hk
  have hqk : q.k = k := by omega
  refine PolD.ext' (by rw [hpk, hqk]) ?_
  rcases hv with ⟨h10, hv⟩ | ⟨h10, n, hn, hv⟩
  · have hd : defV q.k = 0 := by unfold defV; rw [if_pos (by omega)]
    have hm : q.v ≤ 1000000 := by unfold mostV at q4; split at q4 <;> (try split at q4) <;> (try split at q4) <;> (try split at q4) <;> omega
    have hw : wordP q = ⟨(Lib.itoa q.v).toArray⟩ := by unfold wordP; rw [if_pos hd]
    rw [hv, hw]
    exact atoi_itoa q.v (by rw [hd] at q3; exact q3) hm
  · have hd : defV q.k = 1 := by unfold defV; rw [if_neg (by omega)]
    rw [hd] at q3
    have h6 : q.v ≤ 4 := by unfold mostV at q4; rw [if_neg (by omega), if_neg (by omega)] at q4; split at q4 <;> (try split at q4) <;> omega
    have hw : wordP q = wordN k q.v.toNat := by unfold wordP wordsL wordN; rw [if_neg (by rw [hd]; decide)]; rw [hkq]
    rw [hw] at hn
    have := value_det (k := k) (v := q.v.toNat) (n := n) (by omega) k1 (by omega) (by omega) (by omega) (by rw [← hqk]; omega) (by omega) hn
    rw [hv, this]
    omega
theorem name_known {q : PolD} (h : okP q.k q.v = true) (hk : KindIs (nameB (textP q)) 0) : False := by
  rw [nameB_text q h] at hk
  simp only [okP, isK, Bool.and_eq_true, decide_eq_true_eq] at h
  have := kind_det (k := 0) (q := q.k.toNat) (by omega) (by omega) hk
  omega
/-- Whoever reads each part of a set's text so, has the set. -/
theorem parts_det {s l : List PolD} (hs : okS s = true) (hl : l.length = (s.map textP).length) (h : ∀ i (h1 : i < (s.map textP).length) (h2 : i < l.length), PartIs (s.map textP)[i] l[i]) : l = s := by
  rw [List.length_map] at hl
  refine List.ext_getElem hl fun i h1 h2 => ?_
  have := h i (by rw [List.length_map]; exact h2) h1
  rw [List.getElem_map] at this
  exact part_det (okS_val hs _ (List.getElem_mem h2)) this

end Go.Proofs.YtladjkkkhomngaaDoor
