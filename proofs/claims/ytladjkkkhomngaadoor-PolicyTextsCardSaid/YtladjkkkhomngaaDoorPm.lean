/- THE MATHEMATICS of texts, fifth part: what policy.Parse has read, said without the parts. -/
import Derived.Test.YtladjkkkhomngaaDoorPl
namespace Go.Proofs.YtladjkkkhomngaaDoor
set_option maxRecDepth 8000
open Go.RowKit Go.Sort Go.BigFrame

theorem fmtS_bad {l : List PolD} (h : okS l = false) : fmtS l = ⟨#[]⟩ := by unfold fmtS; rw [if_neg (by rw [h]; decide)]
theorem fmtS_nil : fmtS [] = ⟨#[]⟩ := by unfold fmtS; rw [if_pos (okS_true (okTo_zero []))]; rfl
/-- Either the one set whose text it is, or there is none. -/
def Canon (t : ByteArray) (l : List PolD) (er : Int) : Prop := (er = 0 ∧ okS l = true ∧ l ≠ [] ∧ fmtS l = t) ∨ (er = 2 ∧ l = [] ∧ ∀ s, okS s = true → s ≠ [] → fmtS s ≠ t)
theorem set_of_text {l : List PolD} {t : ByteArray} (h : fmtS l = t) (ht : 0 < t.size) : okS l = true ∧ l ≠ [] := by
  subst h
  constructor
  · cases ho : okS l with
    | true => rfl
    | false => rw [fmtS_bad ho] at ht; exact absurd ht (by decide)
  · intro e
    subst e
    rw [fmtS_nil] at ht
    exact absurd ht (by decide)
theorem parsed_canon {t : ByteArray} {ps l : _} {er : Int} (hps : partsB t = ps) (ht : 0 < t.size) (h : Parsed t ps l er) : Canon t l er := by
  rcases h with ⟨h1, h2, h3⟩ | ⟨h1, _, _, h4⟩
  · refine .inr ⟨h1, h2, fun s hs hs0 he => ?_⟩
    have hp : ps = s.map textP := by rw [← hps, ← he]; exact parts_fmt hs hs0
    subst hp
    rcases h3 with ⟨i, hi, hk⟩ | ⟨l', hl, hr, hf⟩
    · rw [List.getElem_map] at hk
      exact name_known (okS_val hs _ (List.getElem_mem (by simpa using hi))) hk
    · exact hf (by rw [parts_det hs hl (fun i a b => hr i a b), he])
  · have := set_of_text h4 ht
    exact .inl ⟨h1, this.1, this.2, h4⟩
theorem part_exists {q : PolD} (h : okP q.k q.v = true) : PartIs (textP q) q := by
  have hq := h
  simp only [okP, isK, Bool.and_eq_true, decide_eq_true_eq] at hq
  obtain ⟨⟨⟨q1, q2⟩, q3⟩, q4⟩ := hq
  refine ⟨q.k.toNat, by omega, by omega, .inr ⟨by omega, by omega, (nameB_text q h).symm⟩, by omega, ?_⟩
  rw [valB_text q h]
  by_cases h10 : q.k = 10 ∨ q.k = 12
  · have hd : defV q.k = 0 := by unfold defV; rw [if_pos h10]
    have hm : q.v ≤ 1000000 := by unfold mostV at q4; split at q4 <;> (try split at q4) <;> (try split at q4) <;> (try split at q4) <;> omega
    have hw : wordP q = ⟨(Lib.itoa q.v).toArray⟩ := by unfold wordP; rw [if_pos hd]
    exact .inl ⟨by omega, by rw [hw]; exact (atoi_itoa q.v (by rw [hd] at q3; exact q3) hm).symm⟩
  · have hd : defV q.k = 1 := by unfold defV; rw [if_neg h10]
    rw [hd] at q3
    have h6 : q.v ≤ 4 := by unfold mostV at q4; rw [if_neg (by omega), if_neg (by omega)] at q4; split at q4 <;> (try split at q4) <;> omega
    have hw : wordP q = wordN q.k.toNat q.v.toNat := by unfold wordP wordsL wordN; rw [if_neg (by rw [hd]; decide)]
    have hkc : ((q.k.toNat : Nat) : Int) = q.k := by omega
    refine .inr ⟨by omega, q.v.toNat, ?_, by omega⟩
    rw [hw]
    refine .inr ⟨by omega, by omega, rfl, fun j j1 j2 e => ?_⟩
    have := word_inj q.k.toNat (by omega) (by omega) (by omega) (by omega) j (by omega) q.v.toNat (by omega) j1 (by omega) (by rw [hkc]; omega) (by rw [hkc]; omega) e
    omega
/-- A text is of one set alone. -/
theorem fmtS_inj {l m : List PolD} {t : ByteArray} (hl : fmtS l = t) (hm : fmtS m = t) (ht : 0 < t.size) : l = m := by
  obtain ⟨a1, a2⟩ := set_of_text hl ht
  obtain ⟨b1, b2⟩ := set_of_text hm ht
  have h : l.map textP = m.map textP := by rw [← parts_fmt a1 a2, ← parts_fmt b1 b2, hl, hm]
  have hlen : l.length = m.length := by simpa using congrArg List.length h
  refine List.ext_getElem hlen fun i h1 h2 => ?_
  have e : textP m[i] = textP l[i] := by
    have := congrArg (fun x => x[i]?) h
    simp [h1, h2] at this
    exact this.symm
  have hp := part_exists (okS_val b1 _ (List.getElem_mem h2))
  rw [e] at hp
  exact (part_det (okS_val a1 _ (List.getElem_mem h1)) hp).symm
/-- Two that have read the same text agree. -/
theorem canon_agree {t : ByteArray} {l m : List PolD} {e f : Int} (ht : 0 < t.size) (h : Canon t l e) (k : Canon t m f) : l = m ∧ e = f := by
  rcases h with ⟨h1, h2, h3, h4⟩ | ⟨h1, h2, h3⟩ <;> rcases k with ⟨k1, k2, k3, k4⟩ | ⟨k1, k2, k3⟩
  · exact ⟨fmtS_inj h4 k4 ht, by rw [h1, k1]⟩
  · exact absurd h4 (k3 l h2 h3)
  · exact absurd k4 (h3 m k2 k3)
  · exact ⟨by rw [h2, k2], by rw [h1, k1]⟩

end Go.Proofs.YtladjkkkhomngaaDoor
