/- THE MATHEMATICS of texts, sixth part: what the reference's Parse reads, part by part. -/
import Derived.Test.YtladjkkkhomngaaDoorPm
namespace Go.Proofs.YtladjkkkhomngaaDoor
set_option maxRecDepth 8000
open Go.RowKit Go.Sort Go.BigFrame

/-- How many words a kind has, its name among them. -/
def lenW (k : Nat) : Nat := (wordsN k).length
theorem lenW_most : ∀ k, k < 14 → 1 ≤ k → ((lenW k : Nat) : Int) = mostV (k : Int) + 1 ∨ (k = 10 ∨ k = 12) ∧ lenW k = 1 := by decide
theorem lenW_room : ∀ k, k < 14 → 1 ≤ k → 1 ≤ lenW k ∧ lenW k ≤ 5 := by decide
theorem word_at (k i : Nat) (h : i < lenW k) : (wordsN k)[i]? = some (wordN k i) := by
  unfold lenW at h
  unfold wordN
  rw [List.getD_eq_getElem?_getD, List.getElem?_eq_getElem h]
  rfl
/-- The value that the reference reads, the words below the m-th looked at. -/
def RefTo (k : Nat) (s : ByteArray) (n : Int) (m : Nat) : Prop := (n = atoiV s ∧ noWord k s m) ∨ ∃ i : Nat, 1 ≤ i ∧ i < m ∧ wordN k i = s ∧ n = i
theorem RefTo.start (k : Nat) (s : ByteArray) : RefTo k s (atoiV s) 1 := .inl ⟨rfl, fun j h1 h2 => absurd h2 (by omega)⟩
theorem RefTo.yes {k : Nat} {s : ByteArray} {m : Nat} (h1 : 1 ≤ m) (h : wordN k m = s) : RefTo k s m (m + 1) := .inr ⟨m, h1, by omega, h, rfl⟩
theorem RefTo.no {k : Nat} {s : ByteArray} {n : Int} {m : Nat} (h : RefTo k s n m) (hn : wordN k m ≠ s) : RefTo k s n (m + 1) := by
  rcases h with ⟨h1, h2⟩ | ⟨i, h1, h2, h3, h4⟩
  · refine .inl ⟨h1, fun j j1 j2 => ?_⟩
    by_cases e : j = m
    · subst e; exact hn
    · exact h2 j j1 (by omega)
  · exact .inr ⟨i, h1, by omega, h3, h4⟩
/-- What one part has given, the kinds below the k-th looked at. -/
def PartTo (x : ByteArray) (k : Nat) (l : List PolD) : Prop := (l = [] ∧ noName (nameB x) k) ∨ ∃ (q : Nat) (n : Int), 1 ≤ q ∧ q < k ∧ nameN q = nameB x ∧ RefTo q (valB x) n (lenW q) ∧ l = [⟨q, n⟩]
theorem PartTo.start (x : ByteArray) : PartTo x 1 [] := .inl ⟨rfl, fun j h1 h2 => absurd h2 (by omega)⟩
theorem PartTo.no {x : ByteArray} {k : Nat} {l : List PolD} (h : PartTo x k l) (hn : nameN k ≠ nameB x) : PartTo x (k + 1) l := by
  rcases h with ⟨h1, h2⟩ | ⟨q, n, h1, h2, h3⟩
  · refine .inl ⟨h1, fun j j1 j2 => ?_⟩
    by_cases e : j = k
    · subst e; exact hn
    · exact h2 j j1 (by omega)
  · exact .inr ⟨q, n, h1, by omega, h3⟩
theorem PartTo.none {x : ByteArray} {k : Nat} {l : List PolD} (h : PartTo x k l) (h1 : 1 ≤ k) (h2 : k < 14) (hn : nameN k = nameB x) : l = [] := by
  rcases h with ⟨g, _⟩ | ⟨q, n, g1, g2, g3, _⟩
  · exact g
  · have := name_inj q (by omega) k h2 g1 h1 (g3.trans hn.symm)
    omega
theorem PartTo.yes {x : ByteArray} {k : Nat} {n : Int} (h1 : 1 ≤ k) (hn : nameN k = nameB x) (hr : RefTo k (valB x) n (lenW k)) : PartTo x (k + 1) [⟨k, n⟩] := .inr ⟨k, n, h1, by omega, hn, hr, rfl⟩
theorem PartTo.len {x : ByteArray} {k : Nat} {l : List PolD} (h : PartTo x k l) : l.length ≤ 1 := by
  rcases h with ⟨rfl, _⟩ | ⟨q, n, _, _, _, _, rfl⟩ <;> simp
/-- What all parts have given. -/
inductive RefRead : List ByteArray → List PolD → Prop
  | nil : RefRead [] []
  | snoc {ps : List ByteArray} {x : ByteArray} {l m : List PolD} : RefRead ps l → PartTo x 14 m → RefRead (ps ++ [x]) (l ++ m)
theorem RefRead.len {ps : List ByteArray} {l : List PolD} (h : RefRead ps l) : l.length ≤ ps.length := by
  induction h with
  | nil => exact Nat.le_refl _
  | snoc _ hp ih => have := hp.len; simp only [List.length_append, List.length_singleton]; omega
theorem RefRead.take {ps : List ByteArray} {k : Nat} {l m : List PolD} (hk : k < ps.length) (h : RefRead (ps.take k) l) (hp : PartTo ps[k] 14 m) : RefRead (ps.take (k + 1)) (l ++ m) := by
  rw [List.take_succ_eq_append_getElem hk]
  exact h.snoc hp
/-- Of a policy's text the part gives the policy. -/
theorem part_ref {q : PolD} {m : List PolD} (h : okP q.k q.v = true) (hp : PartTo (textP q) 14 m) : m = [q] := by
  have hq := h
  simp only [okP, isK, Bool.and_eq_true, decide_eq_true_eq] at hq
  obtain ⟨⟨⟨q1, q2⟩, q3⟩, q4⟩ := hq
  obtain ⟨k, hk⟩ : ∃ k : Nat, q.k = k := ⟨q.k.toNat, by omega⟩
  have hnm : nameB (textP q) = nameN k := by rw [nameB_text q h, hk]; rfl
  rcases hp with ⟨_, g⟩ | ⟨p, n, g1, g2, g3, g4, rfl⟩
  · exact absurd hnm.symm (g k (by omega) (by omega))
  · have e := name_inj p g2 k (by omega) g1 (by omega) (g3.trans hnm)
    subst e
    rw [valB_text q h] at g4
    congr 1
    refine PolD.ext' hk.symm ?_
    show n = q.v
    by_cases h10 : q.k = 10 ∨ q.k = 12
    · have hd : defV q.k = 0 := by unfold defV; rw [if_pos h10]
      have hm : q.v ≤ 1000000 := by unfold mostV at q4; split at q4 <;> (try split at q4) <;> (try split at q4) <;> (try split at q4) <;> omega
      have hw : wordP q = ⟨(Lib.itoa q.v).toArray⟩ := by unfold wordP; rw [if_pos hd]
      have hl : lenW p = 1 := by
        have : p = 10 ∨ p = 12 := by omega
        rcases this with rfl | rfl <;> rfl
      rcases g4 with ⟨g4, _⟩ | ⟨i, i1, i2, _⟩
      · rw [g4, hw, atoi_itoa q.v (by rw [hd] at q3; exact q3) hm]
      · omega
    · have hd : defV q.k = 1 := by unfold defV; rw [if_neg h10]
      rw [hd] at q3
      have h6 : q.v ≤ 4 := by unfold mostV at q4; rw [if_neg (by omega), if_neg (by omega)] at q4; split at q4 <;> (try split at q4) <;> omega
      have hw : wordP q = wordN p q.v.toNat := by
        unfold wordP wordsL wordN
        rw [if_neg (by rw [hd]; decide), hk]
        rfl
      have hlw : ((lenW p : Nat) : Int) = mostV (p : Int) + 1 := by
        rcases lenW_most p g2 g1 with e | ⟨e, _⟩
        · exact e
        · omega
      rw [hw] at g4
      rw [hk] at q4
      rcases g4 with ⟨_, g5⟩ | ⟨i, i1, i2, i3, i4⟩
      · exact absurd rfl (g5 q.v.toNat (by omega) (by omega))
      · have := word_inj p g2 g1 (by omega) (by omega) i (by have := lenW_room p g2 g1; omega) q.v.toNat (by omega) i1 (by omega) (by omega) (by omega) i3
        omega
theorem ref_det {ps : List ByteArray} {l : List PolD} (h : RefRead ps l) : ∀ s : List PolD, (∀ p ∈ s, okP p.k p.v = true) → ps = s.map textP → l = s := by
  induction h with
  | nil =>
    intro s _ hs
    have : s = [] := by simpa using hs.symm
    exact this.symm
  | @snoc ps x l m hr hp ih =>
    intro s hok hs
    obtain ⟨s1, s2, rfl, h1, h2⟩ := List.map_eq_append_iff.1 hs.symm
    obtain ⟨q, rfl, hq⟩ : ∃ q, s2 = [q] ∧ textP q = x := by
      match s2, h2 with
      | [q], h2 => exact ⟨q, rfl, by simpa using h2⟩
      | [], h2 => simp at h2
      | _ :: _ :: _, h2 => simp at h2
    rw [ih s1 (fun p hp => hok p (List.mem_append_left _ hp)) h1.symm]
    rw [← hq] at hp
    rw [part_ref (hok q (List.mem_append_right _ (List.mem_singleton.2 rfl))) hp]
/-- What the reference reads is canonical. -/
theorem ref_canon {t : ByteArray} {ps : List ByteArray} {l : List PolD} (hps : partsB t = ps) (ht : 0 < t.size) (h : RefRead ps l) : (fmtS l = t → Canon t l 0) ∧ (fmtS l ≠ t → Canon t [] 2) := by
  constructor
  · intro he
    have := set_of_text he ht
    exact .inl ⟨rfl, this.1, this.2, he⟩
  · intro hne
    refine .inr ⟨rfl, rfl, fun s hs hs0 he => hne ?_⟩
    have hp : ps = s.map textP := by rw [← hps, ← he]; exact parts_fmt hs hs0
    rw [ref_det h s (fun p hp => okS_val hs p hp) hp, he]

end Go.Proofs.YtladjkkkhomngaaDoor
