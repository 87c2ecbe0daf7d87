/-
  PROVED HERE: acts after each other: where bytes are wrong at a place, all others that are the same up to it, and a little behind it, are wrong there.
-/
import Derived.Test.YtdklmeamhcgohaaFa
namespace Go.Proofs.Ytdklmeamhcgohaa
open Go.RowKit

theorem textOf_ge (r : RR) (i : Nat) (h : r.w = true → i ≤ r.i) (h2 : r.w = false → i + r.t.size ≤ r.i ∧ 1 ≤ r.t.size) : i ≤ (textOf r).i := by
  cases hw : r.w with
  | true => rw [textOf_wrong r hw]; exact h hw
  | false =>
    obtain ⟨h3, h4⟩ := h2 hw
    by_cases h5 : Lib.indexByte (bytesOf r.t) 0 < 0
    · rw [textOf_none r hw h5]; simp only; omega
    · by_cases h6 : Lib.indexByte (bytesOf r.t) 0 < (r.t.size : Int) - 1
      · rw [textOf_mid r hw h5 h6]; simp only; omega
      · rw [textOf_ok r hw h5 h6]; simp only; omega

theorem cntOf_ge (s : ByteArray) (m : Int) (r : Nat × Bool × Nat) (i : Nat) (h : i ≤ r.1) (h2 : r.2.1 = false → i + 4 ≤ r.1) (h3 : r.1 ≤ s.size) (_hm : 0 ≤ m) : i ≤ (cntOf s m r).i ∧ ((cntOf s m r).w = false → i + (cntOf s m r).t.size ≤ (cntOf s m r).i ∧ m ≤ (cntOf s m r).t.size) := by
  cases hw : r.2.1 with
  | true => rw [cntOf_wrong s m r hw]; exact ⟨h, fun h => (by cases h)⟩
  | false =>
    have h4 := h2 hw
    by_cases h5 : sgN 4 r.2.2 < m ∨ (s.size : Int) - r.1 < sgN 4 r.2.2
    · rw [cntOf_no s m r hw h5]; exact ⟨by simp only; omega, fun h => (by cases h)⟩
    · rw [cntOf_ok s m r hw h5]
      have hsz : (s.extract r.1 (r.1 + (sgN 4 r.2.2).toNat)).size = (sgN 4 r.2.2).toNat := by rw [ByteArray.size_extract]; omega
      exact ⟨by simp only; omega, fun _ => ⟨by simp only [hsz]; omega, by simp only [hsz]; omega⟩⟩

theorem rdA_ge (s : ByteArray) (big : Bool) (a k n : Int) (i : Nat) (wr : Bool) (hi : i ≤ s.size) : i ≤ (rdA s big a k n i wr).i := by
  have nb := fun q => numR_bd (bytesOf s) big a q i wr (by rw [bytesOf_length]; exact hi)
  have h4 := nb 4
  rw [bytesOf_length] at h4
  unfold rdA
  by_cases k0 : k = 0
  · rw [if_pos k0]; exact (nb 1).1
  rw [if_neg k0]
  by_cases k1 : k = 1
  · rw [if_pos k1]
    unfold flagA
    obtain ⟨g1, _, g3, _, _⟩ := nb 1
    cases h : (numR (bytesOf s) big a 1 i wr).2.1 with
    | true => rw [flagOf_wrong _ h]; exact g1
    | false =>
      have := g3 h
      by_cases h2 : 1 < (numR (bytesOf s) big a 1 i wr).2.2
      · rw [flagOf_two _ h h2]; simp only; omega
      · rw [flagOf_ok _ h h2]; exact g1
  rw [if_neg k1]
  by_cases k2 : k = 2
  · rw [if_pos k2]; exact (nb 2).1
  rw [if_neg k2]
  by_cases k3 : k = 3
  · rw [if_pos k3]; exact (nb 4).1
  rw [if_neg k3]
  by_cases k4 : k = 4
  · rw [if_pos k4]; exact (nb 8).1
  rw [if_neg k4]
  by_cases k5 : k = 5
  · rw [if_pos k5]
    obtain ⟨g1, g2⟩ := cntOf_ge s 1 (numR (bytesOf s) big a 4 i wr) i h4.1 h4.2.2.1 h4.2.1 (by omega)
    exact textOf_ge _ i (fun _ => g1) (fun hw => ⟨(g2 hw).1, by have := (g2 hw).2; change (1 : Int) ≤ ((cntOf s 1 (numR (bytesOf s) big a 4 i wr)).t.size : Nat) at this; change 1 ≤ (cntOf s 1 (numR (bytesOf s) big a 4 i wr)).t.size; omega⟩)
  rw [if_neg k5]
  by_cases k6 : k = 6
  · rw [if_pos k6]; exact (cntOf_ge s 0 (numR (bytesOf s) big a 4 i wr) i h4.1 h4.2.2.1 h4.2.1 (by omega)).1
  rw [if_neg k6]
  by_cases k7 : k = 7
  · rw [if_pos k7]
    cases wr
    · by_cases h1 : n < 0
      · rw [rawA_neg s n i h1]; exact Nat.le_refl _
      · by_cases h2 : (s.size : Int) - i < n
        · rw [rawA_end s n i h1 h2]; exact hi
        · rw [rawA_ok s n i h1 h2]; simp only; omega
    · rw [rawA_wrong]; exact Nat.le_refl _
  rw [if_neg k7]
  cases wr
  · cases hz : szB n with
    | false => rw [algA_size s a n i hz]; exact Nat.le_refl _
    | true =>
      have hn := (szB_iff n).1 hz
      obtain ⟨q, rfl⟩ : ∃ q : Nat, n = (q : Int) := ⟨n.toNat, by omega⟩
      cases hf : firstBad (bytesOf s) i (padK' a i q) with
      | some j =>
        rw [algA_some s a q i j hz hf]
        exact (firstBad_some _ _ _ _ (by rw [bytesOf_length]; exact hi) hf).1
      | none =>
        rw [algA_none s a q i hz hf]
        simp only; omega
  · rw [algA_wrong]; exact Nat.le_refl _

theorem rdA_true (s : ByteArray) (big : Bool) (a k n : Int) (i : Nat) : st (rdA s big a k n i true) = (i, true) := by
  unfold rdA
  repeat' split
  all_goals rfl

/-- What k acts leave. -/
def runTo (s : ByteArray) (big : Bool) (l : List ActD) : Nat → Nat × Bool
  | 0 => (0, false)
  | k + 1 => if h : k < l.length then st (rdA s big 0 l[k].k l[k].n (runTo s big l k).1 (runTo s big l k).2) else runTo s big l k

theorem runTo_succ (s : ByteArray) (big : Bool) (l : List ActD) (k : Nat) (h : k < l.length) : runTo s big l (k + 1) = st (rdA s big 0 l[k].k l[k].n (runTo s big l k).1 (runTo s big l k).2) := by
  rw [runTo, dif_pos h]

theorem runTo_bd (s : ByteArray) (big : Bool) (l : List ActD) : ∀ k, (runTo s big l k).1 ≤ s.size
  | 0 => Nat.zero_le _
  | k + 1 => by
    by_cases h : k < l.length
    · rw [runTo_succ s big l k h]; exact rdA_bd s big 0 _ _ _ _ (runTo_bd s big l k)
    · rw [runTo, dif_neg h]; exact runTo_bd s big l k

theorem runTo_step (s : ByteArray) (big : Bool) (l : List ActD) (k : Nat) : (runTo s big l k).1 ≤ (runTo s big l (k + 1)).1 ∧ ((runTo s big l k).2 = true → runTo s big l (k + 1) = runTo s big l k) := by
  by_cases h : k < l.length
  · rw [runTo_succ s big l k h]
    refine ⟨rdA_ge s big 0 _ _ _ _ (runTo_bd s big l k), fun hw => ?_⟩
    rw [hw, rdA_true]
    exact Prod.ext rfl hw.symm
  · rw [runTo, dif_neg h]; exact ⟨Nat.le_refl _, fun _ => rfl⟩

theorem runTo_later (s : ByteArray) (big : Bool) (l : List ActD) (k : Nat) : ∀ d, (runTo s big l k).1 ≤ (runTo s big l (k + d)).1 ∧ ((runTo s big l k).2 = true → runTo s big l (k + d) = runTo s big l k)
  | 0 => ⟨Nat.le_refl _, fun _ => rfl⟩
  | d + 1 => by
    obtain ⟨h1, h2⟩ := runTo_later s big l k d
    obtain ⟨h3, h4⟩ := runTo_step s big l (k + d)
    refine ⟨Nat.le_trans h1 h3, fun hw => ?_⟩
    have h5 := h2 hw
    rw [← Nat.add_assoc, h4 (by rw [h5]; exact hw), h5]

theorem first_same {s s' : ByteArray} (big : Bool) (l : List ActD) {m B : Nat} (h : Same (bytesOf s) (bytesOf s') m) (hB : runTo s big l l.length = (B, true)) (hlt : B < s.size) (hm : min s.size (B + 4) ≤ m) :
    ∀ k, k ≤ l.length → runTo s' big l k = runTo s big l k
  | 0, _ => rfl
  | k + 1, hk => by
    have ih := first_same big l h hB hlt hm k (by omega)
    have hkl : k < l.length := by omega
    rw [runTo_succ s' big l k hkl, runTo_succ s big l k hkl, ih]
    cases hw : (runTo s big l k).2 with
    | true => rw [rdA_true, rdA_true]
    | false =>
      obtain ⟨d, hd⟩ : ∃ d, l.length = (k + 1) + d := ⟨l.length - (k + 1), by omega⟩
      obtain ⟨h1, h2⟩ := runTo_later s big l (k + 1) d
      rw [← hd, hB, runTo_succ s big l k hkl, hw] at h1 h2
      refine rdA_same h big 0 _ _ _ (runTo_bd s big l k) ⟨fun _ => ?_, fun hw2 => ?_⟩
      · have : (rdA s big 0 l[k].k l[k].n (runTo s big l k).1 false).i ≤ B := h1
        omega
      · have h3 := h2 hw2
        have : B = (rdA s big 0 l[k].k l[k].n (runTo s big l k).1 false).i := congrArg Prod.fst h3
        omega

end Go.Proofs.Ytdklmeamhcgohaa
