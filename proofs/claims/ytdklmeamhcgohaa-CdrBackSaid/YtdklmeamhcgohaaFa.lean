/-
  PROVED HERE: where bytes are wrong for a reader, all others that are the same up to there are wrong, too.
-/
import Derived.Test.YtdklmeamhcgohaaRr
import Derived.Test.YtdklmeamhcgohaaRu
namespace Go.Proofs.Ytdklmeamhcgohaa
open Go.RowKit

theorem numR_same {l l' : List UInt8} {m : Nat} (h : Same l l' m) (big : Bool) (a : Int) (k i : Nat) (_hi : i ≤ l.length) (hm : (numR l big a k i false).2.1 = false → (numR l big a k i false).1 ≤ m)
    (hw : (numR l big a k i false).2.1 = true → (numR l big a k i false).1 < l.length ∧ (numR l big a k i false).1 < m) : numR l' big a k i false = numR l big a k i false := by
  cases hf : firstBad l i (padK' a i k) with
  | some j =>
    rw [numR_pad l big a k i j hf] at hm hw ⊢
    exact numR_pad l' big a k i j (firstBad_same_some h _ i j (hw rfl).2 hf)
  | none =>
    by_cases h2 : i + padK' a i k + k ≤ l.length
    · rw [numR_ok l big a k i hf h2] at hm hw ⊢
      have := hm rfl
      rw [numR_ok l' big a k i (firstBad_same_none h _ i (by simp only at this; omega) hf) (by rw [h.1]; exact h2), pieceL_same h _ _ this]
    · rw [numR_end l big a k i hf (by omega)] at hm hw ⊢
      have := (hw rfl).1
      simp only at this
      omega

theorem bytes_piece {s s' : ByteArray} {m : Nat} (h : Same (bytesOf s) (bytesOf s') m) (q k : Nat) (hq : q + k ≤ m) : bytesOf (s'.extract q (q + k)) = bytesOf (s.extract q (q + k)) := by
  rw [bytesOf_extract, bytesOf_extract, pieceL_same h q k hq]

theorem numR_lt {l : List UInt8} (big : Bool) (a : Int) (k i : Nat) (wr : Bool) (hi : i ≤ l.length) : i ≤ (numR l big a k i wr).1 ∧ ((numR l big a k i wr).2.1 = false → i + k ≤ (numR l big a k i wr).1) :=
  ⟨(numR_bd l big a k i wr hi).1, (numR_bd l big a k i wr hi).2.2.1⟩

/-- What an act leaves: the next index, and whether something was wrong. -/
def st (R : RR) : Nat × Bool := (R.i, R.w)

/-- The bytes agree as far as an act on them has told. -/
structure Told (s : ByteArray) (R : RR) (m : Nat) : Prop where
  ok : R.w = false → R.i ≤ m
  no : R.w = true → R.i < s.size ∧ min s.size (R.i + 4) ≤ m

theorem numA_same {s s' : ByteArray} {m : Nat} (h : Same (bytesOf s) (bytesOf s') m) (big : Bool) (a : Int) (k i : Nat) (hi : i ≤ s.size) (ht : Told s (numA s big a k i false) m) : st (numA s' big a k i false) = st (numA s big a k i false) := by
  have := numR_same h big a k i (by rw [bytesOf_length]; exact hi) ht.ok (fun hw => by have := ht.no hw; rw [bytesOf_length]; simp only [numA] at this; omega)
  unfold numA st
  rw [this]

theorem flagA_same {s s' : ByteArray} {m : Nat} (h : Same (bytesOf s) (bytesOf s') m) (big : Bool) (a : Int) (i : Nat) (hi : i ≤ s.size) (ht : Told s (flagA s big a i false) m) : st (flagA s' big a i false) = st (flagA s big a i false) := by
  obtain ⟨_, hb2, hb3, _, _⟩ := numR_bd (bytesOf s) big a 1 i false (by rw [bytesOf_length]; exact hi)
  rw [bytesOf_length] at hb2
  have : numR (bytesOf s') big a 1 i false = numR (bytesOf s) big a 1 i false := by
    refine numR_same h big a 1 i (by rw [bytesOf_length]; exact hi) (fun hw => ?_) (fun hw => ?_)
    · by_cases h2 : 1 < (numR (bytesOf s) big a 1 i false).2.2
      · have := ht.no (by unfold flagA; rw [flagOf_two _ hw h2])
        unfold flagA at this
        rw [flagOf_two _ hw h2] at this
        have := hb3 hw
        simp only at *
        omega
      · have := ht.ok (by unfold flagA; rw [flagOf_ok _ hw h2])
        unfold flagA at this
        rw [flagOf_ok _ hw h2] at this
        exact this
    · have := ht.no (by unfold flagA; rw [flagOf_wrong _ hw])
      unfold flagA at this
      rw [flagOf_wrong _ hw] at this
      rw [bytesOf_length]
      simp only at this
      omega
  unfold flagA
  rw [this]

/-- What was counted is the same, if the number is. -/
theorem cnt_same {s s' : ByteArray} {m : Nat} (h : Same (bytesOf s) (bytesOf s') m) (big : Bool) (a : Int) (least : Int) (i : Nat) (hi : i ≤ s.size) (ht : Told s (cntA s big a least i false) m) :
    numR (bytesOf s') big a 4 i false = numR (bytesOf s) big a 4 i false := by
  obtain ⟨_, hb2, hb3, _, _⟩ := numR_bd (bytesOf s) big a 4 i false (by rw [bytesOf_length]; exact hi)
  rw [bytesOf_length] at hb2
  refine numR_same h big a 4 i (by rw [bytesOf_length]; exact hi) (fun hw => ?_) (fun hw => ?_)
  · by_cases h2 : sgN 4 (numR (bytesOf s) big a 4 i false).2.2 < least ∨ (s.size : Int) - (numR (bytesOf s) big a 4 i false).1 < sgN 4 (numR (bytesOf s) big a 4 i false).2.2
    · have := ht.no (by unfold cntA; rw [cntOf_no s least _ hw h2])
      unfold cntA at this
      rw [cntOf_no s least _ hw h2] at this
      have := hb3 hw
      simp only at *
      omega
    · have := ht.ok (by unfold cntA; rw [cntOf_ok s least _ hw h2])
      unfold cntA at this
      rw [cntOf_ok s least _ hw h2] at this
      simp only at this
      omega
  · have := ht.no (by unfold cntA; rw [cntOf_wrong s least _ hw])
    unfold cntA at this
    rw [cntOf_wrong s least _ hw] at this
    rw [bytesOf_length]
    simp only at this
    omega

theorem cntOf_st {s s' : ByteArray} (hsz : s'.size = s.size) (least : Int) (r : Nat × Bool × Nat) : st (cntOf s' least r) = st (cntOf s least r) := by
  unfold cntOf st
  rw [hsz]
  cases r.2.1
  · simp only [Bool.false_eq_true, if_false]
    split <;> rfl
  · rfl

theorem zero_first (t t' : ByteArray) (z : Nat) (hz : Lib.indexByte (bytesOf t) 0 = z) (hs : ∀ j, j ≤ z → (bytesOf t')[j]? = (bytesOf t)[j]?) : Lib.indexByte (bytesOf t') 0 = z := by
  obtain ⟨h1, h2⟩ := Lib.indexByte_some hz
  have hge := Lib.indexByte_ge (bytesOf t') 0
  have h3 : (bytesOf t')[z]? = some 0 := (hs z (Nat.le_refl _)).trans h1
  by_cases h0 : Lib.indexByte (bytesOf t') 0 = -1
  · exact absurd h3 (Lib.indexByte_none h0 z)
  · obtain ⟨o, ho⟩ : ∃ o : Nat, Lib.indexByte (bytesOf t') 0 = o := ⟨_, (Int.toNat_of_nonneg (by omega)).symm⟩
    obtain ⟨h4, h5⟩ := Lib.indexByte_some ho
    rcases Nat.lt_trichotomy o z with h | h | h
    · exact absurd ((hs o (by omega)).symm.trans h4) (h2 o h)
    · rw [ho, h]
    · exact absurd h3 (h5 z h)

set_option maxHeartbeats 2000000 in
theorem textA_same {s s' : ByteArray} {m : Nat} (h : Same (bytesOf s) (bytesOf s') m) (big : Bool) (a : Int) (i : Nat) (hi : i ≤ s.size) (ht : Told s (textA s big a i false) m) : st (textA s' big a i false) = st (textA s big a i false) := by
  have hsz : s'.size = s.size := by have := h.1; rwa [bytesOf_length, bytesOf_length] at this
  obtain ⟨_, hb2, hb3, _, _⟩ := numR_bd (bytesOf s) big a 4 i false (by rw [bytesOf_length]; exact hi)
  rw [bytesOf_length] at hb2
  unfold textA at ht ⊢
  cases hw : (numR (bytesOf s) big a 4 i false).2.1 with
  | true =>
    have hc : cntA s big a 1 i false = ⟨0, noB, 12, (numR (bytesOf s) big a 4 i false).1, true⟩ := cntOf_wrong s 1 _ hw
    rw [hc, textOf_wrong _ rfl] at ht
    have hn := cnt_same h big a 1 i hi (by rw [hc]; exact ht)
    have hc' : cntA s' big a 1 i false = ⟨0, noB, 12, (numR (bytesOf s) big a 4 i false).1, true⟩ := by unfold cntA; rw [hn]; exact cntOf_wrong s' 1 _ hw
    rw [hc, hc']
  | false =>
    have hI := hb3 hw
    by_cases h2 : sgN 4 (numR (bytesOf s) big a 4 i false).2.2 < 1 ∨ (s.size : Int) - (numR (bytesOf s) big a 4 i false).1 < sgN 4 (numR (bytesOf s) big a 4 i false).2.2
    · have hc : cntA s big a 1 i false = ⟨0, noB, 12, (numR (bytesOf s) big a 4 i false).1 - 4, true⟩ := cntOf_no s 1 _ hw h2
      rw [hc, textOf_wrong _ rfl] at ht
      have hn := cnt_same h big a 1 i hi (by rw [hc]; exact ht)
      have hc' : cntA s' big a 1 i false = ⟨0, noB, 12, (numR (bytesOf s) big a 4 i false).1 - 4, true⟩ := by unfold cntA; rw [hn]; exact cntOf_no s' 1 _ hw (by rw [hsz]; exact h2)
      rw [hc, hc']
    · obtain ⟨N, hN⟩ : ∃ N : Nat, sgN 4 (numR (bytesOf s) big a 4 i false).2.2 = N := ⟨(sgN 4 (numR (bytesOf s) big a 4 i false).2.2).toNat, by omega⟩
      obtain ⟨I, hII⟩ : ∃ I, (numR (bytesOf s) big a 4 i false).1 = I := ⟨_, rfl⟩
      have hN1 : 1 ≤ N := by omega
      have hIN : I + N ≤ s.size := by omega
      have hc : cntA s big a 1 i false = ⟨0, s.extract I (I + N), 0, I + N, false⟩ := by
        have := cntOf_ok s 1 _ hw h2
        rw [hN, hII, Int.toNat_natCast] at this
        exact this
      have hts : (s.extract I (I + N)).size = N := by rw [ByteArray.size_extract]; omega
      have hts' : (s'.extract I (I + N)).size = N := by rw [ByteArray.size_extract]; omega
      rw [hc] at ht
      obtain ⟨C, hC⟩ : ∃ C : RR, C = ⟨0, s.extract I (I + N), 0, I + N, false⟩ := ⟨_, rfl⟩
      obtain ⟨D, hD⟩ : ∃ D : RR, D = ⟨0, s'.extract I (I + N), 0, I + N, false⟩ := ⟨_, rfl⟩
      have hCw : C.w = false := by rw [hC]
      have hCt : C.t = s.extract I (I + N) := by rw [hC]
      have hCi : C.i = I + N := by rw [hC]
      have hDw : D.w = false := by rw [hD]
      have hDt : D.t = s'.extract I (I + N) := by rw [hD]
      have hDi : D.i = I + N := by rw [hD]
      rw [← hC] at ht
      rw [← hCt] at hts
      rw [← hDt] at hts'
      have hmI : I ≤ m := by
        by_cases h4 : Lib.indexByte (bytesOf C.t) 0 < 0
        · rw [textOf_none C hCw h4] at ht
          have := ht.no rfl
          simp only [hCi] at this
          omega
        · by_cases h5 : Lib.indexByte (bytesOf C.t) 0 < (C.t.size : Int) - 1
          · rw [textOf_mid C hCw h4 h5] at ht
            have := ht.no rfl
            simp only [hCi, hts] at this
            omega
          · rw [textOf_ok C hCw h4 h5] at ht
            have := ht.ok rfl
            simp only [hCi] at this
            omega
      have hn : numR (bytesOf s') big a 4 i false = numR (bytesOf s) big a 4 i false :=
        numR_same h big a 4 i (by rw [bytesOf_length]; exact hi) (fun _ => by rw [hII]; exact hmI) (fun hw' => by rw [hw] at hw'; cases hw')
      have hc' : cntA s' big a 1 i false = D := by
        rw [hD]
        unfold cntA
        rw [hn]
        have := cntOf_ok s' 1 _ hw (by rw [hsz]; exact h2)
        rw [hN, hII, Int.toNat_natCast] at this
        exact this
      rw [hc, ← hC, hc']
      by_cases h4 : Lib.indexByte (bytesOf C.t) 0 < 0
      · rw [textOf_none C hCw h4] at ht ⊢
        have := ht.no rfl
        simp only [hCi] at this
        have hb : bytesOf D.t = bytesOf C.t := by rw [hCt, hDt]; exact bytes_piece h I N (by omega)
        rw [textOf_none D hDw (by rw [hb]; exact h4)]
        unfold st
        simp only [hCi, hDi]
      · obtain ⟨z, hz⟩ : ∃ z : Nat, Lib.indexByte (bytesOf C.t) 0 = z := ⟨_, (Int.toNat_of_nonneg (by omega)).symm⟩
        have hzl := at_lt (Lib.indexByte_some hz).1
        rw [bytesOf_length, hts] at hzl
        by_cases h5 : Lib.indexByte (bytesOf C.t) 0 < (C.t.size : Int) - 1
        · rw [textOf_mid C hCw h4 h5] at ht ⊢
          have := ht.no rfl
          simp only [hz, hts, hCi] at this
          have hz' : Lib.indexByte (bytesOf D.t) 0 = z := zero_first _ _ z hz fun j hj => by
            rw [hCt, hDt, bytesOf_extract, bytesOf_extract, pieceL_at _ _ _ _ (by omega), pieceL_at _ _ _ _ (by omega)]
            exact h.2 _ (by omega)
          rw [textOf_mid D hDw (by rw [hz']; omega) (by rw [hz', hts']; rw [hz, hts] at h5; exact h5)]
          unfold st
          simp only [hz, hz', hts, hts', hCi, hDi]
        · rw [textOf_ok C hCw h4 h5] at ht ⊢
          have := ht.ok rfl
          simp only [hCi] at this
          have hb : bytesOf D.t = bytesOf C.t := by rw [hCt, hDt]; exact bytes_piece h I N (by omega)
          rw [textOf_ok D hDw (by rw [hb]; exact h4) (by rw [hb, hts', ← hts]; exact h5)]
          unfold st
          simp only [hCi, hDi]

theorem cntA_same {s s' : ByteArray} {m : Nat} (h : Same (bytesOf s) (bytesOf s') m) (big : Bool) (a : Int) (i : Nat) (hi : i ≤ s.size) (ht : Told s (cntA s big a 0 i false) m) : st (cntA s' big a 0 i false) = st (cntA s big a 0 i false) := by
  have hsz : s'.size = s.size := by have := h.1; rwa [bytesOf_length, bytesOf_length] at this
  have hn := cnt_same h big a 0 i hi ht
  unfold cntA
  rw [hn]
  exact cntOf_st hsz 0 _

theorem algA_same {s s' : ByteArray} {m : Nat} (h : Same (bytesOf s) (bytesOf s') m) (a n : Int) (i : Nat) (_hi : i ≤ s.size) (ht : Told s (algA s a n i false) m) : st (algA s' a n i false) = st (algA s a n i false) := by
  cases hz : szB n with
  | false => rw [algA_size s a n i hz, algA_size s' a n i hz]
  | true =>
    have hn := (szB_iff n).1 hz
    obtain ⟨q, rfl⟩ : ∃ q : Nat, n = (q : Int) := ⟨n.toNat, by omega⟩
    cases hf : firstBad (bytesOf s) i (padK' a i q) with
    | some j =>
      rw [algA_some s a q i j hz hf] at ht ⊢
      have := ht.no rfl
      simp only at this
      rw [algA_some s' a q i j hz (firstBad_same_some h _ i j (by omega) hf)]
    | none =>
      rw [algA_none s a q i hz hf] at ht ⊢
      have := ht.ok rfl
      rw [algA_none s' a q i hz (firstBad_same_none h _ i this hf)]

theorem rawA_same {s s' : ByteArray} (hsz : s'.size = s.size) (n : Int) (i : Nat) : st (rawA s' n i false) = st (rawA s n i false) := by
  unfold rawA st
  rw [hsz]
  simp only [Bool.false_eq_true, if_false]
  repeat' split
  all_goals rfl

/-- ONE ACT. -/
theorem rdA_same {s s' : ByteArray} {m : Nat} (h : Same (bytesOf s) (bytesOf s') m) (big : Bool) (a k n : Int) (i : Nat) (hi : i ≤ s.size) (ht : Told s (rdA s big a k n i false) m) : st (rdA s' big a k n i false) = st (rdA s big a k n i false) := by
  have hsz : s'.size = s.size := by have := h.1; rwa [bytesOf_length, bytesOf_length] at this
  unfold rdA at ht ⊢
  by_cases k0 : k = 0
  · rw [if_pos k0] at ht; rw [if_pos k0, if_pos k0]; exact numA_same h big a 1 i hi ht
  rw [if_neg k0] at ht
  rw [if_neg k0, if_neg k0]
  by_cases k1 : k = 1
  · rw [if_pos k1] at ht; rw [if_pos k1, if_pos k1]; exact flagA_same h big a i hi ht
  rw [if_neg k1] at ht
  rw [if_neg k1, if_neg k1]
  by_cases k2 : k = 2
  · rw [if_pos k2] at ht; rw [if_pos k2, if_pos k2]; exact numA_same h big a 2 i hi ht
  rw [if_neg k2] at ht
  rw [if_neg k2, if_neg k2]
  by_cases k3 : k = 3
  · rw [if_pos k3] at ht; rw [if_pos k3, if_pos k3]; exact numA_same h big a 4 i hi ht
  rw [if_neg k3] at ht
  rw [if_neg k3, if_neg k3]
  by_cases k4 : k = 4
  · rw [if_pos k4] at ht; rw [if_pos k4, if_pos k4]; exact numA_same h big a 8 i hi ht
  rw [if_neg k4] at ht
  rw [if_neg k4, if_neg k4]
  by_cases k5 : k = 5
  · rw [if_pos k5] at ht; rw [if_pos k5, if_pos k5]; exact textA_same h big a i hi ht
  rw [if_neg k5] at ht
  rw [if_neg k5, if_neg k5]
  by_cases k6 : k = 6
  · rw [if_pos k6] at ht; rw [if_pos k6, if_pos k6]; exact cntA_same h big a i hi ht
  rw [if_neg k6] at ht
  rw [if_neg k6, if_neg k6]
  by_cases k7 : k = 7
  · rw [if_pos k7, if_pos k7]; exact rawA_same hsz n i
  rw [if_neg k7] at ht
  rw [if_neg k7, if_neg k7]
  exact algA_same h a n i hi ht

end Go.Proofs.Ytdklmeamhcgohaa
