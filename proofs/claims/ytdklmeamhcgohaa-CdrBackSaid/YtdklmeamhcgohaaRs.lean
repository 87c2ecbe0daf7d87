/-
  PROVED HERE: what Text, Bytes, Raw and Align of a reader of the reference return and do: what those of package cdr do.
-/
import Derived.Test.YtdklmeamhcgohaaRr
import Derived.Test.YtdklmeamhcgohaaRj
import Derived.Lib.IndexLaws
import Derived.Lib.Bytealg
namespace Go.Proofs.Ytdklmeamhcgohaa
open Go.RowKit

/-- Where the first zero stands, or how many bytes there are. -/
def zeroAt (s : ByteArray) : Nat := if Lib.indexByte (bytesOf s) 0 < 0 then s.size else (Lib.indexByte (bytesOf s) 0).toNat

theorem zeroAt_of (s : ByteArray) (k : Nat) (h1 : (bytesOf s)[k]? = some 0) (h2 : ∀ j, j < k → (bytesOf s)[j]? ≠ some 0) : zeroAt s = k := by
  have hge := Lib.indexByte_ge (bytesOf s) 0
  by_cases h0 : Lib.indexByte (bytesOf s) 0 < 0
  · exact absurd h1 (Lib.indexByte_none (show Lib.indexByte (bytesOf s) 0 = -1 by omega) k)
  · obtain ⟨o, ho⟩ : ∃ o : Nat, Lib.indexByte (bytesOf s) 0 = o := ⟨_, (Int.toNat_of_nonneg (by omega)).symm⟩
    obtain ⟨h3, h4⟩ := Lib.indexByte_some ho
    have : o = k := by
      rcases Nat.lt_trichotomy o k with h | h | h
      · exact absurd h3 (h2 o h)
      · exact h
      · exact absurd h1 (h4 k h)
    unfold zeroAt
    rw [if_neg h0, ho, this]
    rfl
theorem zeroAt_none (s : ByteArray) (h : ∀ k : Nat, (bytesOf s)[k]? ≠ some 0) : zeroAt s = s.size := by
  unfold zeroAt
  by_cases h0 : Lib.indexByte (bytesOf s) 0 < 0
  · rw [if_pos h0]
  · obtain ⟨o, ho⟩ : ∃ o : Nat, Lib.indexByte (bytesOf s) 0 = o := ⟨_, (Int.toNat_of_nonneg (by omega)).symm⟩
    exact absurd (Lib.indexByte_some ho).1 (h o)

set_option maxRecDepth 100000 in
set_option maxHeartbeats 800000 in
theorem zero_exact (s : ByteArray) (w : World) (hs : s.size ≤ 1000000) :
    Calls Try.prog 89 #[.string s] w fun e w' => e = .returned (.int .i64 (zeroAt s)) ∧ w = w' := by
  go_enter Try.func89, Try.ntmps89
  go_wp2_with fail
  go_loop [6] (fun i => ∃ k : Nat, i = .int .i64 k ∧ k ≤ s.size ∧ Hid (∀ j, j < k → (bytesOf s)[j]? ≠ some 0)) (fun i => s.size - (intOf i).toNat)
  case atStart => exact ⟨0, rfl, Nat.zero_le _, Lib.hid fun j hj => by omega⟩
  case round =>
    obtain ⟨k, rfl, hk, HA⟩ := hrel
    by_cases hlt : k < s.size
    · have HL := Lib.hid (byte_at s k hlt)
      by_cases hb : ((s[k].toNat : Int) == 0) = true
      · have h0 : s[k] = 0 := by
          apply UInt8.toNat.inj
          simpa using hb
        have HZ := Lib.hid (zeroAt_of s k (HL.out.trans (congrArg some h0)) HA.out)
        clear h0
        go_wp2_with fail
        go_ret
        exact ⟨by rw [HZ.out]; rfl, rfl⟩
      · have hb2 : ((s[k].toNat : Int) == 0) = false := by simpa using hb
        have HA2 : Hid (∀ j, j < k + 1 → (bytesOf s)[j]? ≠ some 0) := Lib.hid (by
          intro j hj
          by_cases e : j < k
          · exact HA.out j e
          · obtain rfl : j = k := by omega
            rw [HL.out]
            intro h
            have h2 : s[j] = 0 := by simpa using h
            rw [h2] at hb2
            simp at hb2)
        clear hb
        go_wp2_with fail
        exact ⟨⟨k + 1, by go_num, hlt, HA2⟩, by simp [intOf]; omega⟩
    · obtain rfl : k = s.size := by omega
      have HN := Lib.hid (zeroAt_none s fun j hj => by
        have := at_lt hj
        rw [bytesOf_length] at this
        exact HA.out j this hj)
      go_wp2_with fail
      go_ret
      exact ⟨by rw [HN.out]; rfl, rfl⟩

set_option maxRecDepth 100000 in
set_option maxHeartbeats 1600000 in
theorem rdtext_any (b : Nat) (big : Bool) (a : Int) (s : ByteArray) (i : Nat) (wr : Bool) (w : World) (h : RdAt w b big a s i wr) (ha : 0 ≤ a) (ha2 : a ≤ 7) (hs : s.size ≤ 1000000) (hi : i ≤ s.size) :
    Calls Try.prog 72 #[.pointer (some ⟨b, 0, none⟩)] w fun e w' => e = .returned (.tuple #[.string (textA s big a i wr).t, .int .i64 (textA s big a i wr).e]) ∧ SG w b big a s (textA s big a i wr).i (textA s big a i wr).w w' := by
  have NU := rdlong_any b big a s i wr w h ha ha2 hs hi
  obtain ⟨_, hb2, hb3, hb4, hb5⟩ := numR_bd (bytesOf s) big a 4 i wr (by rw [bytesOf_length]; exact hi)
  rw [bytesOf_length] at hb2
  unfold textA cntA
  unfold numA at NU
  obtain ⟨⟨I, W, U⟩, hr⟩ : ∃ r, numR (bytesOf s) big a 4 i wr = r := ⟨_, rfl⟩
  rw [hr] at NU hb2 hb3 hb4 hb5 ⊢
  obtain ⟨n, hn⟩ : ∃ n, sgN 4 U = n := ⟨_, rfl⟩
  dsimp only at hb2 hb3 hb4 hb5 NU
  rw [hn] at NU
  have NU := Lib.hid NU
  clear hr h hb4 hb5
  cases W
  · have hI := hb3 rfl
    clear hb3
    by_cases h2 : n < 1 ∨ (s.size : Int) - I < n
    · rw [cntOf_no s 1 _ rfl (by rw [hn]; exact h2), textOf_wrong _ rfl]
      have hcast : a + (I : Int) - 4 = a + ((I - 4 : Nat) : Int) := by omega
      have hST : ∀ W, RdAt W b big a s I false → Calls Try.prog 100 #[.pointer (some ⟨b, 0, none⟩), .int .i64 (a + ((I - 4 : Nat) : Int))] W fun e w' => e = .returned (.int .i64 12) ∧ RdAt w' b big a s (I - 4) true ∧ W.grownBy w' (some b) := fun W hW => fail_any b big a s I false (I - 4) W hW (by omega)
      rw [← hcast] at hST
      have ST := Lib.hid hST
      clear hST hcast hn
      by_cases h3 : n < 1
      · have d1 : decide (n < 1) = true := by simpa using h3
        clear h2
        go_enter Try.func72, Try.ntmps72
        go_wp2_with (first | (go_at_call 70; refine NU.out.mono ?_; rintro e w1 ⟨rfl, h1⟩; dsimp only [errW]; have H1 := Lib.hid h1; clear h1) | (go_at_call 26; refine (rdplace_any b big a s I false _ H1.out.1 ha ha2 (by omega)).mono ?_; rintro e w2 ⟨rfl, nq, rfl⟩) | (go_at_call 100; refine (ST.out _ (H1.out.drewN nq).1).mono ?_; rintro e w3 ⟨rfl, h3, g3⟩; have H3 := Lib.hid (show SG w b big a s (I - 4) true w3 from ⟨h3, (H1.out.drewN nq).2.trans g3⟩); clear h3 g3))
        go_ret2
        exact ⟨rfl, H3.out⟩
      · have d1 : decide (n < 1) = false := by simpa using h3
        have d2 : decide ((s.size : Int) - I < n) = true := by simp; omega
        clear h2
        go_enter Try.func72, Try.ntmps72
        go_wp2_with (first | (go_at_call 70; refine NU.out.mono ?_; rintro e w1 ⟨rfl, h1⟩; dsimp only [errW]; have H1 := Lib.hid h1; clear h1) | (go_at_call 28; refine (rdleft_any b big a s I false _ H1.out.1 (by omega) (by omega)).mono ?_; rintro e w2 ⟨rfl, np, rfl⟩) | (go_at_call 26; refine (rdplace_any b big a s I false _ (H1.out.drewN np).1 ha ha2 (by omega)).mono ?_; rintro e w2 ⟨rfl, nq, rfl⟩) | (go_at_call 100; refine (ST.out _ (H1.out.drewN (np + nq)).1).mono ?_; rintro e w3 ⟨rfl, h3, g3⟩; have H3 := Lib.hid (show SG w b big a s (I - 4) true w3 from ⟨h3, (H1.out.drewN (np + nq)).2.trans g3⟩); clear h3 g3))
        go_ret2
        exact ⟨rfl, H3.out⟩
    · rw [cntOf_ok s 1 _ rfl (by rw [hn]; exact h2)]
      dsimp only
      rw [hn]
      obtain ⟨N, rfl⟩ : ∃ N : Nat, n = (N : Int) := ⟨n.toNat, by omega⟩
      rw [Int.toNat_natCast]
      have hIN : I + N ≤ s.size := by omega
      have hN1 : 1 ≤ N := by omega
      have d1 : decide ((N : Int) < 1) = false := by simp; omega
      have d2 : decide ((s.size : Int) - I < N) = false := by simp; omega
      obtain ⟨t, ht⟩ : ∃ t, s.extract I (I + N) = t := ⟨_, rfl⟩
      have hts : t.size = N := by rw [← ht, ByteArray.size_extract]; omega
      rw [ht]
      have HT := Lib.hid ht
      have ZA := fun w => zero_exact t w (by omega)
      obtain ⟨z, hz⟩ : ∃ z, Lib.indexByte (bytesOf t) 0 = z := ⟨_, rfl⟩
      have hge := Lib.indexByte_ge (bytesOf t) 0
      have hza : zeroAt t = if z < 0 then t.size else z.toNat := by unfold zeroAt; rw [hz]
      rw [hz] at hge
      have hidx : ((N : Int) - 1) = ((N - 1 : Nat) : Int) := by omega
      obtain ⟨r, hr⟩ : ∃ r, N - 1 = r := ⟨_, rfl⟩
      rw [hr] at hidx
      have hrt : r < t.size := by omega
      clear h2 hn ht
      have ZA := Lib.hid ZA
      by_cases h4 : z < 0
      · have hzn : zeroAt t = N := by rw [hza, if_pos h4, hts]
        have hT0 : textOf ⟨0, t, 0, I + N, false⟩ = ⟨0, noB, 12, I + N - 1, true⟩ := textOf_none _ rfl (by dsimp only; rw [hz]; exact h4)
        rw [hT0]
        have g2 : ((t[r].toNat : Int) != 0) = true := by
          have h0 : (bytesOf t)[r]? ≠ some 0 := Lib.indexByte_none (show Lib.indexByte (bytesOf t) 0 = -1 by omega) r
          rw [byte_at t r hrt] at h0
          have h1 : t[r].toNat ≠ 0 := fun e => h0 (by rw [show t[r] = 0 from UInt8.toNat.inj (by simpa using e)])
          simp; omega
        rw [hzn] at ZA
        have hcast : a + (I : Int) + N - 1 = a + ((I + N - 1 : Nat) : Int) := by omega
        have hST : ∀ W, RdAt W b big a s I false → Calls Try.prog 100 #[.pointer (some ⟨b, 0, none⟩), .int .i64 (a + ((I + N - 1 : Nat) : Int))] W fun e w' => e = .returned (.int .i64 12) ∧ RdAt w' b big a s (I + N - 1) true ∧ W.grownBy w' (some b) := fun W hW => fail_any b big a s I false (I + N - 1) W hW (by omega)
        rw [← hcast] at hST
        have ST := Lib.hid hST
        have d3 : decide ((N : Int) < r) = false := by simp; omega
        clear hST hcast hT0 hza hz hge hzn hr
        go_enter Try.func72, Try.ntmps72
        go_wp2_with (first | (go_at_call 70; refine NU.out.mono ?_; rintro e w1 ⟨rfl, h1⟩; dsimp only [errW]; have H1 := Lib.hid h1; clear h1) | (go_at_call 28; refine (rdleft_any b big a s I false _ H1.out.1 (by omega) (by omega)).mono ?_; rintro e w2 ⟨rfl, np, rfl⟩))
        have HS0 := Lib.hid (H1.out.drewN np)
        generalize w1.drewN np = wc at HS0 ⊢
        have c0 := HS0.out.1.c0
        have c3 := HS0.out.1.c3
        go_quiet (fail)
        have HS1 := Lib.hid (HS0.out.drewN nq)
        generalize wc.drewN nq = wd at HS1 ⊢
        clear c0 c3
        rw [HT.out]
        go_wp2_with (first | (go_at_call 89; refine (ZA.out _).mono ?_; rintro e w3 ⟨rfl, rfl⟩) | (go_at_call 26; refine (rdplace_any b big a s I false _ HS1.out.1 ha ha2 (by omega)).mono ?_; rintro e w4 ⟨rfl, nr, rfl⟩) | (go_at_call 100; refine (ST.out _ (HS1.out.drewN nr).1).mono ?_; rintro e w5 ⟨rfl, h5, g5⟩; have H5 := Lib.hid (show SG w b big a s (I + N - 1) true w5 from ⟨h5, (HS1.out.drewN nr).2.trans g5⟩); clear h5 g5))
        go_ret2
        exact ⟨rfl, H5.out⟩
      · obtain ⟨Z, rfl⟩ : ∃ Z : Nat, z = (Z : Int) := ⟨z.toNat, by omega⟩
        have hzn : zeroAt t = Z := by rw [hza, if_neg h4]; rfl
        rw [hzn] at ZA
        obtain ⟨hz1, hz2⟩ := Lib.indexByte_some hz
        have hzl := at_lt hz1
        rw [bytesOf_length, hts] at hzl
        by_cases h5 : Z < r
        · have hT0 : textOf ⟨0, t, 0, I + N, false⟩ = ⟨0, noB, 12, I + Z, true⟩ := by
            rw [textOf_mid _ rfl (by dsimp only; rw [hz]; omega) (by dsimp only; rw [hz, hts]; omega)]
            dsimp only
            rw [hz, hts]
            congr 1
            simp
          rw [hT0]
          have hcast : a + (I : Int) + Z = a + ((I + Z : Nat) : Int) := by omega
          have hST : ∀ W, RdAt W b big a s I false → Calls Try.prog 100 #[.pointer (some ⟨b, 0, none⟩), .int .i64 (a + ((I + Z : Nat) : Int))] W fun e w' => e = .returned (.int .i64 12) ∧ RdAt w' b big a s (I + Z) true ∧ W.grownBy w' (some b) := fun W hW => fail_any b big a s I false (I + Z) W hW (by omega)
          rw [← hcast] at hST
          have ST := Lib.hid hST
          have d3 : decide ((Z : Int) < r) = true := by simp; omega
          clear hST hcast hT0 hza hz hge hzn hr hz1 hz2
          go_enter Try.func72, Try.ntmps72
          go_wp2_with (first | (go_at_call 70; refine NU.out.mono ?_; rintro e w1 ⟨rfl, h1⟩; dsimp only [errW]; have H1 := Lib.hid h1; clear h1) | (go_at_call 28; refine (rdleft_any b big a s I false _ H1.out.1 (by omega) (by omega)).mono ?_; rintro e w2 ⟨rfl, np, rfl⟩))
          have HS0 := Lib.hid (H1.out.drewN np)
          generalize w1.drewN np = wc at HS0 ⊢
          have c0 := HS0.out.1.c0
          have c3 := HS0.out.1.c3
          go_quiet (fail)
          have HS1 := Lib.hid (HS0.out.drewN nq)
          generalize wc.drewN nq = wd at HS1 ⊢
          clear c0 c3
          rw [HT.out]
          go_wp2_with (first | (go_at_call 89; refine (ZA.out _).mono ?_; rintro e w3 ⟨rfl, rfl⟩) | (go_at_call 26; refine (rdplace_any b big a s I false _ HS1.out.1 ha ha2 (by omega)).mono ?_; rintro e w4 ⟨rfl, nr, rfl⟩) | (go_at_call 100; refine (ST.out _ (HS1.out.drewN nr).1).mono ?_; rintro e w5 ⟨rfl, h5, g5⟩; have H5 := Lib.hid (show SG w b big a s (I + Z) true w5 from ⟨h5, (HS1.out.drewN nr).2.trans g5⟩); clear h5 g5))
          go_ret2
          exact ⟨rfl, H5.out⟩
        · obtain rfl : Z = r := by omega
          have hT0 : textOf ⟨0, t, 0, I + N, false⟩ = ⟨0, t.extract 0 Z, 0, I + N, false⟩ := by
            rw [textOf_ok _ rfl (by dsimp only; rw [hz]; omega) (by dsimp only; rw [hz, hts]; omega)]
            dsimp only
            rw [hz]
            rfl
          rw [hT0]
          have g2 : ((t[Z].toNat : Int) != 0) = false := by
            rw [byte_at t Z hrt] at hz1
            have h1 : t[Z] = 0 := by simpa using hz1
            rw [h1]; rfl
          have d3 : decide ((Z : Int) < Z) = false := by simp
          clear hT0 hza hz hge hzn hr hz1 hz2
          go_enter Try.func72, Try.ntmps72
          go_wp2_with (first | (go_at_call 70; refine NU.out.mono ?_; rintro e w1 ⟨rfl, h1⟩; dsimp only [errW]; have H1 := Lib.hid h1; clear h1) | (go_at_call 28; refine (rdleft_any b big a s I false _ H1.out.1 (by omega) (by omega)).mono ?_; rintro e w2 ⟨rfl, np, rfl⟩))
          have HS0 := Lib.hid (H1.out.drewN np)
          generalize w1.drewN np = wc at HS0 ⊢
          have c0 := HS0.out.1.c0
          have c3 := HS0.out.1.c3
          go_quiet (fail)
          have HS1 := Lib.hid (HS0.out.drewN nq)
          generalize wc.drewN nq = wd at HS1 ⊢
          clear c0 c3
          rw [HT.out]
          have c3 := HS1.out.1.c3
          have f3 := HS1.out.1.f3
          have h3 := HS1.out.set3 (I + N)
          rw [show ((I + N : Nat) : Int) = (I : Int) + N from by omega] at h3
          have HS3 := Lib.hid h3
          clear h3
          go_wp2_with (go_at_call 89; refine (ZA.out _).mono ?_; rintro e w3 ⟨rfl, rfl⟩)
          go_ret2
          exact ⟨rfl, HS3.out⟩
  · rw [cntOf_wrong s 1 _ rfl, textOf_wrong _ rfl]
    clear hb3 hn
    go_enter Try.func72, Try.ntmps72
    go_wp2_with (go_at_call 70; refine NU.out.mono ?_; rintro e w1 ⟨rfl, h1⟩; dsimp only [errW]; have H1 := Lib.hid h1; clear h1)
    go_ret2
    exact ⟨rfl, H1.out⟩

theorem padK'_one (a : Int) (i : Nat) : padK' a i 1 = 0 := by have := padK'_lt a i 1 (by omega); omega
theorem takeR_raw (s : ByteArray) (a : Int) (N i : Nat) (h : i + N ≤ s.size) : takeR s a N 1 i false = ⟨0, s.extract i (i + N), 0, i + N, false⟩ := by
  have h0 := padK'_one a i
  rw [takeR_ok s a N 1 i (by rw [h0]; exact firstBad_zero _ _) (by rw [h0]; exact h), h0]
  rfl
theorem takeR_rawend (s : ByteArray) (a : Int) (N i : Nat) (h : ¬ i + N ≤ s.size) : takeR s a N 1 i false = ⟨0, noB, 12, s.size, true⟩ := by
  have h0 := padK'_one a i
  exact takeR_end s a N 1 i (by rw [h0]; exact firstBad_zero _ _) (by rw [h0]; exact h)

set_option maxRecDepth 100000 in
set_option maxHeartbeats 1600000 in
theorem rdbytes_any (b : Nat) (big : Bool) (a : Int) (s : ByteArray) (i : Nat) (wr : Bool) (w : World) (h : RdAt w b big a s i wr) (ha : 0 ≤ a) (ha2 : a ≤ 7) (hs : s.size ≤ 1000000) (hi : i ≤ s.size) :
    Calls Try.prog 73 #[.pointer (some ⟨b, 0, none⟩)] w fun e w' => e = .returned (.tuple #[.string (cntA s big a 0 i wr).t, .int .i64 (cntA s big a 0 i wr).e]) ∧ SG w b big a s (cntA s big a 0 i wr).i (cntA s big a 0 i wr).w w' := by
  have NU := rdlong_any b big a s i wr w h ha ha2 hs hi
  obtain ⟨_, hb2, hb3, hb4, hb5⟩ := numR_bd (bytesOf s) big a 4 i wr (by rw [bytesOf_length]; exact hi)
  rw [bytesOf_length] at hb2
  unfold cntA
  unfold numA at NU
  obtain ⟨⟨I, W, U⟩, hr⟩ : ∃ r, numR (bytesOf s) big a 4 i wr = r := ⟨_, rfl⟩
  rw [hr] at NU hb2 hb3 hb4 hb5 ⊢
  obtain ⟨n, hn⟩ : ∃ n, sgN 4 U = n := ⟨_, rfl⟩
  dsimp only at hb2 hb3 hb4 hb5 NU
  rw [hn] at NU
  have NU := Lib.hid NU
  clear hr h hb4 hb5
  cases W
  · have hI := hb3 rfl
    clear hb3
    by_cases h2 : n < 0 ∨ (s.size : Int) - I < n
    · rw [cntOf_no s 0 _ rfl (by rw [hn]; exact h2)]
      have hcast : a + (I : Int) - 4 = a + ((I - 4 : Nat) : Int) := by omega
      have hST : ∀ W, RdAt W b big a s I false → Calls Try.prog 100 #[.pointer (some ⟨b, 0, none⟩), .int .i64 (a + ((I - 4 : Nat) : Int))] W fun e w' => e = .returned (.int .i64 12) ∧ RdAt w' b big a s (I - 4) true ∧ W.grownBy w' (some b) := fun W hW => fail_any b big a s I false (I - 4) W hW (by omega)
      rw [← hcast] at hST
      have ST := Lib.hid hST
      clear hST hcast hn
      by_cases h3 : n < 0
      · have d1 : decide (n < 0) = true := by simpa using h3
        clear h2
        go_enter Try.func73, Try.ntmps73
        go_wp2_with (first | (go_at_call 70; refine NU.out.mono ?_; rintro e w1 ⟨rfl, h1⟩; dsimp only [errW]; have H1 := Lib.hid h1; clear h1) | (go_at_call 26; refine (rdplace_any b big a s I false _ H1.out.1 ha ha2 (by omega)).mono ?_; rintro e w2 ⟨rfl, nq, rfl⟩) | (go_at_call 100; refine (ST.out _ (H1.out.drewN nq).1).mono ?_; rintro e w3 ⟨rfl, h3, g3⟩; have H3 := Lib.hid (show SG w b big a s (I - 4) true w3 from ⟨h3, (H1.out.drewN nq).2.trans g3⟩); clear h3 g3))
        go_ret2
        exact ⟨rfl, H3.out⟩
      · have d1 : decide (n < 0) = false := by simpa using h3
        have d2 : decide ((s.size : Int) - I < n) = true := by simp; omega
        clear h2
        go_enter Try.func73, Try.ntmps73
        go_wp2_with (first | (go_at_call 70; refine NU.out.mono ?_; rintro e w1 ⟨rfl, h1⟩; dsimp only [errW]; have H1 := Lib.hid h1; clear h1) | (go_at_call 28; refine (rdleft_any b big a s I false _ H1.out.1 (by omega) (by omega)).mono ?_; rintro e w2 ⟨rfl, np, rfl⟩) | (go_at_call 26; refine (rdplace_any b big a s I false _ (H1.out.drewN np).1 ha ha2 (by omega)).mono ?_; rintro e w2 ⟨rfl, nq, rfl⟩) | (go_at_call 100; refine (ST.out _ (H1.out.drewN (np + nq)).1).mono ?_; rintro e w3 ⟨rfl, h3, g3⟩; have H3 := Lib.hid (show SG w b big a s (I - 4) true w3 from ⟨h3, (H1.out.drewN (np + nq)).2.trans g3⟩); clear h3 g3))
        go_ret2
        exact ⟨rfl, H3.out⟩
    · rw [cntOf_ok s 0 _ rfl (by rw [hn]; exact h2)]
      dsimp only
      rw [hn]
      obtain ⟨N, rfl⟩ : ∃ N : Nat, n = (N : Int) := ⟨n.toNat, by omega⟩
      rw [Int.toNat_natCast]
      have hIN : I + N ≤ s.size := by omega
      have d1 : decide ((N : Int) < 0) = false := by simp
      have d2 : decide ((s.size : Int) - I < N) = false := by simp; omega
      have hTK : ∀ W, RdAt W b big a s I false → Calls Try.prog 99 #[.pointer (some ⟨b, 0, none⟩), .int .i64 N, .int .i64 1] W fun e w' => e = .returned (.tuple #[.string (s.extract I (I + N)), .int .i64 0]) ∧ SG W b big a s (I + N) false w' := fun W hW => by
        have := take_any b big a s N I 1 false W hW ha ha2 hs hb2 (by decide)
        rw [takeR_raw s a N I hIN] at this
        exact this
      have TK := Lib.hid hTK
      clear hTK h2 hn
      go_enter Try.func73, Try.ntmps73
      go_wp2_with (first | (go_at_call 70; refine NU.out.mono ?_; rintro e w1 ⟨rfl, h1⟩; dsimp only [errW]; have H1 := Lib.hid h1; clear h1) | (go_at_call 28; refine (rdleft_any b big a s I false _ H1.out.1 (by omega) (by omega)).mono ?_; rintro e w2 ⟨rfl, np, rfl⟩) | (go_at_call 99; refine (TK.out _ (H1.out.drewN np).1).mono ?_; rintro e w3 ⟨rfl, h3⟩; have H3 := Lib.hid ((H1.out.drewN np).trans h3); clear h3))
      go_ret2
      exact ⟨rfl, H3.out⟩
  · rw [cntOf_wrong s 0 _ rfl]
    clear hb3 hn
    go_enter Try.func73, Try.ntmps73
    go_wp2_with (go_at_call 70; refine NU.out.mono ?_; rintro e w1 ⟨rfl, h1⟩; dsimp only [errW]; have H1 := Lib.hid h1; clear h1)
    go_ret2
    exact ⟨rfl, H1.out⟩

set_option maxRecDepth 100000 in
set_option maxHeartbeats 1600000 in
theorem rdraw_any (b : Nat) (big : Bool) (a n : Int) (s : ByteArray) (i : Nat) (wr : Bool) (w : World) (h : RdAt w b big a s i wr) (ha : 0 ≤ a) (ha2 : a ≤ 7) (hs : s.size ≤ 1000000) (hi : i ≤ s.size) :
    Calls Try.prog 74 #[.pointer (some ⟨b, 0, none⟩), .int .i64 n] w fun e w' => e = .returned (.tuple #[.string (rawA s n i wr).t, .int .i64 (rawA s n i wr).e]) ∧ SG w b big a s (rawA s n i wr).i (rawA s n i wr).w w' := by
  have c4 := h.c4
  have H := Lib.hid h
  cases wr
  · rw [show badN a i false = -1 from rfl] at c4
    by_cases h1 : n < 0
    · rw [rawA_neg s n i h1]
      clear h
      go_enter Try.func74, Try.ntmps74
      go_wp2_with fail
      go_ret2
      exact ⟨rfl, SG.refl H.out⟩
    · obtain ⟨N, rfl⟩ : ∃ N : Nat, n = (N : Int) := ⟨n.toNat, by omega⟩
      have TK := take_any b big a s N i 1 false w h ha ha2 hs hi (by decide)
      by_cases h2 : (s.size : Int) - i < N
      · rw [rawA_end s N i h1 h2]
        rw [takeR_rawend s a N i (by omega)] at TK
        have TK := Lib.hid TK
        clear h h2
        go_enter Try.func74, Try.ntmps74
        go_wp2_with (go_at_call 99; refine TK.out.mono ?_; rintro e w3 ⟨rfl, h3⟩; have H3 := Lib.hid h3; clear h3)
        go_ret2
        exact ⟨rfl, H3.out⟩
      · rw [rawA_ok s N i h1 h2, Int.toNat_natCast]
        rw [takeR_raw s a N i (by omega)] at TK
        have TK := Lib.hid TK
        clear h h2
        go_enter Try.func74, Try.ntmps74
        go_wp2_with (go_at_call 99; refine TK.out.mono ?_; rintro e w3 ⟨rfl, h3⟩; have H3 := Lib.hid h3; clear h3)
        go_ret2
        exact ⟨rfl, H3.out⟩
  · rw [show badN a i true = a + i from rfl] at c4
    have d1 : decide (0 ≤ a + (i : Int)) = true := by simp; omega
    rw [rawA_wrong]
    clear h
    go_enter Try.func74, Try.ntmps74
    go_wp2_with fail
    go_ret2
    exact ⟨rfl, SG.refl H.out⟩

set_option maxRecDepth 100000 in
set_option maxHeartbeats 1600000 in
theorem rdalign_any (b : Nat) (big : Bool) (a n : Int) (s : ByteArray) (i : Nat) (wr : Bool) (w : World) (h : RdAt w b big a s i wr) (ha : 0 ≤ a) (ha2 : a ≤ 7) (hs : s.size ≤ 1000000) (hi : i ≤ s.size) :
    Calls Try.prog 75 #[.pointer (some ⟨b, 0, none⟩), .int .i64 n] w fun e w' => e = .returned (.int .i64 (algA s a n i wr).e) ∧ SG w b big a s (algA s a n i wr).i (algA s a n i wr).w w' := by
  have c4 := h.c4
  have H := Lib.hid h
  cases wr
  · rw [show badN a i false = -1 from rfl] at c4
    obtain ⟨z, hz⟩ : ∃ z, szB n = z := ⟨_, rfl⟩
    have HZ := Lib.hid hz
    cases z
    · rw [algA_size s a n i hz]
      clear h hz
      go_enter Try.func75, Try.ntmps75
      go_wp2_with (go_at_call 83; refine (refSize_any n _).mono ?_; rintro e w1 ⟨rfl, rfl⟩; rw [HZ.out])
      go_ret
      exact ⟨rfl, SG.refl H.out⟩
    · have hn := (szB_iff n).1 hz
      obtain ⟨k, rfl⟩ : ∃ k : Nat, n = (k : Int) := ⟨n.toNat, by omega⟩
      have TK := take_any b big a s 0 i k false w h ha ha2 hs hi hz
      have hR : ∃ t, takeR s a 0 k i false = ⟨0, t, (algA s a k i false).e, (algA s a k i false).i, (algA s a k i false).w⟩ := by
        cases hf : firstBad (bytesOf s) i (padK' a i k) with
        | some j => rw [takeR_some s a 0 k i j hf, algA_some s a k i j hz hf]; exact ⟨_, rfl⟩
        | none =>
          have := firstBad_none _ _ _ (by rw [bytesOf_length]; exact hi) hf
          rw [bytesOf_length] at this
          rw [takeR_ok s a 0 k i hf (by omega), algA_none s a k i hz hf]
          exact ⟨_, rfl⟩
      obtain ⟨t, hR⟩ := hR
      rw [hR] at TK
      obtain ⟨R, hRR⟩ : ∃ R, algA s a k i false = R := ⟨_, rfl⟩
      rw [hRR] at TK ⊢
      have TK := Lib.hid TK
      clear h hz hn hR hRR
      go_enter Try.func75, Try.ntmps75
      go_wp2_with (first | (go_at_call 83; refine (refSize_any (k : Int) _).mono ?_; rintro e w1 ⟨rfl, rfl⟩; rw [HZ.out]) | (go_at_call 99; refine TK.out.mono ?_; rintro e w3 ⟨rfl, h3⟩; have H3 := Lib.hid h3; clear h3))
      go_ret
      exact ⟨rfl, H3.out⟩
  · rw [show badN a i true = a + i from rfl] at c4
    have d1 : decide (0 ≤ a + (i : Int)) = true := by simp; omega
    rw [algA_wrong]
    clear h
    go_enter Try.func75, Try.ntmps75
    go_wp2_with fail
    go_ret
    exact ⟨rfl, SG.refl H.out⟩

end Go.Proofs.Ytdklmeamhcgohaa
