/-
  PROVED HERE: what counted and Bytes of a reader of package cdr return and do.
-/
import Derived.Test.YtdklmeamhcgohaaRh
namespace Go.Proofs.Ytdklmeamhcgohaa
open Go.RowKit

theorem cntOf_wrong (s : ByteArray) (m : Int) (r : Nat × Bool × Nat) (h : r.2.1 = true) : cntOf s m r = ⟨0, noB, 12, r.1, true⟩ := by simp [cntOf, h]
theorem cntOf_no (s : ByteArray) (m : Int) (r : Nat × Bool × Nat) (h : r.2.1 = false) (h2 : sgN 4 r.2.2 < m ∨ (s.size : Int) - r.1 < sgN 4 r.2.2) : cntOf s m r = ⟨0, noB, 12, r.1 - 4, true⟩ := by simp only [cntOf, h, Bool.false_eq_true, if_false]; rw [if_pos h2]
theorem cntOf_ok (s : ByteArray) (m : Int) (r : Nat × Bool × Nat) (h : r.2.1 = false) (h2 : ¬ (sgN 4 r.2.2 < m ∨ (s.size : Int) - r.1 < sgN 4 r.2.2)) :
    cntOf s m r = ⟨0, s.extract r.1 (r.1 + (sgN 4 r.2.2).toNat), 0, r.1 + (sgN 4 r.2.2).toNat, false⟩ := by simp only [cntOf, h, Bool.false_eq_true, if_false]; rw [if_neg h2]

set_option maxRecDepth 100000 in
set_option maxHeartbeats 1600000 in
theorem ccount_any (b : Nat) (big : Bool) (a m : Int) (s : ByteArray) (i : Nat) (wr : Bool) (w : World) (h : CdAt w b big a s i wr) (ha : 0 ≤ a) (ha2 : a ≤ 7) (hs : s.size ≤ 1000000) (hi : i ≤ s.size) (hm : 0 ≤ m) :
    Calls Try.prog 76 #[.pointer (some ⟨b, 0, none⟩), .int .i64 m] w fun e w' => e = .returned (.tuple #[.string (cntA s big a m i wr).t, .int .i64 (cntA s big a m i wr).e]) ∧ CdAt w' b big a s (cntA s big a m i wr).i (cntA s big a m i wr).w ∧ w.grownBy w' (some b) := by
  have NU := clong_any b big a s i wr w h ha ha2 hs hi
  obtain ⟨_, hb2, hb3, hb4, hb5⟩ := numR_bd (bytesOf s) big a 4 i wr (by rw [bytesOf_length]; exact hi)
  rw [bytesOf_length] at hb2
  unfold cntA
  unfold numA at NU
  obtain ⟨⟨I, W, U⟩, hr⟩ : ∃ r, numR (bytesOf s) big a 4 i wr = r := ⟨_, rfl⟩
  rw [hr] at NU hb2 hb3 hb4 hb5 ⊢
  obtain ⟨n, hn⟩ : ∃ n, sgN 4 U = n := ⟨_, rfl⟩
  dsimp only at hb2 hb3 hb4 hb5 NU
  rw [hn] at NU
  have NU := Lib.hid NU
  clear hr h
  cases W
  · have hI := hb3 rfl
    clear hb3 hb5
    by_cases h2 : n < m ∨ (s.size : Int) - I < n
    · rw [cntOf_no _ _ _ rfl (by rw [hn]; exact h2)]
      have hcast : (I : Int) - 4 = ((I - 4 : Nat) : Int) := by omega
      have hST : ∀ W, CdAt W b big a s I false → Calls Try.prog 78 #[.pointer (some ⟨b, 0, none⟩), .int .i64 ((I - 4 : Nat) : Int)] W fun e w' => e = .returned (.int .i64 12) ∧ CdAt w' b big a s (I - 4) true ∧ W.grownBy w' (some b) := fun W hW => stop_any b big a s I false (I - 4) W hW
      rw [← hcast] at hST
      have ST := Lib.hid hST
      clear hST hcast hn hb4
      by_cases h3 : n < m
      · have d1 : decide (n < m) = true := by simpa using h3
        clear h2 h3
        go_enter Try.func76, Try.ntmps76
        go_wp2_with (first | (go_at_call 63; refine NU.out.mono ?_; rintro e w1 ⟨rfl, h1, g1⟩; dsimp only [errW]; have H1 := Lib.hid h1; have G1 := Lib.hid g1; have c2 := h1.c2; have c3 := h1.c3; clear h1 g1))
        go_quiet (fail)
        have HD : Hid (CdAt (w1.drewN nq) b big a s I false) := H1.out
        have GD : Hid (w.grownBy (w1.drewN nq) (some b)) := Lib.hid (G1.out.trans (grownBy_drewN w1 nq _))
        have c3 := HD.out.c3
        go_wp2_with (go_at_call 78; refine (ST.out _ HD.out).mono ?_; rintro e w2 ⟨rfl, h2, g2⟩; have H2 := Lib.hid h2; have G2 := Lib.hid g2; clear h2 g2)
        go_ret2
        exact ⟨rfl, H2.out, GD.out.trans G2.out⟩
      · have d1 : decide (n < m) = false := by simpa using h3
        have d2 : decide ((s.size : Int) - I < n) = true := by simp; omega
        clear h2 h3
        go_enter Try.func76, Try.ntmps76
        go_wp2_with (first | (go_at_call 63; refine NU.out.mono ?_; rintro e w1 ⟨rfl, h1, g1⟩; dsimp only [errW]; have H1 := Lib.hid h1; have G1 := Lib.hid g1; have c2 := h1.c2; have c3 := h1.c3; clear h1 g1))
        go_quiet (fail)
        have HD : Hid (CdAt (w1.drewN nq) b big a s I false) := H1.out
        have GD : Hid (w.grownBy (w1.drewN nq) (some b)) := Lib.hid (G1.out.trans (grownBy_drewN w1 nq _))
        have c3 := HD.out.c3
        go_wp2_with (go_at_call 78; refine (ST.out _ HD.out).mono ?_; rintro e w2 ⟨rfl, h2, g2⟩; have H2 := Lib.hid h2; have G2 := Lib.hid g2; clear h2 g2)
        go_ret2
        exact ⟨rfl, H2.out, GD.out.trans G2.out⟩
    · rw [cntOf_ok _ _ _ rfl (by rw [hn]; exact h2)]
      dsimp only
      rw [hn]
      obtain ⟨N, rfl⟩ : ∃ N : Nat, n = (N : Int) := ⟨n.toNat, by omega⟩
      rw [Int.toNat_natCast]
      have d1 : decide ((N : Int) < m) = false := by simp; omega
      have d2 : decide ((s.size : Int) - I < N) = false := by simp; omega
      have hIN : I + N ≤ s.size := by omega
      clear h2 hb4 hn
      go_enter Try.func76, Try.ntmps76
      go_wp2_with (first | (go_at_call 63; refine NU.out.mono ?_; rintro e w1 ⟨rfl, h1, g1⟩; dsimp only [errW]; have H1 := Lib.hid h1; have G1 := Lib.hid g1; have c2 := h1.c2; have c3 := h1.c3; have f3 := h1.f3; clear h1 g1))
      go_quiet (fail)
      obtain ⟨wd, hwd⟩ : ∃ wd, w1.drewN nq = wd := ⟨_, rfl⟩
      have hcd : CdAt wd b big a s I false := hwd ▸ (show CdAt (w1.drewN nq) b big a s I false from H1.out)
      have hgd : w.grownBy wd (some b) := hwd ▸ G1.out.trans (grownBy_drewN w1 nq _)
      rw [hwd]
      clear hwd c2 c3 f3
      have c3 := hcd.c3
      have f3 := hcd.f3
      have h5 := hcd.set3 (I + N)
      have g5 := hgd.trans (grownBy_setCell2 wd ⟨b, 3, none⟩ (.int .i64 ((I + N : Nat) : Int)))
      have d2' := h5.c2
      have d3' := h5.c3
      have hcast : ((I + N : Nat) : Int) = (I : Int) + N := by omega
      rw [hcast] at h5 g5 d2' d3'
      have H5 := Lib.hid h5
      have G5 := Lib.hid g5
      clear h5 g5 hcd hgd
      go_wp2_with fail
      have hsub : (I : Int) + N - N = I := by omega
      go_quiet (fail)
      go_wp2_with fail
      go_ret2
      exact ⟨rfl, H5.out, G5.out.trans (grownBy_drewN _ nq _)⟩
  · rw [cntOf_wrong _ _ _ rfl]
    clear hb3 hb5 hb4 hn
    go_enter Try.func76, Try.ntmps76
    go_wp2_with (go_at_call 63; refine NU.out.mono ?_; rintro e w1 ⟨rfl, h1, g1⟩; dsimp only [errW]; have H1 := Lib.hid h1; have G1 := Lib.hid g1; clear h1 g1)
    go_ret2
    exact ⟨rfl, H1.out, G1.out⟩

theorem cbytes_any (b : Nat) (big : Bool) (a : Int) (s : ByteArray) (i : Nat) (wr : Bool) (w : World) (h : CdAt w b big a s i wr) (ha : 0 ≤ a) (ha2 : a ≤ 7) (hs : s.size ≤ 1000000) (hi : i ≤ s.size) :
    Calls Try.prog 65 #[.pointer (some ⟨b, 0, none⟩)] w fun e w' => e = .returned (.tuple #[.string (cntA s big a 0 i wr).t, .int .i64 (cntA s big a 0 i wr).e]) ∧ CdAt w' b big a s (cntA s big a 0 i wr).i (cntA s big a 0 i wr).w ∧ w.grownBy w' (some b) := by
  have CN := Lib.hid (ccount_any b big a 0 s i wr w h ha ha2 hs hi (by omega))
  obtain ⟨R, hR⟩ : ∃ R, cntA s big a 0 i wr = R := ⟨_, rfl⟩
  rw [hR] at CN ⊢
  clear hR h
  go_enter Try.func65, Try.ntmps65
  go_wp2_with (go_at_call 76; refine CN.out.mono ?_; rintro e w1 ⟨rfl, h1, g1⟩; have H1 := Lib.hid h1; have G1 := Lib.hid g1; clear h1 g1)
  go_ret2
  exact ⟨rfl, H1.out, G1.out⟩

theorem cntOf_bd (s : ByteArray) (m : Int) (r : Nat × Bool × Nat) (h1 : r.1 ≤ s.size) : (cntOf s m r).i ≤ s.size ∧ ((cntOf s m r).w = false → m ≤ (cntOf s m r).t.size ∧ (cntOf s m r).t.size ≤ (cntOf s m r).i) ∧ (cntOf s m r).e = errW (cntOf s m r).w := by
  cases h : r.2.1 with
  | true => rw [cntOf_wrong s m r h]; exact ⟨h1, fun h => (by cases h), rfl⟩
  | false =>
    by_cases h3 : sgN 4 r.2.2 < m ∨ (s.size : Int) - r.1 < sgN 4 r.2.2
    · rw [cntOf_no s m r h h3]; exact ⟨by simp only; omega, fun h => (by cases h), rfl⟩
    · rw [cntOf_ok s m r h h3]
      have hsz : (s.extract r.1 (r.1 + (sgN 4 r.2.2).toNat)).size = (sgN 4 r.2.2).toNat := by rw [ByteArray.size_extract]; omega
      refine ⟨by simp only; omega, fun _ => ?_, rfl⟩
      simp only [hsz]
      omega

end Go.Proofs.Ytdklmeamhcgohaa
