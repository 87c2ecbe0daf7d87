/-
  PROVED HERE: what Text and Raw of a reader of package cdr return and do.
-/
import Derived.Test.YtdklmeamhcgohaaRi
import Derived.Test.YtdklmeamhcgohaaShelf
namespace Go.Proofs.Ytdklmeamhcgohaa
open Go.RowKit

theorem textOf_wrong (r : RR) (h : r.w = true) : textOf r = ⟨0, noB, 12, r.i, true⟩ := by simp [textOf, h]
theorem textOf_none (r : RR) (h : r.w = false) (h2 : Lib.indexByte (bytesOf r.t) 0 < 0) : textOf r = ⟨0, noB, 12, r.i - 1, true⟩ := by simp only [textOf, h, Bool.false_eq_true, if_false]; rw [if_pos h2]
theorem textOf_mid (r : RR) (h : r.w = false) (h2 : ¬ Lib.indexByte (bytesOf r.t) 0 < 0) (h3 : Lib.indexByte (bytesOf r.t) 0 < (r.t.size : Int) - 1) : textOf r = ⟨0, noB, 12, r.i - r.t.size + (Lib.indexByte (bytesOf r.t) 0).toNat, true⟩ := by
  simp only [textOf, h, Bool.false_eq_true, if_false]; rw [if_neg h2, if_pos h3]
theorem textOf_ok (r : RR) (h : r.w = false) (h2 : ¬ Lib.indexByte (bytesOf r.t) 0 < 0) (h3 : ¬ Lib.indexByte (bytesOf r.t) 0 < (r.t.size : Int) - 1) : textOf r = ⟨0, r.t.extract 0 (Lib.indexByte (bytesOf r.t) 0).toNat, 0, r.i, false⟩ := by
  simp only [textOf, h, Bool.false_eq_true, if_false]; rw [if_neg h2, if_neg h3]

set_option maxRecDepth 100000 in
set_option maxHeartbeats 1600000 in
theorem ctext_any (b : Nat) (big : Bool) (a : Int) (s : ByteArray) (i : Nat) (wr : Bool) (w : World) (h : CdAt w b big a s i wr) (ha : 0 ≤ a) (ha2 : a ≤ 7) (hs : s.size ≤ 1000000) (hi : i ≤ s.size) :
    Calls Try.prog 31 #[.pointer (some ⟨b, 0, none⟩)] w fun e w' => e = .returned (.tuple #[.string (textA s big a i wr).t, .int .i64 (textA s big a i wr).e]) ∧ CdAt w' b big a s (textA s big a i wr).i (textA s big a i wr).w ∧ w.grownBy w' (some b) := by
  have CN := ccount_any b big a 1 s i wr w h ha ha2 hs hi (by omega)
  obtain ⟨_, hb2, _, _, _⟩ := numR_bd (bytesOf s) big a 4 i wr (by rw [bytesOf_length]; exact hi)
  rw [bytesOf_length] at hb2
  obtain ⟨k1, k2, k3⟩ := cntOf_bd s 1 (numR (bytesOf s) big a 4 i wr) hb2
  unfold textA
  change (cntA s big a 1 i wr).i ≤ s.size at k1
  change (cntA s big a 1 i wr).w = false → _ at k2
  change (cntA s big a 1 i wr).e = errW (cntA s big a 1 i wr).w at k3
  rw [show cntOf s 1 (numR (bytesOf s) big a 4 i wr) = cntA s big a 1 i wr from rfl] at k2
  obtain ⟨⟨n, t, e, I, W⟩, hR⟩ : ∃ R, cntA s big a 1 i wr = R := ⟨_, rfl⟩
  rw [hR] at CN k1 k2 k3 ⊢
  dsimp only at CN k1 k2 k3
  rw [k3] at CN
  clear hR hb2 k3
  cases W
  · obtain ⟨k4, k5⟩ := k2 rfl
    have hts : t.size ≤ 1000000 := by omega
    obtain ⟨z, hz⟩ : ∃ z, Lib.indexByte (bytesOf t) 0 = z := ⟨_, rfl⟩
    have IX := fun w => Try.strings_IndexByte t 0 w
    have hzz : Lib.indexByte t.data.toList (Int.toNat 0).toUInt8 = z := hz
    rw [hzz] at IX
    have hge := Lib.indexByte_ge (bytesOf t) 0
    rw [hz] at hge
    have IX := Lib.hid IX
    have CN := Lib.hid CN
    clear k2 h hzz
    by_cases h2 : z < 0
    · rw [textOf_none _ rfl (by dsimp only; rw [hz]; exact h2)]
      have hcast : (I : Int) - 1 = ((I - 1 : Nat) : Int) := by omega
      have hST : ∀ W, CdAt W b big a s I false → Calls Try.prog 78 #[.pointer (some ⟨b, 0, none⟩), .int .i64 ((I - 1 : Nat) : Int)] W fun e w' => e = .returned (.int .i64 12) ∧ CdAt w' b big a s (I - 1) true ∧ W.grownBy w' (some b) := fun W hW => stop_any b big a s I false (I - 1) W hW
      rw [← hcast] at hST
      have ST := Lib.hid hST
      clear hST hcast hz
      go_enter Try.func31, Try.ntmps31
      go_wp2_with (first | (go_at_call 76; refine CN.out.mono ?_; rintro e w1 ⟨rfl, h1, g1⟩; dsimp only [errW]; have H1 := Lib.hid h1; have G1 := Lib.hid g1; have c3 := h1.c3; clear h1 g1) | (go_at_call 77; refine (IX.out _).mono ?_; rintro e w2 ⟨rfl, rfl⟩) | (go_at_call 78; refine (ST.out _ H1.out).mono ?_; rintro e w3 ⟨rfl, h3, g3⟩; have H3 := Lib.hid h3; have G3 := Lib.hid g3; clear h3 g3))
      go_ret2
      exact ⟨rfl, H3.out, G1.out.trans G3.out⟩
    · by_cases h3 : z < (t.size : Int) - 1
      · rw [textOf_mid _ rfl (by dsimp only; rw [hz]; exact h2) (by dsimp only; rw [hz]; exact h3)]
        dsimp only
        rw [hz]
        have hcast : (I : Int) - t.size + z = ((I - t.size + z.toNat : Nat) : Int) := by omega
        have hST : ∀ W, CdAt W b big a s I false → Calls Try.prog 78 #[.pointer (some ⟨b, 0, none⟩), .int .i64 ((I - t.size + z.toNat : Nat) : Int)] W fun e w' => e = .returned (.int .i64 12) ∧ CdAt w' b big a s (I - t.size + z.toNat) true ∧ W.grownBy w' (some b) := fun W hW => stop_any b big a s I false (I - t.size + z.toNat) W hW
        rw [← hcast] at hST
        have ST := Lib.hid hST
        clear hST hcast hz
        go_enter Try.func31, Try.ntmps31
        go_wp2_with (first | (go_at_call 76; refine CN.out.mono ?_; rintro e w1 ⟨rfl, h1, g1⟩; dsimp only [errW]; have H1 := Lib.hid h1; have G1 := Lib.hid g1; have c3 := h1.c3; clear h1 g1) | (go_at_call 77; refine (IX.out _).mono ?_; rintro e w2 ⟨rfl, rfl⟩) | (go_at_call 78; refine (ST.out _ H1.out).mono ?_; rintro e w3 ⟨rfl, h3, g3⟩; have H3 := Lib.hid h3; have G3 := Lib.hid g3; clear h3 g3))
        go_ret2
        exact ⟨rfl, H3.out, G1.out.trans G3.out⟩
      · rw [textOf_ok _ rfl (by dsimp only; rw [hz]; exact h2) (by dsimp only; rw [hz]; exact h3)]
        dsimp only
        rw [hz]
        have hzl : z.toNat < t.size := by
          have h1 := Lib.indexByte_some (l := bytesOf t) (c := 0) (o := z.toNat) (by rw [hz]; omega)
          have := at_lt h1.1
          rwa [bytesOf_length] at this
        obtain ⟨Z, rfl⟩ : ∃ Z : Nat, z = (Z : Int) := ⟨z.toNat, by omega⟩
        rw [Int.toNat_natCast] at hzl ⊢
        clear hz hge
        go_enter Try.func31, Try.ntmps31
        go_wp2_with (first | (go_at_call 76; refine CN.out.mono ?_; rintro e w1 ⟨rfl, h1, g1⟩; dsimp only [errW]; have H1 := Lib.hid h1; have G1 := Lib.hid g1; clear h1 g1) | (go_at_call 77; refine (IX.out _).mono ?_; rintro e w2 ⟨rfl, rfl⟩))
        go_ret2
        exact ⟨rfl, H1.out, G1.out⟩
  · rw [textOf_wrong _ rfl]
    have CN := Lib.hid CN
    clear k2 h
    go_enter Try.func31, Try.ntmps31
    go_wp2_with (go_at_call 76; refine CN.out.mono ?_; rintro e w1 ⟨rfl, h1, g1⟩; dsimp only [errW]; have H1 := Lib.hid h1; have G1 := Lib.hid g1; clear h1 g1)
    go_ret2
    exact ⟨rfl, H1.out, G1.out⟩

theorem rawA_wrong (s : ByteArray) (n : Int) (i : Nat) : rawA s n i true = ⟨0, noB, 12, i, true⟩ := rfl
theorem rawA_neg (s : ByteArray) (n : Int) (i : Nat) (h : n < 0) : rawA s n i false = ⟨0, noB, 7, i, false⟩ := by simp [rawA, h]
theorem rawA_end (s : ByteArray) (n : Int) (i : Nat) (h : ¬ n < 0) (h2 : (s.size : Int) - i < n) : rawA s n i false = ⟨0, noB, 12, s.size, true⟩ := by simp only [rawA, Bool.false_eq_true, if_false]; rw [if_neg h, if_pos h2]
theorem rawA_ok (s : ByteArray) (n : Int) (i : Nat) (h : ¬ n < 0) (h2 : ¬ (s.size : Int) - i < n) : rawA s n i false = ⟨0, s.extract i (i + n.toNat), 0, i + n.toNat, false⟩ := by simp only [rawA, Bool.false_eq_true, if_false]; rw [if_neg h, if_neg h2]

set_option maxRecDepth 100000 in
set_option maxHeartbeats 1600000 in
theorem craw_any (b : Nat) (big : Bool) (a n : Int) (s : ByteArray) (i : Nat) (wr : Bool) (w : World) (h : CdAt w b big a s i wr) (hs : s.size ≤ 1000000) (hi : i ≤ s.size) :
    Calls Try.prog 66 #[.pointer (some ⟨b, 0, none⟩), .int .i64 n] w fun e w' => e = .returned (.tuple #[.string (rawA s n i wr).t, .int .i64 (rawA s n i wr).e]) ∧ CdAt w' b big a s (rawA s n i wr).i (rawA s n i wr).w ∧ w.grownBy w' (some b) := by
  have RD := Lib.hid (ready_any b big a s i wr w h)
  have H := Lib.hid h
  have c2 := h.c2
  have c3 := h.c3
  have f3 := h.f3
  clear h
  cases wr
  · by_cases h1 : n < 0
    · rw [rawA_neg s n i h1]
      clear c2 c3 f3
      go_enter Try.func66, Try.ntmps66
      go_wp2_with (go_at_call 79; refine RD.out.mono ?_; rintro e w1 ⟨rfl, rfl⟩; dsimp only [errW])
      go_ret2
      exact ⟨rfl, H.out, grownBy_refl _ _⟩
    · by_cases h2 : (s.size : Int) - i < n
      · rw [rawA_end s n i h1 h2]
        have d2 : decide ((s.size : Int) - i < n) = true := by simpa using h2
        have ST := Lib.hid fun W hW => stop_any b big a s i false s.size W hW
        clear h2
        go_enter Try.func66, Try.ntmps66
        go_wp2_with (go_at_call 79; refine RD.out.mono ?_; rintro e w1 ⟨rfl, rfl⟩; dsimp only [errW])
        go_quiet (fail)
        have HD : Hid (CdAt (w.drewN nq) b big a s i false) := H.out
        have c2 := HD.out.c2
        go_wp2_with (go_at_call 78; refine (ST.out _ HD.out).mono ?_; rintro e w2 ⟨rfl, h2, g2⟩; have H2 := Lib.hid h2; have G2 := Lib.hid g2; clear h2 g2)
        go_ret2
        exact ⟨rfl, H2.out, (grownBy_drewN w nq _).trans G2.out⟩
      · rw [rawA_ok s n i h1 h2]
        obtain ⟨N, rfl⟩ : ∃ N : Nat, n = (N : Int) := ⟨n.toNat, by omega⟩
        rw [Int.toNat_natCast]
        have d2 : decide ((s.size : Int) - i < N) = false := by simp; omega
        have hIN : i + N ≤ s.size := by omega
        clear h2
        go_enter Try.func66, Try.ntmps66
        go_wp2_with (go_at_call 79; refine RD.out.mono ?_; rintro e w1 ⟨rfl, rfl⟩; dsimp only [errW])
        go_quiet (fail)
        obtain ⟨wd, hwd⟩ : ∃ wd, w.drewN nq = wd := ⟨_, rfl⟩
        have hcd : CdAt wd b big a s i false := hwd ▸ (show CdAt (w.drewN nq) b big a s i false from H.out)
        have hgd : w.grownBy wd (some b) := hwd ▸ grownBy_drewN w nq _
        rw [hwd]
        clear hwd c2 c3 f3
        have c3 := hcd.c3
        have f3 := hcd.f3
        have h5 := hcd.set3 (i + N)
        have g5 := hgd.trans (grownBy_setCell2 wd ⟨b, 3, none⟩ (.int .i64 ((i + N : Nat) : Int)))
        have d2' := h5.c2
        have d3' := h5.c3
        have hcast : ((i + N : Nat) : Int) = (i : Int) + N := by omega
        rw [hcast] at h5 g5 d2' d3'
        have H5 := Lib.hid h5
        have G5 := Lib.hid g5
        clear h5 g5 hcd hgd
        have hsub : (i : Int) + N - N = i := by omega
        go_wp2_with fail
        go_quiet (fail)
        go_wp2_with fail
        go_ret2
        exact ⟨rfl, H5.out, G5.out.trans (grownBy_drewN _ nq _)⟩
  · rw [rawA_wrong s n i]
    clear c2 c3 f3
    go_enter Try.func66, Try.ntmps66
    go_wp2_with (go_at_call 79; refine RD.out.mono ?_; rintro e w1 ⟨rfl, rfl⟩; dsimp only [errW])
    go_ret2
    exact ⟨rfl, H.out, grownBy_refl _ _⟩

end Go.Proofs.Ytdklmeamhcgohaa
