/-
  PROVED HERE: what skip of a reader of the reference returns and does.
-/
import Derived.Test.YtdklmeamhcgohaaRp
namespace Go.Proofs.Ytdklmeamhcgohaa
open Go.RowKit

/-- What holds of the reference's reader behind an act. -/
def SG (w : World) (b : Nat) (big : Bool) (a : Int) (s : ByteArray) (i : Nat) (wr : Bool) (W : World) : Prop := RdAt W b big a s i wr ∧ w.grownBy W (some b)
theorem SG.drewN {w : World} {b : Nat} {big : Bool} {a : Int} {s : ByteArray} {i : Nat} {wr : Bool} {W : World} (h : SG w b big a s i wr W) (n : Nat) : SG w b big a s i wr (W.drewN n) := ⟨h.1, h.2.trans (grownBy_drewN W n _)⟩
theorem SG.trans {w : World} {b : Nat} {big : Bool} {a : Int} {s : ByteArray} {i j : Nat} {wr wr' : Bool} {W X : World} (h : SG w b big a s i wr W) (k : SG W b big a s j wr' X) : SG w b big a s j wr' X := ⟨k.1, h.2.trans k.2⟩
theorem SG.refl {w : World} {b : Nat} {big : Bool} {a : Int} {s : ByteArray} {i : Nat} {wr : Bool} (h : RdAt w b big a s i wr) : SG w b big a s i wr w := ⟨h, grownBy_refl _ _⟩
theorem SG.set3 {w : World} {b : Nat} {big : Bool} {a : Int} {s : ByteArray} {i : Nat} {W : World} (h : SG w b big a s i false W) (j : Nat) : SG w b big a s j false (W.setCell ⟨b, 3, none⟩ (.int .i64 j)) := ⟨h.1.set3 j, h.2.trans (grownBy_setCell2 W ⟨b, 3, none⟩ _)⟩

theorem padV_sz (p : Int) (k : Int) (hp : 0 ≤ p) (hz : szB k = true) : padV p k = padN p k ∧ padE p k = 0 := by
  have h1 : ¬ p < 0 := by omega
  simp [padV, padE, h1, hz]

set_option maxRecDepth 100000 in
set_option maxHeartbeats 1600000 in
theorem skip_none (b : Nat) (big : Bool) (a : Int) (s : ByteArray) (i k : Nat) (w : World) (h : RdAt w b big a s i false) (ha : 0 ≤ a) (ha2 : a ≤ 7) (hs : s.size ≤ 1000000) (hi : i ≤ s.size)
    (hz : szB (k : Int) = true) (hf : firstBad (bytesOf s) i (padK' a i k) = none) :
    Calls Try.prog 103 #[.pointer (some ⟨b, 0, none⟩), .int .i64 k] w fun e w' => e = .returned (.int .i64 0) ∧ SG w b big a s (i + padK' a i k) false w' := by
  have hn := (szB_iff (k : Int)).1 hz
  have hk1 : 1 ≤ k := by omega
  have hpe := padK'_eq a i k hk1
  have hpl := padK'_lt a i k hk1
  obtain ⟨hv, he⟩ := padV_sz (a + i) k (by omega) hz
  rw [hpe] at hv
  obtain ⟨p, hp⟩ : ∃ p, padK' a i k = p := ⟨_, rfl⟩
  rw [hp] at hv hpl hf ⊢
  have PD := fun w => pad35 (a + i) k w
  rw [hv, he] at PD
  have PD := Lib.hid PD
  have HF := Lib.hid hf
  have H := Lib.hid h
  have hp8 : p < 8 := by omega
  clear hz hn hpe hf hp h hv he hpl
  go_enter Try.func103, Try.ntmps103
  go_wp2_with (first | (go_at_call 26; refine (rdplace_any b big a s i false _ H.out ha ha2 (by omega)).mono ?_; rintro e w1 ⟨rfl, nq, rfl⟩) | (go_at_call 35; refine (PD.out _).mono ?_; rintro e w2 ⟨rfl, rfl⟩))
  go_loopw [15] (fun v wr => ∃ c : Nat, v = .int .i64 c ∧ c ≤ p ∧ i + c ≤ s.size ∧ Hid (SG w b big a s (i + c) false wr) ∧ Hid (firstBad (bytesOf s) (i + c) (p - c) = none)) (fun v _ => p - (intOf v).toNat)
  case atStart => exact ⟨0, rfl, Nat.zero_le _, hi, Lib.hid ((SG.refl H.out).drewN nq), HF.out⟩
  case round =>
    obtain ⟨c, rfl, hc, hic, HS, HB⟩ := hrel
    by_cases hlt : c < p
    · obtain ⟨q, hq⟩ : ∃ q, i + c = q := ⟨_, rfl⟩
      rw [hq] at HS HB hic
      have hz : (bytesOf s)[q]? = some 0 := by
        by_cases hc : (bytesOf s)[q]? = some 0
        · exact hc
        · have := HB.out
          rw [show p - c = (p - c - 1) + 1 by omega, firstBad_stop _ _ _ hc] at this
          cases this
      have hqs : q < s.size := by have := at_lt hz; rwa [bytesOf_length] at this
      have hb : s[q] = 0 := by rw [byte_at s q hqs] at hz; simpa using hz
      have HB2 : Hid (firstBad (bytesOf s) (q + 1) (p - (c + 1)) = none) := Lib.hid (by
        have := HB.out
        rw [show p - c = (p - (c + 1)) + 1 by omega, firstBad_step _ _ _ hz] at this
        exact this)
      have g1 : decide ((s.size : Int) ≤ (q : Int)) = false := by simp; omega
      have g2 : ((s[q].toNat : Int) != 0) = false := by rw [hb]; rfl
      have c0 := HS.out.1.c0
      have c3 := HS.out.1.c3
      clear hz hb
      go_wp2_with fail
      go_quiet (fail)
      have HS1 := Lib.hid (HS.out.drewN nq)
      generalize wr.drewN nq = wd at HS1 ⊢
      clear c0 c3
      have c0 := HS1.out.1.c0
      have c3 := HS1.out.1.c3
      go_wp2_with fail
      go_quiet (fail)
      have HS2 := Lib.hid (HS1.out.drewN nq)
      generalize wd.drewN nq = we at HS2 ⊢
      clear c0 c3
      have c3 := HS2.out.1.c3
      have f3 := HS2.out.1.f3
      have h3 := HS2.out.set3 (q + 1)
      rw [show ((q + 1 : Nat) : Int) = (q : Int) + 1 from by omega] at h3
      have HS3 := Lib.hid h3
      clear h3
      go_wp2_with fail
      exact ⟨⟨c + 1, by go_num, hlt, by omega, by rw [← Nat.add_assoc, hq]; exact HS3, by rw [← Nat.add_assoc, hq]; exact HB2⟩, by simp [intOf]; omega⟩
    · go_wp2_with fail
      go_ret
      obtain rfl : c = p := by omega
      exact ⟨rfl, HS.out⟩

set_option maxRecDepth 100000 in
set_option maxHeartbeats 1600000 in
theorem skip_some (b : Nat) (big : Bool) (a : Int) (s : ByteArray) (i k j : Nat) (w : World) (h : RdAt w b big a s i false) (ha : 0 ≤ a) (ha2 : a ≤ 7) (hs : s.size ≤ 1000000) (hi : i ≤ s.size)
    (hz : szB (k : Int) = true) (hf : firstBad (bytesOf s) i (padK' a i k) = some j) :
    Calls Try.prog 103 #[.pointer (some ⟨b, 0, none⟩), .int .i64 k] w fun e w' => e = .returned (.int .i64 12) ∧ SG w b big a s j true w' := by
  have hn := (szB_iff (k : Int)).1 hz
  have hk1 : 1 ≤ k := by omega
  have hpe := padK'_eq a i k hk1
  have hpl := padK'_lt a i k hk1
  obtain ⟨hv, he⟩ := padV_sz (a + i) k (by omega) hz
  rw [hpe] at hv
  obtain ⟨p, hp⟩ : ∃ p, padK' a i k = p := ⟨_, rfl⟩
  rw [hp] at hv hpl hf
  have PD := fun w => pad35 (a + i) k w
  rw [hv, he] at PD
  have PD := Lib.hid PD
  have HF := Lib.hid hf
  have H := Lib.hid h
  have hp8 : p < 8 := by omega
  clear hz hn hpe hf hp h hv he hpl
  go_enter Try.func103, Try.ntmps103
  go_wp2_with (first | (go_at_call 26; refine (rdplace_any b big a s i false _ H.out ha ha2 (by omega)).mono ?_; rintro e w1 ⟨rfl, nq, rfl⟩) | (go_at_call 35; refine (PD.out _).mono ?_; rintro e w2 ⟨rfl, rfl⟩))
  go_loopw [15] (fun v wr => ∃ c : Nat, v = .int .i64 c ∧ c ≤ p ∧ i + c ≤ s.size ∧ Hid (SG w b big a s (i + c) false wr) ∧ Hid (firstBad (bytesOf s) (i + c) (p - c) = some j)) (fun v _ => p - (intOf v).toNat)
  case atStart => exact ⟨0, rfl, Nat.zero_le _, hi, Lib.hid ((SG.refl H.out).drewN nq), HF.out⟩
  case round =>
    obtain ⟨c, rfl, hc, hic, HS, HB⟩ := hrel
    by_cases hlt : c < p
    · obtain ⟨q, hq⟩ : ∃ q, i + c = q := ⟨_, rfl⟩
      rw [hq] at HS HB hic
      by_cases hz : (bytesOf s)[q]? = some 0
      · have hqs : q < s.size := by have := at_lt hz; rwa [bytesOf_length] at this
        have hb : s[q] = 0 := by rw [byte_at s q hqs] at hz; simpa using hz
        have HB2 : Hid (firstBad (bytesOf s) (q + 1) (p - (c + 1)) = some j) := Lib.hid (by
          have := HB.out
          rw [show p - c = (p - (c + 1)) + 1 by omega, firstBad_step _ _ _ hz] at this
          exact this)
        have g1 : decide ((s.size : Int) ≤ (q : Int)) = false := by simp; omega
        have g2 : ((s[q].toNat : Int) != 0) = false := by rw [hb]; rfl
        have c0 := HS.out.1.c0
        have c3 := HS.out.1.c3
        clear hz hb
        go_wp2_with fail
        go_quiet (fail)
        have HS1 := Lib.hid (HS.out.drewN nq)
        generalize wr.drewN nq = wd at HS1 ⊢
        clear c0 c3
        have c0 := HS1.out.1.c0
        have c3 := HS1.out.1.c3
        go_wp2_with fail
        go_quiet (fail)
        have HS2 := Lib.hid (HS1.out.drewN nq)
        generalize wd.drewN nq = we at HS2 ⊢
        clear c0 c3
        have c3 := HS2.out.1.c3
        have f3 := HS2.out.1.f3
        have h3 := HS2.out.set3 (q + 1)
        rw [show ((q + 1 : Nat) : Int) = (q : Int) + 1 from by omega] at h3
        have HS3 := Lib.hid h3
        clear h3
        go_wp2_with fail
        exact ⟨⟨c + 1, by go_num, hlt, by omega, by rw [← Nat.add_assoc, hq]; exact HS3, by rw [← Nat.add_assoc, hq]; exact HB2⟩, by simp [intOf]; omega⟩
      · have hj : q = j := by
          have := HB.out
          rw [show p - c = (p - c - 1) + 1 by omega, firstBad_stop _ _ _ hz] at this
          simpa using this
        subst hj
        have c0 := HS.out.1.c0
        have c3 := HS.out.1.c3
        by_cases hqs : q < s.size
        · have g1 : decide ((s.size : Int) ≤ (q : Int)) = false := by simp; omega
          have g2 : ((s[q].toNat : Int) != 0) = true := by
            rw [byte_at s q hqs] at hz
            have h0 : s[q].toNat ≠ 0 := fun e => hz (by rw [show s[q] = 0 from UInt8.toNat.inj (by simpa using e)])
            simp; omega
          clear hz
          go_wp2_with fail
          go_quiet (fail)
          have HS1 := Lib.hid (HS.out.drewN nq)
          generalize wr.drewN nq = wd at HS1 ⊢
          clear c0 c3
          have c0 := HS1.out.1.c0
          have c3 := HS1.out.1.c3
          go_wp2_with fail
          go_quiet (fail)
          have HS2 := Lib.hid (HS1.out.drewN nq)
          generalize wd.drewN nq = we at HS2 ⊢
          clear c0 c3
          go_wp2_with (first | (go_at_call 26; refine (rdplace_any b big a s q false _ HS2.out.1 ha ha2 (by omega)).mono ?_; rintro e w3 ⟨rfl, nq, rfl⟩) | (go_at_call 100; refine (fail_any b big a s q false q _ (HS2.out.drewN nq).1 (by omega)).mono ?_; rintro e w4 ⟨rfl, h4, g4⟩; have H4 := Lib.hid (show SG w b big a s q true w4 from ⟨h4, (HS2.out.drewN nq).2.trans g4⟩); clear h4 g4))
          go_ret
          exact ⟨rfl, H4.out⟩
        · obtain rfl : q = s.size := by omega
          have g1 : decide ((s.size : Int) ≤ (s.size : Int)) = true := by simp
          clear hz
          go_wp2_with fail
          go_quiet (fail)
          have HS1 := Lib.hid (HS.out.drewN nq)
          generalize wr.drewN nq = wd at HS1 ⊢
          clear c0 c3
          go_wp2_with (first | (go_at_call 104; refine (rdend_any b big a s s.size false _ HS1.out.1 ha ha2 (by omega)).mono ?_; rintro e w3 ⟨rfl, nq, rfl⟩) | (go_at_call 100; refine (fail_any b big a s s.size false s.size _ (HS1.out.drewN nq).1 (by omega)).mono ?_; rintro e w4 ⟨rfl, h4, g4⟩; have H4 := Lib.hid (show SG w b big a s s.size true w4 from ⟨h4, (HS1.out.drewN nq).2.trans g4⟩); clear h4 g4))
          go_ret
          exact ⟨rfl, H4.out⟩
    · have := HB.out
      rw [show p - c = 0 by omega, firstBad_zero] at this
      cases this

end Go.Proofs.Ytdklmeamhcgohaa
