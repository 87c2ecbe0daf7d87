/-
  PROVED HERE: what Align of a reader of package cdr returns and does.
-/
import Derived.Test.YtdklmeamhcgohaaRb
namespace Go.Proofs.Ytdklmeamhcgohaa
open Go.RowKit

theorem algA_wrong (s : ByteArray) (a n : Int) (i : Nat) : algA s a n i true = ⟨0, noB, 12, i, true⟩ := rfl
theorem algA_size (s : ByteArray) (a n : Int) (i : Nat) (h : szB n = false) : algA s a n i false = ⟨0, noB, 7, i, false⟩ := by simp [algA, h]
theorem algA_some (s : ByteArray) (a : Int) (k i j : Nat) (h : szB (k : Int) = true) (hf : firstBad (bytesOf s) i (padK' a i k) = some j) : algA s a k i false = ⟨0, noB, 12, j, true⟩ := by simp [algA, h, hf]
theorem algA_none (s : ByteArray) (a : Int) (k i : Nat) (h : szB (k : Int) = true) (hf : firstBad (bytesOf s) i (padK' a i k) = none) : algA s a k i false = ⟨0, noB, 0, i + padK' a i k, false⟩ := by simp [algA, h, hf]

/-- What reads of a reader ask. -/
structure CdS (b : Nat) (s : ByteArray) (i : Nat) (W : World) : Prop where
  s : W.cell? ⟨b, 2, none⟩ = some (.string s)
  i : W.cell? ⟨b, 3, none⟩ = some (.int .i64 (i : Int))
theorem CdS.of {W : World} {b : Nat} {big : Bool} {a : Int} {s : ByteArray} {i : Nat} {wr : Bool} (h : CdAt W b big a s i wr) : CdS b s i W := ⟨h.c2, h.c3⟩

set_option maxRecDepth 100000 in
set_option maxHeartbeats 1600000 in
theorem ralign_some (b : Nat) (big : Bool) (a : Int) (s : ByteArray) (i k j : Nat) (w : World) (h : CdAt w b big a s i false) (ha : 0 ≤ a) (ha2 : a ≤ 7) (hs : s.size ≤ 1000000) (hi : i ≤ s.size)
    (hz : szB (k : Int) = true) (hf : firstBad (bytesOf s) i (padK' a i k) = some j) :
    Calls Try.prog 32 #[.pointer (some ⟨b, 0, none⟩), .int .i64 k] w fun e w' => e = .returned (.int .i64 12) ∧ CdAt w' b big a s j true ∧ w.grownBy w' (some b) := by
  have HZ := Lib.hid hz
  have hn := (szB_iff (k : Int)).1 hz
  have hk1 : 1 ≤ k := by omega
  have hk8 : k ≤ 8 := by omega
  have hpe := padK'_eq a i k hk1
  have hpl := padK'_lt a i k hk1
  obtain ⟨p, hp⟩ : ∃ p, padK' a i k = p := ⟨_, rfl⟩
  rw [hp] at hpe hpl hf
  have HPE := Lib.hid hpe
  have HF := Lib.hid hf
  have RD := Lib.hid (ready_any b big a s i false w h)
  have H := Lib.hid h
  clear hz hn hpe hf hp h
  go_enter Try.func32, Try.ntmps32
  go_wp2_with (first | (go_at_call 79; refine RD.out.mono ?_; rintro e w1 ⟨rfl, rfl⟩; dsimp only [errW]) | (go_at_call 80; refine (isSize_any (k : Int) _).mono ?_; rintro e w2 ⟨rfl, hb2⟩; rw [HZ.out]; have HB2 := Lib.hid hb2; clear hb2) | (go_at_call 25; refine (cplace_any b big a s i false _ (H.out.below HB2.out H.out.lt) ha ha2 (by omega)).mono ?_; rintro e w3 ⟨rfl, nq, rfl⟩) | (go_at_call 81; refine (padding_free (a + i) k _ (by omega) (by omega) (by omega)).mono ?_; rintro e w4 ⟨rfl, rfl⟩; rw [HPE.out]))
  have hc4 : CdAt (w2.drewN nq).drew b big a s i false := (show CdAt w2 b big a s i false from H.out.below HB2.out H.out.lt)
  have hg4 : w.grownBy (w2.drewN nq).drew (some b) := (grownBy_below HB2.out (some b)).trans (show w2.grownBy (w2.drewN nq).drew (some b) from ⟨rfl, rfl, rfl, Nat.le_refl _, fun _ _ _ => rfl⟩)
  generalize w2.drewN nq = w5 at hc4 hg4
  have ZS := Lib.hid (zeros_some b big a s i false i p j _ hc4 hs hi (by omega) HF.out)
  have c2 := hc4.c2
  have c3 := hc4.c3
  have HG4 := Lib.hid hg4
  clear hc4 hg4
  go_region_with (go_at_call 82; refine ZS.out.mono ?_; rintro e w6 ⟨rfl, hc6, hg6⟩; have C6 := Lib.hid hc6; have G6 := Lib.hid hg6; clear hc6 hg6)
  all_goals (go_wp2_with fail; go_ret; exact ⟨rfl, C6.out, HG4.out.trans G6.out⟩)

end Go.Proofs.Ytdklmeamhcgohaa
