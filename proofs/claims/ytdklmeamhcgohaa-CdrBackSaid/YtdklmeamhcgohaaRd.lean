/-
  PROVED HERE: what Align of a reader of package cdr returns and does, in all cases.
-/
import Derived.Test.YtdklmeamhcgohaaRc
namespace Go.Proofs.Ytdklmeamhcgohaa
open Go.RowKit

set_option maxRecDepth 100000 in
set_option maxHeartbeats 1600000 in
theorem ralign_none (b : Nat) (big : Bool) (a : Int) (s : ByteArray) (i k : Nat) (w : World) (h : CdAt w b big a s i false) (ha : 0 ≤ a) (ha2 : a ≤ 7) (hs : s.size ≤ 1000000) (hi : i ≤ s.size)
    (hz : szB (k : Int) = true) (hf : firstBad (bytesOf s) i (padK' a i k) = none) :
    Calls Try.prog 32 #[.pointer (some ⟨b, 0, none⟩), .int .i64 k] w fun e w' => e = .returned (.int .i64 0) ∧ CdAt w' b big a s (i + padK' a i k) false ∧ w.grownBy w' (some b) := by
  have HZ := Lib.hid hz
  have hn := (szB_iff (k : Int)).1 hz
  have hk1 : 1 ≤ k := by omega
  have hk8 : k ≤ 8 := by omega
  have hpe := padK'_eq a i k hk1
  have hpl := padK'_lt a i k hk1
  obtain ⟨p, hp⟩ : ∃ p, padK' a i k = p := ⟨_, rfl⟩
  rw [hp] at hpe hpl hf ⊢
  have HPE := Lib.hid hpe
  have HF := Lib.hid hf
  have RD := Lib.hid (ready_any b big a s i false w h)
  have H := Lib.hid h
  clear hz hn hpe hf hp h
  go_enter Try.func32, Try.ntmps32
  go_wp2_with (first | (go_at_call 79; refine RD.out.mono ?_; rintro e w1 ⟨rfl, rfl⟩; dsimp only [errW]) | (go_at_call 80; refine (isSize_any (k : Int) _).mono ?_; rintro e w2 ⟨rfl, hb2⟩; rw [HZ.out]; have HB2 := Lib.hid hb2; clear hb2) | (go_at_call 25; refine (cplace_any b big a s i false _ (H.out.below HB2.out H.out.lt) ha ha2 (by omega)).mono ?_; rintro e w3 ⟨rfl, nq, rfl⟩) | (go_at_call 81; refine (padding_free (a + i) k _ (by omega) (by omega) (by omega)).mono ?_; rintro e w4 ⟨rfl, rfl⟩; rw [HPE.out]))
  have hc4 : CdAt (w2.drewN nq).drew b big a s i false := (show CdAt w2 b big a s i false from H.out.below HB2.out H.out.lt)
  have hg4 : w.grownBy (w2.drewN nq).drew (some b) := (grownBy_below HB2.out (some b)).trans (show w2.grownBy (w2.drewN nq).drew (some b) from ⟨rfl, rfl, rfl, Nat.le_refl _, fun _ _ _ => rfl⟩)
  generalize w2.drewN nq = w5 at hc4 hg4
  have c2 := hc4.c2
  have c3 := hc4.c3
  have f3 := hc4.f3
  have HC5 := Lib.hid (hc4.set3 (i + p))
  have HG5 := Lib.hid (hg4.trans (grownBy_setCell2 w5.drew ⟨b, 3, none⟩ (.int .i64 ((i + p : Nat) : Int))))
  have hcast : ((i + p : Nat) : Int) = (i : Int) + p := by omega
  rw [hcast] at HC5 HG5
  clear hc4 hg4 hcast
  go_region_with (go_at_call 82; refine (zeros_none s i p _ _ hs hi (by omega) HF.out).mono ?_; rintro e w6 ⟨rfl, rfl⟩)
  all_goals (go_wp2_with fail; go_ret; exact ⟨rfl, HC5.out, HG5.out⟩)

theorem cralign_any (b : Nat) (big : Bool) (a n : Int) (s : ByteArray) (i : Nat) (wr : Bool) (w : World) (h : CdAt w b big a s i wr) (ha : 0 ≤ a) (ha2 : a ≤ 7) (hs : s.size ≤ 1000000) (hi : i ≤ s.size) :
    Calls Try.prog 32 #[.pointer (some ⟨b, 0, none⟩), .int .i64 n] w fun e w' => e = .returned (.int .i64 (algA s a n i wr).e) ∧ CdAt w' b big a s (algA s a n i wr).i (algA s a n i wr).w ∧ w.grownBy w' (some b) := by
  cases wr
  · obtain ⟨z, hz⟩ : ∃ z, szB n = z := ⟨_, rfl⟩
    cases z
    · have RD := Lib.hid (ready_any b big a s i false w h)
      have HZ := Lib.hid hz
      rw [algA_size s a n i hz]
      have H := Lib.hid h
      clear hz h
      go_enter Try.func32, Try.ntmps32
      go_wp2_with (first | (go_at_call 79; refine RD.out.mono ?_; rintro e w1 ⟨rfl, rfl⟩; dsimp only [errW]) | (go_at_call 80; refine (isSize_any n _).mono ?_; rintro e w2 ⟨rfl, hb2⟩; rw [HZ.out]; have HB2 := Lib.hid hb2; clear hb2))
      go_ret
      exact ⟨rfl, H.out.below HB2.out H.out.lt, grownBy_below HB2.out _⟩
    · have hn := (szB_iff n).1 hz
      obtain ⟨k, rfl⟩ : ∃ k : Nat, n = (k : Int) := ⟨n.toNat, by omega⟩
      cases hf : firstBad (bytesOf s) i (padK' a i k) with
      | some j => rw [algA_some s a k i j hz hf]; exact ralign_some b big a s i k j w h ha ha2 hs hi hz hf
      | none => rw [algA_none s a k i hz hf]; exact ralign_none b big a s i k w h ha ha2 hs hi hz hf
  · have RD := Lib.hid (ready_any b big a s i true w h)
    have H := Lib.hid h
    rw [algA_wrong s a n i]
    clear h
    go_enter Try.func32, Try.ntmps32
    go_wp2_with (go_at_call 79; refine RD.out.mono ?_; rintro e w1 ⟨rfl, rfl⟩; dsimp only [errW])
    go_ret
    exact ⟨rfl, H.out, grownBy_refl _ _⟩

/-- The error of an act that reads a number of a size. -/
theorem algA_num (s : ByteArray) (big : Bool) (a : Int) (k i : Nat) (wr : Bool) (hz : szB (k : Int) = true) :
    (algA s a k i wr).e = errW (algA s a k i wr).w ∧ ((algA s a k i wr).w = true → numR (bytesOf s) big a k i wr = ((algA s a k i wr).i, true, 0)) ∧
    ((algA s a k i wr).w = false → wr = false ∧ firstBad (bytesOf s) i (padK' a i k) = none ∧ (algA s a k i wr).i = i + padK' a i k) := by
  cases wr
  · cases hf : firstBad (bytesOf s) i (padK' a i k) with
    | some j => rw [algA_some s a k i j hz hf]; exact ⟨rfl, fun _ => numR_pad _ _ _ _ _ _ hf, fun h => by cases h⟩
    | none => rw [algA_none s a k i hz hf]; exact ⟨rfl, fun h => (by cases h), fun _ => ⟨rfl, rfl, rfl⟩⟩
  · rw [algA_wrong]; exact ⟨rfl, fun _ => rfl, fun h => by cases h⟩

end Go.Proofs.Ytdklmeamhcgohaa
