/-
  PROVED HERE: what Put of the reference's writer returns and writes: what Put of package cdr does.
-/
import Derived.Test.YtdklmeamhcgohaaX
import Derived.Test.YtdklmeamhcgohaaZb
import Derived.Lib.BufferWrite
namespace Go.Proofs.Ytdklmeamhcgohaa
open Go.RowKit

set_option maxRecDepth 100000 in
set_option maxHeartbeats 1600000 in
theorem rput_bad_place (b : Nat) (big : Bool) (a place n : Int) (sv : Value) (out : List UInt8) (w : World) (h : RHolds w b big a sv out) (ha : 0 ≤ a) (ha2 : a ≤ 7) (hL : out.length ≤ 100000000) (hk : putP a place out.length = false) :
    Calls Try.prog 56 #[.pointer (some ⟨b, 0, none⟩), .int .i64 place, .int .i64 n] w fun e w' => e = .returned (.int .i64 7) ∧ ∃ sv', RHolds w' b big a sv' out ∧ Wrote w w' b sv sv' := by
  have c1 := h.1.c1
  have c2 := h.1.c2
  obtain ⟨ao, cap, rfl⟩ := h.form
  have PL := Lib.hid (rplace_any b big a ao out.length cap w h.1 ha ha2 (by omega))
  have H := Lib.hid h
  clear h
  by_cases h1 : place < a
  · go_enter Try.func56, Try.ntmps56
    go_wp2_with fail
    go_ret
    first | exact ⟨rfl, _, H.out, Wrote.refl _ _ _⟩ | exact ⟨_, rfl, H.out, Wrote.refl _ _ _⟩
  · by_cases h2 : a + out.length - 4 < place
    · go_enter Try.func56, Try.ntmps56
      go_wp2_with (go_at_call 16; refine PL.out.mono ?_; rintro e w1 ⟨rfl, nq, rfl⟩)
      go_ret
      first | exact ⟨rfl, _, H.out.drewN nq, (Wrote.refl _ _ _).drewN nq⟩ | exact ⟨_, rfl, H.out.drewN nq, (Wrote.refl _ _ _).drewN nq⟩
    · have h3 : ¬ place % 4 = 0 := by
        intro h3
        have : putP a place out.length = true := by
          simp only [putP, Bool.and_eq_true, decide_eq_true_eq]
          omega
        rw [this] at hk
        cases hk
      have hp0 : 0 ≤ place := by omega
      have h4 : ¬ place.tmod 4 = 0 := by rw [Int.tmod_eq_emod_of_nonneg hp0]; exact h3
      go_enter Try.func56, Try.ntmps56
      go_wp2_with (go_at_call 16; refine PL.out.mono ?_; rintro e w1 ⟨rfl, nq, rfl⟩)
      go_ret
      first | exact ⟨rfl, _, H.out.drewN nq, (Wrote.refl _ _ _).drewN nq⟩ | exact ⟨_, rfl, H.out.drewN nq, (Wrote.refl _ _ _).drewN nq⟩

set_option maxRecDepth 100000 in
set_option maxHeartbeats 1600000 in
theorem rput_bad_num (b : Nat) (big : Bool) (a place n : Int) (sv : Value) (out : List UInt8) (w : World) (h : RHolds w b big a sv out) (ha : 0 ≤ a) (ha2 : a ≤ 7) (hL : out.length ≤ 100000000) (hk : putP a place out.length = true) (hf : fitsN 4 n = false) :
    Calls Try.prog 56 #[.pointer (some ⟨b, 0, none⟩), .int .i64 place, .int .i64 n] w fun e w' => e = .returned (.int .i64 7) ∧ ∃ sv', RHolds w' b big a sv' out ∧ Wrote w w' b sv sv' := by
  have c1 := h.1.c1
  have c2 := h.1.c2
  obtain ⟨ao, cap, rfl⟩ := h.form
  have PL := Lib.hid (rplace_any b big a ao out.length cap w h.1 ha ha2 (by omega))
  have H := Lib.hid h
  simp only [putP, Bool.and_eq_true, decide_eq_true_eq] at hk
  obtain ⟨⟨q1, q2⟩, q3⟩ := hk
  have hp0 : 0 ≤ place := by omega
  have h4 : place.tmod 4 = 0 := by rw [Int.tmod_eq_emod_of_nonneg hp0]; exact q3
  have hn : n < -2147483648 ∨ 2147483647 < n := by
    simp [fitsN] at hf
    omega
  have g1 : ¬ place < a := by omega
  have g2 : ¬ a + out.length - 4 < place := by omega
  clear hf h
  rcases hn with hn | hn
  · go_enter Try.func56, Try.ntmps56
    go_wp2_with (go_at_call 16; refine PL.out.mono ?_; rintro e w1 ⟨rfl, nq, rfl⟩)
    go_ret
    first | exact ⟨rfl, _, H.out.drewN nq, (Wrote.refl _ _ _).drewN nq⟩ | exact ⟨_, rfl, H.out.drewN nq, (Wrote.refl _ _ _).drewN nq⟩
  · have hn2 : ¬ n < -2147483648 := by omega
    have hn3 : (2147483648 : Int) ≤ n := by omega
    go_enter Try.func56, Try.ntmps56
    go_wp2_with (go_at_call 16; refine PL.out.mono ?_; rintro e w1 ⟨rfl, nq, rfl⟩)
    go_ret
    first | exact ⟨rfl, _, H.out.drewN nq, (Wrote.refl _ _ _).drewN nq⟩ | exact ⟨_, rfl, H.out.drewN nq, (Wrote.refl _ _ _).drewN nq⟩
end Go.Proofs.Ytdklmeamhcgohaa
