/-
  PROVED HERE: what take of a reader of the reference returns and does.
-/
import Derived.Test.YtdklmeamhcgohaaRm
namespace Go.Proofs.Ytdklmeamhcgohaa
open Go.RowKit

/-- What taking N bytes behind the padding for a size does. -/
def takeR (s : ByteArray) (a : Int) (N k i : Nat) (wr : Bool) : RR :=
  if wr then ⟨0, noB, 12, i, true⟩ else
  match firstBad (bytesOf s) i (padK' a i k) with
  | some j => ⟨0, noB, 12, j, true⟩
  | none => if i + padK' a i k + N ≤ s.size then ⟨0, s.extract (i + padK' a i k) (i + padK' a i k + N), 0, i + padK' a i k + N, false⟩ else ⟨0, noB, 12, s.size, true⟩

theorem takeR_wrong (s : ByteArray) (a : Int) (N k i : Nat) : takeR s a N k i true = ⟨0, noB, 12, i, true⟩ := rfl
theorem takeR_some (s : ByteArray) (a : Int) (N k i j : Nat) (h : firstBad (bytesOf s) i (padK' a i k) = some j) : takeR s a N k i false = ⟨0, noB, 12, j, true⟩ := by simp [takeR, h]
theorem takeR_ok (s : ByteArray) (a : Int) (N k i : Nat) (h : firstBad (bytesOf s) i (padK' a i k) = none) (h2 : i + padK' a i k + N ≤ s.size) : takeR s a N k i false = ⟨0, s.extract (i + padK' a i k) (i + padK' a i k + N), 0, i + padK' a i k + N, false⟩ := by simp [takeR, h, h2]
theorem takeR_end (s : ByteArray) (a : Int) (N k i : Nat) (h : firstBad (bytesOf s) i (padK' a i k) = none) (h2 : ¬ i + padK' a i k + N ≤ s.size) : takeR s a N k i false = ⟨0, noB, 12, s.size, true⟩ := by simp [takeR, h, h2]

set_option maxRecDepth 100000 in
set_option maxHeartbeats 1600000 in
theorem take_any (b : Nat) (big : Bool) (a : Int) (s : ByteArray) (N i k : Nat) (wr : Bool) (w : World) (h : RdAt w b big a s i wr) (ha : 0 ≤ a) (ha2 : a ≤ 7) (hs : s.size ≤ 1000000) (hi : i ≤ s.size)
    (hz : szB (k : Int) = true) :
    Calls Try.prog 99 #[.pointer (some ⟨b, 0, none⟩), .int .i64 N, .int .i64 k] w fun e w' => e = .returned (.tuple #[.string (takeR s a N k i wr).t, .int .i64 (takeR s a N k i wr).e]) ∧ SG w b big a s (takeR s a N k i wr).i (takeR s a N k i wr).w w' := by
  have c4 := h.c4
  cases wr
  · rw [show badN a i false = -1 from rfl] at c4
    cases hf : firstBad (bytesOf s) i (padK' a i k) with
    | some j =>
      rw [takeR_some s a N k i j hf]
      have SK := Lib.hid (skip_some b big a s i k j w h ha ha2 hs hi hz hf)
      clear h hz hf
      go_enter Try.func99, Try.ntmps99
      go_wp2_with (go_at_call 103; refine SK.out.mono ?_; rintro e w1 ⟨rfl, h1⟩; have H1 := Lib.hid h1; clear h1)
      go_ret2
      exact ⟨rfl, H1.out⟩
    | none =>
      have SK := skip_none b big a s i k w h ha ha2 hs hi hz hf
      have hq1 := firstBad_none _ _ _ (by rw [bytesOf_length]; exact hi) hf
      rw [bytesOf_length] at hq1
      by_cases hend : i + padK' a i k + N ≤ s.size
      · rw [takeR_ok s a N k i hf hend]
        obtain ⟨q, hq⟩ : ∃ q, i + padK' a i k = q := ⟨_, rfl⟩
        rw [hq] at SK hq1 hend ⊢
        have SK := Lib.hid SK
        have d2 : decide ((s.size : Int) - q < N) = false := by simp; omega
        clear h hz hf hq
        go_enter Try.func99, Try.ntmps99
        go_wp2_with (go_at_call 103; refine SK.out.mono ?_; rintro e w1 ⟨rfl, h1⟩; have H1 := Lib.hid h1; have c0 := h1.1.c0; have c3 := h1.1.c3; clear h1)
        go_quiet (fail)
        have HS1 := Lib.hid (H1.out.drewN nq)
        generalize w1.drewN nq = wd at HS1 ⊢
        clear c0 c3
        have c0 := HS1.out.1.c0
        have c3 := HS1.out.1.c3
        go_wp2_with fail
        go_quiet (fail)
        have HS2 := Lib.hid (HS1.out.drewN nq)
        generalize wd.drewN nq = we at HS2 ⊢
        clear c0 c3
        have c3 := HS2.out.1.c3
        have f3 := HS2.out.1.f3
        have h3 := HS2.out.set3 (q + N)
        rw [show ((q + N : Nat) : Int) = (q : Int) + N from by omega] at h3
        have HS3 := Lib.hid h3
        clear h3
        go_wp2_with fail
        go_ret2
        exact ⟨rfl, HS3.out⟩
      · rw [takeR_end s a N k i hf hend]
        obtain ⟨q, hq⟩ : ∃ q, i + padK' a i k = q := ⟨_, rfl⟩
        rw [hq] at SK hq1 hend
        have SK := Lib.hid SK
        have d2 : decide ((s.size : Int) - q < N) = true := by simp; omega
        clear h hz hf hq
        go_enter Try.func99, Try.ntmps99
        go_wp2_with (go_at_call 103; refine SK.out.mono ?_; rintro e w1 ⟨rfl, h1⟩; have H1 := Lib.hid h1; have c0 := h1.1.c0; have c3 := h1.1.c3; clear h1)
        go_quiet (fail)
        have HS1 := Lib.hid (H1.out.drewN nq)
        generalize w1.drewN nq = wd at HS1 ⊢
        clear c0 c3
        go_wp2_with (first | (go_at_call 104; refine (rdend_any b big a s q false _ HS1.out.1 ha ha2 (by omega)).mono ?_; rintro e w3 ⟨rfl, nq, rfl⟩) | (go_at_call 100; refine (fail_any b big a s q false s.size _ (HS1.out.drewN nq).1 (by omega)).mono ?_; rintro e w4 ⟨rfl, h4, g4⟩; have H4 := Lib.hid (show SG w b big a s s.size true w4 from ⟨h4, (HS1.out.drewN nq).2.trans g4⟩); clear h4 g4))
        go_ret2
        exact ⟨rfl, H4.out⟩
  · rw [show badN a i true = a + i from rfl] at c4
    have d1 : decide (0 ≤ a + (i : Int)) = true := by simp; omega
    rw [takeR_wrong]
    have H := Lib.hid h
    clear h hz
    go_enter Try.func99, Try.ntmps99
    go_wp2_with fail
    go_ret2
    exact ⟨rfl, SG.refl H.out⟩

end Go.Proofs.Ytdklmeamhcgohaa
