/-
  PROVED HERE: what Octet, Flag, Short, Long and Huge of a reader of the reference return and do: what those of package cdr do.
-/
import Derived.Test.YtdklmeamhcgohaaRo
namespace Go.Proofs.Ytdklmeamhcgohaa
open Go.RowKit

theorem bytesOf_extract (s : ByteArray) (q k : Nat) : bytesOf (s.extract q (q + k)) = pieceL (bytesOf s) q k := by
  unfold bytesOf pieceL
  rw [ByteArray.data_extract, Array.toList_extract, List.extract_eq_take_drop]
  congr 1
  omega

/-- A number out of what was taken. -/
theorem numR_take (s : ByteArray) (big : Bool) (a : Int) (k i : Nat) (wr : Bool) :
    ((takeR s a k k i wr).w = true → (takeR s a k k i wr).e = 12 ∧ (takeR s a k k i wr).t = noB ∧ numR (bytesOf s) big a k i wr = ((takeR s a k k i wr).i, true, 0)) ∧
    ((takeR s a k k i wr).w = false → (takeR s a k k i wr).e = 0 ∧ (takeR s a k k i wr).t.size = k ∧ (takeR s a k k i wr).i ≤ s.size ∧ k ≤ (takeR s a k k i wr).i ∧ numR (bytesOf s) big a k i wr = ((takeR s a k k i wr).i, false, valU big (bytesOf (takeR s a k k i wr).t))) := by
  cases wr
  · cases hf : firstBad (bytesOf s) i (padK' a i k) with
    | some j => rw [takeR_some s a k k i j hf, numR_pad _ _ _ _ _ _ hf]; exact ⟨fun _ => ⟨rfl, rfl, rfl⟩, fun h => (by cases h)⟩
    | none =>
      by_cases hend : i + padK' a i k + k ≤ s.size
      · rw [takeR_ok s a k k i hf hend, numR_ok _ _ _ _ _ hf (by rw [bytesOf_length]; exact hend)]
        refine ⟨fun h => (by cases h), fun _ => ⟨rfl, ?_, hend, by simp only; omega, ?_⟩⟩
        · simp only; rw [ByteArray.size_extract]; omega
        · simp only; rw [bytesOf_extract]
      · rw [takeR_end s a k k i hf hend, numR_end _ _ _ _ _ hf (by rw [bytesOf_length]; omega), bytesOf_length]
        exact ⟨fun _ => ⟨rfl, rfl, rfl⟩, fun h => (by cases h)⟩
  · exact ⟨fun _ => ⟨rfl, rfl, rfl⟩, fun h => (by cases h)⟩

theorem sgN_zero (k : Nat) : sgN k 0 = 0 := by
  unfold sgN
  repeat' split
  all_goals first | rfl | simp [IntKind.wrap, IntKind.bits, IntKind.signed]

theorem one_byte (big : Bool) (t : ByteArray) (h : t.size = 1) : valU big (bytesOf t) = (t[0]'(by omega)).toNat := by
  have h1 : bytesOf t = [t[0]'(by omega)] := by
    have hl := bytesOf_length t
    rw [h] at hl
    have h2 := byte_at t 0 (by omega)
    match hb : bytesOf t, hl with
    | [x], _ => rw [hb] at h2; simpa using h2
  rw [h1]
  cases big <;> simp [valU, hiN]

section
variable (b : Nat) (big : Bool) (a : Int) (s : ByteArray) (i : Nat) (wr : Bool) (w : World) (h : RdAt w b big a s i wr) (ha : 0 ≤ a) (ha2 : a ≤ 7) (hs : s.size ≤ 1000000) (hi : i ≤ s.size)
include h ha ha2 hs hi

set_option maxRecDepth 100000 in
set_option maxHeartbeats 800000 in
theorem rdnumber_any (k : Nat) (hkk : k = 2 ∨ k = 4 ∨ k = 8) : Calls Try.prog 101 #[.pointer (some ⟨b, 0, none⟩), .int .i64 k] w fun e w' => e = .returned (.tuple #[.int .i64 (numA s big a k i wr).n, .int .i64 (numA s big a k i wr).e]) ∧ SG w b big a s (numA s big a k i wr).i (numA s big a k i wr).w w' := by
  have TK := take_any b big a s k i k wr w h ha ha2 hs hi (by rcases hkk with rfl | rfl | rfl <;> decide)
  obtain ⟨n1, n2⟩ := numR_take s big a k i wr
  unfold numA
  obtain ⟨⟨n, t, e, I, W⟩, hr⟩ : ∃ r, takeR s a k k i wr = r := ⟨_, rfl⟩
  rw [hr] at TK n1 n2
  dsimp only at TK n1 n2
  cases W
  · obtain ⟨rfl, h2, h3, h4, h5⟩ := n2 rfl
    rw [h5]
    dsimp only [errW]
    have TK := Lib.hid TK
    have SI := Lib.hid fun w => signed_any t big w k h2 hkk
    clear n1 n2 hr h h5 hkk
    go_enter Try.func101, Try.ntmps101
    go_wp2_with (first | (go_at_call 99; refine TK.out.mono ?_; rintro e w1 ⟨rfl, h1⟩; have H1 := Lib.hid h1; have c1 := h1.1.c1; clear h1) | (go_at_call 105; refine (SI.out _).mono ?_; rintro e w2 ⟨rfl, rfl⟩))
    go_ret2
    exact ⟨rfl, H1.out⟩
  · obtain ⟨rfl, rfl, h5⟩ := n1 rfl
    rw [h5]
    dsimp only [errW]
    rw [sgN_zero]
    have TK := Lib.hid TK
    clear n1 n2 hr h h5 hkk
    go_enter Try.func101, Try.ntmps101
    go_wp2_with (go_at_call 99; refine TK.out.mono ?_; rintro e w1 ⟨rfl, h1⟩; have H1 := Lib.hid h1; clear h1)
    go_ret2
    exact ⟨rfl, H1.out⟩

theorem rdshort_any : Calls Try.prog 69 #[.pointer (some ⟨b, 0, none⟩)] w fun e w' => e = .returned (.tuple #[.int .i64 (numA s big a 2 i wr).n, .int .i64 (numA s big a 2 i wr).e]) ∧ SG w b big a s (numA s big a 2 i wr).i (numA s big a 2 i wr).w w' := by
  have NU := Lib.hid (rdnumber_any b big a s i wr w h ha ha2 hs hi 2 (.inl rfl))
  obtain ⟨R, hR⟩ : ∃ R, numA s big a 2 i wr = R := ⟨_, rfl⟩
  rw [hR] at NU ⊢
  clear hR h
  go_enter Try.func69, Try.ntmps69
  go_wp2_with (go_at_call 101; refine NU.out.mono ?_; rintro e w1 ⟨rfl, h1⟩; have H1 := Lib.hid h1; clear h1)
  go_ret2
  exact ⟨rfl, H1.out⟩

theorem rdlong_any : Calls Try.prog 70 #[.pointer (some ⟨b, 0, none⟩)] w fun e w' => e = .returned (.tuple #[.int .i64 (numA s big a 4 i wr).n, .int .i64 (numA s big a 4 i wr).e]) ∧ SG w b big a s (numA s big a 4 i wr).i (numA s big a 4 i wr).w w' := by
  have NU := Lib.hid (rdnumber_any b big a s i wr w h ha ha2 hs hi 4 (.inr (.inl rfl)))
  obtain ⟨R, hR⟩ : ∃ R, numA s big a 4 i wr = R := ⟨_, rfl⟩
  rw [hR] at NU ⊢
  clear hR h
  go_enter Try.func70, Try.ntmps70
  go_wp2_with (go_at_call 101; refine NU.out.mono ?_; rintro e w1 ⟨rfl, h1⟩; have H1 := Lib.hid h1; clear h1)
  go_ret2
  exact ⟨rfl, H1.out⟩

theorem rdhuge_any : Calls Try.prog 71 #[.pointer (some ⟨b, 0, none⟩)] w fun e w' => e = .returned (.tuple #[.int .i64 (numA s big a 8 i wr).n, .int .i64 (numA s big a 8 i wr).e]) ∧ SG w b big a s (numA s big a 8 i wr).i (numA s big a 8 i wr).w w' := by
  have NU := Lib.hid (rdnumber_any b big a s i wr w h ha ha2 hs hi 8 (.inr (.inr rfl)))
  obtain ⟨R, hR⟩ : ∃ R, numA s big a 8 i wr = R := ⟨_, rfl⟩
  rw [hR] at NU ⊢
  clear hR h
  go_enter Try.func71, Try.ntmps71
  go_wp2_with (go_at_call 101; refine NU.out.mono ?_; rintro e w1 ⟨rfl, h1⟩; have H1 := Lib.hid h1; clear h1)
  go_ret2
  exact ⟨rfl, H1.out⟩

set_option maxRecDepth 100000 in
set_option maxHeartbeats 800000 in
theorem rdoctet_any : Calls Try.prog 67 #[.pointer (some ⟨b, 0, none⟩)] w fun e w' => e = .returned (.tuple #[.int .i64 (numA s big a 1 i wr).n, .int .i64 (numA s big a 1 i wr).e]) ∧ SG w b big a s (numA s big a 1 i wr).i (numA s big a 1 i wr).w w' := by
  have TK := take_any b big a s 1 i 1 wr w h ha ha2 hs hi (by decide)
  obtain ⟨n1, n2⟩ := numR_take s big a 1 i wr
  unfold numA
  obtain ⟨⟨n, t, e, I, W⟩, hr⟩ : ∃ r, takeR s a 1 1 i wr = r := ⟨_, rfl⟩
  rw [hr] at TK n1 n2
  dsimp only at TK n1 n2
  cases W
  · obtain ⟨rfl, h2, h3, h4, h5⟩ := n2 rfl
    rw [h5, one_byte big t h2]
    dsimp only [errW]
    have TK := Lib.hid TK
    have h0 : 0 < t.size := by omega
    have hx := t[0].toNat_lt
    have HE : Hid (((t[0].toNat : Nat) : Int) = sgN 1 t[0].toNat) := Lib.hid rfl
    rw [← HE.out]
    have hwb : IntKind.i64.wrap (t[0].toNat : Int) = (t[0].toNat : Int) := IntWalk.i64_in _ (by omega)
    clear n1 n2 hr h h5 h2 HE
    go_enter Try.func67, Try.ntmps67
    go_wp2_with (go_at_call 99; refine TK.out.mono ?_; rintro e w1 ⟨rfl, h1⟩; have H1 := Lib.hid h1; clear h1)
    go_ret2
    exact ⟨rfl, H1.out⟩
  · obtain ⟨rfl, rfl, h5⟩ := n1 rfl
    rw [h5]
    dsimp only [errW]
    rw [sgN_zero]
    have TK := Lib.hid TK
    clear n1 n2 hr h h5
    go_enter Try.func67, Try.ntmps67
    go_wp2_with (go_at_call 99; refine TK.out.mono ?_; rintro e w1 ⟨rfl, h1⟩; have H1 := Lib.hid h1; clear h1)
    go_ret2
    exact ⟨rfl, H1.out⟩

end

set_option maxRecDepth 100000 in
set_option maxHeartbeats 800000 in
theorem rdflag_any (b : Nat) (big : Bool) (a : Int) (s : ByteArray) (i : Nat) (wr : Bool) (w : World) (h : RdAt w b big a s i wr) (ha : 0 ≤ a) (ha2 : a ≤ 7) (hs : s.size ≤ 1000000) (hi : i ≤ s.size) :
    Calls Try.prog 68 #[.pointer (some ⟨b, 0, none⟩)] w fun e w' => e = .returned (.tuple #[.bool (decide ((flagA s big a i wr).n = 1)), .int .i64 (flagA s big a i wr).e]) ∧ SG w b big a s (flagA s big a i wr).i (flagA s big a i wr).w w' := by
  have NU := rdoctet_any b big a s i wr w h ha ha2 hs hi
  obtain ⟨_, hb2, hb3, hb4, hb5⟩ := numR_bd (bytesOf s) big a 1 i wr (by rw [bytesOf_length]; exact hi)
  rw [bytesOf_length] at hb2
  unfold flagA
  unfold numA at NU
  obtain ⟨⟨I, W, U⟩, hr⟩ : ∃ r, numR (bytesOf s) big a 1 i wr = r := ⟨_, rfl⟩
  rw [hr] at NU hb2 hb3 hb4 hb5 ⊢
  dsimp only at NU hb2 hb3 hb4 hb5
  rw [show sgN 1 U = (U : Int) from rfl] at NU
  have NU := Lib.hid NU
  clear hr h
  cases W
  · have hI := hb3 rfl
    clear hb3 hb5
    by_cases h2 : 1 < U
    · rw [flagOf_two _ rfl h2]
      have h2i : (1 : Int) < (U : Int) := by omega
      have hcast : a + (I : Int) - 1 = a + ((I - 1 : Nat) : Int) := by omega
      have hST : ∀ W, RdAt W b big a s I false → Calls Try.prog 100 #[.pointer (some ⟨b, 0, none⟩), .int .i64 (a + ((I - 1 : Nat) : Int))] W fun e w' => e = .returned (.int .i64 12) ∧ RdAt w' b big a s (I - 1) true ∧ W.grownBy w' (some b) := fun W hW => fail_any b big a s I false (I - 1) W hW (by omega)
      rw [← hcast] at hST
      have ST := Lib.hid hST
      clear hST hcast h2
      go_enter Try.func68, Try.ntmps68
      go_wp2_with (first | (go_at_call 67; refine NU.out.mono ?_; rintro e w1 ⟨rfl, h1⟩; dsimp only [errW]; have H1 := Lib.hid h1; clear h1) | (go_at_call 26; refine (rdplace_any b big a s I false _ H1.out.1 ha ha2 (by omega)).mono ?_; rintro e w2 ⟨rfl, nq, rfl⟩) | (go_at_call 100; refine (ST.out _ (H1.out.drewN nq).1).mono ?_; rintro e w3 ⟨rfl, h3, g3⟩; have H3 := Lib.hid (show SG w b big a s (I - 1) true w3 from ⟨h3, (H1.out.drewN nq).2.trans g3⟩); clear h3 g3))
      go_ret2
      exact ⟨rfl, H3.out⟩
    · rw [flagOf_ok _ rfl h2]
      have h2i : ¬ (1 : Int) < (U : Int) := by omega
      have hU : ((U : Int) == 1) = decide ((U : Int) = 1) := by by_cases e : (U : Int) = 1 <;> simp [e]
      have HU := Lib.hid hU
      clear hU h2
      go_enter Try.func68, Try.ntmps68
      go_wp2_with (go_at_call 67; refine NU.out.mono ?_; rintro e w1 ⟨rfl, h1⟩; dsimp only [errW]; have H1 := Lib.hid h1; clear h1)
      go_ret2
      exact ⟨by rw [← HU.out]; rfl, H1.out⟩
  · rw [flagOf_wrong _ rfl]
    have hU : U = 0 := hb5 rfl
    subst hU
    clear hb3 hb5
    go_enter Try.func68, Try.ntmps68
    go_wp2_with (go_at_call 67; refine NU.out.mono ?_; rintro e w1 ⟨rfl, h1⟩; dsimp only [errW]; have H1 := Lib.hid h1; clear h1)
    go_ret2
    exact ⟨rfl, H1.out⟩

end Go.Proofs.Ytdklmeamhcgohaa
