/-
  PROVED HERE: what number, Octet, Flag, Short, Long and Huge of a reader of package cdr return and do.
-/
import Derived.Test.YtdklmeamhcgohaaRg
namespace Go.Proofs.Ytdklmeamhcgohaa
open Go.RowKit

theorem rnumber_any (b : Nat) (big : Bool) (a : Int) (s : ByteArray) (i k : Nat) (wr : Bool) (w : World) (h : CdAt w b big a s i wr) (ha : 0 ≤ a) (ha2 : a ≤ 7) (hs : s.size ≤ 1000000) (hi : i ≤ s.size) (hz : szB (k : Int) = true) :
    Calls Try.prog 98 #[.pointer (some ⟨b, 0, none⟩), .int .i64 k] w fun e w' => e = .returned (.tuple #[.int .u64 ((numR (bytesOf s) big a k i wr).2.2 : Nat), .int .i64 (errW (numR (bytesOf s) big a k i wr).2.1)]) ∧
      CdAt w' b big a s (numR (bytesOf s) big a k i wr).1 (numR (bytesOf s) big a k i wr).2.1 ∧ w.grownBy w' (some b) := by
  have hn := (szB_iff (k : Int)).1 hz
  obtain ⟨he, h1, h2⟩ := algA_num s big a k i wr hz
  cases hw : (algA s a k i wr).w with
  | true =>
    have := h1 hw
    rw [this]
    exact number_pad b big a s i k wr w h ha ha2 hs hi hw he
  | false =>
    obtain ⟨rfl, hf, _⟩ := h2 hw
    by_cases hend : i + padK' a i k + k ≤ s.size
    · rw [numR_ok _ _ _ _ _ hf (by rw [bytesOf_length]; exact hend)]
      exact number_good b big a s i k w h ha ha2 hs hi (by omega) (by omega) hz hf hend
    · rw [numR_end _ _ _ _ _ hf (by rw [bytesOf_length]; omega), bytesOf_length]
      exact number_end b big a s i k w h ha ha2 hs hi (by omega) hz hf (by omega)

theorem sg_1 (u : Nat) (h : u < 256) : IntKind.i64.wrap (u : Int) = sgN 1 u := by
  rw [show sgN 1 u = (u : Int) from rfl]
  exact IntWalk.i64_in _ (by omega)
theorem sg_2 (u : Nat) : IntKind.i64.wrap (IntKind.i16.wrap (u : Int)) = sgN 2 u := by
  rw [show sgN 2 u = IntKind.i16.wrap (u : Int) from rfl]
  have : -32768 ≤ IntKind.i16.wrap (u : Int) ∧ IntKind.i16.wrap (u : Int) ≤ 32767 := by simp [IntKind.wrap, IntKind.bits, IntKind.signed]; omega
  exact IntWalk.i64_in _ (by omega)
theorem sg_4 (u : Nat) : IntKind.i64.wrap (IntKind.i32.wrap (u : Int)) = sgN 4 u := by
  rw [show sgN 4 u = IntKind.i32.wrap (u : Int) from rfl]
  have : -2147483648 ≤ IntKind.i32.wrap (u : Int) ∧ IntKind.i32.wrap (u : Int) ≤ 2147483647 := by simp [IntKind.wrap, IntKind.bits, IntKind.signed]; omega
  exact IntWalk.i64_in _ (by omega)
theorem sg_8 (u : Nat) : IntKind.i64.wrap (u : Int) = sgN 8 u := rfl

section
variable (b : Nat) (big : Bool) (a : Int) (s : ByteArray) (i : Nat) (wr : Bool) (w : World) (h : CdAt w b big a s i wr) (ha : 0 ≤ a) (ha2 : a ≤ 7) (hs : s.size ≤ 1000000) (hi : i ≤ s.size)
include h ha ha2 hs hi

set_option maxHeartbeats 400000 in
theorem coctet_any : Calls Try.prog 60 #[.pointer (some ⟨b, 0, none⟩)] w fun e w' => e = .returned (.tuple #[.int .i64 (numA s big a 1 i wr).n, .int .i64 (numA s big a 1 i wr).e]) ∧ CdAt w' b big a s (numA s big a 1 i wr).i (numA s big a 1 i wr).w ∧ w.grownBy w' (some b) := by
  have NU := rnumber_any b big a s i 1 wr w h ha ha2 hs hi (by decide)
  have hb := (numR_bd (bytesOf s) big a 1 i wr (by rw [bytesOf_length]; exact hi)).2.2.2.1
  unfold numA
  obtain ⟨⟨I, W, U⟩, hr⟩ : ∃ r, numR (bytesOf s) big a 1 i wr = r := ⟨_, rfl⟩
  rw [hr] at NU hb ⊢
  have hsg := sg_1 U hb
  have NU := Lib.hid NU
  clear hr h hb
  go_enter Try.func60, Try.ntmps60
  go_wp2_with (go_at_call 98; refine NU.out.mono ?_; rintro e w1 ⟨rfl, h1, g1⟩; have H1 := Lib.hid h1; have G1 := Lib.hid g1; clear h1 g1)
  go_ret2
  exact ⟨rfl, H1.out, G1.out⟩

set_option maxHeartbeats 400000 in
theorem cshort_any : Calls Try.prog 62 #[.pointer (some ⟨b, 0, none⟩)] w fun e w' => e = .returned (.tuple #[.int .i64 (numA s big a 2 i wr).n, .int .i64 (numA s big a 2 i wr).e]) ∧ CdAt w' b big a s (numA s big a 2 i wr).i (numA s big a 2 i wr).w ∧ w.grownBy w' (some b) := by
  have NU := rnumber_any b big a s i 2 wr w h ha ha2 hs hi (by decide)
  unfold numA
  obtain ⟨⟨I, W, U⟩, hr⟩ : ∃ r, numR (bytesOf s) big a 2 i wr = r := ⟨_, rfl⟩
  rw [hr] at NU ⊢
  have hsg := sg_2 U
  have NU := Lib.hid NU
  clear hr h
  go_enter Try.func62, Try.ntmps62
  go_wp2_with (go_at_call 98; refine NU.out.mono ?_; rintro e w1 ⟨rfl, h1, g1⟩; have H1 := Lib.hid h1; have G1 := Lib.hid g1; clear h1 g1)
  go_ret2
  exact ⟨rfl, H1.out, G1.out⟩

set_option maxHeartbeats 400000 in
theorem clong_any : Calls Try.prog 63 #[.pointer (some ⟨b, 0, none⟩)] w fun e w' => e = .returned (.tuple #[.int .i64 (numA s big a 4 i wr).n, .int .i64 (numA s big a 4 i wr).e]) ∧ CdAt w' b big a s (numA s big a 4 i wr).i (numA s big a 4 i wr).w ∧ w.grownBy w' (some b) := by
  have NU := rnumber_any b big a s i 4 wr w h ha ha2 hs hi (by decide)
  unfold numA
  obtain ⟨⟨I, W, U⟩, hr⟩ : ∃ r, numR (bytesOf s) big a 4 i wr = r := ⟨_, rfl⟩
  rw [hr] at NU ⊢
  have HSG : Hid (wrap64 (wrap32 (U : Int)) = sgN 4 U) := Lib.hid (by rw [← sg_4 U, IntWalk.i64_left, IntWalk.i32_left])
  have NU := Lib.hid NU
  clear hr h
  go_enter Try.func63, Try.ntmps63
  go_wp2_with (go_at_call 98; refine NU.out.mono ?_; rintro e w1 ⟨rfl, h1, g1⟩; have H1 := Lib.hid h1; have G1 := Lib.hid g1; clear h1 g1)
  go_ret2
  exact ⟨by rw [← HSG.out]; rfl, H1.out, G1.out⟩

set_option maxHeartbeats 400000 in
theorem chuge_any : Calls Try.prog 64 #[.pointer (some ⟨b, 0, none⟩)] w fun e w' => e = .returned (.tuple #[.int .i64 (numA s big a 8 i wr).n, .int .i64 (numA s big a 8 i wr).e]) ∧ CdAt w' b big a s (numA s big a 8 i wr).i (numA s big a 8 i wr).w ∧ w.grownBy w' (some b) := by
  have NU := rnumber_any b big a s i 8 wr w h ha ha2 hs hi (by decide)
  unfold numA
  obtain ⟨⟨I, W, U⟩, hr⟩ : ∃ r, numR (bytesOf s) big a 8 i wr = r := ⟨_, rfl⟩
  rw [hr] at NU ⊢
  have hsg := sg_8 U
  have NU := Lib.hid NU
  clear hr h
  go_enter Try.func64, Try.ntmps64
  go_wp2_with (go_at_call 98; refine NU.out.mono ?_; rintro e w1 ⟨rfl, h1, g1⟩; have H1 := Lib.hid h1; have G1 := Lib.hid g1; clear h1 g1)
  go_ret2
  exact ⟨rfl, H1.out, G1.out⟩
end

theorem flagOf_wrong (r : Nat × Bool × Nat) (h : r.2.1 = true) : flagOf r = ⟨0, noB, 12, r.1, true⟩ := by simp [flagOf, h]
theorem flagOf_two (r : Nat × Bool × Nat) (h : r.2.1 = false) (h2 : 1 < r.2.2) : flagOf r = ⟨0, noB, 12, r.1 - 1, true⟩ := by simp [flagOf, h, h2]
theorem flagOf_ok (r : Nat × Bool × Nat) (h : r.2.1 = false) (h2 : ¬ 1 < r.2.2) : flagOf r = ⟨(r.2.2 : Int), noB, 0, r.1, false⟩ := by simp [flagOf, h]; omega

set_option maxRecDepth 100000 in
set_option maxHeartbeats 800000 in
theorem cflag_any (b : Nat) (big : Bool) (a : Int) (s : ByteArray) (i : Nat) (wr : Bool) (w : World) (h : CdAt w b big a s i wr) (ha : 0 ≤ a) (ha2 : a ≤ 7) (hs : s.size ≤ 1000000) (hi : i ≤ s.size) :
    Calls Try.prog 61 #[.pointer (some ⟨b, 0, none⟩)] w fun e w' => e = .returned (.tuple #[.bool (decide ((flagA s big a i wr).n = 1)), .int .i64 (flagA s big a i wr).e]) ∧ CdAt w' b big a s (flagA s big a i wr).i (flagA s big a i wr).w ∧ w.grownBy w' (some b) := by
  have NU := rnumber_any b big a s i 1 wr w h ha ha2 hs hi (by decide)
  obtain ⟨_, hb2, hb3, hb4, hb5⟩ := numR_bd (bytesOf s) big a 1 i wr (by rw [bytesOf_length]; exact hi)
  rw [bytesOf_length] at hb2
  unfold flagA
  obtain ⟨⟨I, W, U⟩, hr⟩ : ∃ r, numR (bytesOf s) big a 1 i wr = r := ⟨_, rfl⟩
  rw [hr] at NU hb2 hb3 hb4 hb5 ⊢
  have NU := Lib.hid NU
  clear hr h
  dsimp only at hb2 hb3 hb4 hb5
  cases W
  · have hI := hb3 rfl
    clear hb3 hb5
    by_cases h2 : 1 < U
    · rw [flagOf_two _ rfl h2]
      have h2i : (1 : Int) < (U : Int) := by omega
      have hcast : (I : Int) - 1 = ((I - 1 : Nat) : Int) := by omega
      have hST : ∀ W, CdAt W b big a s I false → Calls Try.prog 78 #[.pointer (some ⟨b, 0, none⟩), .int .i64 ((I - 1 : Nat) : Int)] W fun e w' => e = .returned (.int .i64 12) ∧ CdAt w' b big a s (I - 1) true ∧ W.grownBy w' (some b) := fun W hW => stop_any b big a s I false (I - 1) W hW
      rw [← hcast] at hST
      have ST := Lib.hid hST
      clear hST hcast h2
      go_enter Try.func61, Try.ntmps61
      go_wp2_with (first | (go_at_call 98; refine NU.out.mono ?_; rintro e w1 ⟨rfl, h1, g1⟩; dsimp only [errW]; have H1 := Lib.hid h1; have G1 := Lib.hid g1; have c3 := h1.c3; clear h1 g1) | (go_at_call 78; refine (ST.out _ H1.out).mono ?_; rintro e w2 ⟨rfl, h2, g2⟩; have H2 := Lib.hid h2; have G2 := Lib.hid g2; clear h2 g2))
      go_ret2
      exact ⟨rfl, H2.out, G1.out.trans G2.out⟩
    · rw [flagOf_ok _ rfl h2]
      have h2i : ¬ (1 : Int) < (U : Int) := by omega
      have hU : ((U : Int) == 1) = decide ((U : Int) = 1) := by by_cases e : (U : Int) = 1 <;> simp [e]
      have HU := Lib.hid hU
      clear hU h2
      go_enter Try.func61, Try.ntmps61
      go_wp2_with (go_at_call 98; refine NU.out.mono ?_; rintro e w1 ⟨rfl, h1, g1⟩; dsimp only [errW]; have H1 := Lib.hid h1; have G1 := Lib.hid g1; clear h1 g1)
      go_ret2
      exact ⟨by rw [← HU.out]; rfl, H1.out, G1.out⟩
  · rw [flagOf_wrong _ rfl]
    have hU : U = 0 := hb5 rfl
    subst hU
    clear hb3 hb5
    go_enter Try.func61, Try.ntmps61
    go_wp2_with (go_at_call 98; refine NU.out.mono ?_; rintro e w1 ⟨rfl, h1, g1⟩; dsimp only [errW]; have H1 := Lib.hid h1; have G1 := Lib.hid g1; clear h1 g1)
    go_ret2
    exact ⟨rfl, H1.out, G1.out⟩

end Go.Proofs.Ytdklmeamhcgohaa
