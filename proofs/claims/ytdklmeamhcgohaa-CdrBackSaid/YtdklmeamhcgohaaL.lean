/-
  PROVED HERE: what Flag, Short, Huge, Bytes, Raw and Align of a writer return and write, for any writer whose bytes are known.
-/
import Derived.Test.YtdklmeamhcgohaaH
import Derived.Test.YtdklmeamhcgohaaI
namespace Go.Proofs.Ytdklmeamhcgohaa
open Go.RowKit

theorem short_any (b : Nat) (big : Bool) (a n : Int) (sv : Value) (out : List UInt8) (w : World) (h : Holds w b big a sv out) (ha : 0 ≤ a) (ha2 : a ≤ 7) (hL : out.length ≤ 100000000) (p : Nat) (hp : padN (a + out.length) ((2 : Nat) : Int) = p)
    (f r : Bool) (hf : fitsN 2 n = f) (hr : roomB a 2 2 out.length = r) :
    Calls Try.prog 42 #[.pointer (some ⟨b, 0, none⟩), .int .i64 n] w fun e w' => ∃ sv', e = .returned (.int .i64 (numC f r)) ∧
      Holds w' b big a sv' (numOut f r out p (numB n big 2)) ∧ Wrote w w' b sv sv' := by
  have HN := Lib.hid (number2 b big a n sv out w h ha ha2 hL p hp f r hf hr)
  clear h hp hf hr
  go_enter Try.func42, Try.ntmps42
  go_wp2_with (go_at_call 57; refine HN.out.mono ?_; rintro e w2 ⟨sv', rfl, hh, hw⟩)
  go_ret
  exact ⟨sv', rfl, hh, hw⟩

theorem huge_any (b : Nat) (big : Bool) (a n : Int) (sv : Value) (out : List UInt8) (w : World) (h : Holds w b big a sv out) (ha : 0 ≤ a) (ha2 : a ≤ 7) (hL : out.length ≤ 100000000) (p : Nat) (hp : padN (a + out.length) ((8 : Nat) : Int) = p)
    (f r : Bool) (hf : fitsN 8 n = f) (hr : roomB a 8 8 out.length = r) :
    Calls Try.prog 43 #[.pointer (some ⟨b, 0, none⟩), .int .i64 n] w fun e w' => ∃ sv', e = .returned (.int .i64 (numC f r)) ∧
      Holds w' b big a sv' (numOut f r out p (numB n big 8)) ∧ Wrote w w' b sv sv' := by
  have HN := Lib.hid (number8 b big a n sv out w h ha ha2 hL p hp f r hf hr)
  clear h hp hf hr
  go_enter Try.func43, Try.ntmps43
  go_wp2_with (go_at_call 57; refine HN.out.mono ?_; rintro e w2 ⟨sv', rfl, hh, hw⟩)
  go_ret
  exact ⟨sv', rfl, hh, hw⟩

/-- The number that a flag is. -/
def flagN (c : Bool) : Int := if c then 1 else 0

theorem flag_any (b : Nat) (big : Bool) (a : Int) (c : Bool) (sv : Value) (out : List UInt8) (w : World) (h : Holds w b big a sv out) (ha : 0 ≤ a) (ha2 : a ≤ 7) (hL : out.length ≤ 100000000) (p : Nat) (hp : padN (a + out.length) ((1 : Nat) : Int) = p)
    (f r : Bool) (hf : fitsN 1 (flagN c) = f) (hr : roomB a 1 1 out.length = r) :
    Calls Try.prog 41 #[.pointer (some ⟨b, 0, none⟩), .bool c] w fun e w' => ∃ sv', e = .returned (.int .i64 (numC f r)) ∧
      Holds w' b big a sv' (numOut f r out p (numB (flagN c) big 1)) ∧ Wrote w w' b sv sv' := by
  have HN := Lib.hid (number1 b big a (flagN c) sv out w h ha ha2 hL p hp f r hf hr)
  clear h hp hf hr
  cases c
  · go_enter Try.func41, Try.ntmps41
    go_wp2_with (go_at_call 57; refine HN.out.mono ?_; rintro e w2 ⟨sv', rfl, hh, hw⟩)
    go_ret
    exact ⟨sv', rfl, hh, hw⟩
  · go_enter Try.func41, Try.ntmps41
    go_wp2_with (go_at_call 57; refine HN.out.mono ?_; rintro e w2 ⟨sv', rfl, hh, hw⟩)
    go_ret
    exact ⟨sv', rfl, hh, hw⟩

theorem bytes_any (b : Nat) (big : Bool) (a : Int) (s : ByteArray) (sv : Value) (out : List UInt8) (w : World) (h : Holds w b big a sv out) (ha : 0 ≤ a) (ha2 : a ≤ 7) (hL : out.length ≤ 65536) (p : Nat) (hp : padN (a + out.length) ((4 : Nat) : Int) = p)
    (hs : s.size ≤ 1000000) (r : Bool) (hr : roomB a 4 (4 + s.size + (0 : Nat)) out.length = r) :
    Calls Try.prog 44 #[.pointer (some ⟨b, 0, none⟩), .string s] w fun e w' => ∃ sv', e = .returned (.int .i64 (cntC r)) ∧
      Holds w' b big a sv' (cntOut r out p (numB ((s.size : Int) + (0 : Nat)) big 4 ++ bytesOf s ++ [])) ∧ Wrote w w' b sv sv' := by
  have HN := Lib.hid (counted_any b big a s ⟨#[]⟩ sv out w h ha ha2 hL p hp hs (by decide) r hr)
  clear h hp hr
  go_enter Try.func44, Try.ntmps44
  go_wp2_with (go_at_call 84; refine HN.out.mono ?_; rintro e w2 ⟨sv', rfl, hh, hw⟩)
  go_ret
  exact ⟨sv', rfl, hh, hw⟩

set_option maxRecDepth 100000 in
set_option maxHeartbeats 800000 in
theorem raw_any (b : Nat) (big : Bool) (a : Int) (s : ByteArray) (sv : Value) (out : List UInt8) (w : World) (h : Holds w b big a sv out) (ha : 0 ≤ a) (ha2 : a ≤ 7) (hL : out.length ≤ 65536)
    (hs : s.size ≤ 1000000) (r : Bool) (hr : roomB a 1 s.size out.length = r) :
    Calls Try.prog 45 #[.pointer (some ⟨b, 0, none⟩), .string s] w fun e w' => ∃ sv', e = .returned (.int .i64 (cntC r)) ∧
      Holds w' b big a sv' (cntOut r out 0 (bytesOf s)) ∧ Wrote w w' b sv sv' := by
  have HR := Lib.hid hr
  clear hr
  have hsl := Lib.hid (bytesOf_length s)
  obtain ⟨i0, hi, hz0, hz1, hz2⟩ := info_parts Try.info5
  cases r
  · go_enter Try.func45, Try.ntmps45
    go_wp2_with (go_at_call 85; refine (has_room b big a 1 s.size sv out _ h ha ha2 (by omega) (by omega) (by omega) (by omega) (by omega) false HR.out).mono ?_; rintro e w2 ⟨rfl, nq, rfl⟩)
    go_ret
    exact ⟨sv, rfl, h.drewN nq, (Wrote.refl w b sv).drewN nq⟩
  · have c2 := h.1.c2
    obtain ⟨ao, cap, rfl⟩ := h.form
    go_enter Try.func45, Try.ntmps45
    go_wp2_with (first | (go_at_call 85; refine (has_room b big a 1 s.size _ out _ h ha ha2 (by omega) (by omega) (by omega) (by omega) (by omega) true HR.out).mono ?_; rintro e w2 ⟨rfl, nq, rfl⟩) | (at_builtin; refine wpList_append_string_at rfl (.tmp 16) (.tmp 17) 54 9 rfl 5 i0 Try.underlying54 Try.underlying9 hi hz0 hz1 hz2 _ _ _ rfl (h.drewN nq).2 s rfl (by unfold maxLen; omega) (by omega) ?_; intro v3 w3 hown3 hgrow3 hat3; obtain ⟨ao3, cap3, rfl⟩ := ownsRow_form hown3; obtain ⟨q1, q2, q3, q4⟩ := WAt.appendedS (h.drewN nq).1 (h.drewN nq).2 hown3 hgrow3 hat3; have c3 := q1.c2; have f3 := q1.f2))
    go_ret
    refine ⟨_, rfl, ⟨q2, ?_⟩, ((Wrote.refl w b _).drewN nq).trans q4⟩
    have e1 : cntOut true out 0 (bytesOf s) = out ++ bytesOf s := by simp [cntOut]
    rw [e1, bcells_append, List.length_append, hsl.out]
    exact q3

/-- What Align returns and writes. z: it is a size; r: there is room. -/
def algC (z r : Bool) : Int := if z then if r then 0 else 4 else 7
def algOut (z r : Bool) (out : List UInt8) (p : Nat) : List UInt8 := if z && r then out ++ List.replicate p 0 else out

set_option maxRecDepth 100000 in
set_option maxHeartbeats 800000 in
theorem align_any (b : Nat) (big : Bool) (a n : Int) (sv : Value) (out : List UInt8) (w : World) (h : Holds w b big a sv out) (ha : 0 ≤ a) (ha2 : a ≤ 7) (hL : out.length ≤ 65536) (p : Nat) (hp : szB n = true → padN (a + out.length) n = p)
    (z r : Bool) (hz : szB n = z) (hr : z = true → roomB a n 0 out.length = r) :
    Calls Try.prog 46 #[.pointer (some ⟨b, 0, none⟩), .int .i64 n] w fun e w' => ∃ sv', e = .returned (.int .i64 (algC z r)) ∧
      Holds w' b big a sv' (algOut z r out p) ∧ Wrote w w' b sv sv' := by
  have HZ := Lib.hid hz
  cases z
  · clear hr hp hz
    go_enter Try.func46, Try.ntmps46
    go_wp2_with (go_at_call 80; refine (isSize_any n _).mono ?_; rintro e w1 ⟨rfl, hb1⟩; rw [HZ.out])
    go_ret
    exact ⟨sv, rfl, h.below hb1, (Wrote.refl w b sv).below hb1⟩
  · have HR := Lib.hid (hr rfl)
    have HP := Lib.hid (hp hz)
    have hn := (szB_iff n).1 hz
    have hn1 : 1 ≤ n := by omega
    have hn8 : n ≤ 8 := by omega
    clear hr hp hz hn
    cases r
    · go_enter Try.func46, Try.ntmps46
      go_wp2_with (first | (go_at_call 80; refine (isSize_any n _).mono ?_; rintro e w1 ⟨rfl, hb1⟩; rw [HZ.out]) | (go_at_call 85; refine (has_room b big a n 0 sv out _ (h.below hb1) ha ha2 (by omega) (by omega) (by omega) (by omega) (by omega) false HR.out).mono ?_; rintro e w2 ⟨rfl, nq, rfl⟩))
      go_ret
      exact ⟨sv, rfl, (h.below hb1).drewN nq, ((Wrote.refl w b sv).below hb1).drewN nq⟩
    · go_enter Try.func46, Try.ntmps46
      go_wp2_with (first | (go_at_call 80; refine (isSize_any n _).mono ?_; rintro e w1 ⟨rfl, hb1⟩; rw [HZ.out]) | (go_at_call 85; refine (has_room b big a n 0 sv out _ (h.below hb1) ha ha2 (by omega) (by omega) (by omega) (by omega) (by omega) true HR.out).mono ?_; rintro e w2 ⟨rfl, nq, rfl⟩) | (go_at_call 86; refine (pad_any b big a n sv out _ ((h.below hb1).drewN nq) ha ha2 (by omega) hn1 hn8 p HP.out).mono ?_; rintro e w3 ⟨rfl, sv3, hh3, hw3⟩))
      go_ret
      exact ⟨sv3, rfl, hh3, (((Wrote.refl w b sv).below hb1).drewN nq).trans hw3⟩

end Go.Proofs.Ytdklmeamhcgohaa
