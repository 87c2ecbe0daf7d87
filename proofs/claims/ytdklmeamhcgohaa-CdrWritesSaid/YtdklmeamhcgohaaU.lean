/-
  PROVED HERE: what the reference's methods that write numbers return and write: what those of package cdr do.
-/
import Derived.Test.YtdklmeamhcgohaaS
namespace Go.Proofs.Ytdklmeamhcgohaa
open Go.RowKit

theorem numB_size (n : Int) (big : Bool) (s : Nat) : (⟨(numB n big s).toArray⟩ : ByteArray).size = s := by
  show (numB n big s).toArray.size = s
  simp [numB, shs_length]
theorem bytesOf_mk (l : List UInt8) : bytesOf ⟨l.toArray⟩ = l := by simp [bytesOf]
theorem numC_true (r : Bool) : numC true r = cntC r := rfl
theorem numOut_true (r : Bool) (out : List UInt8) (p : Nat) (l : List UInt8) : numOut true r out p l = cntOut r out p l := by simp [numOut, cntOut]

set_option maxRecDepth 100000 in
set_option maxHeartbeats 800000 in
theorem rnumber2 (b : Nat) (big : Bool) (a n : Int) (sv : Value) (out : List UInt8) (w : World) (h : RHolds w b big a sv out) (ha : 0 ≤ a) (ha2 : a ≤ 7) (hL : out.length ≤ 65536) (p : Nat) (hp : padN (a + out.length) ((2 : Nat) : Int) = p)
    (f r : Bool) (hf : fitsN 2 n = f) (hr : roomB a 2 2 out.length = r) :
    Calls Try.prog 88 #[.pointer (some ⟨b, 0, none⟩), .int .i64 n, .int .i64 2] w fun e w' => ∃ sv', e = .returned (.int .i64 (numC f r)) ∧
      RHolds w' b big a sv' (numOut f r out p (numB n big 2)) ∧ Wrote w w' b sv sv' := by
  have c0 := h.1.c0
  have NB := Lib.hid fun w => number91 n 2 big w (by omega) (by omega)
  have PT := Lib.hid fun (W : World) (hW : RHolds W b big a sv out) => put_any b big a ((2 : Nat) : Int) ⟨(numB n big 2).toArray⟩ sv out W hW ha ha2 hL (by decide) p hp (by rw [numB_size]; omega) r (by rw [numB_size]; exact hr)
  rw [bytesOf_mk] at PT
  clear hp hr
  cases f
  · have hn : n < -32768 ∨ 32767 < n := by
      simp [fitsN] at hf
      omega
    clear hf
    rcases hn with hn | hn
    · have hg : n < (-(32768 : Int)) := hn
      go_enter Try.func88, Try.ntmps88
      go_wp2_with fail
      go_ret
      first | exact ⟨sv, rfl, h, Wrote.refl _ _ _⟩ | exact ⟨rfl, sv, h, Wrote.refl _ _ _⟩
    · have hg : ¬ n < (-(32768 : Int)) := by omega
      have hg2 : (32768 : Int) ≤ n := by omega
      go_enter Try.func88, Try.ntmps88
      go_wp2_with fail
      go_ret
      first | exact ⟨sv, rfl, h, Wrote.refl _ _ _⟩ | exact ⟨rfl, sv, h, Wrote.refl _ _ _⟩
  · have hn : -32768 ≤ n ∧ n ≤ 32767 := by
      simp [fitsN] at hf
      omega
    obtain ⟨hn1, hn2⟩ := hn
    have hg : ¬ n < (-(32768 : Int)) := by omega
    have hg2 : ¬ (32768 : Int) ≤ n := by omega
    clear hf
    go_enter Try.func88, Try.ntmps88
    go_wp2_with (first | (go_at_call 91; refine (NB.out _).mono ?_; rintro e w1 ⟨rfl, hb1⟩) | (go_at_call 87; refine (PT.out _ (h.below hb1)).mono ?_; rintro e w2 ⟨sv', rfl, hh, hw⟩; have HH := Lib.hid hh; have HW := Lib.hid hw; clear hh hw))
    go_ret
    exact ⟨sv', rfl, by rw [numOut_true]; exact HH.out, ((Wrote.refl w b sv).below hb1).trans HW.out⟩

set_option maxRecDepth 100000 in
set_option maxHeartbeats 800000 in
theorem rnumber4 (b : Nat) (big : Bool) (a n : Int) (sv : Value) (out : List UInt8) (w : World) (h : RHolds w b big a sv out) (ha : 0 ≤ a) (ha2 : a ≤ 7) (hL : out.length ≤ 65536) (p : Nat) (hp : padN (a + out.length) ((4 : Nat) : Int) = p)
    (f r : Bool) (hf : fitsN 4 n = f) (hr : roomB a 4 4 out.length = r) :
    Calls Try.prog 88 #[.pointer (some ⟨b, 0, none⟩), .int .i64 n, .int .i64 4] w fun e w' => ∃ sv', e = .returned (.int .i64 (numC f r)) ∧
      RHolds w' b big a sv' (numOut f r out p (numB n big 4)) ∧ Wrote w w' b sv sv' := by
  have c0 := h.1.c0
  have NB := Lib.hid fun w => number91 n 4 big w (by omega) (by omega)
  have PT := Lib.hid fun (W : World) (hW : RHolds W b big a sv out) => put_any b big a ((4 : Nat) : Int) ⟨(numB n big 4).toArray⟩ sv out W hW ha ha2 hL (by decide) p hp (by rw [numB_size]; omega) r (by rw [numB_size]; exact hr)
  rw [bytesOf_mk] at PT
  clear hp hr
  cases f
  · have hn : n < -2147483648 ∨ 2147483647 < n := by
      simp [fitsN] at hf
      omega
    clear hf
    rcases hn with hn | hn
    · have hg : n < (-(2147483648 : Int)) := hn
      go_enter Try.func88, Try.ntmps88
      go_wp2_with fail
      go_ret
      first | exact ⟨sv, rfl, h, Wrote.refl _ _ _⟩ | exact ⟨rfl, sv, h, Wrote.refl _ _ _⟩
    · have hg : ¬ n < (-(2147483648 : Int)) := by omega
      have hg2 : (2147483648 : Int) ≤ n := by omega
      go_enter Try.func88, Try.ntmps88
      go_wp2_with fail
      go_ret
      first | exact ⟨sv, rfl, h, Wrote.refl _ _ _⟩ | exact ⟨rfl, sv, h, Wrote.refl _ _ _⟩
  · have hn : -2147483648 ≤ n ∧ n ≤ 2147483647 := by
      simp [fitsN] at hf
      omega
    obtain ⟨hn1, hn2⟩ := hn
    have hg : ¬ n < (-(2147483648 : Int)) := by omega
    have hg2 : ¬ (2147483648 : Int) ≤ n := by omega
    clear hf
    go_enter Try.func88, Try.ntmps88
    go_wp2_with (first | (go_at_call 91; refine (NB.out _).mono ?_; rintro e w1 ⟨rfl, hb1⟩) | (go_at_call 87; refine (PT.out _ (h.below hb1)).mono ?_; rintro e w2 ⟨sv', rfl, hh, hw⟩; have HH := Lib.hid hh; have HW := Lib.hid hw; clear hh hw))
    go_ret
    exact ⟨sv', rfl, by rw [numOut_true]; exact HH.out, ((Wrote.refl w b sv).below hb1).trans HW.out⟩

set_option maxRecDepth 100000 in
set_option maxHeartbeats 800000 in
theorem rnumber8 (b : Nat) (big : Bool) (a n : Int) (sv : Value) (out : List UInt8) (w : World) (h : RHolds w b big a sv out) (ha : 0 ≤ a) (ha2 : a ≤ 7) (hL : out.length ≤ 65536) (p : Nat) (hp : padN (a + out.length) ((8 : Nat) : Int) = p)
    (f r : Bool) (hf : fitsN 8 n = f) (hr : roomB a 8 8 out.length = r) :
    Calls Try.prog 88 #[.pointer (some ⟨b, 0, none⟩), .int .i64 n, .int .i64 8] w fun e w' => ∃ sv', e = .returned (.int .i64 (numC f r)) ∧
      RHolds w' b big a sv' (numOut f r out p (numB n big 8)) ∧ Wrote w w' b sv sv' := by
  have c0 := h.1.c0
  have NB := Lib.hid fun w => number91 n 8 big w (by omega) (by omega)
  have PT := Lib.hid fun (W : World) (hW : RHolds W b big a sv out) => put_any b big a ((8 : Nat) : Int) ⟨(numB n big 8).toArray⟩ sv out W hW ha ha2 hL (by decide) p hp (by rw [numB_size]; omega) r (by rw [numB_size]; exact hr)
  rw [bytesOf_mk] at PT
  clear hp hr
  obtain rfl : f = true := by rw [← hf]; rfl
  clear hf
  go_enter Try.func88, Try.ntmps88
  go_wp2_with (first | (go_at_call 91; refine (NB.out _).mono ?_; rintro e w1 ⟨rfl, hb1⟩) | (go_at_call 87; refine (PT.out _ (h.below hb1)).mono ?_; rintro e w2 ⟨sv', rfl, hh, hw⟩; have HH := Lib.hid hh; have HW := Lib.hid hw; clear hh hw))
  go_ret
  exact ⟨sv', rfl, by rw [numOut_true]; exact HH.out, ((Wrote.refl w b sv).below hb1).trans HW.out⟩

end Go.Proofs.Ytdklmeamhcgohaa
