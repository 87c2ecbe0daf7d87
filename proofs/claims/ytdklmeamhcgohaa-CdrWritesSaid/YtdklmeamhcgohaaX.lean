/-
  PROVED HERE: what Text and Bytes of the reference's writer return and write: what those of package cdr do.
-/
import Derived.Test.YtdklmeamhcgohaaW
namespace Go.Proofs.Ytdklmeamhcgohaa
open Go.RowKit

set_option maxRecDepth 100000 in
set_option maxHeartbeats 800000 in
theorem rtext_any (b : Nat) (big : Bool) (a : Int) (s : ByteArray) (sv : Value) (out : List UInt8) (w : World) (h : RHolds w b big a sv out) (ha : 0 ≤ a) (ha2 : a ≤ 7) (hL : out.length ≤ 65536) (p : Nat) (hp : padN (a + out.length) ((4 : Nat) : Int) = p)
    (hs : s.size ≤ 1000000) (z r : Bool) (hz : zeroIn s = z) (hr : roomB a 4 (4 + s.size + (1 : Nat)) out.length = r) :
    Calls Try.prog 52 #[.pointer (some ⟨b, 0, none⟩), .string s] w fun e w' => ∃ sv', e = .returned (.int .i64 (textC z r)) ∧
      RHolds w' b big a sv' (textOut z r out p (numB ((s.size : Int) + 1) big 4 ++ bytesOf s ++ [0])) ∧ Wrote w w' b sv sv' := by
  have ZA := Lib.hid fun w => zero_any s w hs
  rw [hz] at ZA
  cases z
  · by_cases hbig : s.size ≤ 65536
    · have hsz : (s ++ (⟨#[0]⟩ : ByteArray)).size = s.size + 1 := by rw [ByteArray.size_append]; rfl
      have CN := Lib.hid (fun W hW => rcounted_any b big a ((s.size : Int) + 1) (s ++ ⟨#[0]⟩) sv out W hW ha ha2 hL p hp (by rw [hsz]; omega) r (by
        rw [hsz, ← hr]
        unfold roomB
        congr 1))
      have hbo : bytesOf (s ++ (⟨#[0]⟩ : ByteArray)) = bytesOf s ++ [0] := by simp [bytesOf, ByteArray.data_append]
      rw [hbo, ← List.append_assoc] at CN
      clear hp hr hsz hbo hz
      have H := Lib.hid h
      clear h
      go_enter Try.func52, Try.ntmps52
      go_wp2_with (first | (go_at_call 89; refine (ZA.out _).mono ?_; rintro e w1 ⟨rfl, zz, rfl, hzz, hzi⟩; have hzn : ¬ zz < s.size := fun hc => absurd (hzi.2 hc) (by decide); clear hzi) | (go_at_call 90; refine (CN.out _ H.out).mono ?_; rintro e w2 ⟨sv', rfl, hh, hw⟩; have HH := Lib.hid hh; have HW := Lib.hid hw; clear hh hw))
      go_ret
      exact ⟨sv', rfl, HH.out, HW.out⟩
    · obtain rfl : r = false := by
        rw [← hr]
        have := padN_bd (a + out.length) 4 (by omega)
        simp only [roomB]
        apply decide_eq_false
        omega
      clear hp hr hz
      go_enter Try.func52, Try.ntmps52
      go_wp2_with (go_at_call 89; refine (ZA.out _).mono ?_; rintro e w1 ⟨rfl, zz, rfl, hzz, hzi⟩; have hzn : ¬ zz < s.size := fun hc => absurd (hzi.2 hc) (by decide); clear hzi)
      go_ret
      first | exact ⟨sv, rfl, h, Wrote.refl _ _ _⟩ | exact ⟨rfl, sv, h, Wrote.refl _ _ _⟩
  · clear hp hr hz
    go_enter Try.func52, Try.ntmps52
    go_wp2_with (go_at_call 89; refine (ZA.out _).mono ?_; rintro e w1 ⟨rfl, zz, rfl, hzz, hzi⟩; have hzn : zz < s.size := hzi.1 rfl; clear hzi)
    go_ret
    first | exact ⟨sv, rfl, h, Wrote.refl _ _ _⟩ | exact ⟨rfl, sv, h, Wrote.refl _ _ _⟩

set_option maxRecDepth 100000 in
set_option maxHeartbeats 800000 in
theorem rbytes_any (b : Nat) (big : Bool) (a : Int) (s : ByteArray) (sv : Value) (out : List UInt8) (w : World) (h : RHolds w b big a sv out) (ha : 0 ≤ a) (ha2 : a ≤ 7) (hL : out.length ≤ 65536) (p : Nat) (hp : padN (a + out.length) ((4 : Nat) : Int) = p)
    (r : Bool) (hr : roomB a 4 (4 + s.size + (0 : Nat)) out.length = r) :
    Calls Try.prog 53 #[.pointer (some ⟨b, 0, none⟩), .string s] w fun e w' => ∃ sv', e = .returned (.int .i64 (cntC r)) ∧
      RHolds w' b big a sv' (cntOut r out p (numB ((s.size : Int) + (0 : Nat)) big 4 ++ bytesOf s ++ [])) ∧ Wrote w w' b sv sv' := by
  by_cases hbig : s.size ≤ 65536
  · have CN := Lib.hid (fun W hW => rcounted_any b big a (s.size : Int) s sv out W hW ha ha2 hL p hp (by omega) r (by rw [← hr]; rfl))
    have H := Lib.hid h
    have e1 : Hid (numB ((s.size : Int) + (0 : Nat)) big 4 ++ bytesOf s ++ [] = numB (s.size : Int) big 4 ++ bytesOf s) := Lib.hid (by simp)
    clear hp hr h
    go_enter Try.func53, Try.ntmps53
    go_wp2_with (go_at_call 90; refine (CN.out _ H.out).mono ?_; rintro e w2 ⟨sv', rfl, hh, hw⟩; have HH := Lib.hid hh; have HW := Lib.hid hw; clear hh hw)
    go_ret
    first | exact ⟨sv', rfl, by rw [e1.out]; exact HH.out, HW.out⟩ | exact ⟨rfl, sv', by rw [e1.out]; exact HH.out, HW.out⟩
  · obtain rfl : r = false := by
      rw [← hr]
      have := padN_bd (a + out.length) 4 (by omega)
      simp only [roomB]
      apply decide_eq_false
      omega
    clear hp hr
    go_enter Try.func53, Try.ntmps53
    go_wp2_with fail
    go_ret
    first | exact ⟨sv, rfl, h, Wrote.refl _ _ _⟩ | exact ⟨rfl, sv, h, Wrote.refl _ _ _⟩
end Go.Proofs.Ytdklmeamhcgohaa
