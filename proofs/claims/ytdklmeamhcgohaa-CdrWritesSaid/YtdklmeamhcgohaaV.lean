/-
  PROVED HERE: what Octet, Flag, Short, Long, Huge, Raw and Align of the reference's writer return and write: what those of package cdr do.
-/
import Derived.Test.YtdklmeamhcgohaaU
namespace Go.Proofs.Ytdklmeamhcgohaa
open Go.RowKit

theorem numB_one (x : UInt8) (big : Bool) : numB (x.toNat : Int) big 1 = [x] := by
  have h : bt (x.toNat : Int) (mkSh 0) = x := by
    have := bt_val (x.toNat : Int) (mkSh 0)
    rw [mkSh_val 0 (by omega)] at this
    have hx := x.toNat_lt
    apply UInt8.toNat.inj
    simp at this
    omega
  cases big
  · simp [numB, shs, sh, h]
  · simp [numB, shs, sh, h]

set_option maxRecDepth 100000 in
set_option maxHeartbeats 800000 in
theorem roctet_any (b : Nat) (big : Bool) (a n : Int) (sv : Value) (out : List UInt8) (w : World) (h : RHolds w b big a sv out) (ha : 0 ≤ a) (ha2 : a ≤ 7) (hL : out.length ≤ 65536) (p : Nat) (hp : padN (a + out.length) ((1 : Nat) : Int) = p)
    (f r : Bool) (hf : fitsN 1 n = f) (hr : roomB a 1 1 out.length = r) :
    Calls Try.prog 47 #[.pointer (some ⟨b, 0, none⟩), .int .i64 n] w fun e w' => ∃ sv', e = .returned (.int .i64 (numC f r)) ∧
      RHolds w' b big a sv' (numOut f r out p (numB n big 1)) ∧ Wrote w w' b sv sv' := by
  cases f
  · have hn : n < 0 ∨ 255 < n := by
      simp [fitsN] at hf
      omega
    clear hf hp hr
    rcases hn with hn | hn
    · go_enter Try.func47, Try.ntmps47
      go_wp2_with fail
      go_ret
      first | exact ⟨sv, rfl, h, Wrote.refl _ _ _⟩ | exact ⟨rfl, sv, h, Wrote.refl _ _ _⟩
    · have hg : ¬ n < 0 := by omega
      go_enter Try.func47, Try.ntmps47
      go_wp2_with fail
      go_ret
      first | exact ⟨sv, rfl, h, Wrote.refl _ _ _⟩ | exact ⟨rfl, sv, h, Wrote.refl _ _ _⟩
  · have hn : 0 ≤ n ∧ n ≤ 255 := by
      simp [fitsN] at hf
      omega
    obtain ⟨x, rfl⟩ : ∃ x : UInt8, n = (x.toNat : Int) := ⟨UInt8.ofNat n.toNat, by
      have : (UInt8.ofNat n.toNat).toNat = n.toNat % 256 := by simp
      rw [this]
      omega⟩
    have PT := Lib.hid fun (W : World) (hW : RHolds W b big a sv out) => put_any b big a ((1 : Nat) : Int) ⟨#[x]⟩ sv out W hW ha ha2 hL (by decide) p hp (by show 1 ≤ 1000000; omega) r hr
    have hbo : bytesOf ⟨#[x]⟩ = [x] := rfl
    rw [hbo] at PT
    have hcv : (convert 54 9 (.slice (some ⟨w.heap.size, 0, none⟩) 1 1)).run Try.prog (w.alloc (.cells #[.int .u8 (x.toNat : Int)] 5)) = .ok (.string ⟨#[x]⟩) (w.alloc (.cells #[.int .u8 (x.toNat : Int)] 5)) := by
      refine run_convert_bytes_back _ 54 9 5 ⟨w.heap.size, 0, none⟩ 1 [x] Try.underlying54 Try.underlying5 Try.underlying9 fun j hj => ?_
      obtain rfl : j = 0 := by simpa using hj
      exact cell_one_new _ _ _ 0 _ rfl
    have hx := x.toNat_lt
    have hg : ¬ ((x.toNat : Int) < 0) := by omega
    have hg2 : ¬ (255 < (x.toNat : Int)) := by omega
    have hg3 : (x.toNat : Int) % 256 = (x.toNat : Int) := by omega
    clear hf hp hr hbo hn
    have HO := Lib.hid (numB_one x big)
    go_enter Try.func47, Try.ntmps47
    go_wp2_with (go_at_call 87; refine (PT.out _ (h.alloc _)).mono ?_; rintro e w2 ⟨sv', rfl, hh, hw⟩; have HH := Lib.hid hh; have HW := Lib.hid hw; clear hh hw)
    go_ret
    exact ⟨sv', rfl, by rw [numOut_true, HO.out]; exact HH.out, ((Wrote.refl w b sv).alloc _).trans HW.out⟩

theorem rflag_any (b : Nat) (big : Bool) (a : Int) (c : Bool) (sv : Value) (out : List UInt8) (w : World) (h : RHolds w b big a sv out) (ha : 0 ≤ a) (ha2 : a ≤ 7) (hL : out.length ≤ 65536) (p : Nat) (hp : padN (a + out.length) ((1 : Nat) : Int) = p)
    (f r : Bool) (hf : fitsN 1 (flagN c) = f) (hr : roomB a 1 1 out.length = r) :
    Calls Try.prog 48 #[.pointer (some ⟨b, 0, none⟩), .bool c] w fun e w' => ∃ sv', e = .returned (.int .i64 (numC f r)) ∧
      RHolds w' b big a sv' (numOut f r out p (numB (flagN c) big 1)) ∧ Wrote w w' b sv sv' := by
  have HN := Lib.hid (roctet_any b big a (flagN c) sv out w h ha ha2 hL p hp f r hf hr)
  clear h hp hf hr
  cases c
  · go_enter Try.func48, Try.ntmps48
    go_wp2_with (go_at_call 47; refine HN.out.mono ?_; rintro e w2 ⟨sv', rfl, hh, hw⟩)
    go_ret
    exact ⟨sv', rfl, hh, hw⟩
  · go_enter Try.func48, Try.ntmps48
    go_wp2_with (go_at_call 47; refine HN.out.mono ?_; rintro e w2 ⟨sv', rfl, hh, hw⟩)
    go_ret
    exact ⟨sv', rfl, hh, hw⟩

theorem rshort_any (b : Nat) (big : Bool) (a n : Int) (sv : Value) (out : List UInt8) (w : World) (h : RHolds w b big a sv out) (ha : 0 ≤ a) (ha2 : a ≤ 7) (hL : out.length ≤ 65536) (p : Nat) (hp : padN (a + out.length) ((2 : Nat) : Int) = p)
    (f r : Bool) (hf : fitsN 2 n = f) (hr : roomB a 2 2 out.length = r) :
    Calls Try.prog 49 #[.pointer (some ⟨b, 0, none⟩), .int .i64 n] w fun e w' => ∃ sv', e = .returned (.int .i64 (numC f r)) ∧
      RHolds w' b big a sv' (numOut f r out p (numB n big 2)) ∧ Wrote w w' b sv sv' := by
  have HN := Lib.hid (rnumber2 b big a n sv out w h ha ha2 hL p hp f r hf hr)
  clear h hp hf hr
  go_enter Try.func49, Try.ntmps49
  go_wp2_with (go_at_call 88; refine HN.out.mono ?_; rintro e w2 ⟨sv', rfl, hh, hw⟩)
  go_ret
  exact ⟨sv', rfl, hh, hw⟩

theorem rlong_any (b : Nat) (big : Bool) (a n : Int) (sv : Value) (out : List UInt8) (w : World) (h : RHolds w b big a sv out) (ha : 0 ≤ a) (ha2 : a ≤ 7) (hL : out.length ≤ 65536) (p : Nat) (hp : padN (a + out.length) ((4 : Nat) : Int) = p)
    (f r : Bool) (hf : fitsN 4 n = f) (hr : roomB a 4 4 out.length = r) :
    Calls Try.prog 50 #[.pointer (some ⟨b, 0, none⟩), .int .i64 n] w fun e w' => ∃ sv', e = .returned (.int .i64 (numC f r)) ∧
      RHolds w' b big a sv' (numOut f r out p (numB n big 4)) ∧ Wrote w w' b sv sv' := by
  have HN := Lib.hid (rnumber4 b big a n sv out w h ha ha2 hL p hp f r hf hr)
  clear h hp hf hr
  go_enter Try.func50, Try.ntmps50
  go_wp2_with (go_at_call 88; refine HN.out.mono ?_; rintro e w2 ⟨sv', rfl, hh, hw⟩)
  go_ret
  exact ⟨sv', rfl, hh, hw⟩

theorem rhuge_any (b : Nat) (big : Bool) (a n : Int) (sv : Value) (out : List UInt8) (w : World) (h : RHolds w b big a sv out) (ha : 0 ≤ a) (ha2 : a ≤ 7) (hL : out.length ≤ 65536) (p : Nat) (hp : padN (a + out.length) ((8 : Nat) : Int) = p)
    (f r : Bool) (hf : fitsN 8 n = f) (hr : roomB a 8 8 out.length = r) :
    Calls Try.prog 51 #[.pointer (some ⟨b, 0, none⟩), .int .i64 n] w fun e w' => ∃ sv', e = .returned (.int .i64 (numC f r)) ∧
      RHolds w' b big a sv' (numOut f r out p (numB n big 8)) ∧ Wrote w w' b sv sv' := by
  have HN := Lib.hid (rnumber8 b big a n sv out w h ha ha2 hL p hp f r hf hr)
  clear h hp hf hr
  go_enter Try.func51, Try.ntmps51
  go_wp2_with (go_at_call 88; refine HN.out.mono ?_; rintro e w2 ⟨sv', rfl, hh, hw⟩)
  go_ret
  exact ⟨sv', rfl, hh, hw⟩

theorem rraw_any (b : Nat) (big : Bool) (a : Int) (s : ByteArray) (sv : Value) (out : List UInt8) (w : World) (h : RHolds w b big a sv out) (ha : 0 ≤ a) (ha2 : a ≤ 7) (hL : out.length ≤ 65536)
    (hs : s.size ≤ 1000000) (r : Bool) (hr : roomB a 1 s.size out.length = r) :
    Calls Try.prog 54 #[.pointer (some ⟨b, 0, none⟩), .string s] w fun e w' => ∃ sv', e = .returned (.int .i64 (cntC r)) ∧
      RHolds w' b big a sv' (cntOut r out 0 (bytesOf s)) ∧ Wrote w w' b sv sv' := by
  have HN := Lib.hid (put_any b big a ((1 : Nat) : Int) s sv out w h ha ha2 hL (by decide) 0 (by unfold padN; omega) hs r hr)
  clear h hr
  go_enter Try.func54, Try.ntmps54
  go_wp2_with (go_at_call 87; refine HN.out.mono ?_; rintro e w2 ⟨sv', rfl, hh, hw⟩)
  go_ret
  exact ⟨sv', rfl, hh, hw⟩

theorem algC_true (r : Bool) : algC true r = cntC r := rfl
theorem algOut_true (r : Bool) (out : List UInt8) (p : Nat) : algOut true r out p = cntOut r out p (bytesOf ⟨#[]⟩) := by
  have : bytesOf ⟨#[]⟩ = [] := rfl
  simp [algOut, cntOut, this]

set_option maxRecDepth 100000 in
set_option maxHeartbeats 800000 in
theorem ralign_any (b : Nat) (big : Bool) (a n : Int) (sv : Value) (out : List UInt8) (w : World) (h : RHolds w b big a sv out) (ha : 0 ≤ a) (ha2 : a ≤ 7) (hL : out.length ≤ 65536) (p : Nat) (hp : szB n = true → padN (a + out.length) n = p)
    (z r : Bool) (hz : szB n = z) (hr : z = true → roomB a n 0 out.length = r) :
    Calls Try.prog 55 #[.pointer (some ⟨b, 0, none⟩), .int .i64 n] w fun e w' => ∃ sv', e = .returned (.int .i64 (algC z r)) ∧
      RHolds w' b big a sv' (algOut z r out p) ∧ Wrote w w' b sv sv' := by
  have HZ := Lib.hid hz
  cases z
  · clear hr hp hz
    go_enter Try.func55, Try.ntmps55
    go_wp2_with (go_at_call 83; refine (refSize_any n _).mono ?_; rintro e w1 ⟨rfl, rfl⟩; rw [HZ.out])
    go_ret
    exact ⟨sv, rfl, h, Wrote.refl w b sv⟩
  · have HN := Lib.hid (put_any b big a n ⟨#[]⟩ sv out w h ha ha2 hL hz p (hp hz) (by decide) r (hr rfl))
    clear hr hp hz h
    go_enter Try.func55, Try.ntmps55
    go_wp2_with (first | (go_at_call 83; refine (refSize_any n _).mono ?_; rintro e w1 ⟨rfl, rfl⟩; rw [HZ.out]) | (go_at_call 87; refine HN.out.mono ?_; rintro e w2 ⟨sv', rfl, hh, hw⟩))
    go_ret
    exact ⟨sv', rfl, by rw [algOut_true]; exact hh, hw⟩

end Go.Proofs.Ytdklmeamhcgohaa
