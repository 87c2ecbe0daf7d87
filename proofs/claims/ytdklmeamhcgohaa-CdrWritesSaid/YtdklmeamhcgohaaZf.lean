/-
  PROVED HERE: an act does the same with a writer of package cdr and with one of the reference that hold the same bytes: both return the same and hold the same bytes then.
-/
import Derived.Test.YtdklmeamhcgohaaY
import Derived.Test.YtdklmeamhcgohaaM
import Derived.Test.YtdklmeamhcgohaaG
import Derived.Test.YtdklmeamhcgohaaZc
import Derived.Test.YtdklmeamhcgohaaZe
namespace Go.Proofs.Ytdklmeamhcgohaa
open Go.RowKit

/-- An act returns c and leaves the bytes out', with both writers. -/
structure Both (big : Bool) (a : Int) (out : List UInt8) (k n m : Int) (s : ByteArray) (c : Int) (out' : List UInt8) : Prop where
  len : out'.length ≤ 65536
  prog : ∀ b sv w, Holds w b big a sv out → Calls Try.prog 13 #[.pointer (some ⟨b, 0, none⟩), actV k n m s] w fun e w' => e = .returned (.int .i64 c) ∧ ∃ sv', Holds w' b big a sv' out' ∧ Wrote w w' b sv sv'
  spec : ∀ b sv w, RHolds w b big a sv out → Calls Try.prog 14 #[.pointer (some ⟨b, 0, none⟩), actV k n m s] w fun e w' => e = .returned (.int .i64 c) ∧ ∃ sv', RHolds w' b big a sv' out' ∧ Wrote w w' b sv sv'

theorem both_of {big : Bool} {a : Int} {out : List UInt8} {k n m : Int} {s : ByteArray} {c : Int} {out' : List UInt8} (hl : out'.length ≤ 65536)
    (hp : ∀ b sv w, Holds w b big a sv out → Calls Try.prog 13 #[.pointer (some ⟨b, 0, none⟩), actV k n m s] w fun e w' => ∃ c', e = .returned (.int .i64 c') ∧ (c' = c ∧ ∃ sv', Holds w' b big a sv' out' ∧ Wrote w w' b sv sv'))
    (hr : ∀ b sv w, RHolds w b big a sv out → Calls Try.prog 14 #[.pointer (some ⟨b, 0, none⟩), actV k n m s] w fun e w' => ∃ c', e = .returned (.int .i64 c') ∧ (c' = c ∧ ∃ sv', RHolds w' b big a sv' out' ∧ Wrote w w' b sv sv')) : Both big a out k n m s c out' :=
  ⟨hl, fun b sv w h => (hp b sv w h).mono fun e w' ⟨c', he, hc, hh⟩ => ⟨by rw [he, hc], hh⟩, fun b sv w h => (hr b sv w h).mono fun e w' ⟨c', he, hc, hh⟩ => ⟨by rw [he, hc], hh⟩⟩

theorem padK (a : Int) (L s : Nat) (hs : 1 ≤ s) : ∃ p : Nat, padN (a + L) ((s : Nat) : Int) = p := ⟨(padN (a + L) ((s : Nat) : Int)).toNat, by have := padN_bd (a + L) ((s : Nat) : Int) (by omega); omega⟩

theorem numOut_len (f r : Bool) (a : Int) (out : List UInt8) (p s : Nat) (n : Int) (big : Bool) (hL : out.length ≤ 65536) (hp : padN (a + out.length) ((s : Nat) : Int) = p) (hr : roomB a s s out.length = r) : (numOut f r out p (numB n big s)).length ≤ 65536 := by
  cases f <;> cases r <;> simp [numOut, numB, shs_length, hL]
  unfold roomB at hr
  rw [hp] at hr
  have := of_decide_eq_true hr
  omega

theorem cntOut_len (r : Bool) (a : Int) (out : List UInt8) (p : Nat) (sz : Int) (t : Nat) (l : List UInt8) (hL : out.length ≤ 65536) (hp : padN (a + out.length) sz = p) (hr : roomB a sz t out.length = r) (hl : l.length = t) : (cntOut r out p l).length ≤ 65536 := by
  cases r <;> simp [cntOut, hL, hl]
  unfold roomB at hr
  rw [hp] at hr
  have := of_decide_eq_true hr
  omega

theorem both_0 (big : Bool) (a : Int) (out : List UInt8) (n m : Int) (s : ByteArray) (ha : 0 ≤ a) (ha2 : a ≤ 7) (hL : out.length ≤ 65536) : ∃ c out', Both big a out 0 n m s c out' := by
  obtain ⟨p, hp⟩ := padK a out.length 1 (by omega)
  refine ⟨numC (fitsN 1 n) (roomB a 1 1 out.length), numOut (fitsN 1 n) (roomB a 1 1 out.length) out p (numB n big 1), both_of (numOut_len _ _ a _ _ 1 _ _ hL hp rfl) (fun b sv w h => ?_) (fun b sv w h => ?_)⟩
  · refine write_0 b n m s w _ ((octet_any b big a n sv out _ (h.alloc _) ha ha2 (by omega) p hp _ _ rfl rfl).mono fun e w' ⟨sv', he, hh, hw⟩ => ⟨_, he, rfl, sv', hh, ((Wrote.refl w b sv).alloc _).trans hw⟩)
  · refine wrote_0 b n m s w _ ((roctet_any b big a n sv out _ (h.alloc _) ha ha2 (by omega) p hp _ _ rfl rfl).mono fun e w' ⟨sv', he, hh, hw⟩ => ⟨_, he, rfl, sv', hh, ((Wrote.refl w b sv).alloc _).trans hw⟩)

theorem both_2 (big : Bool) (a : Int) (out : List UInt8) (n m : Int) (s : ByteArray) (ha : 0 ≤ a) (ha2 : a ≤ 7) (hL : out.length ≤ 65536) : ∃ c out', Both big a out 2 n m s c out' := by
  obtain ⟨p, hp⟩ := padK a out.length 2 (by omega)
  refine ⟨numC (fitsN 2 n) (roomB a 2 2 out.length), numOut (fitsN 2 n) (roomB a 2 2 out.length) out p (numB n big 2), both_of (numOut_len _ _ a _ _ 2 _ _ hL hp rfl) (fun b sv w h => ?_) (fun b sv w h => ?_)⟩
  · refine write_2 b n m s w _ ((short_any b big a n sv out _ (h.alloc _) ha ha2 (by omega) p hp _ _ rfl rfl).mono fun e w' ⟨sv', he, hh, hw⟩ => ⟨_, he, rfl, sv', hh, ((Wrote.refl w b sv).alloc _).trans hw⟩)
  · refine wrote_2 b n m s w _ ((rshort_any b big a n sv out _ (h.alloc _) ha ha2 (by omega) p hp _ _ rfl rfl).mono fun e w' ⟨sv', he, hh, hw⟩ => ⟨_, he, rfl, sv', hh, ((Wrote.refl w b sv).alloc _).trans hw⟩)

theorem both_3 (big : Bool) (a : Int) (out : List UInt8) (n m : Int) (s : ByteArray) (ha : 0 ≤ a) (ha2 : a ≤ 7) (hL : out.length ≤ 65536) : ∃ c out', Both big a out 3 n m s c out' := by
  obtain ⟨p, hp⟩ := padK a out.length 4 (by omega)
  refine ⟨numC (fitsN 4 n) (roomB a 4 4 out.length), numOut (fitsN 4 n) (roomB a 4 4 out.length) out p (numB n big 4), both_of (numOut_len _ _ a _ _ 4 _ _ hL hp rfl) (fun b sv w h => ?_) (fun b sv w h => ?_)⟩
  · refine write_3 b n m s w _ ((long_any b big a n sv out _ (h.alloc _) ha ha2 (by omega) p hp _ _ rfl rfl).mono fun e w' ⟨sv', he, hh, hw⟩ => ⟨_, he, rfl, sv', hh, ((Wrote.refl w b sv).alloc _).trans hw⟩)
  · refine wrote_3 b n m s w _ ((rlong_any b big a n sv out _ (h.alloc _) ha ha2 (by omega) p hp _ _ rfl rfl).mono fun e w' ⟨sv', he, hh, hw⟩ => ⟨_, he, rfl, sv', hh, ((Wrote.refl w b sv).alloc _).trans hw⟩)

theorem both_4 (big : Bool) (a : Int) (out : List UInt8) (n m : Int) (s : ByteArray) (ha : 0 ≤ a) (ha2 : a ≤ 7) (hL : out.length ≤ 65536) : ∃ c out', Both big a out 4 n m s c out' := by
  obtain ⟨p, hp⟩ := padK a out.length 8 (by omega)
  refine ⟨numC (fitsN 8 n) (roomB a 8 8 out.length), numOut (fitsN 8 n) (roomB a 8 8 out.length) out p (numB n big 8), both_of (numOut_len _ _ a _ _ 8 _ _ hL hp rfl) (fun b sv w h => ?_) (fun b sv w h => ?_)⟩
  · refine write_4 b n m s w _ ((huge_any b big a n sv out _ (h.alloc _) ha ha2 (by omega) p hp _ _ rfl rfl).mono fun e w' ⟨sv', he, hh, hw⟩ => ⟨_, he, rfl, sv', hh, ((Wrote.refl w b sv).alloc _).trans hw⟩)
  · refine wrote_4 b n m s w _ ((rhuge_any b big a n sv out _ (h.alloc _) ha ha2 (by omega) p hp _ _ rfl rfl).mono fun e w' ⟨sv', he, hh, hw⟩ => ⟨_, he, rfl, sv', hh, ((Wrote.refl w b sv).alloc _).trans hw⟩)

theorem both_1 (big : Bool) (a : Int) (out : List UInt8) (n m : Int) (s : ByteArray) (ha : 0 ≤ a) (ha2 : a ≤ 7) (hL : out.length ≤ 65536) : ∃ c out', Both big a out 1 n m s c out' := by
  obtain ⟨p, hp⟩ := padK a out.length 1 (by omega)
  refine ⟨numC (fitsN 1 (flagN (n == 1))) (roomB a 1 1 out.length), numOut (fitsN 1 (flagN (n == 1))) (roomB a 1 1 out.length) out p (numB (flagN (n == 1)) big 1), both_of (numOut_len _ _ a _ _ 1 _ _ hL hp rfl) (fun b sv w h => ?_) (fun b sv w h => ?_)⟩
  · refine write_1 b n m s w _ ((flag_any b big a (n == 1) sv out _ (h.alloc _) ha ha2 (by omega) p hp _ _ rfl rfl).mono fun e w' ⟨sv', he, hh, hw⟩ => ⟨_, he, rfl, sv', hh, ((Wrote.refl w b sv).alloc _).trans hw⟩)
  · refine wrote_1 b n m s w _ ((rflag_any b big a (n == 1) sv out _ (h.alloc _) ha ha2 (by omega) p hp _ _ rfl rfl).mono fun e w' ⟨sv', he, hh, hw⟩ => ⟨_, he, rfl, sv', hh, ((Wrote.refl w b sv).alloc _).trans hw⟩)

theorem both_5 (big : Bool) (a : Int) (out : List UInt8) (n m : Int) (s : ByteArray) (ha : 0 ≤ a) (ha2 : a ≤ 7) (hL : out.length ≤ 65536) (hs : s.size ≤ 1000000) : ∃ c out', Both big a out 5 n m s c out' := by
  obtain ⟨p, hp⟩ := padK a out.length 4 (by omega)
  refine ⟨textC (zeroIn s) (roomB a 4 (4 + s.size + (1 : Nat)) out.length), textOut (zeroIn s) (roomB a 4 (4 + s.size + (1 : Nat)) out.length) out p (numB ((s.size : Int) + 1) big 4 ++ bytesOf s ++ [0]), both_of ?_ (fun b sv w h => ?_) (fun b sv w h => ?_)⟩
  · unfold textOut
    split
    · exact hL
    · exact cntOut_len _ a out p 4 (4 + s.size + 1) _ hL hp rfl (by simp [numB, shs_length, bytesOf_length]; omega)
  · refine write_5 b n m s w _ ((text_any b big a s sv out _ (h.alloc _) ha ha2 hL p hp hs _ _ rfl rfl).mono fun e w' ⟨sv', he, hh, hw⟩ => ⟨_, he, rfl, sv', hh, ((Wrote.refl w b sv).alloc _).trans hw⟩)
  · refine wrote_5 b n m s w _ ((rtext_any b big a s sv out _ (h.alloc _) ha ha2 hL p hp hs _ _ rfl rfl).mono fun e w' ⟨sv', he, hh, hw⟩ => ⟨_, he, rfl, sv', hh, ((Wrote.refl w b sv).alloc _).trans hw⟩)

theorem both_6 (big : Bool) (a : Int) (out : List UInt8) (n m : Int) (s : ByteArray) (ha : 0 ≤ a) (ha2 : a ≤ 7) (hL : out.length ≤ 65536) (hs : s.size ≤ 1000000) : ∃ c out', Both big a out 6 n m s c out' := by
  obtain ⟨p, hp⟩ := padK a out.length 4 (by omega)
  refine ⟨cntC (roomB a 4 (4 + s.size + (0 : Nat)) out.length), cntOut (roomB a 4 (4 + s.size + (0 : Nat)) out.length) out p (numB ((s.size : Int) + (0 : Nat)) big 4 ++ bytesOf s ++ []), both_of (cntOut_len _ a out p 4 (4 + s.size + 0) _ hL hp rfl (by simp [numB, shs_length, bytesOf_length])) (fun b sv w h => ?_) (fun b sv w h => ?_)⟩
  · refine write_6 b n m s w _ ((bytes_any b big a s sv out _ (h.alloc _) ha ha2 hL p hp hs _ rfl).mono fun e w' ⟨sv', he, hh, hw⟩ => ⟨_, he, rfl, sv', hh, ((Wrote.refl w b sv).alloc _).trans hw⟩)
  · refine wrote_6 b n m s w _ ((rbytes_any b big a s sv out _ (h.alloc _) ha ha2 hL p hp _ rfl).mono fun e w' ⟨sv', he, hh, hw⟩ => ⟨_, he, rfl, sv', hh, ((Wrote.refl w b sv).alloc _).trans hw⟩)

theorem both_7 (big : Bool) (a : Int) (out : List UInt8) (n m : Int) (s : ByteArray) (ha : 0 ≤ a) (ha2 : a ≤ 7) (hL : out.length ≤ 65536) (hs : s.size ≤ 1000000) : ∃ c out', Both big a out 7 n m s c out' := by
  refine ⟨cntC (roomB a 1 s.size out.length), cntOut (roomB a 1 s.size out.length) out 0 (bytesOf s), both_of (cntOut_len _ a out 0 1 s.size _ hL (by unfold padN; omega) rfl (bytesOf_length s)) (fun b sv w h => ?_) (fun b sv w h => ?_)⟩
  · refine write_7 b n m s w _ ((raw_any b big a s sv out _ (h.alloc _) ha ha2 hL hs _ rfl).mono fun e w' ⟨sv', he, hh, hw⟩ => ⟨_, he, rfl, sv', hh, ((Wrote.refl w b sv).alloc _).trans hw⟩)
  · refine wrote_7 b n m s w _ ((rraw_any b big a s sv out _ (h.alloc _) ha ha2 hL hs _ rfl).mono fun e w' ⟨sv', he, hh, hw⟩ => ⟨_, he, rfl, sv', hh, ((Wrote.refl w b sv).alloc _).trans hw⟩)

theorem both_8 (big : Bool) (a : Int) (out : List UInt8) (n m : Int) (s : ByteArray) (ha : 0 ≤ a) (ha2 : a ≤ 7) (hL : out.length ≤ 65536) : ∃ c out', Both big a out 8 n m s c out' := by
  obtain ⟨p, hp⟩ : ∃ p : Nat, szB n = true → padN (a + out.length) n = p := by
    by_cases hz : szB n = true
    · have hn := (szB_iff n).1 hz
      exact ⟨(padN (a + out.length) n).toNat, fun _ => by have := padN_bd (a + out.length) n (by omega); omega⟩
    · exact ⟨0, fun h => absurd h hz⟩
  refine ⟨algC (szB n) (roomB a n 0 out.length), algOut (szB n) (roomB a n 0 out.length) out p, both_of ?_ (fun b sv w h => ?_) (fun b sv w h => ?_)⟩
  · by_cases hz : szB n = true
    · rw [hz, algOut_true]
      exact cntOut_len _ a out p n 0 _ hL (hp hz) rfl rfl
    · have hz2 : szB n = false := by simpa using hz
      rw [hz2]
      simpa [algOut] using hL
  · refine write_8 b n m s w _ ((align_any b big a n sv out _ (h.alloc _) ha ha2 hL p hp _ _ rfl (fun _ => rfl)).mono fun e w' ⟨sv', he, hh, hw⟩ => ⟨_, he, rfl, sv', hh, ((Wrote.refl w b sv).alloc _).trans hw⟩)
  · refine wrote_8 b n m s w _ ((ralign_any b big a n sv out _ (h.alloc _) ha ha2 hL p hp _ _ rfl (fun _ => rfl)).mono fun e w' ⟨sv', he, hh, hw⟩ => ⟨_, he, rfl, sv', hh, ((Wrote.refl w b sv).alloc _).trans hw⟩)

theorem both_put (big : Bool) (a : Int) (out : List UInt8) (k n m : Int) (s : ByteArray) (ha : 0 ≤ a) (ha2 : a ≤ 7) (hL : out.length ≤ 65536) (h0 : ¬ k = 0) (h1 : ¬ k = 1) (h2 : ¬ k = 2) (h3 : ¬ k = 3) (h4 : ¬ k = 4) (h5 : ¬ k = 5) (h6 : ¬ k = 6) (h7 : ¬ k = 7) (h8 : ¬ k = 8) : ∃ c out', Both big a out k n m s c out' := by
  cases hk : putP a n out.length
  · refine ⟨7, out, both_of hL (fun b sv w h => ?_) (fun b sv w h => ?_)⟩
    · exact write_put b k n m s w _ h0 h1 h2 h3 h4 h5 h6 h7 h8 ((put_bad_place b big a n m sv out _ (h.alloc _) ha ha2 (by omega) hk).mono fun e w' ⟨he, sv', hh, hw⟩ => ⟨7, he, rfl, sv', hh, ((Wrote.refl w b sv).alloc _).trans hw⟩)
    · exact wrote_put b k n m s w _ h0 h1 h2 h3 h4 h5 h6 h7 h8 ((rput_bad_place b big a n m sv out _ (h.alloc _) ha ha2 (by omega) hk).mono fun e w' ⟨he, sv', hh, hw⟩ => ⟨7, he, rfl, sv', hh, ((Wrote.refl w b sv).alloc _).trans hw⟩)
  · cases hf : fitsN 4 m
    · refine ⟨7, out, both_of hL (fun b sv w h => ?_) (fun b sv w h => ?_)⟩
      · exact write_put b k n m s w _ h0 h1 h2 h3 h4 h5 h6 h7 h8 ((put_bad_num b big a n m sv out _ (h.alloc _) ha ha2 (by omega) hk hf).mono fun e w' ⟨he, sv', hh, hw⟩ => ⟨7, he, rfl, sv', hh, ((Wrote.refl w b sv).alloc _).trans hw⟩)
      · exact wrote_put b k n m s w _ h0 h1 h2 h3 h4 h5 h6 h7 h8 ((rput_bad_num b big a n m sv out _ (h.alloc _) ha ha2 (by omega) hk hf).mono fun e w' ⟨he, sv', hh, hw⟩ => ⟨7, he, rfl, sv', hh, ((Wrote.refl w b sv).alloc _).trans hw⟩)
    · refine ⟨0, patch out (n - a).toNat (numB m big 4), both_of ?_ (fun b sv w h => ?_) (fun b sv w h => ?_)⟩
      · rw [patch_length]
        · exact hL
        · have hk2 := hk
          simp only [putP, Bool.and_eq_true, decide_eq_true_eq] at hk2
          simp [numB, shs_length]
          omega
      · exact write_put b k n m s w _ h0 h1 h2 h3 h4 h5 h6 h7 h8 ((put_good b big a n m sv out _ (h.alloc _) ha ha2 (by omega) hk hf).mono fun e w' ⟨he, sv', hh, hw⟩ => ⟨0, he, rfl, sv', hh, ((Wrote.refl w b sv).alloc _).trans hw⟩)
      · exact wrote_put b k n m s w _ h0 h1 h2 h3 h4 h5 h6 h7 h8 ((rput_good b big a n m sv out _ (h.alloc _) ha ha2 (by omega) hk hf).mono fun e w' ⟨he, sv', hh, hw⟩ => ⟨0, he, rfl, sv', hh, ((Wrote.refl w b sv).alloc _).trans hw⟩)

/-- WHATEVER THE ACT. -/
theorem both_any (big : Bool) (a : Int) (out : List UInt8) (k n m : Int) (s : ByteArray) (ha : 0 ≤ a) (ha2 : a ≤ 7) (hL : out.length ≤ 65536) (hs : s.size ≤ 1000000) : ∃ c out', Both big a out k n m s c out' := by
  by_cases h0 : k = 0
  · subst h0; exact both_0 big a out n m s ha ha2 hL
  by_cases h1 : k = 1
  · subst h1; exact both_1 big a out n m s ha ha2 hL
  by_cases h2 : k = 2
  · subst h2; exact both_2 big a out n m s ha ha2 hL
  by_cases h3 : k = 3
  · subst h3; exact both_3 big a out n m s ha ha2 hL
  by_cases h4 : k = 4
  · subst h4; exact both_4 big a out n m s ha ha2 hL
  by_cases h5 : k = 5
  · subst h5; exact both_5 big a out n m s ha ha2 hL hs
  by_cases h6 : k = 6
  · subst h6; exact both_6 big a out n m s ha ha2 hL hs
  by_cases h7 : k = 7
  · subst h7; exact both_7 big a out n m s ha ha2 hL hs
  by_cases h8 : k = 8
  · subst h8; exact both_8 big a out n m s ha ha2 hL
  exact both_put big a out k n m s ha ha2 hL h0 h1 h2 h3 h4 h5 h6 h7 h8

end Go.Proofs.Ytdklmeamhcgohaa
