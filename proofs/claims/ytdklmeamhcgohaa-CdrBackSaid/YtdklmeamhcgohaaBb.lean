/-
  PROVED HERE: what the law's function write returns for an act of a kind from 0 to 8, and that what it wrote is read.
-/
import Derived.Test.YtdklmeamhcgohaaBa
namespace Go.Proofs.Ytdklmeamhcgohaa
open Go.RowKit

/-- An act returns c and leaves the bytes out'. -/
structure WB (big : Bool) (a : Int) (out : List UInt8) (x : ActD) (c : Int) (out' : List UInt8) : Prop where
  len : out'.length ≤ 65536
  ok : c = 0 → Back big a x out out'
  no : c ≠ 0 → out' = out
  prog : ∀ b sv w, Holds w b big a sv out → Calls Try.prog 13 #[.pointer (some ⟨b, 0, none⟩), actV x.k x.n x.m x.s] w fun e w' => e = .returned (.int .i64 c) ∧ ∃ sv', Holds w' b big a sv' out' ∧ Wrote w w' b sv sv'

theorem wb_of {big : Bool} {a : Int} {out : List UInt8} {x : ActD} {c : Int} {out' : List UInt8} (hl : out'.length ≤ 65536) (hok : c = 0 → Back big a x out out') (hno : c ≠ 0 → out' = out)
    (hp : ∀ b sv w, Holds w b big a sv out → Calls Try.prog 13 #[.pointer (some ⟨b, 0, none⟩), actV x.k x.n x.m x.s] w fun e w' => ∃ c', e = .returned (.int .i64 c') ∧ (c' = c ∧ ∃ sv', Holds w' b big a sv' out' ∧ Wrote w w' b sv sv')) : WB big a out x c out' :=
  ⟨hl, hok, hno, fun b sv w h => (hp b sv w h).mono fun e w' ⟨c', he, hc, hh⟩ => ⟨by rw [he, hc], hh⟩⟩

theorem numOut_len' (f r : Bool) (a : Int) (out : List UInt8) (p s : Nat) (n : Int) (big : Bool) (hL : out.length ≤ 65536) (hp : padN (a + out.length) ((s : Nat) : Int) = p) (hr : roomB a s s out.length = r) : (numOut f r out p (numB n big s)).length ≤ 65536 := by
  cases f <;> cases r <;> simp [numOut, numB, shs_length, hL]
  unfold roomB at hr
  rw [hp] at hr
  have := of_decide_eq_true hr
  omega

theorem cntOut_len' (r : Bool) (a : Int) (out : List UInt8) (p : Nat) (sz : Int) (t : Nat) (l : List UInt8) (hL : out.length ≤ 65536) (hp : padN (a + out.length) sz = p) (hr : roomB a sz t out.length = r) (hl : l.length = t) : (cntOut r out p l).length ≤ 65536 := by
  cases r <;> simp [cntOut, hL, hl]
  unfold roomB at hr
  rw [hp] at hr
  have := of_decide_eq_true hr
  omega

section
variable (big : Bool) (a : Int) (out : List UInt8) (n m : Int) (s : ByteArray) (ha : 0 ≤ a) (ha2 : a ≤ 7) (hL : out.length ≤ 65536)
include ha ha2 hL

theorem wb_0 : ∃ c out', WB big a out ⟨0, n, m, s⟩ c out' := by
  obtain ⟨p, hp⟩ : ∃ p, padK' a out.length 1 = p := ⟨_, rfl⟩
  have hpe := padK'_eq a out.length 1 (by omega)
  rw [hp] at hpe
  obtain ⟨f, hf⟩ : ∃ f, fitsN 1 n = f := ⟨_, rfl⟩
  obtain ⟨r, hr⟩ : ∃ r, roomB a 1 1 out.length = r := ⟨_, rfl⟩
  refine ⟨numC f r, numOut f r out p (numB n big 1), wb_of (numOut_len' f r a _ _ 1 _ _ hL hpe hr) (fun hc => ?_) (fun hc => ?_) (fun b sv w h => ?_)⟩
  · cases f <;> cases r <;> first | (exact absurd hc (by decide)) | exact back_num big a n out p 1 0 m s hp (by omega) (by omega) (sg_back n 1 (by omega) hf)
  · cases f <;> cases r <;> first | rfl | exact absurd rfl hc
  · exact write_0 b n m s w _ ((octet_any b big a n sv out _ (h.alloc _) ha ha2 (by omega) p hpe f r hf hr).mono fun e w' ⟨sv', he, hh, hw⟩ => ⟨_, he, rfl, sv', hh, ((Wrote.refl w b sv).alloc _).trans hw⟩)

theorem wb_2 : ∃ c out', WB big a out ⟨2, n, m, s⟩ c out' := by
  obtain ⟨p, hp⟩ : ∃ p, padK' a out.length 2 = p := ⟨_, rfl⟩
  have hpe := padK'_eq a out.length 2 (by omega)
  rw [hp] at hpe
  obtain ⟨f, hf⟩ : ∃ f, fitsN 2 n = f := ⟨_, rfl⟩
  obtain ⟨r, hr⟩ : ∃ r, roomB a 2 2 out.length = r := ⟨_, rfl⟩
  refine ⟨numC f r, numOut f r out p (numB n big 2), wb_of (numOut_len' f r a _ _ 2 _ _ hL hpe hr) (fun hc => ?_) (fun hc => ?_) (fun b sv w h => ?_)⟩
  · cases f <;> cases r <;> first | (exact absurd hc (by decide)) | exact back_num big a n out p 2 2 m s hp (by omega) (by omega) (sg_back n 2 (by omega) hf)
  · cases f <;> cases r <;> first | rfl | exact absurd rfl hc
  · exact write_2 b n m s w _ ((short_any b big a n sv out _ (h.alloc _) ha ha2 (by omega) p hpe f r hf hr).mono fun e w' ⟨sv', he, hh, hw⟩ => ⟨_, he, rfl, sv', hh, ((Wrote.refl w b sv).alloc _).trans hw⟩)

theorem wb_3 : ∃ c out', WB big a out ⟨3, n, m, s⟩ c out' := by
  obtain ⟨p, hp⟩ : ∃ p, padK' a out.length 4 = p := ⟨_, rfl⟩
  have hpe := padK'_eq a out.length 4 (by omega)
  rw [hp] at hpe
  obtain ⟨f, hf⟩ : ∃ f, fitsN 4 n = f := ⟨_, rfl⟩
  obtain ⟨r, hr⟩ : ∃ r, roomB a 4 4 out.length = r := ⟨_, rfl⟩
  refine ⟨numC f r, numOut f r out p (numB n big 4), wb_of (numOut_len' f r a _ _ 4 _ _ hL hpe hr) (fun hc => ?_) (fun hc => ?_) (fun b sv w h => ?_)⟩
  · cases f <;> cases r <;> first | (exact absurd hc (by decide)) | exact back_num big a n out p 4 3 m s hp (by omega) (by omega) (sg_back n 4 (by omega) hf)
  · cases f <;> cases r <;> first | rfl | exact absurd rfl hc
  · exact write_3 b n m s w _ ((long_any b big a n sv out _ (h.alloc _) ha ha2 (by omega) p hpe f r hf hr).mono fun e w' ⟨sv', he, hh, hw⟩ => ⟨_, he, rfl, sv', hh, ((Wrote.refl w b sv).alloc _).trans hw⟩)

theorem wb_4 (hn1 : -9223372036854775808 ≤ n) (hn2 : n ≤ 9223372036854775807) : ∃ c out', WB big a out ⟨4, n, m, s⟩ c out' := by
  obtain ⟨p, hp⟩ : ∃ p, padK' a out.length 8 = p := ⟨_, rfl⟩
  have hpe := padK'_eq a out.length 8 (by omega)
  rw [hp] at hpe
  obtain ⟨f, hf⟩ : ∃ f, fitsN 8 n = f := ⟨_, rfl⟩
  obtain ⟨r, hr⟩ : ∃ r, roomB a 8 8 out.length = r := ⟨_, rfl⟩
  refine ⟨numC f r, numOut f r out p (numB n big 8), wb_of (numOut_len' f r a _ _ 8 _ _ hL hpe hr) (fun hc => ?_) (fun hc => ?_) (fun b sv w h => ?_)⟩
  · cases f <;> cases r <;> first | (exact absurd hc (by decide)) | exact back_num big a n out p 8 4 m s hp (by omega) (by omega) (sg_back8 n hn1 hn2)
  · cases f <;> cases r <;> first | rfl | exact absurd rfl hc
  · exact write_4 b n m s w _ ((huge_any b big a n sv out _ (h.alloc _) ha ha2 (by omega) p hpe f r hf hr).mono fun e w' ⟨sv', he, hh, hw⟩ => ⟨_, he, rfl, sv', hh, ((Wrote.refl w b sv).alloc _).trans hw⟩)

theorem wb_1 : ∃ c out', WB big a out ⟨1, n, m, s⟩ c out' := by
  obtain ⟨p, hp⟩ : ∃ p, padK' a out.length 1 = p := ⟨_, rfl⟩
  have hpe := padK'_eq a out.length 1 (by omega)
  rw [hp] at hpe
  obtain ⟨f, hf⟩ : ∃ f, fitsN 1 (flagN (n == 1)) = f := ⟨_, rfl⟩
  obtain ⟨r, hr⟩ : ∃ r, roomB a 1 1 out.length = r := ⟨_, rfl⟩
  refine ⟨numC f r, numOut f r out p (numB (flagN (n == 1)) big 1), wb_of (numOut_len' f r a _ _ 1 _ _ hL hpe hr) (fun hc => ?_) (fun hc => ?_) (fun b sv w h => ?_)⟩
  · cases f <;> cases r <;> first | (exact absurd hc (by decide)) | exact back_flag big a n out p m s hp
  · cases f <;> cases r <;> first | rfl | exact absurd rfl hc
  · exact write_1 b n m s w _ ((flag_any b big a (n == 1) sv out _ (h.alloc _) ha ha2 (by omega) p hpe f r hf hr).mono fun e w' ⟨sv', he, hh, hw⟩ => ⟨_, he, rfl, sv', hh, ((Wrote.refl w b sv).alloc _).trans hw⟩)

theorem wb_5 (hs : s.size ≤ 1000000) : ∃ c out', WB big a out ⟨5, n, m, s⟩ c out' := by
  obtain ⟨p, hp⟩ : ∃ p, padK' a out.length 4 = p := ⟨_, rfl⟩
  have hpe := padK'_eq a out.length 4 (by omega)
  rw [hp] at hpe
  obtain ⟨z, hz⟩ : ∃ z, zeroIn s = z := ⟨_, rfl⟩
  obtain ⟨r, hr⟩ : ∃ r, roomB a 4 (4 + s.size + (1 : Nat)) out.length = r := ⟨_, rfl⟩
  have hl := bytesOf_length s
  refine ⟨textC z r, textOut z r out p (numB ((s.size : Int) + 1) big 4 ++ bytesOf s ++ [0]), wb_of ?_ (fun hc => ?_) (fun hc => ?_) (fun b sv w h => ?_)⟩
  · cases z
    · exact cntOut_len' r a out p 4 (4 + s.size + 1) _ hL hpe hr (by simp [numB_length, hl]; omega)
    · exact hL
  · cases z <;> cases r <;> first | (exact absurd hc (by decide)) | exact back_text big a n out p m s hp hs hz
  · cases z <;> cases r <;> first | rfl | exact absurd rfl hc
  · exact write_5 b n m s w _ ((text_any b big a s sv out _ (h.alloc _) ha ha2 (by omega) p hpe hs z r hz hr).mono fun e w' ⟨sv', he, hh, hw⟩ => ⟨_, he, rfl, sv', hh, ((Wrote.refl w b sv).alloc _).trans hw⟩)

theorem wb_6 (hs : s.size ≤ 1000000) : ∃ c out', WB big a out ⟨6, n, m, s⟩ c out' := by
  obtain ⟨p, hp⟩ : ∃ p, padK' a out.length 4 = p := ⟨_, rfl⟩
  have hpe := padK'_eq a out.length 4 (by omega)
  rw [hp] at hpe
  obtain ⟨r, hr⟩ : ∃ r, roomB a 4 (4 + s.size + (0 : Nat)) out.length = r := ⟨_, rfl⟩
  have hl := bytesOf_length s
  refine ⟨cntC r, cntOut r out p (numB ((s.size : Int) + (0 : Nat)) big 4 ++ bytesOf s ++ []), wb_of (cntOut_len' r a out p 4 (4 + s.size + 0) _ hL hpe hr (by simp [numB_length, hl])) (fun hc => ?_) (fun hc => ?_) (fun b sv w h => ?_)⟩
  · cases r <;> first | (exact absurd hc (by decide)) | exact back_bytes big a n out p m s hp hs
  · cases r <;> first | rfl | exact absurd rfl hc
  · exact write_6 b n m s w _ ((bytes_any b big a s sv out _ (h.alloc _) ha ha2 (by omega) p hpe hs r hr).mono fun e w' ⟨sv', he, hh, hw⟩ => ⟨_, he, rfl, sv', hh, ((Wrote.refl w b sv).alloc _).trans hw⟩)

theorem wb_7 (hs : s.size ≤ 1000000) : ∃ c out', WB big a out ⟨7, n, m, s⟩ c out' := by
  obtain ⟨r, hr⟩ : ∃ r, roomB a 1 s.size out.length = r := ⟨_, rfl⟩
  have hl := bytesOf_length s
  have hpe : padN (a + out.length) 1 = ((0 : Nat) : Int) := by have := padN_bd (a + out.length) 1 (by omega); omega
  refine ⟨cntC r, cntOut r out 0 (bytesOf s), wb_of (cntOut_len' r a out 0 1 s.size _ hL hpe hr hl) (fun hc => ?_) (fun hc => ?_) (fun b sv w h => ?_)⟩
  · cases r <;> first | (exact absurd hc (by decide)) | exact back_raw big a n out m s
  · cases r <;> first | rfl | exact absurd rfl hc
  · exact write_7 b n m s w _ ((raw_any b big a s sv out _ (h.alloc _) ha ha2 (by omega) hs r hr).mono fun e w' ⟨sv', he, hh, hw⟩ => ⟨_, he, rfl, sv', hh, ((Wrote.refl w b sv).alloc _).trans hw⟩)

theorem wb_8 : ∃ c out', WB big a out ⟨8, n, m, s⟩ c out' := by
  obtain ⟨z, hz⟩ : ∃ z, szB n = z := ⟨_, rfl⟩
  cases z
  · refine ⟨algC false false, algOut false false out 0, wb_of hL (fun hc => absurd hc (by decide)) (fun _ => rfl) (fun b sv w h => ?_)⟩
    exact write_8 b n m s w _ ((align_any b big a n sv out _ (h.alloc _) ha ha2 (by omega) 0 (fun h => by rw [hz] at h; cases h) false false hz (fun h => by cases h)).mono fun e w' ⟨sv', he, hh, hw⟩ => ⟨_, he, rfl, sv', hh, ((Wrote.refl w b sv).alloc _).trans hw⟩)
  · have hn := (szB_iff n).1 hz
    obtain ⟨k, rfl⟩ : ∃ k : Nat, n = (k : Int) := ⟨n.toNat, by omega⟩
    obtain ⟨p, hp⟩ : ∃ p, padK' a out.length k = p := ⟨_, rfl⟩
    have hpe := padK'_eq a out.length k (by omega)
    rw [hp] at hpe
    obtain ⟨r, hr⟩ : ∃ r, roomB a k 0 out.length = r := ⟨_, rfl⟩
    refine ⟨algC true r, algOut true r out p, wb_of ?_ (fun hc => ?_) (fun hc => ?_) (fun b sv w h => ?_)⟩
    · cases r
      · exact hL
      · unfold roomB at hr
        rw [hpe] at hr
        have := of_decide_eq_true hr
        simp [algOut]
        omega
    · cases r <;> first | (exact absurd hc (by decide)) | exact back_align big a out p k m s hz hp
    · cases r <;> first | rfl | exact absurd rfl hc
    · exact write_8 b k m s w _ ((align_any b big a k sv out _ (h.alloc _) ha ha2 (by omega) p (fun _ => hpe) true r hz (fun _ => hr)).mono fun e w' ⟨sv', he, hh, hw⟩ => ⟨_, he, rfl, sv', hh, ((Wrote.refl w b sv).alloc _).trans hw⟩)

/-- ANY ACT OF A KIND FROM 0 TO 8. -/
theorem wb_any (k : Int) (hk : ¬ k < 0) (hk8 : ¬ 8 < k) (hs : s.size ≤ 1000000) (hn1 : -9223372036854775808 ≤ n) (hn2 : n ≤ 9223372036854775807) : ∃ c out', WB big a out ⟨k, n, m, s⟩ c out' := by
  have : k = 0 ∨ k = 1 ∨ k = 2 ∨ k = 3 ∨ k = 4 ∨ k = 5 ∨ k = 6 ∨ k = 7 ∨ k = 8 := by omega
  rcases this with rfl | rfl | rfl | rfl | rfl | rfl | rfl | rfl | rfl
  · exact wb_0 big a out n m s ha ha2 hL
  · exact wb_1 big a out n m s ha ha2 hL
  · exact wb_2 big a out n m s ha ha2 hL
  · exact wb_3 big a out n m s ha ha2 hL
  · exact wb_4 big a out n m s ha ha2 hL hn1 hn2
  · exact wb_5 big a out n m s ha ha2 hL hs
  · exact wb_6 big a out n m s ha ha2 hL hs
  · exact wb_7 big a out n m s ha ha2 hL hs
  · exact wb_8 big a out n m s ha ha2 hL
end

end Go.Proofs.Ytdklmeamhcgohaa
