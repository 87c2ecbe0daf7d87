/-
  PROVED HERE: what an act that writes a number does with a new writer; what the two orders of a number's bytes have to do with each other.
-/
import Derived.Test.YtdklmeamhcgohaaM
import Derived.Test.YtdklmeamhcgohaaK
import Derived.WalkKit
import Derived.ProofKit
namespace Go.Proofs.Ytdklmeamhcgohaa
open Go.RowKit

theorem sw2 (n : Int) : swL (numB n true 2) 2 = numB n false 2 := rfl
theorem sw4 (n : Int) : swL (numB n true 4) 4 = numB n false 4 := rfl
theorem sw8 (n : Int) : swL (numB n true 8) 8 = numB n false 8 := rfl

/-- What writing a number into a new writer returns, and what is there then. -/
def ordC (f : Bool) : Int := if f then 0 else 7
def ordOut (f : Bool) (p : Nat) (l : List UInt8) : List UInt8 := if f then List.replicate p 0 ++ l else []

theorem room_new (a : Int) (s : Nat) (hs : 1 ≤ s) (hs2 : s ≤ 8) : roomB a s s ([] : List UInt8).length = true := by
  have := padN_bd (a + 0) s (by omega)
  simp only [roomB, List.length_nil]
  simp
  simp at this
  omega

theorem ord_w2 (b : Nat) (big : Bool) (a n : Int) (w : World) (h : Holds w b big a (.slice none 0 0) []) (ha : 0 ≤ a) (ha2 : a ≤ 7) (p : Nat) (hp : padN a ((2 : Nat) : Int) = p) (f : Bool) (hf : fitsN 2 n = f) :
    Calls Try.prog 13 #[.pointer (some ⟨b, 0, none⟩), .agg #[.int .i64 2, .int .i64 n, .int .i64 0, .string ⟨#[]⟩]] w fun e w' => ∃ c, e = .returned (.int .i64 c) ∧
      (c = ordC f ∧ ∃ sv', Holds w' b big a sv' (ordOut f p (numB n big 2)) ∧ Wrote w w' b (.slice none 0 0) sv') := by
  refine write_2 b n 0 ⟨#[]⟩ w (fun c w' => c = ordC f ∧ ∃ sv', Holds w' b big a sv' (ordOut f p (numB n big 2)) ∧ Wrote w w' b (.slice none 0 0) sv') ?_
  refine (short_any b big a n _ [] _ (h.alloc _) ha ha2 (by simp) p (by simpa using hp) f true hf (room_new a 2 (by omega) (by omega))).mono ?_
  rintro e w' ⟨sv', rfl, hh, hw⟩
  refine ⟨_, rfl, by cases f <;> rfl, sv', ?_, ((Wrote.refl w b _).alloc _).trans hw⟩
  have e1 : ordOut f p (numB n big 2) = numOut f true [] p (numB n big 2) := by cases f <;> simp [ordOut, numOut]
  rw [e1]
  exact hh

theorem ord_w4 (b : Nat) (big : Bool) (a n : Int) (w : World) (h : Holds w b big a (.slice none 0 0) []) (ha : 0 ≤ a) (ha2 : a ≤ 7) (p : Nat) (hp : padN a ((4 : Nat) : Int) = p) (f : Bool) (hf : fitsN 4 n = f) :
    Calls Try.prog 13 #[.pointer (some ⟨b, 0, none⟩), .agg #[.int .i64 3, .int .i64 n, .int .i64 0, .string ⟨#[]⟩]] w fun e w' => ∃ c, e = .returned (.int .i64 c) ∧
      (c = ordC f ∧ ∃ sv', Holds w' b big a sv' (ordOut f p (numB n big 4)) ∧ Wrote w w' b (.slice none 0 0) sv') := by
  refine write_3 b n 0 ⟨#[]⟩ w (fun c w' => c = ordC f ∧ ∃ sv', Holds w' b big a sv' (ordOut f p (numB n big 4)) ∧ Wrote w w' b (.slice none 0 0) sv') ?_
  refine (long_any b big a n _ [] _ (h.alloc _) ha ha2 (by simp) p (by simpa using hp) f true hf (room_new a 4 (by omega) (by omega))).mono ?_
  rintro e w' ⟨sv', rfl, hh, hw⟩
  refine ⟨_, rfl, by cases f <;> rfl, sv', ?_, ((Wrote.refl w b _).alloc _).trans hw⟩
  have e1 : ordOut f p (numB n big 4) = numOut f true [] p (numB n big 4) := by cases f <;> simp [ordOut, numOut]
  rw [e1]
  exact hh

theorem ord_w8 (b : Nat) (big : Bool) (a n : Int) (w : World) (h : Holds w b big a (.slice none 0 0) []) (ha : 0 ≤ a) (ha2 : a ≤ 7) (p : Nat) (hp : padN a ((8 : Nat) : Int) = p) (f : Bool) (hf : fitsN 8 n = f) :
    Calls Try.prog 13 #[.pointer (some ⟨b, 0, none⟩), .agg #[.int .i64 4, .int .i64 n, .int .i64 0, .string ⟨#[]⟩]] w fun e w' => ∃ c, e = .returned (.int .i64 c) ∧
      (c = ordC f ∧ ∃ sv', Holds w' b big a sv' (ordOut f p (numB n big 8)) ∧ Wrote w w' b (.slice none 0 0) sv') := by
  refine write_4 b n 0 ⟨#[]⟩ w (fun c w' => c = ordC f ∧ ∃ sv', Holds w' b big a sv' (ordOut f p (numB n big 8)) ∧ Wrote w w' b (.slice none 0 0) sv') ?_
  refine (huge_any b big a n _ [] _ (h.alloc _) ha ha2 (by simp) p (by simpa using hp) f true hf (room_new a 8 (by omega) (by omega))).mono ?_
  rintro e w' ⟨sv', rfl, hh, hw⟩
  refine ⟨_, rfl, by cases f <;> rfl, sv', ?_, ((Wrote.refl w b _).alloc _).trans hw⟩
  have e1 : ordOut f p (numB n big 8) = numOut f true [] p (numB n big 8) := by cases f <;> simp [ordOut, numOut]
  rw [e1]
  exact hh

end Go.Proofs.Ytdklmeamhcgohaa
