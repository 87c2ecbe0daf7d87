/-
  PROVED HERE: what Octet, Long and Text of a writer return and write, for any writer whose bytes are known, and that awake returns true.
-/
import Derived.Test.YtdklmeamhcgohaaF
import Derived.Test.YtdklmeamhcgohaaShelf

namespace Go.Proofs.Ytdklmeamhcgohaa
open Go Go.Sem Go.Proofs Go.Lib Go.RowKit

theorem octet_any (b : Nat) (big : Bool) (a n : Int) (sv : Value) (out : List UInt8) (w : World) (h : Holds w b big a sv out) (ha : 0 ≤ a) (ha2 : a ≤ 7) (hL : out.length ≤ 100000000) (p : Nat) (hp : padN (a + out.length) ((1 : Nat) : Int) = p)
    (f r : Bool) (hf : fitsN 1 n = f) (hr : roomB a 1 1 out.length = r) :
    Calls Try.prog 19 #[.pointer (some ⟨b, 0, none⟩), .int .i64 n] w fun e w' => ∃ sv', e = .returned (.int .i64 (numC f r)) ∧
      Holds w' b big a sv' (numOut f r out p (numB n big 1)) ∧ Wrote w w' b sv sv' := by
  have HN := Lib.hid (number1 b big a n sv out w h ha ha2 hL p hp f r hf hr)
  clear h hp hf hr
  go_enter Try.func19, Try.ntmps19
  go_wp2_with (go_at_call 57; refine HN.out.mono ?_; rintro e w2 ⟨sv', rfl, hh, hw⟩)
  go_ret
  exact ⟨sv', rfl, hh, hw⟩

theorem long_any (b : Nat) (big : Bool) (a n : Int) (sv : Value) (out : List UInt8) (w : World) (h : Holds w b big a sv out) (ha : 0 ≤ a) (ha2 : a ≤ 7) (hL : out.length ≤ 100000000) (p : Nat) (hp : padN (a + out.length) ((4 : Nat) : Int) = p)
    (f r : Bool) (hf : fitsN 4 n = f) (hr : roomB a 4 4 out.length = r) :
    Calls Try.prog 37 #[.pointer (some ⟨b, 0, none⟩), .int .i64 n] w fun e w' => ∃ sv', e = .returned (.int .i64 (numC f r)) ∧
      Holds w' b big a sv' (numOut f r out p (numB n big 4)) ∧ Wrote w w' b sv sv' := by
  have HN := Lib.hid (number4 b big a n sv out w h ha ha2 hL p hp f r hf hr)
  clear h hp hf hr
  go_enter Try.func37, Try.ntmps37
  go_wp2_with (go_at_call 57; refine HN.out.mono ?_; rintro e w2 ⟨sv', rfl, hh, hw⟩)
  go_ret
  exact ⟨sv', rfl, hh, hw⟩

/-- Whether a string has a byte 0. -/
def zeroIn (s : ByteArray) : Bool := decide (0 ≤ Lib.indexByte s.data.toList ((0 : Int).toNat.toUInt8))
/-- What writing a text returns. z: a zero in it. -/
def textC (z r : Bool) : Int := if z then 12 else cntC r
def textOut (z r : Bool) (out : List UInt8) (p : Nat) (l : List UInt8) : List UInt8 := if z then out else cntOut r out p l

set_option maxRecDepth 100000 in
set_option maxHeartbeats 800000 in
theorem text_any (b : Nat) (big : Bool) (a : Int) (s : ByteArray) (sv : Value) (out : List UInt8) (w : World) (h : Holds w b big a sv out) (ha : 0 ≤ a) (ha2 : a ≤ 7) (hL : out.length ≤ 65536) (p : Nat) (hp : padN (a + out.length) ((4 : Nat) : Int) = p)
    (hs : s.size ≤ 1000000) (z r : Bool) (hz : zeroIn s = z) (hr : roomB a 4 (4 + s.size + (1 : Nat)) out.length = r) :
    Calls Try.prog 38 #[.pointer (some ⟨b, 0, none⟩), .string s] w fun e w' => ∃ sv', e = .returned (.int .i64 (textC z r)) ∧
      Holds w' b big a sv' (textOut z r out p (numB ((s.size : Int) + 1) big 4 ++ bytesOf s ++ [0])) ∧ Wrote w w' b sv sv' := by
  have HN := Lib.hid (counted_any b big a s ⟨#[0]⟩ sv out w h ha ha2 hL p hp hs (by decide) r hr)
  have H := Lib.hid h
  clear h hp hr
  have hi : decide (Lib.indexByte s.data.toList ((0 : Int).toNat.toUInt8) ≥ 0) = z := hz
  cases z
  · have hneg : Lib.indexByte s.data.toList 0 < 0 := Int.not_le.mp (of_decide_eq_false hi)
    go_enter Try.func38, Try.ntmps38
    go_wp2_with (first | (go_at_call 77; refine (Try.strings_IndexByte _ _ _).mono ?_; rintro e w2 ⟨rfl, rfl⟩) | (go_at_call 84; refine HN.out.mono ?_; rintro e w2 ⟨sv', rfl, hh, hw⟩))
    go_ret
    exact ⟨sv', rfl, hh, hw⟩
  · have hpos : ¬ Lib.indexByte s.data.toList 0 < 0 := Int.not_lt.mpr (of_decide_eq_true hi)
    go_enter Try.func38, Try.ntmps38
    go_wp2_with (first | (go_at_call 77; refine (Try.strings_IndexByte _ _ _).mono ?_; rintro e w2 ⟨rfl, rfl⟩) | (go_at_call 84; refine HN.out.mono ?_; rintro e w2 ⟨sv', rfl, hh, hw⟩))
    go_ret
    exact ⟨sv, rfl, H.out, Wrote.refl _ _ _⟩


/-- A writer that is newer than the world W0: of W0's memory nothing has changed. -/
structure NewW (W0 W : World) (b : Nat) (big : Bool) (a : Int) (sv : Value) (out : List UInt8) : Prop where
  holds : Holds W b big a sv out
  lo : W0.heap.size ≤ b
  own : ∀ g, sv.ownBlock = some g → W0.heap.size ≤ g
  below : Below W0.heap.size W0 W

theorem Wrote.newer {W0 W W' : World} {b : Nat} {sv sv' : Value} (hw : Wrote W W' b sv sv') (hW : W0.heap.size ≤ W.heap.size) (hb : W0.heap.size ≤ b) (ho : ∀ g, sv.ownBlock = some g → W0.heap.size ≤ g) : Below W0.heap.size W W' :=
  ⟨hw.os, hw.tape, hw.output, hw.size, fun k hk => hw.block k (by omega) (by omega) fun e => by have := ho k e.symm; omega⟩

theorem NewW.wrote {W0 W W' : World} {b : Nat} {big : Bool} {a : Int} {sv sv' : Value} {out out' : List UInt8} (h : NewW W0 W b big a sv out) (hh : Holds W' b big a sv' out') (hw : Wrote W W' b sv sv') : NewW W0 W' b big a sv' out' :=
  ⟨hh, h.lo, fun g hg => by
    rcases hw.own g hg with h1 | h1
    · exact h.own g h1
    · exact Nat.le_trans h.below.size h1, h.below.trans (hw.newer h.below.size h.lo h.own)⟩

/-- Another writer's bytes stay. -/
theorem Holds.other {W W' : World} {b b2 : Nat} {big big2 : Bool} {a a2 : Int} {sv sv' sv2 : Value} {out out2 : List UInt8} (h2 : Holds W b2 big2 a2 sv2 out2) (h1 : Holds W b big a sv out) (hw : Wrote W W' b sv sv')
    (hne : b2 ≠ b) (hon : ∀ g, sv2.ownBlock = some g → some g ≠ sv.ownBlock) : Holds W' b2 big2 a2 sv2 out2 := by
  refine ⟨(hw.block b2 h2.1.lt hne (h2.1.not_row h1.2)).trans h2.1, h2.2.1, ?_⟩
  rcases h2.2.2 with hn | ⟨g, cap, cur, he, hb, hg, rest⟩
  · exact .inl hn
  · have hog : sv2.ownBlock = some g := by rw [he]; rfl
    refine .inr ⟨g, cap, cur, he, hb, (hw.block g (h2.own_lt hog) (fun e => ?_) (hon g hog)).trans hg, rest⟩
    exact h1.1.not_row h2.2 (by rw [hog, e])

/-- A writer that NewWriter has just made. -/
theorem NewW.made {W0 W : World} {b : Nat} {big : Bool} {a : Int} (h : WAt W b big a (.slice none 0 0)) (hb : W0.heap.size ≤ b) (hbe : Below W0.heap.size W0 W) : NewW W0 W b big a (.slice none 0 0) [] :=
  ⟨⟨h, World.ownsRow_nil W 0 5 1⟩, hb, by simp [Value.ownBlock], hbe⟩

theorem Holds.older {W W' : World} {B b : Nat} {big : Bool} {a : Int} {out : List UInt8} {sv : Value} (h : Holds W b big a sv out) (hb : Below B W W') (hB : W.heap.size ≤ B) : Holds W' b big a sv out := by
  refine ⟨(hb.block b (Nat.lt_of_lt_of_le h.1.lt hB)).trans h.1, h.2.1, ?_⟩
  rcases h.2.2 with hn | ⟨g, cap, cur, he, hb', hg, rest⟩
  · exact .inl hn
  · have hog : sv.ownBlock = some g := by rw [he]; rfl
    exact .inr ⟨g, cap, cur, he, hb', (hb.block g (Nat.lt_of_lt_of_le (h.own_lt hog) hB)).trans hg, rest⟩

theorem aw1 : numOut true true [] 0 (numB 1 true 1) = [1] := by decide
theorem aw2 : numOut true true [1] 3 (numB 2 true 4) = [1, 0, 0, 0, 0, 0, 0, 2] := by decide
theorem aw3 : textOut false true [] 0 (numB (((⟨#[97, 98]⟩ : ByteArray).size : Int) + 1) false 4 ++ bytesOf ⟨#[97, 98]⟩ ++ [0]) = [3, 0, 0, 0, 97, 98, 0] := by decide

theorem aw_octet (b : Nat) (sv : Value) (w : World) (h : Holds w b true 0 sv []) : Calls Try.prog 19 #[.pointer (some ⟨b, 0, none⟩), .int .i64 1] w fun e w' =>
    ∃ sv', e = .returned (.int .i64 0) ∧ Holds w' b true 0 sv' [1] ∧ Wrote w w' b sv sv' :=
  (octet_any b true 0 1 sv [] w h (by decide) (by decide) (by decide) 0 (by decide) true true (by decide) (by decide)).mono fun e w' ⟨sv', he, hh, hw⟩ => ⟨sv', he, aw1 ▸ hh, hw⟩

theorem aw_long (b : Nat) (sv : Value) (w : World) (h : Holds w b true 0 sv [1]) : Calls Try.prog 37 #[.pointer (some ⟨b, 0, none⟩), .int .i64 2] w fun e w' =>
    ∃ sv', e = .returned (.int .i64 0) ∧ Holds w' b true 0 sv' [1, 0, 0, 0, 0, 0, 0, 2] ∧ Wrote w w' b sv sv' :=
  (long_any b true 0 2 sv [1] w h (by decide) (by decide) (by decide) 3 (by decide) true true (by decide) (by decide)).mono fun e w' ⟨sv', he, hh, hw⟩ => ⟨sv', he, aw2 ▸ hh, hw⟩

theorem aw_text (b : Nat) (sv : Value) (w : World) (h : Holds w b false 0 sv []) : Calls Try.prog 38 #[.pointer (some ⟨b, 0, none⟩), .string ⟨#[97, 98]⟩] w fun e w' =>
    ∃ sv', e = .returned (.int .i64 0) ∧ Holds w' b false 0 sv' [3, 0, 0, 0, 97, 98, 0] ∧ Wrote w w' b sv sv' :=
  (text_any b false 0 ⟨#[97, 98]⟩ sv [] w h (by decide) (by decide) (by decide) 0 (by decide) (by decide) false true (by decide) (by decide)).mono fun e w' ⟨sv', he, hh, hw⟩ => ⟨sv', he, aw3 ▸ hh, hw⟩

theorem aw_all1 (b : Nat) (sv : Value) (w : World) (h : Holds w b true 0 sv [1, 0, 0, 0, 0, 0, 0, 2]) : Calls Try.prog 17 #[.pointer (some ⟨b, 0, none⟩)] w fun e w' => e = .returned (.string ⟨#[1, 0, 0, 0, 0, 0, 0, 2]⟩) ∧ w = w' := all_any b true 0 sv _ w h
theorem aw_all2 (b : Nat) (sv : Value) (w : World) (h : Holds w b false 0 sv [3, 0, 0, 0, 97, 98, 0]) : Calls Try.prog 17 #[.pointer (some ⟨b, 0, none⟩)] w fun e w' => e = .returned (.string ⟨#[3, 0, 0, 0, 97, 98, 0]⟩) ∧ w = w' := all_any b false 0 sv _ w h

end Go.Proofs.Ytdklmeamhcgohaa
