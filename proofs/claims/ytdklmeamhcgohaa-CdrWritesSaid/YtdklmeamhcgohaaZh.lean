/-
  PROVED HERE: laws on two writers, one of package cdr and one of the reference, that lie apart; what the methods of no writer return.
-/
import Derived.Test.YtdklmeamhcgohaaZg
import Derived.Test.YtdklmeamhcgohaaH
namespace Go.Proofs.Ytdklmeamhcgohaa
open Go.RowKit

theorem RHolds.otherW {W W' : World} {b b2 : Nat} {big big2 : Bool} {a a2 : Int} {sv sv' sv2 : Value} {out out2 : List UInt8} (h2 : RHolds W b2 big2 a2 sv2 out2) (h1 : Holds W b big a sv out) (hw : Wrote W W' b sv sv')
    (hne : b2 ≠ b) (hon : ∀ g, sv2.ownBlock = some g → some g ≠ sv.ownBlock) : RHolds W' b2 big2 a2 sv2 out2 := by
  refine ⟨(hw.block b2 h2.1.lt hne (h2.1.not_row h1.2)).trans h2.1, h2.2.1, ?_⟩
  rcases h2.2.2 with hn | ⟨g, cap, cur, he, hb, hg, rest⟩
  · exact .inl hn
  · have hog : sv2.ownBlock = some g := by rw [he]; rfl
    refine .inr ⟨g, cap, cur, he, hb, (hw.block g (h2.own_lt hog) (fun e => ?_) (hon g hog)).trans hg, rest⟩
    exact h1.1.not_row h2.2 (by rw [hog, e])

theorem Holds.otherR {W W' : World} {b b2 : Nat} {big big2 : Bool} {a a2 : Int} {sv sv' sv2 : Value} {out out2 : List UInt8} (h2 : Holds W b2 big2 a2 sv2 out2) (h1 : RHolds W b big a sv out) (hw : Wrote W W' b sv sv')
    (hne : b2 ≠ b) (hon : ∀ g, sv2.ownBlock = some g → some g ≠ sv.ownBlock) : Holds W' b2 big2 a2 sv2 out2 := by
  refine ⟨(hw.block b2 h2.1.lt hne (h2.1.not_row h1.2)).trans h2.1, h2.2.1, ?_⟩
  rcases h2.2.2 with hn | ⟨g, cap, cur, he, hb, hg, rest⟩
  · exact .inl hn
  · have hog : sv2.ownBlock = some g := by rw [he]; rfl
    refine .inr ⟨g, cap, cur, he, hb, (hw.block g (h2.own_lt hog) (fun e => ?_) (hon g hog)).trans hg, rest⟩
    exact h1.1.not_row h2.2 (by rw [hog, e])

/-- TWO WRITERS NEWER THAN W0 THAT LIE APART. -/
structure PairW (W0 W : World) (b1 : Nat) (svA : Value) (oA : List UInt8) (b2 : Nat) (svB : Value) (oB : List UInt8) (big : Bool) (a : Int) : Prop where
  pa : Holds W b1 big a svA oA
  pb : RHolds W b2 big a svB oB
  ne : b1 ≠ b2
  sep : ∀ g, svA.ownBlock = some g → svB.ownBlock ≠ some g
  la : W0.heap.size ≤ b1
  lb : W0.heap.size ≤ b2
  oa : ∀ g, svA.ownBlock = some g → W0.heap.size ≤ g
  ob : ∀ g, svB.ownBlock = some g → W0.heap.size ≤ g
  below : Below W0.heap.size W0 W

theorem PairW.stepA {W0 W W' : World} {b1 b2 : Nat} {svA svB svA' : Value} {oA oB oA' : List UInt8} {big : Bool} {a : Int} (h : PairW W0 W b1 svA oA b2 svB oB big a) (hh : Holds W' b1 big a svA' oA') (hw : Wrote W W' b1 svA svA') : PairW W0 W' b1 svA' oA' b2 svB oB big a :=
  ⟨hh, h.pb.otherW h.pa hw h.ne.symm (fun g hg e => h.sep g e.symm hg), h.ne, fun g hg hb => by
    rcases hw.own g hg with e | e
    · exact h.sep g e hb
    · have := h.pb.own_lt hb; omega, h.la, h.lb, fun g hg => by
    rcases hw.own g hg with e | e
    · exact h.oa g e
    · exact Nat.le_trans h.below.size e, h.ob, h.below.trans (hw.newer h.below.size h.la h.oa)⟩

theorem PairW.stepB {W0 W W' : World} {b1 b2 : Nat} {svA svB svB' : Value} {oA oB oB' : List UInt8} {big : Bool} {a : Int} (h : PairW W0 W b1 svA oA b2 svB oB big a) (hh : RHolds W' b2 big a svB' oB') (hw : Wrote W W' b2 svB svB') : PairW W0 W' b1 svA oA b2 svB' oB' big a :=
  ⟨h.pa.otherR h.pb hw h.ne (fun g hg e => h.sep g hg e.symm), hh, h.ne, fun g ha hg => by
    rcases hw.own g hg with e | e
    · exact h.sep g ha e
    · have := h.pa.own_lt ha; omega, h.la, h.lb, h.oa, fun g hg => by
    rcases hw.own g hg with e | e
    · exact h.ob g e
    · exact Nat.le_trans h.below.size e, h.below.trans (hw.newer h.below.size h.lb h.ob)⟩

theorem PairW.later {W0 W W' : World} {b1 b2 : Nat} {svA svB : Value} {oA oB : List UInt8} {big : Bool} {a : Int} (h : PairW W0 W b1 svA oA b2 svB oB big a) (hb : Below W.heap.size W W') : PairW W0 W' b1 svA oA b2 svB oB big a :=
  ⟨h.pa.below hb, h.pb.below hb, h.ne, h.sep, h.la, h.lb, h.oa, h.ob, h.below.trans (hb.mono h.below.size)⟩

theorem below_drew (W : World) : Below W.heap.size W W.drew := ⟨rfl, rfl, rfl, Nat.le_refl _, fun _ _ => rfl⟩
theorem below_drewN' (W : World) (n : Nat) : Below W.heap.size W (W.drewN n) := ⟨rfl, rfl, rfl, Nat.le_refl _, fun _ _ => rfl⟩

/-- A block that neither writer owns stays over a writing. -/
theorem wrote_keeps {W W' : World} {b g : Nat} {sv sv' : Value} {o : Obj} (hw : Wrote W W' b sv sv') (hg : W.heap[g]? = some o) (h1 : g ≠ b) (h2 : some g ≠ sv.ownBlock) : W'.heap[g]? = some o :=
  (hw.block g (Array.getElem?_eq_some_iff.1 hg).1 h1 h2).trans hg

/-! ### No writer -/

theorem octet_nil (w : World) : Calls Try.prog 19 #[.pointer none, .int .i64 1] w fun e w' => e = .returned (.int .i64 1) ∧ Below w.heap.size w w' := by
  go_enter Try.func19, Try.ntmps19
  go_wp2
  go_ret
  exact ⟨rfl, Below.refl _ _⟩

theorem put_nil (w : World) : Calls Try.prog 20 #[.pointer none, .int .i64 0, .int .i64 1] w fun e w' => e = .returned (.int .i64 1) ∧ Below w.heap.size w w' := by
  go_enter Try.func20, Try.ntmps20
  go_wp2
  go_ret
  exact ⟨rfl, ((Below.refl _ _).alloc (Nat.le_refl _) _).alloc (by simp) _⟩

theorem place_nil (w : World) : Calls Try.prog 15 #[.pointer none] w fun e w' => e = .returned (.int .i64 0) ∧ w = w' := by
  go_enter Try.func15, Try.ntmps15
  go_wp2
  go_ret
  exact ⟨rfl, rfl⟩

theorem all_nil (w : World) : Calls Try.prog 17 #[.pointer none] w fun e w' => e = .returned (.string ⟨#[]⟩) ∧ w = w' := by
  go_enter Try.func17, Try.ntmps17
  go_wp2
  go_ret
  exact ⟨rfl, rfl⟩

end Go.Proofs.Ytdklmeamhcgohaa
