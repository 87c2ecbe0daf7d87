/-
  PROVED HERE: what the reference's writer is in memory, and what NewWriter, Place and All of the reference return.
-/
import Derived.Test.YtdklmeamhcgohaaM
namespace Go.Proofs.Ytdklmeamhcgohaa
open Go.RowKit

def RAt (W : World) (b : Nat) (big : Bool) (a : Int) (sv : Value) : Prop := W.heap[b]? = some (.cells #[.bool big, .int .i64 a, sv] 67 (0, 0))

theorem RAt.lt {W : World} {b : Nat} {big : Bool} {a : Int} {sv : Value} (h : RAt W b big a sv) : b < W.heap.size := (Array.getElem?_eq_some_iff.1 h).1

theorem RAt.c0 {W : World} {b : Nat} {big : Bool} {a : Int} {sv : Value} (h : RAt W b big a sv) : W.cell? ⟨b, 0, none⟩ = some (.bool big) := by simp [World.cell?, show W.heap[b]? = _ from h]

theorem RAt.c1 {W : World} {b : Nat} {big : Bool} {a : Int} {sv : Value} (h : RAt W b big a sv) : W.cell? ⟨b, 1, none⟩ = some (.int .i64 a) := by simp [World.cell?, show W.heap[b]? = _ from h]

theorem RAt.c2 {W : World} {b : Nat} {big : Bool} {a : Int} {sv : Value} (h : RAt W b big a sv) : W.cell? ⟨b, 2, none⟩ = some sv := by simp [World.cell?, show W.heap[b]? = _ from h]

theorem RAt.f2 {W : World} {b : Nat} {big : Bool} {a : Int} {sv : Value} (h : RAt W b big a sv) : W.frozen? ⟨b, 2, none⟩ = false := by simp [World.frozen?, show W.heap[b]? = _ from h]

theorem RAt.kept {W W' : World} {row : Option Nat} {b : Nat} {big : Bool} {a : Int} {sv : Value} (h : RAt W b big a sv) (hg : W.grownBy W' row) (hne : some b ≠ row) : RAt W' b big a sv := (hg.block b h.lt hne).trans h

theorem RAt.alloc {W : World} {b : Nat} {big : Bool} {a : Int} {sv : Value} (h : RAt W b big a sv) (o : Obj) : RAt (W.alloc o) b big a sv := h.kept (World.grownBy_alloc W o none) (by simp)

theorem RAt.set {W : World} {b : Nat} {big : Bool} {a : Int} {sv : Value} (sv' : Value) (h : RAt W b big a sv) : RAt (W.setCell ⟨b, 2, none⟩ sv') b big a sv' := by
  obtain ⟨hlt, hk⟩ := Array.getElem?_eq_some_iff.1 h
  show (W.heap.modify b _)[b]? = _
  rw [Array.getElem?_eq_getElem (by rw [Array.size_modify]; exact hlt), Array.getElem_modify_self, hk]
  rfl

theorem RAt.not_row {W : World} {b : Nat} {big : Bool} {a : Int} {sv : Value} (h : RAt W b big a sv) {base size k : Nat} {v : Value} {xs : List Value} (hr : W.ownsRow base 5 size v k xs) : some b ≠ v.ownBlock := by
  rcases hr.2 with ⟨rfl, _⟩ | ⟨g, cap, cur, rfl, _, hgb, _⟩
  · simp [Value.ownBlock]
  · intro e'
    obtain rfl : b = g := by simpa [Value.ownBlock] using e'
    have := (show W.heap[b]? = _ from h).symm.trans hgb
    simp at this

def RHolds (W : World) (b : Nat) (big : Bool) (a : Int) (sv : Value) (out : List UInt8) : Prop :=
  RAt W b big a sv ∧ W.ownsRow 0 5 1 sv out.length (bcells out)

theorem RHolds.drewN {W : World} {b : Nat} {big : Bool} {a : Int} {sv : Value} {out : List UInt8} (h : RHolds W b big a sv out) (n : Nat) : RHolds (W.drewN n) b big a sv out := h

theorem RHolds.alloc {W : World} {b : Nat} {big : Bool} {a : Int} {sv : Value} {out : List UInt8} (h : RHolds W b big a sv out) (o : Obj) : RHolds (W.alloc o) b big a sv out := ⟨h.1.alloc o, h.2.alloc o⟩

theorem RHolds.form {W : World} {b : Nat} {big : Bool} {a : Int} {sv : Value} {out : List UInt8} (h : RHolds W b big a sv out) : ∃ ao cap, sv = .slice ao out.length cap := by
  rcases h.2.2 with ⟨rfl, h0⟩ | ⟨g, cap, _, rfl, _⟩
  · exact ⟨none, 0, by rw [h0]⟩
  · exact ⟨_, cap, rfl⟩

theorem RHolds.kept {W W' : World} {row : Option Nat} {b : Nat} {big : Bool} {a : Int} {sv : Value} {out : List UInt8} (h : RHolds W b big a sv out) (hg : W.grownBy W' row) (hr : ∀ r, row = some r → ∃ o, W.heap[r]? = some o ∧ o.isCells = false) : RHolds W' b big a sv out := by
  refine ⟨h.1.kept hg (fun e => ?_), h.2.kept hg ?_⟩
  · obtain ⟨o, ho, hc⟩ := hr b e.symm
    rw [show W.heap[b]? = _ from h.1] at ho; cases ho; cases hc
  · rcases h.2.2 with ⟨rfl, _⟩ | ⟨g, cap, cur, rfl, _, hgb, _⟩
    · exact .inl rfl
    · refine .inr fun e => ?_
      obtain ⟨o, ho, hc⟩ := hr g (by simpa [Value.ownBlock] using e.symm)
      rw [hgb] at ho; cases ho; cases hc

theorem RHolds.own_lt {W : World} {b : Nat} {big : Bool} {a : Int} {sv : Value} {out : List UInt8} (h : RHolds W b big a sv out) {g : Nat} (hg : sv.ownBlock = some g) : g < W.heap.size := (h.2.lt g hg).2

theorem RHolds.below {W W' : World} {b : Nat} {big : Bool} {a : Int} {sv : Value} {out : List UInt8} (h : RHolds W b big a sv out) (hb : Below W.heap.size W W') : RHolds W' b big a sv out :=
  h.kept (Below.grownBy hb) (fun r e => by cases e)

theorem RHolds.conv {W : World} {b : Nat} {big : Bool} {a : Int} {sv : Value} {out : List UInt8} (h : RHolds W b big a sv out) : (convert 54 9 sv).run Try.prog W = .ok (.string ⟨out.toArray⟩) W := by
  rcases h.2.2 with ⟨rfl, h0⟩ | ⟨g, cap, cur, rfl, _, hg, _, _, _, htk⟩
  · have : out = [] := List.eq_nil_of_length_eq_zero h0
    subst this
    exact Lib.run_convert_nil_bytes W 54 9 5 0 Try.underlying54 Try.underlying5 Try.underlying9
  · refine run_convert_bytes_back W 54 9 5 ⟨g, 0, none⟩ cap out Try.underlying54 Try.underlying5 Try.underlying9 fun j hj => ?_
    refine h.2.cells (g := g) rfl j _ ?_
    simp [bcells, hj]

theorem RAt.appendedS {W w1 : World} {b : Nat} {big : Bool} {a : Int} {v v' : Value} {k m : Nat} {xs ys : List Value}
    (hv : RAt W b big a v) (hrow : W.ownsRow 0 5 1 v k xs) (hown' : w1.ownsRow 0 5 1 v' m ys) (hgrow : W.grownBy w1 v.ownBlock)
    (hat : ∀ g, v'.ownBlock = some g → v.ownBlock = some g ∨ W.heap.size ≤ g) :
    RAt w1 b big a v ∧ RAt (w1.setCell ⟨b, 2, none⟩ v') b big a v' ∧ (w1.setCell ⟨b, 2, none⟩ v').ownsRow 0 5 1 v' m ys ∧ Wrote W (w1.setCell ⟨b, 2, none⟩ v') b v v' := by
  have hv1 : RAt w1 b big a v := hv.kept hgrow (hv.not_row hrow)
  have hs := grownBy_setCell2 w1 ⟨b, 2, none⟩ v'
  exact ⟨hv1, hv1.set v', hown'.kept hs (.inr (hv1.not_row hown').symm), hs.os.trans hgrow.os, hs.tape.trans hgrow.tape, hs.output.trans hgrow.output, Nat.le_trans hgrow.size hs.size,
    fun i hi hb hne => (hs.block i (Nat.lt_of_lt_of_le hi hgrow.size) (fun e => hb (by simpa using e))).trans (hgrow.block i hi hne), hat⟩

structure RNewW (W0 W : World) (b : Nat) (big : Bool) (a : Int) (sv : Value) (out : List UInt8) : Prop where
  holds : RHolds W b big a sv out
  lo : W0.heap.size ≤ b
  own : ∀ g, sv.ownBlock = some g → W0.heap.size ≤ g
  below : Below W0.heap.size W0 W

theorem RNewW.wrote {W0 W W' : World} {b : Nat} {big : Bool} {a : Int} {sv sv' : Value} {out out' : List UInt8} (h : RNewW W0 W b big a sv out) (hh : RHolds W' b big a sv' out') (hw : Wrote W W' b sv sv') : RNewW W0 W' b big a sv' out' :=
  ⟨hh, h.lo, fun g hg => by
    rcases hw.own g hg with h1 | h1
    · exact h.own g h1
    · exact Nat.le_trans h.below.size h1, h.below.trans (hw.newer h.below.size h.lo h.own)⟩

theorem RHolds.other {W W' : World} {b b2 : Nat} {big big2 : Bool} {a a2 : Int} {sv sv' sv2 : Value} {out out2 : List UInt8} (h2 : RHolds W b2 big2 a2 sv2 out2) (h1 : RHolds W b big a sv out) (hw : Wrote W W' b sv sv')
    (hne : b2 ≠ b) (hon : ∀ g, sv2.ownBlock = some g → some g ≠ sv.ownBlock) : RHolds W' b2 big2 a2 sv2 out2 := by
  refine ⟨(hw.block b2 h2.1.lt hne (h2.1.not_row h1.2)).trans h2.1, h2.2.1, ?_⟩
  rcases h2.2.2 with hn | ⟨g, cap, cur, he, hb, hg, rest⟩
  · exact .inl hn
  · have hog : sv2.ownBlock = some g := by rw [he]; rfl
    refine .inr ⟨g, cap, cur, he, hb, (hw.block g (h2.own_lt hog) (fun e => ?_) (hon g hog)).trans hg, rest⟩
    exact h1.1.not_row h2.2 (by rw [hog, e])

theorem RNewW.made {W0 W : World} {b : Nat} {big : Bool} {a : Int} (h : RAt W b big a (.slice none 0 0)) (hb : W0.heap.size ≤ b) (hbe : Below W0.heap.size W0 W) : RNewW W0 W b big a (.slice none 0 0) [] :=
  ⟨⟨h, World.ownsRow_nil W 0 5 1⟩, hb, by simp [Value.ownBlock], hbe⟩

theorem RHolds.older {W W' : World} {B b : Nat} {big : Bool} {a : Int} {out : List UInt8} {sv : Value} (h : RHolds W b big a sv out) (hb : Below B W W') (hB : W.heap.size ≤ B) : RHolds W' b big a sv out := by
  refine ⟨(hb.block b (Nat.lt_of_lt_of_le h.1.lt hB)).trans h.1, h.2.1, ?_⟩
  rcases h.2.2 with hn | ⟨g, cap, cur, he, hb', hg, rest⟩
  · exact .inl hn
  · have hog : sv.ownBlock = some g := by rw [he]; rfl
    exact .inr ⟨g, cap, cur, he, hb', (hb.block g (Nat.lt_of_lt_of_le (h.own_lt hog) hB)).trans hg, rest⟩

set_option maxHeartbeats 400000 in
theorem from_any (a : Int) (w : World) : Calls Try.prog 40 #[.int .i64 a] w fun e w' => e = .returned (.int .i64 (atN a)) ∧ w = w' := by
  by_cases h1 : a < 0
  · have hA : Hid (0 = atN a) := Lib.hid (by unfold atN; simp [h1])
    go_enter Try.func40, Try.ntmps40
    go_wp2
    go_ret
    exact ⟨ret_int hA.out, rfl⟩
  · by_cases h2 : 7 < a
    · have hA : Hid (0 = atN a) := Lib.hid (by unfold atN; simp [h2])
      go_enter Try.func40, Try.ntmps40
      go_wp2
      go_ret
      exact ⟨ret_int hA.out, rfl⟩
    · have hA : Hid (a = atN a) := Lib.hid (by unfold atN; simp; omega)
      go_enter Try.func40, Try.ntmps40
      go_wp2
      go_ret
      exact ⟨ret_int hA.out, rfl⟩

theorem rnew_any (big : Bool) (a : Int) (w : World) :
    Calls Try.prog 12 #[.bool big, .int .i64 a] w fun e w' => ∃ b, e = .returned (.pointer (some ⟨b, 0, none⟩)) ∧ w.heap.size ≤ b ∧ RAt w' b big (atN a) (.slice none 0 0) ∧ Below w.heap.size w w' := by
  go_enter Try.func12, Try.ntmps12
  go_wp2_with (go_at_call 40; refine (from_any _ _).mono ?_; rintro e w' ⟨rfl, rfl⟩)
  go_ret
  exact ⟨_, rfl, Nat.le_refl _, heap_alloc_new _ _, (Below.refl _ _).alloc (Nat.le_refl _) _⟩

set_option maxHeartbeats 400000 in
theorem rplace_any (b : Nat) (big : Bool) (a : Int) (ao : Option Addr) (L cap : Nat) (w : World) (h : RAt w b big a (.slice ao L cap)) (ha : 0 ≤ a) (ha2 : a ≤ 7) (hL : L ≤ 1000000000) :
    Calls Try.prog 16 #[.pointer (some ⟨b, 0, none⟩)] w fun e w' => e = .returned (.int .i64 (a + L)) ∧ ∃ n, w' = w.drewN n := by
  have c1 := h.c1
  have c2 := h.c2
  clear h
  go_enter Try.func16, Try.ntmps16
  go_wp2
  go_quiet (fail)
  go_wp2
  go_ret
  exact ⟨rfl, _, rfl⟩

set_option maxHeartbeats 400000 in
theorem rall_any (b : Nat) (big : Bool) (a : Int) (sv : Value) (out : List UInt8) (w : World) (h : RHolds w b big a sv out) :
    Calls Try.prog 18 #[.pointer (some ⟨b, 0, none⟩)] w fun e w' => e = .returned (.string ⟨out.toArray⟩) ∧ w = w' := by
  have hc := h.conv
  have c2 := h.1.c2
  obtain ⟨ao, cap, rfl⟩ := h.form
  clear h
  go_enter Try.func18, Try.ntmps18
  go_wp2
  go_ret
  exact ⟨rfl, rfl⟩

end Go.Proofs.Ytdklmeamhcgohaa
