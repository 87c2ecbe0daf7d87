/- plus. -/
import Derived.Test.YticbjhogdfpdkaaDoorQ
namespace Go.Proofs.YticbjhogdfpdkaaDoor
set_option maxRecDepth 8000
open Go.RowKit Go.Shelf

/-- Between two steps of plus: both variables, the result's. -/
structure PlI (w : World) (n m : Nat) (s t : Int) (b c : Bool) (W : World) : Prop where
  a : NumAt W w.heap.size n s b
  b : NumAt W (w.heap.size + 1) m t c
  r : NumAt W (w.heap.size + 1 + 1) 0 0 false
  bl : Below w.heap.size w W
theorem PlI.later {w : World} {n m : Nat} {s t : Int} {b c : Bool} {W W' : World} (h : PlI w n m s t b c W) (hb : Below W.heap.size W W') : PlI w n m s t b c W' :=
  ⟨h.a.below hb, h.b.below hb, h.r.below hb, h.bl.trans (hb.mono h.bl.size)⟩
theorem PlI.puta {w : World} {n m n' : Nat} {s t s' : Int} {b c b' : Bool} {W : World} (h : PlI w n m s t b c W) : PlI w n' m s' t b' c (W.setRow w.heap.size (nC n' s' b')) :=
  ⟨h.a.put, h.b.row (by omega), h.r.row (by omega), below_row h.bl (by omega)⟩
theorem PlI.putb {w : World} {n m m' : Nat} {s t t' : Int} {b c c' : Bool} {W : World} (h : PlI w n m s t b c W) : PlI w n m' s t' b c' (W.setRow (w.heap.size + 1) (nC m' t' c')) :=
  ⟨h.a.row (by omega), h.b.put, h.r.row (by omega), below_row h.bl (by omega)⟩
theorem PlI.seta {w : World} {n m n' : Nat} {s t : Int} {b c : Bool} {W : World} (h : PlI w n m s t b c W) : PlI w n' m s t b c (W.setCells w.heap.size 0 (dL n')) :=
  ⟨h.a.setDig, (heap_setCells_other _ _ _ _ _ (by omega)).trans h.b, (heap_setCells_other _ _ _ _ _ (by omega)).trans h.r, below_setCells _ _ _ h.bl (by omega)⟩
theorem PlI.setbs {w : World} {n m : Nat} {s t : Int} {b c c' : Bool} {W : World} (h : PlI w n m s t b c W) : PlI w n m s t b c' (W.setCell ⟨w.heap.size + 1, 129, none⟩ (.bool c')) :=
  ⟨h.a.other _ _ (by simp only; omega), h.b.setSign, h.r.other _ _ (by simp only; omega), ⟨h.bl.os, h.bl.tape, h.bl.output, by simpa [World.setCell] using h.bl.size, fun j hj => (heap_setCell_other _ _ _ _ (by simp only; omega)).trans (h.bl.block j hj)⟩⟩
theorem PlI.start (w : World) (n m : Nat) (s t : Int) (b c : Bool) : PlI w n m s t b c (((w.alloc (.cells (nC n s b) 45)).alloc (.cells (nC m t c) 45)).alloc (.cells (nC 0 0 false) 45)) :=
  ⟨old_block _ _ _ _ (old_block _ _ _ _ (at_block _ _ _ rfl)), old_block _ _ _ _ (at_block _ _ _ (by simp)), at_block _ _ _ (by simp), (((Below.refl _ _).alloc (Nat.le_refl _) _).alloc (by simp) _).alloc (by simp; omega) _⟩

end Go.Proofs.YticbjhogdfpdkaaDoor
