/- Pack: its bytes. -/
import Derived.Test.YticbjhogdfpdkaaDoorZj
import Derived.Laws.MakeOwn
import Derived.Laws.OwnMore
import Derived.Laws.IdiomStrings
import Derived.Deep.OwnRows
namespace Go.Proofs.YticbjhogdfpdkaaDoor
set_option maxRecDepth 8000
open Go.RowKit Go.Shelf

/-- The half bytes, the least first: the sign, then the first i digits. -/
def half (n s i k : Nat) : Nat := if k = 0 then s else if k ≤ i then dig n (k - 1) else 0
/-- The byte at the index x, behind i digits. -/
def pbyte (n s H i x : Nat) : Nat := half n s i (2 * (H - x)) + 16 * half n s i (2 * (H - x) + 1)
def pkL (n s H i : Nat) : List Value := (List.range (H + 1)).map fun x => Value.int .u8 (pbyte n s H i x)
def pkC (n s H i : Nat) : Array Value := (pkL n s H i).toArray
theorem half_lt {n s i k : Nat} (hs : s < 16) : half n s i k < 16 := by
  unfold half
  have := dig_lt n (k - 1)
  split
  · exact hs
  · split <;> omega
theorem pbyte_lt {n s H i x : Nat} (hs : s < 16) : pbyte n s H i x < 256 := by
  unfold pbyte
  have h1 := half_lt (n := n) (i := i) (k := 2 * (H - x)) hs
  have h2 := half_lt (n := n) (i := i) (k := 2 * (H - x) + 1) hs
  omega
theorem pkC_size (n s H i : Nat) : (pkC n s H i).size = H + 1 := by simp [pkC, pkL]
theorem pkC_at (n s H i : Nat) {x : Nat} (h : x ≤ H) : (pkC n s H i)[x]? = some (.int .u8 (pbyte n s H i x)) := by
  have : x < H + 1 := by omega
  simp [pkC, pkL, this]
theorem pk_ext {c : Array Value} {n s H i : Nat} (h0 : c.size = H + 1) (h1 : ∀ x, x ≤ H → c[x]? = some (.int .u8 (pbyte n s H i x))) : c = pkC n s H i := by
  apply Array.ext_getElem?
  intro x
  by_cases hx : x ≤ H
  · rw [h1 x hx, pkC_at n s H i hx]
  · rw [Array.getElem?_eq_none (by omega), Array.getElem?_eq_none (by rw [pkC_size]; omega)]
theorem pk_zero (n s H : Nat) : (madeCells #[Value.int .u8 0] (H + 1)).setIfInBounds H (.int .u8 s) = pkC n s H 0 := by
  have hz : (madeCells #[Value.int .u8 0] (H + 1)).size = H + 1 := size_madeCells _ _
  refine pk_ext (by rw [Array.size_setIfInBounds, hz]) (fun x hx => ?_)
  by_cases h : x = H
  · subst h
    rw [Array.getElem?_setIfInBounds_self_of_lt (by rw [hz]; omega)]
    unfold pbyte half
    simp
  · rw [Array.getElem?_setIfInBounds_ne (by omega)]
    have e : pbyte n s H 0 x = 0 := by
      unfold pbyte half
      rw [if_neg (by omega), if_neg (by omega), if_neg (by omega), if_neg (by omega)]
    rw [e, ← Array.getElem?_toList]
    have : x < H + 1 := by omega
    simp [madeCells, Nat.mod_one, this]
/-- The byte that a digit changes. -/
theorem pk_step (n s H i : Nat) (v : Nat) (hi : (i + 1) / 2 ≤ H) (hv : v = pbyte n s H (i + 1) (H - (i + 1) / 2)) : (pkC n s H i).setIfInBounds (H - (i + 1) / 2) (.int .u8 v) = pkC n s H (i + 1) := by
  refine pk_ext (by rw [Array.size_setIfInBounds, pkC_size]) (fun x hx => ?_)
  by_cases h : H - (i + 1) / 2 = x
  · subst h
    rw [Array.getElem?_setIfInBounds_self_of_lt (by rw [pkC_size]; omega), hv]
  · rw [Array.getElem?_setIfInBounds_ne h, pkC_at n s H i hx]
    congr 3
    have key : ∀ k, k ≠ i + 1 → half n s i k = half n s (i + 1) k := fun k hk => by
      unfold half
      by_cases h0 : k = 0
      · rw [if_pos h0, if_pos h0]
      · rw [if_neg h0, if_neg h0]
        by_cases h1 : k ≤ i
        · rw [if_pos h1, if_pos (by omega)]
        · rw [if_neg h1, if_neg (by omega)]
    unfold pbyte
    rw [key _ (by omega), key _ (by omega)]
theorem pk_old (n s H i : Nat) (hi : (i + 1) / 2 ≤ H) : pbyte n s H i (H - (i + 1) / 2) = if (i + 1) % 2 = 0 then 0 else half n s i i := by
  unfold pbyte
  rw [show H - (H - (i + 1) / 2) = (i + 1) / 2 by omega]
  split
  · rename_i h
    unfold half
    rw [if_neg (by omega), if_neg (by omega), if_neg (by omega), if_neg (by omega)]
  · rename_i h
    rw [show 2 * ((i + 1) / 2) = i by omega]
    have : half n s i (i + 1) = 0 := by unfold half; rw [if_neg (by omega), if_neg (by omega)]
    rw [this]
    rfl
theorem pk_new (n s H i : Nat) (hi : (i + 1) / 2 ≤ H) : pbyte n s H (i + 1) (H - (i + 1) / 2) = if (i + 1) % 2 = 0 then dig n i else half n s i i + 16 * dig n i := by
  unfold pbyte
  rw [show H - (H - (i + 1) / 2) = (i + 1) / 2 by omega]
  split
  · rename_i h
    rw [show 2 * ((i + 1) / 2) = i + 1 by omega]
    unfold half
    rw [if_neg (by omega), if_pos (by omega), if_neg (by omega), if_neg (by omega)]
    rfl
  · rename_i h
    rw [show 2 * ((i + 1) / 2) = i by omega]
    unfold half
    rw [if_neg (show ¬ i + 1 = 0 by omega), if_pos (Nat.le_refl _)]
    congr 1
    by_cases h0 : i = 0
    · rw [if_pos h0, if_pos h0]
    · rw [if_neg h0, if_neg h0, if_pos (by omega), if_pos (by omega)]

/-- Between two digits: the number, the row. -/
structure PkI (w : World) (p g n : Nat) (S : Int) (b : Bool) (s H i : Nat) (W : World) : Prop where
  a : NumAt W p n S b
  r : W.heap[g]? = some (.cells (pkC n s H i) 5 (0, 0))
  ne : p ≠ g
  lo : w.heap.size ≤ g
  bl : Below w.heap.size w W
theorem PkI.step {w : World} {p g n : Nat} {S : Int} {b : Bool} {s H i : Nat} {W : World} (h : PkI w p g n S b s H i W) (v : Nat) (hi : (i + 1) / 2 ≤ H) (hv : v = pbyte n s H (i + 1) (H - (i + 1) / 2)) : PkI w p g n S b s H (i + 1) (W.setCell ⟨g, H - (i + 1) / 2, none⟩ (.int .u8 v)) :=
  ⟨h.a.other _ _ h.ne, by
    have := heap_setCell_same W g (H - (i + 1) / 2) (pkC n s H i) 5 (.int .u8 v) h.r
    rw [this, pk_step n s H i v hi hv], h.ne, h.lo, ⟨h.bl.os, h.bl.tape, h.bl.output, by simpa [World.setCell] using h.bl.size, fun j hj => (heap_setCell_other _ _ _ _ (by have := h.lo; simp only; omega)).trans (h.bl.block j hj)⟩⟩

end Go.Proofs.YticbjhogdfpdkaaDoor
