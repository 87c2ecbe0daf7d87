/- Which messages were met. -/
import Derived.Test.YteblbpdpfegooaaWd
import Derived.OwnWalk
namespace Go.Proofs.Yteblbpdpfegooaa
open Go.RowKit Go.Sort

/-- Which numbers were met: in a block of its own. -/
structure MtI (wm wr : World) (g n : Nat) (A : List Int) (k : Nat) : Prop where
  below : Below wm.heap.size wm wr
  new : wm.heap.size ≤ g
  row : ∀ j, j < n → wr.cell? ⟨g, j, none⟩ = some (.bool (decide (((j : Int) + 1) ∈ A.take k)))
  live : ∀ j, j < n → wr.frozen? ⟨g, j, none⟩ = false

theorem info4 : (Try.prog.info? 4).map (fun i => (i.zero, i.size, i.bytes)) = some (some (.bool false), 1, 1) := by kernel_rfl
theorem under56 : Try.prog.underlying 56 = some (.slice 4) := by kernel_rfl

theorem MtI.start {wm wr : World} {n : Nat} {A : List Int} (ho : wr.ownsRow wm.heap.size 4 1 (.slice (some ⟨wm.heap.size, 0, none⟩) n n) n (madeCells (Value.bool false).cells (n * 1)).toList) (hg : wm.grownBy wr none) : MtI wm wr wm.heap.size n A 0 := by
  refine ⟨⟨hg.os, hg.tape, hg.output, hg.size, fun k hk => hg.block k hk (by simp)⟩, Nat.le_refl _, fun j hj => ?_, fun j hj => ?_⟩
  · have hc := ho.cells (g := wm.heap.size) rfl j (.bool false) (by
      rw [List.getElem?_eq_getElem (by simp [madeCells]; omega)]
      simp [madeCells, Value.cells, Nat.mod_one])
    rw [add_none, Nat.zero_add] at hc
    rw [hc]
    simp
  · rcases ho.2 with ⟨h, _⟩ | ⟨g, cap, cur, hv, _, hgg, _⟩
    · cases h
    · simp only [Value.slice.injEq, Option.some.injEq, Addr.mk.injEq] at hv
      obtain ⟨⟨rfl, _⟩, _⟩ := hv
      simp [World.frozen?, hgg]

theorem MtI.set {wm wr : World} {g n : Nat} {A : List Int} {k j : Nat} (h : MtI wm wr g n A k) (hk : k < A.length) (hj : j < n) (e : A[k] = (j : Int) + 1) : MtI wm (wr.setCell ⟨g, j, none⟩ (.bool true)) g n A (k + 1) := by
  refine ⟨h.below.setCell h.new _, h.new, fun i hi => ?_, fun i hi => by simpa using h.live i hi⟩
  by_cases hij : j = i
  · subst hij
    rw [World.cell?_setCell_same _ _ _ (h.row j hj), List.take_succ_eq_append_getElem hk, e]
    simp
  · rw [World.cell?_setCell_other _ _ _ _ (fun x => hij (by injection x)), h.row i hi, List.take_succ_eq_append_getElem hk, e]
    congr 2
    refine decide_eq_decide.2 ⟨fun x => List.mem_append_left _ x, fun x => ?_⟩
    rcases List.mem_append.1 x with x | x
    · exact x
    · exact absurd (List.mem_singleton.1 x) (by omega)

theorem MtI.later {wm wr wx : World} {g n : Nat} {A : List Int} {k : Nat} (h : MtI wm wr g n A k) (hb : Below wr.heap.size wr wx) (hg : g < wr.heap.size) : MtI wm wx g n A k :=
  ⟨h.below.trans (hb.mono h.below.size), h.new, fun j hj => (hb.cell hg).trans (h.row j hj), fun j hj => (World.frozen?_of_block (a := ⟨g, j, none⟩) (hb.block g hg)).trans (h.live j hj)⟩

theorem not_met {A : List Int} (h : A.Nodup) {k : Nat} (hk : k < A.length) : A[k] ∉ A.take k := fun hm => by
  obtain ⟨i, hi, e⟩ := List.getElem_of_mem hm
  rw [List.getElem_take] at e
  have hik : i < k := by have := hi; rw [List.length_take] at this; omega
  have := List.pairwise_iff_getElem.1 h i k (by omega) hk hik
  exact this e

end Go.Proofs.Yteblbpdpfegooaa
