/- A row of one's own is a row: the slice's form, the policies in it. -/
import Derived.Test.YtladjkkkhomngaaDoorQ
namespace Go.Proofs.YtladjkkkhomngaaDoor
set_option maxRecDepth 8000
open Go.RowKit Go.Sort Go.BigFrame

theorem polCells_at : ∀ (l : List PolD) (i : Nat) (h : i < l.length), (polCells l)[i * 2]? = some (.int .i64 l[i].k) ∧ (polCells l)[i * 2 + 1]? = some (.int .i64 l[i].v)
  | [], i, h => absurd h (Nat.not_lt_zero i)
  | p :: r, 0, _ => by simp [polCells]
  | p :: r, i + 1, h => by
    have ih := polCells_at r i (by simpa using h)
    have e : polCells (p :: r) = [.int .i64 p.k, .int .i64 p.v] ++ polCells r := by simp [polCells]
    rw [e, show (i + 1) * 2 = i * 2 + 2 by omega, show i * 2 + 2 + 1 = (i * 2 + 1) + 2 by omega]
    simp only [List.cons_append, List.nil_append, List.getElem?_cons_succ, List.getElem_cons_succ]
    exact ih

theorem row_of_own {W : World} {base : Nat} {sv : Value} {l : List PolD} (h : W.ownsRow base 24 2 sv l.length (polCells l)) : ∃ ao cap, sv = .slice ao l.length cap ∧ RowAt W ao l := by
  match l, h with
  | [], h =>
    rcases h.2 with ⟨rfl, _⟩ | ⟨g, cap, _, rfl, _⟩
    · exact ⟨none, 0, rfl, .inl rfl⟩
    · exact ⟨some ⟨g, 0, none⟩, cap, rfl, .inl rfl⟩
  | p :: r, h =>
    obtain ⟨g, cap, rfl⟩ : ∃ g cap, sv = .slice (some ⟨g, 0, none⟩) (p :: r).length cap := by
      rcases h.2 with ⟨_, h0⟩ | ⟨g, cap, _, hv, _⟩
      · simp at h0
      · exact ⟨g, cap, hv⟩
    refine ⟨_, _, rfl, .inr ⟨g, 0, rfl, (h.lt g rfl).2, fun i hi => ?_⟩⟩
    have hc := h.cells (g := g) rfl
    obtain ⟨e0, e1⟩ := polCells_at (p :: r) i hi
    have a0 := hc _ _ e0
    have a1 := hc _ _ e1
    have hadd : ∀ j, (⟨g, 0, none⟩ : Addr).add j = ⟨g, 0 + j, none⟩ := fun j => by unfold Addr.add; split <;> simp_all
    rw [hadd] at a0 a1
    exact ⟨a0, by simpa [Nat.add_assoc] using a1⟩

end Go.Proofs.YtladjkkkhomngaaDoor
