/- The contracts of both Clashes for every row: the pairs and the error are the same. -/
import Derived.Test.YtladjkkkhomngaaDoorU
namespace Go.Proofs.YtladjkkkhomngaaDoor
set_option maxRecDepth 8000
open Go.RowKit Go.Sort Go.BigFrame

/-- The pairs that clash in a row that is a set. -/
noncomputable def clL (l : List PolD) : List (Int × Int) := if okS l = true then clTo l 7 else []
/-- The error of a row that is looked at. -/
noncomputable def erS (l : List PolD) : Int := if okS l = true then 0 else 1

/-- A slice's address under which pairs lie. -/
def PairAt (W : World) (ao : Option Addr) (L : List (Int × Int)) : Prop := L = [] ∨ ∃ b off, ao = some ⟨b, off, none⟩ ∧ b < W.heap.size ∧ ∀ i (h : i < L.length), W.cell? ⟨b, off + i * 2, none⟩ = some (.int .i64 L[i].1) ∧ W.cell? ⟨b, off + i * 2 + 1, none⟩ = some (.int .i64 L[i].2)

theorem PairAt.below {W W' : World} {ao : Option Addr} {L : List (Int × Int)} (h : PairAt W ao L) (hb : Below W.heap.size W W') : PairAt W' ao L := by
  rcases h with h | ⟨b, off, h0, h1, h2⟩
  · exact .inl h
  · exact .inr ⟨b, off, h0, Nat.lt_of_lt_of_le h1 hb.size, fun i hi => ⟨(hb.cell h1).trans (h2 i hi).1, (hb.cell h1).trans (h2 i hi).2⟩⟩

theorem pairCells_at : ∀ (l : List (Int × Int)) (i : Nat) (h : i < l.length), (pairCells l)[i * 2]? = some (.int .i64 l[i].1) ∧ (pairCells l)[i * 2 + 1]? = some (.int .i64 l[i].2)
  | [], i, h => absurd h (Nat.not_lt_zero i)
  | p :: r, 0, _ => by simp [pairCells]
  | p :: r, i + 1, h => by
    have ih := pairCells_at r i (by simpa using h)
    have e : pairCells (p :: r) = [.int .i64 p.1, .int .i64 p.2] ++ pairCells r := by simp [pairCells]
    rw [e, show (i + 1) * 2 = i * 2 + 2 by omega, show i * 2 + 2 + 1 = (i * 2 + 1) + 2 by omega]
    simp only [List.cons_append, List.nil_append, List.getElem?_cons_succ, List.getElem_cons_succ]
    exact ih

theorem pair_of_own {W : World} {base : Nat} {sv : Value} {L : List (Int × Int)} (h : W.ownsRow base 48 2 sv L.length (pairCells L)) : ∃ ao cap, sv = .slice ao L.length cap ∧ PairAt W ao L := by
  match L, h with
  | [], h =>
    rcases h.2 with ⟨rfl, _⟩ | ⟨g, cap, _, rfl, _⟩
    · exact ⟨none, 0, rfl, .inl rfl⟩
    · exact ⟨some ⟨g, 0, none⟩, cap, rfl, .inl rfl⟩
  | p :: r, h =>
    obtain ⟨g, cap, rfl⟩ : ∃ g cap, sv = .slice (some ⟨g, 0, none⟩) (p :: r).length cap := by
      rcases h.2 with ⟨_, h0⟩ | ⟨g, cap, _, hv, _⟩
      · simp at h0
      · exact ⟨g, cap, hv⟩
    refine ⟨_, _, rfl, .inr ⟨g, 0, rfl, (h.lt g rfl).2, fun i hi => ?_⟩⟩
    have hc := h.cells (g := g) rfl
    obtain ⟨e0, e1⟩ := pairCells_at (p :: r) i hi
    have a0 := hc _ _ e0
    have a1 := hc _ _ e1
    have hadd : ∀ j, (⟨g, 0, none⟩ : Addr).add j = ⟨g, 0 + j, none⟩ := fun j => by unfold Addr.add; split <;> simp_all
    rw [hadd] at a0 a1
    exact ⟨a0, by simpa [Nat.add_assoc] using a1⟩

/-- What both Clashes leave. -/
def ClashPost (w : World) (l : List PolD) (e : Ending) (w' : World) : Prop :=
  ∃ ao cap, e = .returned (.tuple #[.slice ao (clL l).length cap, .int .i64 (erS l)]) ∧ PairAt w' ao (clL l) ∧ Below w.heap.size w w'

theorem clashPost_bad {w w' : World} {l : List PolD} {e : Ending} (hok : okS l = false) (he : e = .returned (.tuple #[.slice none 0 0, .int .i64 1])) (hb : Below w.heap.size w w') : ClashPost w l e w' := by
  have h1 : clL l = [] := by unfold clL; rw [if_neg (by rw [hok]; decide)]
  have h2 : erS l = 1 := by unfold erS; rw [if_neg (by rw [hok]; decide)]
  unfold ClashPost
  rw [h1, h2]
  exact ⟨none, 0, he, .inl rfl, hb⟩
theorem clashPost_set {w w' : World} {l : List PolD} {e : Ending} {sv : Value} (hok : okS l = true) (he : e = .returned (.tuple #[sv, .int .i64 0])) (ho : w'.ownsRow w.heap.size 48 2 sv (clTo l 7).length (pairCells (clTo l 7))) (hb : Below w.heap.size w w') : ClashPost w l e w' := by
  have h1 : clL l = clTo l 7 := by unfold clL; rw [if_pos hok]
  have h2 : erS l = 0 := by unfold erS; rw [if_pos hok]
  obtain ⟨ao, cap, rfl, hp⟩ := pair_of_own ho
  unfold ClashPost
  rw [h1, h2]
  exact ⟨ao, cap, he, hp, hb⟩

theorem clashes_all (ao : Option Addr) (cap : Nat) (l : List PolD) (w : World) (hS : SortsAt w) (h : RowAt w ao l) (hl : l.length ≤ 1000000) :
    Calls Tryd.prog 31 #[.slice ao l.length cap] w (ClashPost w l) := by
  cases hok : okS l
  · exact (clashes_bad ao cap l w hS h (by omega) hok).mono fun e w' ⟨he, hb⟩ => clashPost_bad hok he hb
  · exact (clashes_set ao cap l w hS h (by omega) hok).mono fun e w' ⟨sv, bt, he, hi⟩ => clashPost_set hok he hi.own hi.below

end Go.Proofs.YtladjkkkhomngaaDoor
