/- The contract of policy.kept where it is called with policy.isPlain. -/
import Derived.Test.YtladjkkkhomngaaDoorI
import Derived.Laws.AppendOwn
import Derived.Maps.AppendAt
import Derived.OwnWalk
namespace Go.Proofs.YtladjkkkhomngaaDoor
set_option maxRecDepth 8000
open Go.RowKit Go.Sort Go.BigFrame

/-- What is not at its default among the first n policies. -/
def keptTo (l : List PolD) (n : Nat) : List PolD := (l.take n).filter fun p => plainP p.k p.v
/-- Policies as cells. -/
def polCells (l : List PolD) : List Value := l.flatMap fun p => [.int .i64 p.k, .int .i64 p.v]

theorem keptTo_zero (l : List PolD) : keptTo l 0 = [] := rfl
theorem keptTo_len (l : List PolD) (n : Nat) : (keptTo l n).length ≤ n := by
  unfold keptTo
  exact Nat.le_trans (List.length_filter_le _ _) (by rw [List.length_take]; omega)
theorem keptTo_yes {l : List PolD} {n : Nat} (h : n < l.length) (hp : plainP l[n].k l[n].v = true) : keptTo l (n + 1) = keptTo l n ++ [l[n]] := by
  unfold keptTo
  rw [List.take_succ_eq_append_getElem h, List.filter_append]
  simp [hp]
theorem keptTo_no {l : List PolD} {n : Nat} (h : n < l.length) (hp : plainP l[n].k l[n].v = false) : keptTo l (n + 1) = keptTo l n := by
  unfold keptTo
  rw [List.take_succ_eq_append_getElem h, List.filter_append]
  simp [hp]
theorem polCells_snoc (l : List PolD) (p : PolD) : polCells (l ++ [p]) = polCells l ++ [.int .i64 p.k, .int .i64 p.v] := by simp [polCells]

theorem cell_pol_new {W : World} {b : Nat} {k v : Int} (h : W.heap[b]? = some (polO k v)) : ∀ (j : Nat) (u : Value), [Value.int .i64 k, Value.int .i64 v][j]? = some u → W.cell? ((⟨b, 0, none⟩ : Addr).add j) = some u := by
  intro j u hu
  match j, hu with
  | 0, hu =>
    obtain rfl : Value.int .i64 k = u := by simpa using hu
    exact pol_c0 h
  | 1, hu =>
    obtain rfl : Value.int .i64 v = u := by simpa using hu
    exact pol_c1 h

theorem belowGrown {W W' : World} (h : Below W.heap.size W W') : W.grownBy W' none := ⟨h.os, h.tape, h.output, h.size, fun k hk _ => h.block k hk⟩

end Go.Proofs.YtladjkkkhomngaaDoor
