/-
  PROVED HERE: copy of the head of a text over a row of bytes.
-/
import Derived.Test.YtdklmeamhcgohaaFb
import Derived.Test.YtdklmeamhcgohaaJ
import Derived.Laws.IdiomCopy
namespace Go.Proofs.Ytdklmeamhcgohaa
open Go.RowKit

theorem run_copy_head {P : Program} (w : World) (dT sT ty elem : TypeId) (b dLen dCap : Nat) (t : ByteArray)
    (hu : P.underlying dT = some (.slice elem)) (hz : ∀ w, (Go.sizeOf elem).run P w = .ok 1 w) (hle : dLen ≤ t.size)
    (hc : ∀ j, j < dLen → (w.cell? ⟨b, 0 + j, none⟩).isSome = true) (hf : ∀ j, j < dLen → w.frozen? ⟨b, 0 + j, none⟩ = false) :
    (Builtin.copy_ #[dT, sT] ty #[.slice (some ⟨b, 0, none⟩) dLen dCap, .string t]).run P w = .ok (goInt dLen) (w.setCells b 0 (bcells ((bytesOf t).take dLen))) := by
  have hmin : Nat.min t.size dLen = dLen := Nat.min_eq_right hle
  have hl : (bcells ((bytesOf t).take dLen)).length = dLen := by rw [bcells_length, List.length_take, bytesOf_length]; omega
  have hst := run_storeCells_cells (P := P) b 0 (bcells ((bytesOf t).take dLen)) 0 w (by rw [hl]; simpa using hc) (by rw [hl]; simpa using hf) (by
    intro v hv
    obtain ⟨x, _, rfl⟩ := List.mem_map.1 hv
    rfl)
  simp [Builtin.copy_, run_underlying hu, Builtin.lenOf, Builtin.firstCells, hz, hmin]
  rw [show List.take dLen (List.map (fun b => Value.int IntKind.u8 (b.toNat : Int)) t.data.toList) = bcells ((bytesOf t).take dLen) from by simp [bcells, bytesOf, List.map_take], hst]
  rfl

/-- .. as one operation. -/
theorem wp_copy_head {P : Program} {o : Oper} {a : Act} {w : World} {K : Act → World → Prop} {Q : Exit → Act → World → Prop} (d x : Operand) (dT sT : TypeId) (hop : o.op = Op.call { callee := Callee.builtin Builtin.copy, args := #[d, x], argTypes := #[dT, sT] })
    (elem : TypeId) (hu : P.underlying dT = some (.slice elem)) (hz : ∀ w, (Go.sizeOf elem).run P w = .ok 1 w)
    (b dLen dCap : Nat) (hd : a.eval d = .slice (some ⟨b, 0, none⟩) dLen dCap) (t : ByteArray) (hx : a.eval x = .string t) (hle : dLen ≤ t.size)
    (hc : ∀ j, j < dLen → (w.cell? ⟨b, 0 + j, none⟩).isSome = true) (hf : ∀ j, j < dLen → w.frozen? ⟨b, 0 + j, none⟩ = false)
    (hK : K (a.put o.dst (goInt dLen)) (w.setCells b 0 (bcells ((bytesOf t).take dLen)))) : Oper.wp P o a w K Q := by
  have hrun := run_copy_head (P := P) w dT sT o.type elem b dLen dCap t hu hz hle hc hf
  unfold Oper.wp
  simp only [execOp, hop, resolve, invoke, builtin, Sem.run_bind, Sem.run_pure, Result.andThen_ok, List.map_toArray, List.map_cons, List.map_nil, hd, hx, hrun]
  exact hK

/-- .. for the walk. -/
theorem wpList_copy_head {P : Program} {ops : Array Oper} {rest : List Oper} {o : Oper} {act : Act} {Q : Exit → Act → World → Prop} {w : World} (hgd : o.guard = none) (d x : Operand) (dT sT : TypeId) (hop : o.op = Op.call { callee := Callee.builtin Builtin.copy, args := #[d, x], argTypes := #[dT, sT] })
    (elem : TypeId) (hu : P.underlying dT = some (.slice elem)) (hz : ∀ w, (Go.sizeOf elem).run P w = .ok 1 w)
    (b dLen dCap : Nat) (hd : act.eval d = .slice (some ⟨b, 0, none⟩) dLen dCap) (t : ByteArray) (hx : act.eval x = .string t) (hle : dLen ≤ t.size)
    (hc : ∀ j, j < dLen → (w.cell? ⟨b, 0 + j, none⟩).isSome = true) (hf : ∀ j, j < dLen → w.frozen? ⟨b, 0 + j, none⟩ = false)
    (h : wpList P ops Q rest (act.put o.dst (goInt dLen)) (w.setCells b 0 (bcells ((bytesOf t).take dLen)))) : wpList P ops Q (o :: rest) act w := by
  refine wpList_plain hgd fun K hK => ?_
  exact wp_copy_head d x dT sT hop elem hu hz b dLen dCap hd t hx hle hc hf (hK _ _ h)

theorem below_over {B g : Nat} {W0 : World} (hB : B ≤ g) : ∀ (vs : List Value) (o : Nat) (W : World), Below B W0 W → Below B W0 (W.setCells g o vs)
  | [], _, _, h => h
  | v :: r, o, _, h => below_over hB r (o + 1) _ (h.setCell (p := ⟨g, o, none⟩) hB v)

theorem RowAt.over {g : Nat} : ∀ (ys : List UInt8) (o : Nat) (W : World) (xs : List UInt8), RowAt W g xs → o + ys.length ≤ xs.length → RowAt (W.setCells g o (bcells ys)) g (xs.take o ++ ys ++ xs.drop (o + ys.length))
  | [], o, W, xs, h, _ => by
    have : xs.take o ++ [] ++ xs.drop (o + ([] : List UInt8).length) = xs := by simp
    rw [this]
    exact h
  | y :: r, o, W, xs, h, hl => by
    have hlt : o < xs.length := by simp at hl; omega
    have ih := RowAt.over r (o + 1) _ (xs.set o y) (h.store o y) (by simp at hl ⊢; omega)
    have e : (xs.set o y).take (o + 1) ++ r ++ (xs.set o y).drop (o + 1 + r.length) = xs.take o ++ (y :: r) ++ xs.drop (o + (y :: r).length) := by
      rw [List.drop_set_of_lt (by omega), List.take_succ_eq_append_getElem (by simpa using hlt), List.getElem_set_self, List.take_set_of_le (by omega)]
      simp
      congr 1
      omega
    rw [e] at ih
    exact ih

theorem Try.sizeOne5 : ∀ w, (Go.sizeOf 5).run Try.prog w = .ok 1 w := fun w => by
  obtain ⟨i0, hi, hz0, hz1, hz2⟩ := info_parts Try.info5
  simp [Go.sizeOf, typeInfo, hi, hz1]

end Go.Proofs.Ytdklmeamhcgohaa
