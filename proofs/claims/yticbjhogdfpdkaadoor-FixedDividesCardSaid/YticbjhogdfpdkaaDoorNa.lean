/- A number is built of its parts. -/
import Derived.Test.YticbjhogdfpdkaaDoorN
namespace Go.Proofs.YticbjhogdfpdkaaDoor
set_option maxRecDepth 8000
open Go.RowKit Go.Shelf

theorem foldl_putL (off : Nat) : ∀ (l : List Value) (c : Array Value) (k : Nat), (l.zipIdx k).foldl (fun cs (p : Value × Nat) => cs.setIfInBounds (off + p.2) p.1) c = putL c (off + k) l
  | [], _, _ => rfl
  | v :: r, c, k => by
    rw [List.zipIdx_cons, List.foldl_cons, foldl_putL off r _ (k + 1)]
    rfl
theorem fold_putL (off : Nat) (l c : Array Value) : l.zipIdx.foldl (fun cs (p : Value × Nat) => cs.setIfInBounds (off + p.2) p.1) c = putL c off l.toList := by
  rw [← Array.foldl_toList, Array.toList_zipIdx, foldl_putL]
  rfl
theorem parts45 : (match Tryd.prog.info? 45, Tryd.prog.underlying 45 with
    | some it, some (.struct fs) => (match it.zero, fs.toList.mapM (fun f => (Tryd.prog.info? f.type).map fun i => (f.offset, i.size)) with
      | some z, some places => some (z.cells, places)
      | _, _ => none)
    | _, _ => none) = some (nC 0 0 false, [(0, 128), (128, 1), (129, 1)]) := by kernel_rfl
theorem fill45 (n : Nat) (s : Int) (b : Bool) : Instr.fill (fun x => ([(0, 128), (128, 1), (129, 1)] : List (Nat × Nat)).toArray[x]?) (nC 0 0 false) [(0, .agg (dC n)), (1, .int .i64 s), (2, .bool b)] = some (nC n s b) := by
  have e : ((putL (nC 0 0 false) 0 (dL n)).setIfInBounds 128 (.int .i64 s)).setIfInBounds 129 (.bool b) = nC n s b := by
    have hs : 0 + (dL n).length ≤ (nC 0 0 false).size := by rw [dL_len, nC_size]; omega
    refine nC_ext (by rw [Array.size_setIfInBounds, Array.size_setIfInBounds, putL_size, nC_size]) (fun i hi => ?_) ?_ ?_
    · rw [Array.getElem?_setIfInBounds_ne (by omega), Array.getElem?_setIfInBounds_ne (by omega), putL_at _ _ _ _ hs, if_pos (by rw [dL_len]; omega), Nat.sub_zero]
      have := dC_at n hi
      simpa only [dC, List.getElem?_toArray] using this
    · rw [Array.getElem?_setIfInBounds_ne (by omega), Array.getElem?_setIfInBounds_self_of_lt (by rw [putL_size, nC_size]; omega)]
    · rw [Array.getElem?_setIfInBounds_self_of_lt (by rw [Array.size_setIfInBounds, putL_size, nC_size]; omega)]
  have p0 : (([(0, 128), (128, 1), (129, 1)] : List (Nat × Nat)).toArray)[0]? = some (0, 128) := rfl
  have p1 : (([(0, 128), (128, 1), (129, 1)] : List (Nat × Nat)).toArray)[1]? = some (128, 1) := rfl
  have p2 : (([(0, 128), (128, 1), (129, 1)] : List (Nat × Nat)).toArray)[2]? = some (129, 1) := rfl
  have c0 : (Value.agg (dC n)).cells = dC n := rfl
  have c1 : (Value.int .i64 s).cells = #[.int .i64 s] := rfl
  have c2 : (Value.bool b).cells = #[.bool b] := rfl
  have f0 : (dC n).toList = dL n := rfl
  simp only [Instr.fill, p0, p1, p2, c0, c1, c2, fold_putL, f0, putL, putL_size, Array.size_setIfInBounds, nC_size, dC_size, e, List.size_toArray, List.length_cons, List.length_nil]
  simp
theorem built45 (n : Nat) (s : Int) (b : Bool) : Tryd.prog.built 45 [(0, .agg (dC n)), (1, .int .i64 s), (2, .bool b)] = some (nC n s b) := by
  have h := parts45
  have hf := fill45 n s b
  unfold Program.built
  revert h
  cases Tryd.prog.info? 45 with
  | none => intro h; cases h
  | some it =>
    cases Tryd.prog.underlying 45 with
    | none => intro h; cases h
    | some d =>
      cases d with
      | struct fs =>
        intro h
        dsimp only at h ⊢
        revert h
        cases it.zero with
        | none => intro h; cases h
        | some z =>
          cases fs.toList.mapM (fun f => (Tryd.prog.info? f.type).map fun i => (f.offset, i.size)) with
          | none => intro h; cases h
          | some places =>
            intro h
            have h' := Option.some.inj h
            rw [Prod.mk.injEq] at h'
            obtain ⟨h1, rfl⟩ := h'
            dsimp only
            rw [h1]
            exact hf
      | _ => intro h; cases h

end Go.Proofs.YticbjhogdfpdkaaDoor
