/- The number's type: its cells; a number's variable. -/
import Derived.Test.YticbjhogdfpdkaaDoorM
namespace Go.Proofs.YticbjhogdfpdkaaDoor
set_option maxRecDepth 8000
open Go.RowKit Go.Shelf

/-- The cells of a number: its digits, its scale, its sign. -/
def nL (n : Nat) (s : Int) (b : Bool) : List Value := dL n ++ [.int .i64 s, .bool b]
def nC (n : Nat) (s : Int) (b : Bool) : Array Value := (nL n s b).toArray
theorem nL_len (n : Nat) (s : Int) (b : Bool) : (nL n s b).length = 130 := by rw [nL, List.length_append, dL_len]; rfl
theorem nC_size (n : Nat) (s : Int) (b : Bool) : (nC n s b).size = 130 := by rw [nC, List.size_toArray, nL_len]
theorem nC_dig (n : Nat) (s : Int) (b : Bool) {i : Nat} (h : i < 128) : (nC n s b)[i]? = some (.int .u8 (dig n i)) := by
  have := dC_at n h
  rw [nC, nL, List.getElem?_toArray, List.getElem?_append_left (by rw [dL_len]; exact h)]
  simpa only [dC, List.getElem?_toArray] using this
theorem nC_scale (n : Nat) (s : Int) (b : Bool) : (nC n s b)[128]? = some (.int .i64 s) := by
  rw [nC, nL, List.getElem?_toArray, List.getElem?_append_right (by rw [dL_len]; omega), dL_len]
  rfl
theorem nC_below (n : Nat) (s : Int) (b : Bool) : (nC n s b)[129]? = some (.bool b) := by
  rw [nC, nL, List.getElem?_toArray, List.getElem?_append_right (by rw [dL_len]; omega), dL_len]
  rfl
theorem nC_ext {n : Nat} {s : Int} {b : Bool} {c : Array Value} (h0 : c.size = 130) (h1 : ∀ i, i < 128 → c[i]? = some (.int .u8 (dig n i))) (h2 : c[128]? = some (.int .i64 s)) (h3 : c[129]? = some (.bool b)) : c = nC n s b := by
  apply Array.ext_getElem?
  intro i
  by_cases hi : i < 128
  · rw [h1 i hi, nC_dig n s b hi]
  · by_cases e1 : i = 128
    · subst e1; rw [h2, nC_scale]
    · by_cases e2 : i = 129
      · subst e2; rw [h3, nC_below]
      · rw [Array.getElem?_eq_none (by omega), Array.getElem?_eq_none (by rw [nC_size]; omega)]
theorem nC_one (n : Nat) (s : Int) (b : Bool) : (nC n s b).all (·.oneCell') = true := by
  refine Array.all_eq_true_iff_forall_mem.2 fun v hv => ?_
  simp only [nC, nL, dL, List.mem_toArray, List.mem_append, List.mem_map, List.mem_cons, List.not_mem_nil, or_false] at hv
  rcases hv with ⟨i, _, rfl⟩ | rfl | rfl <;> rfl
theorem zero45 : Tryd.zeroCells45 = nC 0 0 false := by kernel_rfl
theorem size45 : (Tryd.prog.info? 45).map (·.size) = some 130 := by kernel_rfl
theorem under45 : ∃ fs, Tryd.prog.underlying 45 = some (.struct fs) := by
  have h : (match Tryd.prog.underlying 45 with | some (.struct _) => true | _ => false) = true := by kernel_rfl
  cases hq : Tryd.prog.underlying 45 with
  | none => rw [hq] at h; cases h
  | some d =>
    rw [hq] at h
    cases d with
    | struct fs => exact ⟨fs, rfl⟩
    | _ => cases h

/-- A block that holds a number. -/
def NumAt (W : World) (B n : Nat) (s : Int) (b : Bool) : Prop := W.heap[B]? = some (.cells (nC n s b) 45 (0, 0))
theorem NumAt.dig {W : World} {B n : Nat} {s : Int} {b : Bool} (h : NumAt W B n s b) : DigAt W B n := fun i hi => (cells_at h i).trans (nC_dig n s b hi)
theorem NumAt.scale {W : World} {B n : Nat} {s : Int} {b : Bool} (h : NumAt W B n s b) : W.cell? ⟨B, 128, none⟩ = some (.int .i64 s) := (cells_at h 128).trans (nC_scale n s b)
theorem NumAt.sign {W : World} {B n : Nat} {s : Int} {b : Bool} (h : NumAt W B n s b) : W.cell? ⟨B, 129, none⟩ = some (.bool b) := (cells_at h 129).trans (nC_below n s b)
theorem NumAt.below {W W' : World} {B n : Nat} {s : Int} {b : Bool} (h : NumAt W B n s b) (hb : Below W.heap.size W W') : NumAt W' B n s b := (hb.block _ (blk_lt h)).trans h
theorem NumAt.other {W : World} {B n : Nat} {s : Int} {b : Bool} (h : NumAt W B n s b) (a : Addr) (v : Value) (hne : B ≠ a.block) : NumAt (W.setCell a v) B n s b := (heap_setCell_other _ _ _ _ hne).trans h
theorem NumAt.setScale {W : World} {B n : Nat} {s t : Int} {b : Bool} (h : NumAt W B n s b) : NumAt (W.setCell ⟨B, 128, none⟩ (.int .i64 t)) B n t b := by
  have := heap_setCell_same W B 128 (nC n s b) 45 (.int .i64 t) h
  have e : (nC n s b).setIfInBounds 128 (.int .i64 t) = nC n t b := by
    refine nC_ext (by rw [Array.size_setIfInBounds, nC_size]) (fun i hi => ?_) ?_ ?_
    · rw [Array.getElem?_setIfInBounds_ne (by omega), nC_dig n s b hi]
    · rw [Array.getElem?_setIfInBounds_self_of_lt (by rw [nC_size]; omega)]
    · rw [Array.getElem?_setIfInBounds_ne (by omega), nC_below]
  rw [e] at this
  exact this
theorem NumAt.setSign {W : World} {B n : Nat} {s : Int} {b c : Bool} (h : NumAt W B n s b) : NumAt (W.setCell ⟨B, 129, none⟩ (.bool c)) B n s c := by
  have := heap_setCell_same W B 129 (nC n s b) 45 (.bool c) h
  have e : (nC n s b).setIfInBounds 129 (.bool c) = nC n s c := by
    refine nC_ext (by rw [Array.size_setIfInBounds, nC_size]) (fun i hi => ?_) ?_ ?_
    · rw [Array.getElem?_setIfInBounds_ne (by omega), nC_dig n s b hi]
    · rw [Array.getElem?_setIfInBounds_ne (by omega), nC_scale]
    · rw [Array.getElem?_setIfInBounds_self_of_lt (by rw [nC_size]; omega)]
  rw [e] at this
  exact this
theorem there_num {W : World} {B n : Nat} {s : Int} {b : Bool} (h : NumAt W B n s b) : W.there B 0 128 := fun j hj => by
  rw [Nat.zero_add]
  exact ⟨by rw [cells_at h j, nC_dig n s b hj]; rfl, frozen_at h j⟩
/-- Cells put into a row, one behind the other. -/
def putL (c : Array Value) : Nat → List Value → Array Value
  | _, [] => c
  | o, v :: r => putL (c.setIfInBounds o v) (o + 1) r
theorem putL_size : ∀ (l : List Value) (c : Array Value) (o : Nat), (putL c o l).size = c.size
  | [], _, _ => rfl
  | _ :: r, c, o => by rw [putL, putL_size r, Array.size_setIfInBounds]
theorem putL_at : ∀ (l : List Value) (c : Array Value) (o i : Nat), o + l.length ≤ c.size → (putL c o l)[i]? = if o ≤ i ∧ i < o + l.length then l[i - o]? else c[i]?
  | [], c, o, i, _ => by rw [if_neg (by simp only [List.length_nil]; omega)]; rfl
  | v :: r, c, o, i, h => by
    simp only [List.length_cons] at h ⊢
    rw [putL, putL_at r _ _ i (by rw [Array.size_setIfInBounds]; omega)]
    by_cases h1 : o + 1 ≤ i ∧ i < o + 1 + r.length
    · rw [if_pos h1, if_pos (by omega), show i - o = (i - (o + 1)) + 1 by omega, List.getElem?_cons_succ]
    · rw [if_neg h1]
      by_cases h2 : i = o
      · subst h2
        rw [if_pos (by omega), Nat.sub_self, Array.getElem?_setIfInBounds_self_of_lt (by omega)]
        rfl
      · rw [if_neg (by omega), Array.getElem?_setIfInBounds_ne (by omega)]
theorem setCells_putL (B : Nat) : ∀ (l : List Value) (o : Nat) (W : World) (c : Array Value) (t : TypeId), W.heap[B]? = some (.cells c t (0, 0)) → (W.setCells B o l).heap[B]? = some (.cells (putL c o l) t (0, 0))
  | [], _, _, _, _, h => h
  | v :: r, o, W, c, t, h => setCells_putL B r (o + 1) _ _ t (heap_setCell_same W B o c t v h)
theorem NumAt.setDig {W : World} {B n m : Nat} {s : Int} {b : Bool} (h : NumAt W B n s b) : NumAt (W.setCells B 0 (dL m)) B m s b := by
  have := setCells_putL B (dL m) 0 W _ 45 h
  have e : putL (nC n s b) 0 (dL m) = nC m s b := by
    have hs : 0 + (dL m).length ≤ (nC n s b).size := by rw [dL_len, nC_size]; omega
    refine nC_ext (by rw [putL_size, nC_size]) (fun i hi => ?_) ?_ ?_
    · rw [putL_at _ _ _ _ hs, if_pos (by rw [dL_len]; omega), Nat.sub_zero]
      have := dC_at m hi
      simpa only [dC, List.getElem?_toArray] using this
    · rw [putL_at _ _ _ _ hs, if_neg (by rw [dL_len]; omega), nC_scale]
    · rw [putL_at _ _ _ _ hs, if_neg (by rw [dL_len]; omega), nC_below]
  rw [e] at this
  exact this
theorem store_numdig {W : World} {B n m : Nat} {s : Int} {b : Bool} (h : NumAt W B n s b) : (storeVar 43 ⟨B, 0, none⟩ (.agg (dC m))).run Tryd.prog W = .ok () (W.setCells B 0 (dL m)) :=
  run_storeVar_mid W B 0 43 (dC m) (by rw [dC_size]; exact there_num h) (by rw [size43, dC_size]) (dC_one m)
theorem load_num {W : World} {B n : Nat} {s : Int} {b : Bool} (h : NumAt W B n s b) : (loadVar 45 ⟨B, 0, none⟩).run Tryd.prog W = .ok (.agg (nC n s b)) W := by
  obtain ⟨fs, hu⟩ := under45
  exact run_loadVar_row W B 45 45 (nC n s b) (0, 0) _ h hu rfl (by rw [size45, nC_size])
theorem store_num {W : World} {B n m : Nat} {s t : Int} {b c : Bool} (h : NumAt W B n s b) : (storeVar 45 ⟨B, 0, none⟩ (.agg (nC m t c))).run Tryd.prog W = .ok () (W.setRow B (nC m t c)) :=
  run_storeVar_row W B 45 45 (nC n s b) (nC m t c) h (by rw [size45, nC_size]) (by rw [nC_size, nC_size]) (nC_one m t c)
theorem NumAt.put {W : World} {B n m : Nat} {s t : Int} {b c : Bool} (h : NumAt W B n s b) : NumAt (W.setRow B (nC m t c)) B m t c := setRow_heap W B (nC n s b) (nC m t c) 45 (0, 0) h
theorem NumAt.row {W : World} {B C n : Nat} {s : Int} {b : Bool} {cs : Array Value} (h : NumAt W B n s b) (hne : B ≠ C) : NumAt (W.setRow C cs) B n s b := (setRow_other W C B cs hne).trans h
theorem ret_num {fn : Func} {p : Tmp} {W : World} {R m : Nat} {s : Int} {b : Bool} {tmps : Array Value} (h : fn.results = #[.cell p 45]) (hp : tmps.getD p undef = .pointer (some ⟨R, 0, none⟩)) (hr : NumAt W R m s b) : (results fn tmps).run Tryd.prog W = .ok (.agg (nC m s b)) W := by
  obtain ⟨fs, hu⟩ := under45
  exact results_cell_row h tmps W R 45 (nC m s b) (0, 0) _ hp hr hu rfl (by rw [size45, nC_size])

end Go.Proofs.YticbjhogdfpdkaaDoor
