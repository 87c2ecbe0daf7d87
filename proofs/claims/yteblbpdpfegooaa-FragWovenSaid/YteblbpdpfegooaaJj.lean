/- The joiner's map in memory: what an entry reads as; a body's row, and what append makes of it. -/
import Derived.Test.YteblbpdpfegooaaJi
import Derived.Maps.OwnSet
import Derived.Lib.AppendStr
import Derived.Laws.IdiomStrings
namespace Go.Proofs.Yteblbpdpfegooaa
open Go.RowKit Go.Sort Go.BigFrame Go.Maps

/-- An entry's value, and what it reads as. -/
def msgV (g n cap : Nat) (p : Int) : Value := .agg #[.slice (some ⟨g, 0, none⟩) n cap, .int .i64 p]
def msgD (g n cap : Nat) (p : Int) : DataW Unit := .agg [.lit (.int .i64 g), .lit (.int .i64 n), .lit (.int .i64 cap), .lit (.int .i64 p)]
def msg0 : Value := .agg #[.slice none 0 0, .int .i64 0]
def msgE (v : Value) : Option (DataW Unit × List MemPlace) :=
  match v with
  | .agg ⟨[.slice (some ⟨g, 0, none⟩) n cap, .int .i64 p]⟩ => some (msgD g n cap p, [])
  | .agg ⟨[.slice none 0 0, .int .i64 0]⟩ => some (.agg [], [])
  | _ => none

theorem msgE_mk (g n cap : Nat) (p : Int) : msgE (msgV g n cap p) = some (msgD g n cap p, []) := rfl
theorem msgE_zero : msgE msg0 = some (.agg [], []) := rfl
theorem msgE_inv {v : Value} {g n cap : Nat} {p : Int} {ps : List MemPlace} (h : msgE v = some (msgD g n cap p, ps)) : v = msgV g n cap p := by
  unfold msgE at h
  split at h
  · rename_i g' n' cap' p'
    simp only [msgD, Option.some.injEq, Prod.mk.injEq, DataW.agg.injEq, List.cons.injEq, DataW.lit.injEq, Lit.int.injEq, and_true, true_and] at h
    obtain ⟨⟨h1, h2, h3, h4⟩, _⟩ := h
    rw [show g' = g by omega, show n' = n by omega, show cap' = cap by omega, h4]
    rfl
  · simp [msgD] at h
  · cases h
theorem msgE_inv0 {v : Value} {ps : List MemPlace} (h : msgE v = some (.agg [], ps)) : v = msg0 := by
  unfold msgE at h
  split at h
  · simp [msgD] at h
  · rfl
  · cases h

theorem zero66 (w : World) : (zeroValue 66).run Try.prog w = .ok msg0 w := by kernel_rfl
theorem key3 : Keyed Try.prog 3 := int_keyed Try.underlying3
theorem wf_num {i : Int} (h : numB i = true) : (Lit.int .i64 i).wf = true := by
  unfold numB at h
  simp only [Bool.and_eq_true, decide_eq_true_eq] at h
  exact WalkArith.wf_i64 (by omega)
theorem keyOf_num {i : Int} (h : numB i = true) : keyOf Try.prog 3 (.int .i64 i) = some (.int .i64 i) := keyOf_int_mk Try.underlying3 (wf_num h)
theorem under58 : Try.prog.underlying 58 = some (.map 3 66) := by kernel_rfl
theorem keyLit (i : Int) : WideAt.IsKeyLit (.int .i64 i) := trivial

/-- Bytes lie in block g, from its beginning on; behind them a slice of that capacity has cells of its own, or no room. -/
def RowM (w : World) (g cap : Nat) (s : ByteArray) : Prop :=
  ∃ cur fr, w.heap[g]? = some (.cells cur 5 fr) ∧ s.size ≤ cap ∧ cap ≤ maxLen ∧ cur.toList.take s.size = Lib.strCells s ∧ (cap = s.size ∨ (fr = (0, 0) ∧ cur.size = cap))

theorem RowM.keep {w w' : World} {g cap : Nat} {s : ByteArray} (h : RowM w g cap s) (hb : w'.heap[g]? = w.heap[g]?) : RowM w' g cap s := by
  obtain ⟨cur, fr, h1, rest⟩ := h
  exact ⟨cur, fr, hb.trans h1, rest⟩

theorem RowM.lt {w : World} {g cap : Nat} {s : ByteArray} (h : RowM w g cap s) : g < w.heap.size := by
  obtain ⟨cur, fr, h1, _⟩ := h
  exact (Array.getElem?_eq_some_iff.1 h1).1

theorem RowM.cell {w : World} {g cap : Nat} {s : ByteArray} (h : RowM w g cap s) {j : Nat} {u : Value} (hu : (Lib.strCells s)[j]? = some u) : w.cell? ⟨g, j, none⟩ = some u := by
  obtain ⟨cur, fr, h1, _, _, h4, _⟩ := h
  have hj : j < s.size := by rw [← Lib.strCells_length]; exact (List.getElem?_eq_some_iff.1 hu).1
  rw [← h4, List.getElem?_take_of_lt hj] at hu
  simp [World.cell?, h1]
  simpa using hu

theorem RowM.text {w : World} {g cap : Nat} {s : ByteArray} (h : RowM w g cap s) : (convert 64 9 (.slice (some ⟨g, 0, none⟩) s.size cap)).run Try.prog w = .ok (.string s) w := by
  have h1 := run_convert_bytes_back w 64 9 5 ⟨g, 0, none⟩ cap s.data.toList Try.underlying64 Try.underlying5 Try.underlying9 fun j hj => by
    rw [add_none, Nat.zero_add]
    refine h.cell ?_
    rw [Lib.strCells, List.getElem?_map, List.getElem?_eq_getElem hj]
    rfl
  have h2 : s.data.toList.length = s.size := by rw [Array.length_toList]; rfl
  rw [h2] at h1
  exact h1

theorem strCells_append (s t : ByteArray) : Lib.strCells (s ++ t) = Lib.strCells s ++ Lib.strCells t := by
  simp [Lib.strCells, ByteArray.data_append]

theorem info5 : (Try.prog.info? 5).map (fun i => (i.zero, i.size, i.bytes)) = some (some (.int .u8 0), 1, 1) := by kernel_rfl

/-- 'append(body, s...)'. -/
theorem run_grow (w : World) (g cap : Nat) (b s : ByteArray) (h : RowM w g cap b) (hs : 0 < s.size) (hz : b.size + s.size ≤ 1000000) (ty : TypeId) :
    ∃ g' cap' w', (Builtin.append_ #[64, 9] ty #[.slice (some ⟨g, 0, none⟩) b.size cap, .string s]).run Try.prog w = .ok (.slice (some ⟨g', 0, none⟩) (b.size + s.size) cap') w' ∧ RowM w' g' cap' (b ++ s) ∧ w.grownBy w' (some g) ∧ (g' = g ∨ g' = w.heap.size) := by
  obtain ⟨i0, hi, hz0, hz1, hz2⟩ := info_parts info5
  obtain ⟨cur, fr, h1, h2, h3, h4, h5⟩ := h
  by_cases hroom : b.size + s.size ≤ cap
  · have h6 : fr = (0, 0) ∧ cur.size = cap := h5.elim (fun e => by omega) id
    obtain ⟨rfl, h7⟩ := h6
    refine ⟨g, cap, _, Lib.run_append_room_string (P := Try.prog) w 64 9 ty 5 i0 Try.underlying64 Try.underlying9 hi hz1 g b.size cap cur h1 s hroom (by omega), ⟨_, _, setRow_heap w g cur _ 5 (0, 0) h1, by rw [ByteArray.size_append]; exact hroom, h3, ?_, .inr ⟨rfl, ?_⟩⟩, ⟨rfl, rfl, rfl, by simp, fun k _ hk => setRow_other w g k _ (fun e => hk (by rw [e]))⟩, .inl rfl⟩
    · rw [h4, strCells_append, ByteArray.size_append]
      have hl : (Lib.strCells b ++ Lib.strCells s).length = b.size + s.size := by rw [List.length_append, Lib.strCells_length, Lib.strCells_length]
      rw [← hl]
      exact List.take_left
    · simp only [List.size_toArray, List.length_append, List.length_take, List.length_drop, Array.length_toList, Lib.strCells_length]
      omega
  · have holds : ∀ j u, (Lib.strCells b)[j]? = some u → w.cell? ((⟨g, 0, none⟩ : Addr).add j) = some u := fun j u hu => by
      rw [add_none, Nat.zero_add]
      exact RowM.cell ⟨cur, fr, h1, h2, h3, h4, h5⟩ hu
    have hr := Lib.run_append_grow_string (P := Try.prog) w 64 9 ty 5 i0 (.int .u8 0) Try.underlying64 Try.underlying9 hi hz0 ⟨g, 0, none⟩ b.size cap (Lib.strCells b) (by rw [hz1, Lib.strCells_length]; omega) holds s (by omega) (by omega) (by rw [hz2]; exact growslice_fits (by omega) (by omega))
    refine ⟨w.heap.size, _, _, hr, ⟨_, _, heap_alloc_new w.drew _, ?_, ?_, ?_, .inr ⟨rfl, ?_⟩⟩, ⟨rfl, rfl, rfl, by simp, fun k hk _ => Below.heap_alloc w.drew _ k hk⟩, .inr rfl⟩
    · rw [ByteArray.size_append]; exact grownCap_ge w _ _ _
    · exact grownCap_le_maxLen w _ _ _ (by unfold maxLen; omega)
    · rw [strCells_append]
      have hl : (Lib.strCells b ++ Lib.strCells s).length = (b ++ s).size := by rw [List.length_append, Lib.strCells_length, Lib.strCells_length, ByteArray.size_append]
      simp only [Array.toList_append, List.append_assoc]
      rw [← List.append_assoc, ← hl]
      exact List.take_left
    · have hge := grownCap_ge w (b.size + s.size) cap 5
      have hz9 : (Value.int IntKind.u8 0).cells.size = 1 := rfl
      simp only [Array.size_append, List.size_toArray, size_zeroCells, hz9, Lib.strCells_length]
      omega

end Go.Proofs.Yteblbpdpfegooaa
