/- The contracts of policy.Effective and policy.Over. -/
import Derived.Test.YtladjkkkhomngaaDoorTc
import Derived.Test.YtladjkkkhomngaaDoorTd
namespace Go.Proofs.YtladjkkkhomngaaDoor
set_option maxRecDepth 8000
open Go.RowKit Go.Sort Go.BigFrame

/-- A slice of policies. -/
structure SlD where
  a : Option Addr
  l : List PolD
  c : Nat
def SlD.v (d : SlD) : Value := .slice d.a d.l.length d.c
/-- .. that lies in memory. -/
structure SlD.Ok (W : World) (d : SlD) : Prop where
  len : d.l.length ≤ d.c
  row : RowAt W d.a d.l
  bare : d.a = none → d.l = [] ∧ d.c = 0
theorem SlD.Ok.below {W W' : World} {d : SlD} (h : d.Ok W) (hb : Below W.heap.size W W') : d.Ok W' := ⟨h.len, h.row.below hb, h.bare⟩
theorem SlD.Ok.lt {W : World} {d : SlD} (h : d.Ok W) : SlLt W.heap.size W d.v d.l := ⟨_, _, rfl, h.len, h.row⟩
theorem sl_of_own {W : World} {base : Nat} {sv : Value} {l : List PolD} (h : W.ownsRow base 24 2 sv l.length (polCells l)) : ∃ d : SlD, d.l = l ∧ sv = d.v ∧ d.Ok W := by
  obtain ⟨ao, cap, rfl, hr⟩ := row_of_own h
  refine ⟨⟨ao, l, cap⟩, rfl, rfl, ?_⟩
  rcases h.2 with ⟨h1, h2⟩ | ⟨g, cap', cur, h1, _, _, h2, _⟩
  · simp only [Value.slice.injEq] at h1
    obtain ⟨_, _, rfl⟩ := h1
    exact ⟨by simp [h2], hr, fun _ => ⟨List.eq_nil_of_length_eq_zero h2, rfl⟩⟩
  · simp only [Value.slice.injEq] at h1
    obtain ⟨rfl, _, rfl⟩ := h1
    exact ⟨h2, hr, fun h => by cases h⟩

/-- Slices of policies side by side in a block. -/
def SlsAt (W : World) (g : Nat) (ss : List SlD) : Prop := g < W.heap.size ∧ ∀ i (h : i < ss.length), W.cell? ⟨g, i, none⟩ = some ss[i].v ∧ ss[i].Ok W
theorem SlsAt.below {W W' : World} {g : Nat} {ss : List SlD} (h : SlsAt W g ss) (hb : Below W.heap.size W W') : SlsAt W' g ss :=
  ⟨Nat.lt_of_lt_of_le h.1 hb.size, fun i hi => ⟨(hb.cell h.1).trans (h.2 i hi).1, (h.2 i hi).2.below hb⟩⟩

/-- Are all of them sets? -/
noncomputable def allOk (ss : List SlD) : Bool := ss.all fun d => okS d.l
theorem allOk_bad {ss : List SlD} {i : Nat} (h : i < ss.length) (hb : okS ss[i].l = false) : allOk ss = false := by
  cases ha : allOk ss with
  | false => rfl
  | true =>
    have := List.all_eq_true.1 ha _ (List.getElem_mem h)
    rw [hb] at this
    cases this
theorem allOk_at {ss : List SlD} {i : Nat} (h : i < ss.length) (ha : allOk ss = true) : okS ss[i].l = true := List.all_eq_true.1 ha _ (List.getElem_mem h)
/-- The first n are sets. -/
def okFirst (ss : List SlD) (n : Nat) : Prop := ∀ i, i < n → ∀ h : i < ss.length, okS ss[i].l = true
theorem allOk_all {ss : List SlD} (h : okFirst ss ss.length) : allOk ss = true := List.all_eq_true.2 fun d hd => by
  obtain ⟨i, hi, rfl⟩ := List.getElem_of_mem hd
  exact h i hi hi

/-- The first n rows as one. -/
def effTo (ss : List SlD) (n : Nat) : List PolD := (ss.take n).foldl (fun acc d => mrg acc d.l) []
theorem effTo_succ {ss : List SlD} {n : Nat} (h : n < ss.length) : effTo ss (n + 1) = mrg (effTo ss n) ss[n].l := by
  unfold effTo
  rw [List.take_succ_eq_append_getElem h, List.foldl_append]
  rfl
theorem effTo_len {ss : List SlD} (hls : ∀ d ∈ ss, d.l.length ≤ 1000) : ∀ n, n ≤ ss.length → (effTo ss n).length ≤ 1000 * n
  | 0, _ => by simp [effTo]
  | n + 1, h => by
    rw [effTo_succ (by omega)]
    have h1 := effTo_len hls n (by omega)
    have h2 := mrg_length (effTo ss n) ss[n].l
    have h3 := hls _ (List.getElem_mem (show n < ss.length by omega))
    omega
/-- What policy.Effective returns, and its error. -/
noncomputable def effL (ss : List SlD) : List PolD := if allOk ss = true then effTo ss ss.length else []
noncomputable def effE (ss : List SlD) : Int := if allOk ss = true then 0 else 1

/-- A row and an error are returned. -/
def RowPost (w : World) (l : List PolD) (er : Int) (e : Ending) (w' : World) : Prop := ∃ d : SlD, d.l = l ∧ e = .returned (.tuple #[d.v, .int .i64 er]) ∧ d.Ok w' ∧ Below w.heap.size w w'
theorem RowPost.nil {w w' : World} {l : List PolD} {er : Int} {e : Ending} (hl : l = []) (he : e = .returned (.tuple #[.slice none 0 0, .int .i64 er])) (hb : Below w.heap.size w w') : RowPost w l er e w' := by
  subst hl
  exact ⟨⟨none, [], 0⟩, rfl, he, ⟨Nat.le_refl _, .inl rfl, fun _ => ⟨rfl, rfl⟩⟩, hb⟩
theorem RowPost.own {w w' : World} {l : List PolD} {er : Int} {e : Ending} {sv : Value} {base : Nat} (ho : w'.ownsRow base 24 2 sv l.length (polCells l)) (he : e = .returned (.tuple #[sv, .int .i64 er])) (hb : Below w.heap.size w w') : RowPost w l er e w' := by
  obtain ⟨d, hd, hv, hok⟩ := sl_of_own ho
  exact ⟨d, hd, by rw [he, hv], hok, hb⟩

theorem cells_at {W : World} {g : Nat} {cs : Array Value} {t : TypeId} (h : W.heap[g]? = some (.cells cs t (0, 0))) (i : Nat) : W.cell? ⟨g, i, none⟩ = cs[i]? := by simp [World.cell?, h]

theorem sls_two {w : World} {d1 d2 : SlD} (h1 : d1.Ok w) (h2 : d2.Ok w) : SlsAt (w.alloc (.cells #[d1.v, d2.v] 22)) w.heap.size [d1, d2] := by
  have hb : Below w.heap.size w (w.alloc (.cells #[d1.v, d2.v] 22)) := (Below.refl _ _).alloc (Nat.le_refl _) _
  have hn := heap_alloc_new w (.cells #[d1.v, d2.v] 22)
  refine ⟨by simp, fun i hi => ?_⟩
  have hh : i = 0 ∨ i = 1 := by simp at hi; omega
  rcases hh with rfl | rfl
  · exact ⟨cells_at hn 0, h1.below hb⟩
  · exact ⟨cells_at hn 1, h2.below hb⟩
theorem sls_three {w : World} {d1 d2 d3 : SlD} (h1 : d1.Ok w) (h2 : d2.Ok w) (h3 : d3.Ok w) : SlsAt (w.alloc (.cells #[d1.v, d2.v, d3.v] 22)) w.heap.size [d1, d2, d3] := by
  have hb : Below w.heap.size w (w.alloc (.cells #[d1.v, d2.v, d3.v] 22)) := (Below.refl _ _).alloc (Nat.le_refl _) _
  have hn := heap_alloc_new w (.cells #[d1.v, d2.v, d3.v] 22)
  refine ⟨by simp, fun i hi => ?_⟩
  have hh : i = 0 ∨ i = 1 ∨ i = 2 := by simp at hi; omega
  rcases hh with rfl | rfl | rfl
  · exact ⟨cells_at hn 0, h1.below hb⟩
  · exact ⟨cells_at hn 1, h2.below hb⟩
  · exact ⟨cells_at hn 2, h3.below hb⟩

end Go.Proofs.YtladjkkkhomngaaDoor
