/- Lists of pieces that are gathered; texts that came in. -/
import Derived.Test.YteblbpdpfegooaaWc
namespace Go.Proofs.Yteblbpdpfegooaa
open Go.RowKit Go.Sort

/-- Texts at a place of a block. -/
def TxAt (W : World) (b off : Nat) (l : List ByteArray) : Prop := ∀ i (h : i < l.length), W.cell? ⟨b, off + i, none⟩ = some (.string l[i])
def TxRow (W : World) (ao : Option Addr) (l : List ByteArray) : Prop := l = [] ∨ ∃ b off, ao = some ⟨b, off, none⟩ ∧ b < W.heap.size ∧ TxAt W b off l
theorem TxAt.below {W W' : World} {B b off : Nat} {l : List ByteArray} (h : TxAt W b off l) (hb : Below B W W') (hB : b < B) : TxAt W' b off l := fun i hi => (hb.cell hB).trans (h i hi)

/-- A slice's block. -/
abbrev slO (v : Value) : Obj := .cells #[v] 23

theorem cell_sl_new {W : World} {b : Nat} {v : Value} (h : W.heap[b]? = some (slO v)) : ∀ (j : Nat) (u : Value), [v][j]? = some u → W.cell? ((⟨b, 0, none⟩ : Addr).add j) = some u := by
  intro j u hu
  cases j with
  | zero =>
    simp only [List.getElem?_cons_zero] at hu
    rw [add_none, cells_at h, ← hu]
    rfl
  | succ j => simp at hu

theorem OkLt.later {w w' : World} {d : SlD} (h : OkLt w.heap.size w d) (hb : Below w.heap.size w w') : OkLt w'.heap.size w' d := by
  obtain ⟨h1, h2, h3⟩ := h
  refine ⟨h1, ?_, h3⟩
  rcases h2 with h0 | ⟨b, off, g1, g2, g3⟩
  · exact .inl h0
  · exact .inr ⟨b, off, g1, Nat.lt_of_lt_of_le g2 hb.size, g3.below hb g2⟩

/-- Lists gathered so far. -/
structure LsI (w wr : World) (v : Value) (ds : List SlD) : Prop where
  own : wr.ownsRow w.heap.size 23 1 v ds.length (slCells ds)
  ok : ∀ d ∈ ds, OkLt wr.heap.size wr d
  apart : ∀ g, Value.ownBlock v = some g → ∀ d ∈ ds, ∀ b off, d.a = some ⟨b, off, none⟩ → d.l ≠ [] → ¬ b = g
  below : Below w.heap.size w wr

/-- What Cut returns lies in a new block. -/
def CutNew (w : World) (l : List Pc) (e : Ending) (w' : World) : Prop := ∃ d : SlD, d.l = l ∧ e = .returned (.tuple #[.slice d.a d.l.length d.c, .int .i64 0]) ∧ d.Ok w' ∧ (∀ b off, d.a = some ⟨b, off, none⟩ → w.heap.size ≤ b) ∧ Below w.heap.size w w'

theorem CutNew.own {w w' : World} {l : List Pc} {e : Ending} {sv : Value} {base : Nat} (ho : w'.ownsRow base 25 4 sv l.length (pcCells l)) (he : e = .returned (.tuple #[sv, .int .i64 0])) (hb : Below w.heap.size w w') (hbase : w.heap.size ≤ base) : CutNew w l e w' := by
  obtain ⟨d, hd, hv, hok⟩ := sl_of_own ho
  refine ⟨d, hd, by rw [he, hv]; rfl, hok, fun b off ha => ?_, hb⟩
  have := (ho.lt b (by rw [hv]; unfold SlD.v; rw [ha]; rfl)).1
  omega

set_option maxRecDepth 100000 in
set_option maxHeartbeats 2000000 in
theorem cut_new (id : Int) (b : ByteArray) (n : Int) (w : World) (hm : msgB id b = true) (hs : sizeB n = true) :
    Calls Try.prog 26 #[.int .i64 id, .string b, .int .i64 n] w (CutNew w (cutL id b n)) := by
  have hb : Below w.heap.size w (w.alloc (.cells #[.int .i64 n] 3)) := (Below.refl _ _).alloc (Nat.le_refl _) _
  have HB := Lib.hid hb
  have MA := Lib.hid fun wx => msg_any id b wx
  have SA := Lib.hid fun wx => size_any n wx
  have HX := Lib.hid (Boxed.new w 3 (.int .i64 n))
  clear hb
  obtain ⟨m, rfl, h1, h2⟩ := size_num hs
  have H1 : Hid (cutL id b m = cutP id (fun _ => some m) 0 b) := Lib.hid (by unfold cutL; rw [if_pos hm, if_pos hs]; rfl)
  have GA := Lib.hid (gatheredCut_any id m w.heap.size h1 h2 b (msg_body hm) (w.alloc (.cells #[.int .i64 m] 3)) HX.out)
  rw [hm] at MA
  rw [hs] at SA
  clear hm hs h1 h2
  rw [H1.out]
  go_enter Try.func26, Try.ntmps26
  go_wp2_with (first | (go_at_call 37; refine (MA.out _).mono ?_; rintro e w2 ⟨rfl, rfl⟩) | (go_at_call 38; refine (SA.out _).mono ?_; rintro e w2 ⟨rfl, rfl⟩) | (go_at_call 39; refine GA.out.mono ?_; rintro e w2 ⟨sv, rfl, ho, ht⟩; have HO := Lib.hid ho; have HT := Lib.hid ht; clear ho ht))
  go_ret2
  exact CutNew.own HO.out rfl (HB.out.trans ((below_of_turns HT.out).mono HB.out.size)) (by simp; try omega)

theorem OkLt.grown {W W' : World} {d : SlD} {row : Option Nat} (h : OkLt W.heap.size W d) (hg : W.grownBy W' row) (hne : ∀ b off, d.a = some ⟨b, off, none⟩ → d.l ≠ [] → b < W.heap.size → ¬ some b = row) : OkLt W'.heap.size W' d := by
  obtain ⟨h1, h2, h3⟩ := h
  refine ⟨h1, ?_, h3⟩
  by_cases hl : d.l = []
  · exact .inl hl
  · rcases h2 with h0 | ⟨b, off, g1, g2, g3⟩
    · exact .inl h0
    · have hb := hg.block b g2 (hne b off g1 hl g2)
      refine .inr ⟨b, off, g1, Nat.lt_of_lt_of_le g2 hg.size, fun i hi => ?_⟩
      obtain ⟨c0, c1, c2, c3⟩ := g3 i hi
      exact ⟨(World.cell?_of_block (a := ⟨b, _, none⟩) hb).trans c0, (World.cell?_of_block (a := ⟨b, _, none⟩) hb).trans c1, (World.cell?_of_block (a := ⟨b, _, none⟩) hb).trans c2, (World.cell?_of_block (a := ⟨b, _, none⟩) hb).trans c3⟩

theorem slCells_snoc (ds : List SlD) (d : SlD) : slCells (ds ++ [d]) = slCells ds ++ [d.v] := by unfold slCells; simp

theorem LsI.later {w wr wx : World} {v : Value} {ds : List SlD} (h : LsI w wr v ds) (hb : Below wr.heap.size wr wx) : LsI w wx v ds :=
  ⟨ownsRow_below h.own hb, fun d hd => (h.ok d hd).later hb, h.apart, h.below.trans (hb.mono h.below.size)⟩

theorem LsI.start (w : World) {wr : World} (hb : Below w.heap.size w wr) : LsI w wr (.slice none 0 0) [] :=
  ⟨World.ownsRow_nil _ _ _ _, fun d hd => (by cases hd), fun g hg => (by simp [Value.ownBlock] at hg), hb⟩

theorem wpList_sl {w wr : World} {v : Value} {ds : List SlD} (h : LsI w wr v ds) (d : SlD) (hd : OkLt wr.heap.size wr d) (hap : ∀ g, Value.ownBlock v = some g → ∀ b off, d.a = some ⟨b, off, none⟩ → d.l ≠ [] → ¬ b = g)
    {os : Array Oper} {rest : List Oper} {o : Oper} {a : Act} {Q : Exit → Act → World → Prop} (hgd : o.guard = none) (s y : Operand)
    (ho : o.op = Op.call { callee := Callee.builtin Builtin.append, args := #[s, y], argTypes := #[52, 52] }) (hs : a.eval s = v) (N : Nat) (hN : wr.heap.size = N) (hy : a.eval y = .slice (some ⟨N, 0, none⟩) 1 1) (hl : ds.length ≤ 1000)
    (k : ∀ v' wx, LsI w wx v' (ds ++ [d]) → wpList Try.prog os Q rest (a.put o.dst v') wx) : wpList Try.prog os Q (o :: rest) a (wr.alloc (slO d.v)) := by
  subst hN
  obtain ⟨i0, hi0, hz0, hz1, hz2⟩ := info_parts infoSl
  have hb := h.below.size
  refine wpList_append_own_at _ hgd s y 52 ho w.heap.size 23 i0 (.slice none 0 0) 1 24 under39 hi0 hz0 hz1 hz2 rfl (by decide) v ds.length (slCells ds) hs (h.own.alloc _) ⟨wr.heap.size, 0, none⟩ 1 1 [d.v] hy rfl (cell_sl_new (heap_alloc_new _ _)) (by simp [Value.oneCell', SlD.v]) (by unfold maxLen; omega) (by omega) (by simp; omega) ?_
  intro v' w5 hown' hgrow _ hloc
  have h1 : LsI w (wr.alloc (slO d.v)) v ds := h.later ((Below.refl _ _).alloc (Nat.le_refl _) _)
  have hd1 := hd.later (show Below wr.heap.size wr (wr.alloc (slO d.v)) from (Below.refl _ _).alloc (Nat.le_refl _) _)
  have hne : ∀ x ∈ ds ++ [d], OkLt wr.heap.size wr x ∧ OkLt (wr.alloc (slO d.v)).heap.size (wr.alloc (slO d.v)) x ∧ ∀ g, Value.ownBlock v = some g → ∀ b off, x.a = some ⟨b, off, none⟩ → x.l ≠ [] → ¬ b = g := fun x hx => by
    rcases List.mem_append.1 hx with hx | hx
    · exact ⟨h.ok x hx, h1.ok x hx, fun g hg => h.apart g hg x hx⟩
    · obtain rfl := List.mem_singleton.1 hx
      exact ⟨hd, hd1, hap⟩
  refine k v' w5 ⟨by rw [List.length_append, List.length_singleton, slCells_snoc]; exact hown', fun x hx => ?_, fun g hg x hx b off ha hl0 => ?_, below_grown h1.below h1.own hgrow (Nat.le_refl _)⟩
  · obtain ⟨_, h3, h4⟩ := hne x hx
    exact h3.grown hgrow fun b off ha hl0 _ e => h4 b e.symm b off ha hl0 rfl
  · obtain ⟨h2, _, h4⟩ := hne x hx
    rcases hloc with e | e
    · exact h4 g (e ▸ hg) b off ha hl0
    · rw [hg] at e
      simp only [Option.some.injEq] at e
      rcases h2.2.1 with g0 | ⟨b', off', g1, g2, _⟩
      · exact absurd g0 hl0
      · rw [ha] at g1
        simp only [Option.some.injEq, Addr.mk.injEq] at g1
        have : (wr.alloc (slO d.v)).heap.size = wr.heap.size + 1 := by simp
        omega

theorem LsI.ll {w wr : World} {v : Value} {ds : List SlD} (h : LsI w wr v ds) : ∃ ao cap, v = .slice ao ds.length cap ∧ LlAt wr ao ds cap := by
  rcases h.own.2 with ⟨rfl, h0⟩ | ⟨g, cap, cur, rfl, _, hg, hc, _, _, ht⟩
  · have : ds = [] := List.eq_nil_of_length_eq_zero h0
    subst this
    exact ⟨none, 0, rfl, Nat.le_refl _, .inl rfl, fun d hd => by cases hd⟩
  · refine ⟨_, cap, rfl, hc, .inr ⟨g, 0, rfl, (Array.getElem?_eq_some_iff.1 hg).1, fun i hi => ?_⟩, h.ok⟩
    have hc := h.own.cells (g := g) rfl i ds[i].v (by unfold slCells; rw [List.getElem?_map, List.getElem?_eq_getElem hi]; rfl)
    rw [add_none] at hc
    exact hc

end Go.Proofs.Yteblbpdpfegooaa
