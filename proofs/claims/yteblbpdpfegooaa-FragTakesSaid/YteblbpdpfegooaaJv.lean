/- Acts in memory; two joiners that lie apart. -/
import Derived.Test.YteblbpdpfegooaaJs
namespace Go.Proofs.Yteblbpdpfegooaa
open Go.RowKit Go.Sort Go.BigFrame

/-- An act. -/
structure Ac where
  kind : Int
  id : Int
  p : Pc

def AcsAt (W : World) (b off : Nat) (l : List Ac) : Prop := ∀ i (h : i < l.length), W.cell? ⟨b, off + i * 6, none⟩ = some (.int .i64 l[i].kind) ∧ W.cell? ⟨b, off + i * 6 + 1, none⟩ = some (.int .i64 l[i].id) ∧ W.cell? ⟨b, off + i * 6 + 2, none⟩ = some (.int .i64 l[i].p.id) ∧ W.cell? ⟨b, off + i * 6 + 3, none⟩ = some (.int .i64 l[i].p.place) ∧ W.cell? ⟨b, off + i * 6 + 4, none⟩ = some (.bool l[i].p.more) ∧ W.cell? ⟨b, off + i * 6 + 5, none⟩ = some (.string l[i].p.body)

def AcRow (W : World) (ao : Option Addr) (l : List Ac) : Prop := l = [] ∨ ∃ b off, ao = some ⟨b, off, none⟩ ∧ b < W.heap.size ∧ AcsAt W b off l

theorem AcsAt.below {W W' : World} {B b off : Nat} {l : List Ac} (h : AcsAt W b off l) (hb : Below B W W') (hB : b < B) : AcsAt W' b off l := fun i hi => by
  obtain ⟨h0, h1, h2, h3, h4, h5⟩ := h i hi
  exact ⟨(hb.cell hB).trans h0, (hb.cell hB).trans h1, (hb.cell hB).trans h2, (hb.cell hB).trans h3, (hb.cell hB).trans h4, (hb.cell hB).trans h5⟩

abbrev acO (k i pi pl : Int) (m : Bool) (bd : ByteArray) : Obj := .cells #[.int .i64 k, .int .i64 i, .int .i64 pi, .int .i64 pl, .bool m, .string bd] 27

/-- Pieces gathered so far. -/
structure PgI (w wr : World) (v : Value) (l : List Pc) : Prop where
  own : wr.ownsRow w.heap.size 25 4 v l.length (pcCells l)
  below : Below w.heap.size w wr

theorem PgI.later {w wr wx : World} {v : Value} {l : List Pc} (h : PgI w wr v l) (hb : Below wr.heap.size wr wx) : PgI w wx v l :=
  ⟨ownsRow_below h.own hb, h.below.trans (hb.mono h.below.size)⟩

theorem wpList_pc {w wr : World} {v : Value} {l : List Pc} (h : PgI w wr v l) {pi pl : Int} {m : Bool} {bd : ByteArray} {os : Array Oper} {rest : List Oper} {o : Oper} {a : Act} {Q : Exit → Act → World → Prop} (hgd : o.guard = none) (s y : Operand)
    (ho : o.op = Op.call { callee := Callee.builtin Builtin.append, args := #[s, y], argTypes := #[23, 23] }) (hs : a.eval s = v) (N : Nat) (hN : wr.heap.size = N) (hy : a.eval y = .slice (some ⟨N, 0, none⟩) 1 1) (hl : l.length ≤ 4611686018427387904) (hl2 : (l.length + 1) * 40 ≤ 140737488355328)
    (k : ∀ v' wx, PgI w wx v' (l ++ [⟨pi, pl, m, bd⟩]) → wpList Try.prog os Q rest (a.put o.dst v') wx) : wpList Try.prog os Q (o :: rest) a (wr.alloc (pcO pi pl m bd)) := by
  subst hN
  obtain ⟨i0, hi0, hz0, hz1, hz2⟩ := info_parts infoPc
  have hb := h.below.size
  refine wpList_append_own_at _ hgd s y 23 ho w.heap.size 25 i0 (.agg #[.int .i64 0, .int .i64 0, .bool false, .string ⟨#[]⟩]) 4 40 under24 hi0 hz0 hz1 hz2 rfl (by decide) v l.length (pcCells l) hs (h.own.alloc _) ⟨wr.heap.size, 0, none⟩ 1 1 [.int .i64 pi, .int .i64 pl, .bool m, .string bd] hy rfl (cell_pc_new (heap_alloc_new _ _)) (by simp [Value.oneCell']) (by unfold maxLen; omega) hl2 (by simp; omega) ?_
  intro v' w5 hown' hgrow _ _
  have h1 : PgI w (wr.alloc (pcO pi pl m bd)) v l := h.later ((Below.refl _ _).alloc (Nat.le_refl _) _)
  exact k v' w5 ⟨by rw [List.length_append, List.length_singleton, pcCells_snoc]; exact hown', below_grown h1.below h1.own hgrow (Nat.le_refl _)⟩

/-- What Clear returns. -/
def ClearX (JX : JXT) (w : World) (F : Nat → Prop) (b : Nat) (most room : Int) (l : List Int) (e : Ending) (w' : World) : Prop :=
  ∃ ao cap, e = .returned (.slice ao l.length cap) ∧ IntNew w w' ao l ∧ StepX JX w F b most room [] w'

def CancelX (JX : JXT) (w : World) (F : Nat → Prop) (b : Nat) (most room : Int) (er : Int) (l : List Op) (e : Ending) (w' : World) : Prop := e = .returned (.int .i64 er) ∧ StepX JX w F b most room l w'

def numsO (l : List Op) : Prop := ∀ x ∈ l, numB x.id = true

section
variable (b : Nat) (most room : Int) (l : List Op) (id : Int) (F : Nat → Prop) (w : World)
theorem fcancelX (h : FX w F b most room l) (ok : OpsOk most l) (hm : limB most room = true) : Calls Try.prog 10 #[.pointer (some ⟨b, 0, none⟩), .int .i64 id] w (CancelX FX w F b most room (cancelE l id) (cancelL l id)) := by
  obtain ⟨mb, D, loc, h⟩ := h
  exact (fcancel_any b mb most room D loc l id F w h ok hm).mono fun e w' h => ⟨h.1, h.2.x⟩
theorem rcancelX (h : RX w F b most room l) (hl : l.length ≤ 100) : Calls Try.prog 11 #[.pointer (some ⟨b, 0, none⟩), .int .i64 id] w (CancelX RX w F b most room (cancelE l id) (cancelL l id)) := by
  obtain ⟨sv, h⟩ := h
  exact (rcancel_any b most room sv l id F w h hl).mono fun e w' h => ⟨h.1, h.2.x⟩
theorem fheldX (h : FX w F b most room l) : Calls Try.prog 12 #[.pointer (some ⟨b, 0, none⟩), .int .i64 id] w (HeldP w (held l id)) := by
  obtain ⟨mb, D, loc, h⟩ := h
  exact fheld_any b mb most room D loc l id F w h
theorem rheldX (h : RX w F b most room l) (hl : l.length ≤ 100) : Calls Try.prog 13 #[.pointer (some ⟨b, 0, none⟩), .int .i64 id] w (HeldP w (held l id)) := by
  obtain ⟨sv, h⟩ := h
  exact rheld_any b most room sv l id F w h hl
theorem fclearX (h : FX w F b most room l) (ok : OpsOk most l) (hm : limB most room = true) (hv : numsO l) : Calls Try.prog 15 #[.pointer (some ⟨b, 0, none⟩)] w (ClearX FX w F b most room (sortI (idsO l))) := by
  obtain ⟨mb, D, loc, h⟩ := h
  exact (fclear_any b mb most room D loc l F w h ok hm hv).mono fun e w' ⟨ao, cap, h1, h2, h3⟩ => ⟨ao, cap, h1, h2, h3.x⟩
theorem rclearX (h : RX w F b most room l) (hl : l.length ≤ 100) : Calls Try.prog 16 #[.pointer (some ⟨b, 0, none⟩)] w (ClearX RX w F b most room (sortI (idsO l))) := by
  obtain ⟨sv, h⟩ := h
  exact (rclear_any b most room sv l F w h hl).mono fun e w' ⟨ao, cap, h1, h2, h3⟩ => ⟨ao, cap, h1, h2, h3.x⟩
theorem fopenX (h : FX w F b most room l) (hl : l.length ≤ 100) : Calls Try.prog 19 #[.pointer (some ⟨b, 0, none⟩)] w (IntsP w (sortI (idsO l))) := by
  obtain ⟨mb, D, loc, h⟩ := h
  exact fopen_any b mb most room D loc l F w h hl
theorem ropenX (h : RX w F b most room l) (hl : l.length ≤ 100) : Calls Try.prog 20 #[.pointer (some ⟨b, 0, none⟩)] w (IntsP w (sortI (idsO l))) := by
  obtain ⟨sv, h⟩ := h
  exact ropen_any b most room sv l F w h hl
theorem fbytesX (h : FX w F b most room l) : Calls Try.prog 21 #[.pointer (some ⟨b, 0, none⟩)] w fun e w' => e = .returned (.int .i64 (bytesO l)) ∧ Below w.heap.size w w' := by
  obtain ⟨mb, D, loc, h⟩ := h
  exact fbytes_any b mb most room D loc l F w h
theorem rbytesX (h : RX w F b most room l) (hl : l.length ≤ 100) (hx : ∀ x ∈ l, x.body.size ≤ 65536) : Calls Try.prog 22 #[.pointer (some ⟨b, 0, none⟩)] w fun e w' => e = .returned (.int .i64 (bytesO l)) ∧ Below w.heap.size w w' := by
  obtain ⟨sv, h⟩ := h
  exact rbytes_any b most room sv l F w h hl hx
end

/-- Two joiners that lie apart, newer than w. -/
structure Pj (w wr : World) (F G : Nat → Prop) (b1 b2 : Nat) (most room : Int) (l1 l2 : List Op) : Prop where
  a : FX wr F b1 most room l1
  b : RX wr G b2 most room l2
  sep : ∀ k, F k → ¬ G k
  na : ∀ k, F k → w.heap.size ≤ k
  nb : ∀ k, G k → w.heap.size ≤ k
  below : Below w.heap.size w wr

section
variable {w wr wx : World} {F G : Nat → Prop} {b1 b2 : Nat} {most room : Int} {l1 l2 m : List Op}
theorem Pj.later (h : Pj w wr F G b1 b2 most room l1 l2) (hb : Below wr.heap.size wr wx) : Pj w wx F G b1 b2 most room l1 l2 :=
  ⟨fx.below h.a hb, rx.below h.b hb, h.sep, h.na, h.nb, h.below.trans (hb.mono h.below.size)⟩
theorem Pj.stepA (h : Pj w wr F G b1 b2 most room l1 l2) (hs : StepX FX wr F b1 most room m wx) : ∃ F', Pj w wx F' G b1 b2 most room m l2 := by
  obtain ⟨F', h1, h2, h3⟩ := hs
  refine ⟨F', h1, rx.kept h.b h3 fun k hk e => h.sep k e hk, fun k hk e => ?_, fun k hk => ?_, h.nb, h.below.trans (h3.below h.below.size h.na)⟩
  · rcases h2 k hk with g | g
    · exact h.sep k g e
    · have := rx.few h.b k e; omega
  · rcases h2 k hk with g | g
    · exact h.na k g
    · have := h.below.size; omega
theorem Pj.stepB (h : Pj w wr F G b1 b2 most room l1 l2) (hs : StepX RX wr G b2 most room m wx) : ∃ G', Pj w wx F G' b1 b2 most room l1 m := by
  obtain ⟨G', h1, h2, h3⟩ := hs
  refine ⟨G', fx.kept h.a h3 h.sep, h1, fun k hk e => ?_, h.na, fun k hk => ?_, h.below.trans (h3.below h.below.size h.nb)⟩
  · rcases h2 k e with g | g
    · exact h.sep k hk g
    · have := fx.few h.a k hk; omega
  · rcases h2 k hk with g | g
    · exact h.nb k g
    · have := h.below.size; omega
end

theorem step_keeps {JX : JXT} {w wx : World} {F : Nat → Prop} {b : Nat} {most room : Int} {m : List Op} (hs : StepX JX w F b most room m wx) {k : Nat} {o : Obj} (hk : w.heap[k]? = some o) (hn : ¬ F k) : wx.heap[k]? = some o := by
  obtain ⟨F', _, _, h3⟩ := hs
  exact h3.kept hk hn

theorem numsO.took {most room : Int} {l : List Op} (h : numsO l) (p : Pc) : numsO (took most room l p).l := by
  unfold Go.Proofs.Yteblbpdpfegooaa.took
  split
  · rename_i hv
    have hn : numB p.id = true := by
      simp only [vP, Bool.and_eq_true] at hv
      exact hv.1
    split
    · unfold tookN
      split
      · exact h
      · split
        · exact h
        · split
          · exact h
          · split
            · exact h
            · intro x hx
              rcases List.mem_append.1 hx with hx | hx
              · exact h x hx
              · rw [List.mem_singleton.1 hx]; exact hn
    · rename_i i hi
      obtain ⟨g1, g2, g3⟩ := idxO_lt hi
      rw [getD_at g1]
      unfold tookS
      split
      · exact fun x hx => h x (List.mem_of_mem_eraseIdx hx)
      · split
        · exact fun x hx => h x (List.mem_of_mem_eraseIdx hx)
        · split
          · exact fun x hx => h x (List.mem_of_mem_eraseIdx hx)
          · intro x hx
            rcases List.mem_or_eq_of_mem_set hx with hx | rfl
            · exact h x hx
            · exact h l[i] (List.getElem_mem g1)
  · exact h
theorem numsO.cancel {l : List Op} (h : numsO l) (id : Int) : numsO (cancelL l id) := by
  unfold cancelL
  split
  · split
    · exact h
    · exact fun x hx => h x (List.mem_of_mem_eraseIdx hx)
  · exact h
theorem OpsOk.cancel {most : Int} {l : List Op} (h : OpsOk most l) (id : Int) : OpsOk most (cancelL l id) := by
  unfold cancelL
  split
  · split
    · exact h
    · exact h.erase _
  · exact h

theorem IntNew.step {JX : JXT} {wa W wx : World} {G : Nat → Prop} {b : Nat} {most room : Int} {m : List Op} {ao : Option Addr} {l : List Int} (h : IntNew wa W ao l) (hs : StepX JX W G b most room m wx) (hG : ∀ k, G k → k < wa.heap.size) : IntNew wa wx ao l := by
  obtain ⟨F', _, _, h3⟩ := hs
  exact h.kept h3 hG

/-- What Cancel's region reads. -/
structure AcS (W : World) (A : Nat) (id : Int) : Prop where
  s1 : W.cell? ⟨A, 1, none⟩ = some (.int .i64 id)

/-- Between two acts. -/
structure TkI (w wr : World) (b1 b2 : Nat) (most room : Int) : Prop where
  out : ∃ F G ops, Pj w wr F G b1 b2 most room ops ops ∧ OpsOk most ops ∧ numsO ops

end Go.Proofs.Yteblbpdpfegooaa
