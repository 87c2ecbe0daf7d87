/- The iterator frag.pieces over the sizes that are told. -/
import Derived.Test.YteblbpdpfegooaaD
namespace Go.Proofs.Yteblbpdpfegooaa
open Go.RowKit Go.Shelf
attribute [local go_sem] Oper.semAt_some

/-- The sizes, one by one. -/
def gS (ss : List Int) (k : Nat) : Option Nat := (ss[k]?).map Int.toNat

theorem gS_at {ss : List Int} {k n : Nat} (h : k < ss.length) (hn : ss[k] = n) : gS ss k = some n := by
  unfold gS
  rw [List.getElem?_eq_getElem h, hn]
  rfl

theorem gS_end {ss : List Int} {k : Nat} (h : ss.length ≤ k) : gS ss k = none := by
  unfold gS
  rw [List.getElem?_eq_none h]
  rfl

def allS (ss : List Int) : Bool := ss.all sizeB

theorem allS_at {ss : List Int} (h : allS ss = true) (k : Nat) (hk : k < ss.length) : ∃ n : Nat, ss[k] = n ∧ 1 ≤ n ∧ n ≤ 65536 := by
  have := List.all_eq_true.1 h _ (List.getElem_mem hk)
  simp only [sizeB, Bool.and_eq_true, decide_eq_true_eq] at this
  exact ⟨ss[k].toNat, by omega, by omega, by omega⟩

theorem IntsAt.turns {W W' : World} {b off : Nat} {l : List Int} {Bs : List Nat} (h : IntsAt W b off l) (ht : Turns Bs W W') (hb : b < W.heap.size) (hn : b ∉ Bs) : IntsAt W' b off l := fun i hi => by
  have e : W'.cell? ⟨b, off + i, none⟩ = W.cell? ⟨b, off + i, none⟩ := by simp only [World.cell?, ht.block b hb hn]
  rw [e]
  exact h i hi

theorem IntsAt.same {W W' : World} {b off : Nat} {l : List Int} (h : IntsAt W b off l) (hk : W'.heap[b]? = W.heap[b]?) : IntsAt W' b off l := fun i hi => by
  have e : W'.cell? ⟨b, off + i, none⟩ = W.cell? ⟨b, off + i, none⟩ := by simp only [World.cell?, hk]
  rw [e]
  exact h i hi

/-- What the closure of Sizes holds: how far it is, and the sizes. -/
structure NsI (Bi Bz : Nat) (ao : Option Addr) (b off cap : Nat) (ss : List Int) (k : Nat) (W : World) : Prop where
  i : Boxed W Bi 3 (.int .i64 k)
  z : Boxed W Bz 41 (.slice ao ss.length cap)
  l : ss = [] ∨ (ao = some ⟨b, off, none⟩ ∧ IntsAt W b off ss)

theorem IntsAt.lt {W : World} {b off : Nat} {l : List Int} (h : IntsAt W b off l) (hl : l ≠ []) : b < W.heap.size :=
  World.block_lt_of_cell? W _ (h 0 (List.length_pos_iff.2 hl))

theorem NsI.kept {Bi Bz : Nat} {ao : Option Addr} {b off cap n0 B1 B2 B3 : Nat} {ss : List Int} {k : Nat} {W W' : World} (h : NsI Bi Bz ao b off cap ss k W) (hk : Kept (KP n0 B1 B2 B3) W W') (h1 : Bi < n0) (h2 : Bz < n0) (h3 : ss ≠ [] → b < n0) : NsI Bi Bz ao b off cap ss k W' :=
  ⟨(hk Bi (.inl h1)).trans h.i, (hk Bz (.inl h2)).trans h.z, by
    rcases h.l with h0 | ⟨ha, hl⟩
    · exact .inl h0
    · by_cases e : ss = []
      · exact .inl e
      · exact .inr ⟨ha, hl.same (hk b (.inl (h3 e)))⟩⟩

theorem NsI.turned {Bi Bz : Nat} {ao : Option Addr} {b off cap : Nat} {ss : List Int} {k : Nat} {W W' : World} {Bs : List Nat} (h : NsI Bi Bz ao b off cap ss k W) (ht : Turns Bs W W') (h1 : Bi ∉ Bs) (h2 : Bz ∉ Bs) (h3 : ss ≠ [] → b ∉ Bs) : NsI Bi Bz ao b off cap ss k W' :=
  ⟨Boxed.turns h.i ht h1, Boxed.turns h.z ht h2, by
    rcases h.l with h0 | ⟨ha, hl⟩
    · exact .inl h0
    · by_cases e : ss = []
      · exact .inl e
      · exact .inr ⟨ha, hl.turns ht (hl.lt e) (h3 e)⟩⟩

theorem NsI.other {Bi Bz : Nat} {ao : Option Addr} {b off cap : Nat} {ss : List Int} {k : Nat} {W : World} (h : NsI Bi Bz ao b off cap ss k W) (B : Nat) (v : Value) (h1 : Bi ≠ B) (h2 : Bz ≠ B) (h3 : ss ≠ [] → b ≠ B) : NsI Bi Bz ao b off cap ss k (W.setCell ⟨B, 0, none⟩ v) :=
  ⟨Boxed.cell_other h.i B 0 v h1, Boxed.cell_other h.z B 0 v h2, by
    rcases h.l with h0 | ⟨ha, hl⟩
    · exact .inl h0
    · by_cases e : ss = []
      · exact .inl e
      · exact .inr ⟨ha, hl.same ((grownBy_cell W ⟨B, 0, none⟩ v).block b (hl.lt e) (fun e2 => h3 e (Option.some.inj e2)))⟩⟩

theorem NsI.next {Bi Bz : Nat} {ao : Option Addr} {b off cap : Nat} {ss : List Int} {k : Nat} {W : World} (h : NsI Bi Bz ao b off cap ss k W) (m : Nat) (h2 : Bz ≠ Bi) (h3 : ss ≠ [] → b ≠ Bi) : NsI Bi Bz ao b off cap ss m (W.setCell ⟨Bi, 0, none⟩ (.int .i64 m)) :=
  ⟨Boxed.set _ h.i, Boxed.cell_other h.z Bi 0 _ h2, by
    rcases h.l with h0 | ⟨ha, hl⟩
    · exact .inl h0
    · by_cases e : ss = []
      · exact .inl e
      · exact .inr ⟨ha, hl.same ((grownBy_cell W ⟨Bi, 0, none⟩ _).block b (hl.lt e) (fun e2 => h3 e (Option.some.inj e2)))⟩⟩

end Go.Proofs.Yteblbpdpfegooaa
