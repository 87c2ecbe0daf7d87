/-
  PROVED HERE: a writer and a row of acts that it wrote, in memory.
-/
import Derived.Test.YtdklmeamhcgohaaBb
import Derived.Test.YtdklmeamhcgohaaFd
namespace Go.Proofs.Ytdklmeamhcgohaa
open Go.RowKit

/-- Acts as cells. -/
def acells (l : List ActD) : List Value := l.flatMap fun x => [.int .i64 x.k, .int .i64 x.n, .int .i64 x.m, .string x.s]
theorem acells_length (l : List ActD) : (acells l).length = l.length * 4 := by
  induction l with
  | nil => rfl
  | cons x l ih => simp only [acells, List.flatMap_cons, List.length_append, List.length_cons, List.length_nil] at ih ⊢; omega
theorem acells_append (l r : List ActD) : acells (l ++ r) = acells l ++ acells r := by simp [acells]
theorem acells_at (l : List ActD) : ∀ (i j : Nat) (h : i < l.length), j < 4 → (acells l)[i * 4 + j]? = ([Value.int .i64 l[i].k, .int .i64 l[i].n, .int .i64 l[i].m, .string l[i].s] : List Value)[j]? := by
  induction l with
  | nil => intro i j h _; simp at h
  | cons x l ih =>
    intro i j h hj
    have e : acells (x :: l) = [.int .i64 x.k, .int .i64 x.n, .int .i64 x.m, .string x.s] ++ acells l := by simp [acells]
    rw [e]
    cases i with
    | zero =>
      rw [List.getElem?_append_left (by simp; omega)]
      simp
    | succ i =>
      rw [List.getElem?_append_right (by simp; omega)]
      have := ih i j (by simp at h; omega) hj
      rw [show (i + 1) * 4 + j - ([.int .i64 x.k, .int .i64 x.n, .int .i64 x.m, .string x.s] : List Value).length = i * 4 + j by simp; omega, this]
      rfl

theorem Try.info30 : (Try.prog.info? 30).map (fun i => (i.zero, i.size, i.bytes)) = some (some (.agg #[.int .i64 0, .int .i64 0, .int .i64 0, .string ⟨#[]⟩]), 4, 40) := by kernel_rfl

/-- A row's block. -/
theorem ownsRow_heap {W : World} {base : Nat} {e : TypeId} {size : Nat} {v : Value} {n : Nat} {xs : List Value} (h : W.ownsRow base e size v n xs) {g : Nat} (hg : v.ownBlock = some g) : ∃ cur, W.heap[g]? = some (.cells cur e (0, 0)) := by
  rcases h.2 with ⟨rfl, _⟩ | ⟨g', cap, cur, rfl, _, hgg, _⟩
  · simp [Value.ownBlock] at hg
  · simp [Value.ownBlock] at hg
    subst hg
    exact ⟨cur, hgg⟩

/-- Rows of different types lie apart; a row of acts is not the writer. -/
theorem rows_apart {W : World} {b1 b2 : Nat} {e1 e2 : TypeId} {s1 s2 : Nat} {v1 v2 : Value} {n1 n2 : Nat} {x1 x2 : List Value} (h1 : W.ownsRow b1 e1 s1 v1 n1 x1) (h2 : W.ownsRow b2 e2 s2 v2 n2 x2) (hne : e1 ≠ e2) (g : Nat) (hg : v1.ownBlock = some g) : v2.ownBlock ≠ some g := fun e => by
  obtain ⟨c1, k1⟩ := ownsRow_heap h1 hg
  obtain ⟨c2, k2⟩ := ownsRow_heap h2 e
  rw [k1] at k2
  cases k2
  exact hne rfl
theorem row_not_writer {W : World} {b base : Nat} {big : Bool} {a : Int} {sv v : Value} {n : Nat} {xs : List Value} (h1 : WAt W b big a sv) (h2 : W.ownsRow base 30 4 v n xs) : v.ownBlock ≠ some b := fun e => by
  obtain ⟨c2, k2⟩ := ownsRow_heap h2 e
  rw [show W.heap[b]? = _ from h1] at k2
  cases k2

/-- THE WRITER AND THE ACTS IT WROTE, newer than W0. -/
structure BkI (W0 W : World) (b : Nat) (sv : Value) (out : List UInt8) (dv : Value) (done : List ActD) (big : Bool) (a : Int) : Prop where
  w : Holds W b big a sv out
  row : W.ownsRow W0.heap.size 30 4 dv done.length (acells done)
  lo : W0.heap.size ≤ b
  own : ∀ g, sv.ownBlock = some g → W0.heap.size ≤ g
  below : Below W0.heap.size W0 W

section
variable {W0 W : World} {b : Nat} {sv : Value} {out : List UInt8} {dv : Value} {done : List ActD} {big : Bool} {a : Int}

theorem BkI.later {W' : World} (h : BkI W0 W b sv out dv done big a) (hb : Below W.heap.size W W') : BkI W0 W' b sv out dv done big a :=
  ⟨h.w.below hb, h.row.kept (Below.grownBy hb) (by cases hv : dv.ownBlock <;> simp), h.lo, h.own, h.below.trans (hb.mono h.below.size)⟩

theorem BkI.wrote {W' : World} {sv' : Value} {out' : List UInt8} (h : BkI W0 W b sv out dv done big a) (hh : Holds W' b big a sv' out') (hw : Wrote W W' b sv sv') : BkI W0 W' b sv' out' dv done big a := by
  refine ⟨hh, ⟨h.row.1, ?_⟩, h.lo, fun g hg => ?_, h.below.trans (hw.newer h.below.size h.lo h.own)⟩
  · rcases h.row.2 with hn | ⟨g, cap, cur, he, hb, hg, rest⟩
    · exact .inl hn
    · have hog : dv.ownBlock = some g := by rw [he]; rfl
      refine .inr ⟨g, cap, cur, he, hb, (hw.block g (Array.getElem?_eq_some_iff.1 hg).1 (fun e => ?_) (fun e => ?_)).trans hg, rest⟩
      · exact row_not_writer h.w.1 h.row (by rw [hog, e])
      · exact rows_apart h.row h.w.2 (by decide) g hog e.symm
  · rcases hw.own g hg with e | e
    · exact h.own g e
    · exact Nat.le_trans h.below.size e

/-- BEHIND AN append of an act to the row. -/
theorem BkI.appended {W' : World} {dv' : Value} {x : ActD} (h : BkI W0 W b sv out dv done big a) (hr : W'.ownsRow W0.heap.size 30 4 dv' (done.length + 1) (acells done ++ [.int .i64 x.k, .int .i64 x.n, .int .i64 x.m, .string x.s]))
    (hg : W.grownBy W' dv.ownBlock) : BkI W0 W' b sv out dv' (done ++ [x]) big a := by
  have hbw : some b ≠ dv.ownBlock := fun e => row_not_writer h.w.1 h.row e.symm
  refine ⟨⟨h.w.1.kept hg hbw, h.w.2.kept hg ?_⟩, ?_, h.lo, h.own, ⟨hg.os.trans h.below.os, hg.tape.trans h.below.tape, hg.output.trans h.below.output, Nat.le_trans h.below.size hg.size, fun k hk => ?_⟩⟩
  · cases hs : sv.ownBlock with
    | none => exact .inl rfl
    | some g => exact .inr fun e => rows_apart h.w.2 h.row (by decide) g hs e.symm
  · rw [List.length_append, List.length_singleton, acells_append]
    exact hr
  · refine (hg.block k (Nat.lt_of_lt_of_le hk h.below.size) (fun e => ?_)).trans (h.below.block k hk)
    have := (h.row.lt k e.symm).1
    omega

/-- The acts of the row. -/
theorem BkI.acts (h : BkI W0 W b sv out dv done big a) (h0 : done ≠ []) : ∃ g cap, dv = .slice (some ⟨g, 0, none⟩) done.length cap ∧ g < W.heap.size ∧ ActsAt W g 0 done := by
  rcases h.row.2 with ⟨_, hn⟩ | ⟨g, cap, cur, he, hb, hg, rest⟩
  · exact absurd (List.eq_nil_of_length_eq_zero hn) h0
  · refine ⟨g, cap, he, (Array.getElem?_eq_some_iff.1 hg).1, fun i hi => ?_⟩
    have hadd : ∀ j, (⟨g, 0, none⟩ : Addr).add j = ⟨g, 0 + j, none⟩ := fun j => by unfold Addr.add; split <;> simp_all
    have hc : ∀ j, j < 4 → ∀ u, ([Value.int .i64 done[i].k, .int .i64 done[i].n, .int .i64 done[i].m, .string done[i].s] : List Value)[j]? = some u → W.cell? ⟨g, 0 + (i * 4 + j), none⟩ = some u := fun j hj u hu => by
      rw [← hadd]
      exact h.row.cells (g := g) (by rw [he]; rfl) _ _ ((acells_at done i j hi hj).trans hu)
    exact ⟨by simpa using hc 0 (by omega) _ rfl, by simpa using hc 1 (by omega) _ rfl, by simpa using hc 2 (by omega) _ rfl, by simpa using hc 3 (by omega) _ rfl⟩

/-- The length of the row's value. -/
theorem BkI.form (h : BkI W0 W b sv out dv done big a) : ∃ ao cap, dv = .slice ao done.length cap := ownsRow_form h.row
end

/-- A block that the writer does not own stays over a writing. -/
theorem wrote_keeps' {W W' : World} {b g : Nat} {sv sv' : Value} {o : Obj} (hw : Wrote W W' b sv sv') (hg : W.heap[g]? = some o) (h1 : g ≠ b) (h2 : some g ≠ sv.ownBlock) : W'.heap[g]? = some o :=
  (hw.block g (Array.getElem?_eq_some_iff.1 hg).1 h1 h2).trans hg

theorem reader_not {W : World} {br : Nat} {big : Bool} {a : Int} {s : ByteArray} {i : Nat} {wr : Bool} (hc : CdAt W br big a s i wr) {g : Nat} {cs : Array Value} {e : TypeId} (hne : e ≠ 76) (h : W.heap[g]? = some (.cells cs e (0, 0))) : g ≠ br := fun e' => by
  subst e'
  rw [show W.heap[g]? = _ from hc] at h
  cases h
  exact hne rfl

/-- An act of a reader leaves the writer and the row. -/
theorem BkI.acted {W0 W : World} {b : Nat} {sv : Value} {out : List UInt8} {dv : Value} {done : List ActD} {big : Bool} {a : Int} {W' : World} {br : Nat} {big2 : Bool} {a2 : Int} {s : ByteArray} {i : Nat} {wr : Bool} (h : BkI W0 W b sv out dv done big a) (hc : CdAt W br big2 a2 s i wr) (hlo : W0.heap.size ≤ br) (hg : W.grownBy W' (some br)) : BkI W0 W' b sv out dv done big a := by
  have h1 : b ≠ br := reader_not hc (by decide) (show W.heap[b]? = _ from h.w.1)
  refine ⟨⟨h.w.1.kept hg (by simpa using h1), h.w.2.kept hg ?_⟩, h.row.kept hg ?_, h.lo, h.own, below_then h.below hg hlo⟩
  · cases hs : sv.ownBlock with
    | none => exact .inl rfl
    | some g =>
      obtain ⟨c, k⟩ := ownsRow_heap h.w.2 hs
      exact .inr (by simpa using reader_not hc (by decide) k)
  · cases hs : dv.ownBlock with
    | none => exact .inl rfl
    | some g =>
      obtain ⟨c, k⟩ := ownsRow_heap h.row hs
      exact .inr (by simpa using reader_not hc (by decide) k)

theorem pos_bd {big : Bool} {a : Int} {S : ByteArray} {l : List ActD} {pos : Nat → Nat} (h0 : pos 0 = 0) (h : ∀ k (hk : k < l.length), rdA S big a l[k].k (askN l[k].k l[k].n l[k].s) (pos k) false = ⟨wantN l[k].k l[k].n, wantS l[k].k l[k].s, 0, pos (k + 1), false⟩) : ∀ k, k ≤ l.length → pos k ≤ S.size
  | 0, _ => by rw [h0]; exact Nat.zero_le _
  | k + 1, hk => by
    have := rdA_bd S big a l[k].k (askN l[k].k l[k].n l[k].s) (pos k) false (pos_bd h0 h k (by omega))
    rw [h k (by omega)] at this
    exact this

theorem below_two (W : World) (o1 o2 : Obj) : Below W.heap.size W ((W.alloc o1).alloc o2) := ((Below.refl _ _).alloc (Nat.le_refl _) _).alloc (by simp) _

theorem cells_new (W : World) (vs : List Value) (t : TypeId) : ∀ j u, vs[j]? = some u → (W.alloc (.cells vs.toArray t)).cell? ((⟨W.heap.size, 0, none⟩ : Addr).add j) = some u := fun j u hu => by
  have hadd : (⟨W.heap.size, 0, none⟩ : Addr).add j = ⟨W.heap.size, j, none⟩ := by unfold Addr.add; split <;> simp_all
  rw [hadd]
  have key : ∀ (X : World) (g : Nat), X.heap[g]? = some (.cells vs.toArray t (0, 0)) → X.cell? ⟨g, j, none⟩ = some u := fun X g h => by simp [World.cell?, h, hu]
  exact key _ _ (heap_alloc_new W (.cells vs.toArray t))

end Go.Proofs.Ytdklmeamhcgohaa
