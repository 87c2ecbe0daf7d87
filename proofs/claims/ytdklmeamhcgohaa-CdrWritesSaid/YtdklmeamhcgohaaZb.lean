/-
  PROVED HERE: laws on bytes with others over them, and on what holds between two rounds of Put.
-/
import Derived.Test.YtdklmeamhcgohaaZa
namespace Go.Proofs.Ytdklmeamhcgohaa
open Go.RowKit Go.Sort


theorem patch_length (out : List UInt8) (i : Nat) (l : List UInt8) (h : i + l.length ≤ out.length) : (patch out i l).length = out.length := by
  simp [patch]; omega

theorem patch_nil (out : List UInt8) (i : Nat) : patch out i [] = out := by simp [patch]

theorem patch_step (out : List UInt8) (i : Nat) (l : List UInt8) (v : UInt8) (h : i + l.length < out.length) : (patch out i l).set (i + l.length) v = patch out i (l ++ [v]) := by
  have h1 : (out.take i ++ l).length = i + l.length := by simp; omega
  unfold patch
  rw [List.set_append_right _ _ (by rw [h1]; exact Nat.le_refl _), h1, Nat.sub_self, List.drop_eq_getElem_cons h]
  simp [Nat.add_assoc]

/-- BETWEEN TWO ROUNDS OF Put: the writer holds the bytes with those so far over them; the boxes. -/
def PutI (w : World) (b : Nat) (big : Bool) (a : Int) (sv : Value) (out : List UInt8) (n : Int) (i B Bi : Nat) (pre : List Sh) (W : World) : Prop :=
  (Holds W b big a sv (patch out i (pre.map (bt n))) ∧ Wrote w W b sv sv) ∧ Boxed W B 25 (.pointer (some ⟨b, 0, none⟩)) ∧ Boxed W (B + 1) 3 (.int .i64 n) ∧ Boxed W Bi 3 (.int .i64 ((i + pre.length : Nat) : Int))

theorem PutI.own (w2 w : World) (hle : w.heap.size ≤ w2.heap.size) (b : Nat) (big : Bool) (a : Int) (sv : Value) (out : List UInt8) (n : Int) (i B Bi : Nat) : OwnFrom w2.heap.size (PutI w b big a sv out n i B Bi) := by
  rintro s X Y row ⟨⟨hh, hw⟩, h1, h2, h3⟩ hg hrow
  have hr : ∀ r, row = some r → ∃ o, X.heap[r]? = some o ∧ o.isCells = false := fun r e => (hrow r e).2
  exact ⟨⟨hh.kept hg hr, hw.grown hg (fun r e => Nat.le_trans hle (hrow r e).1)⟩, boxed_kept h1 hg hr, boxed_kept h2 hg hr, boxed_kept h3 hg hr⟩

/-- What the body's statement reads. -/
structure PutS (B Bi b g i cap L : Nat) (n : Int) (W : World) : Prop where
  x : W.cell? ⟨B, 0, none⟩ = some (.pointer (some ⟨b, 0, none⟩))
  n : W.cell? ⟨B + 1, 0, none⟩ = some (.int .i64 n)
  i : W.cell? ⟨Bi, 0, none⟩ = some (.int .i64 (i : Int))
  s : W.cell? ⟨b, 2, none⟩ = some (.slice (some ⟨g, 0, none⟩) L cap)

theorem keeps_set {W : World} {B : Nat} {p : Addr} {u : Value} {cs : Array Value} {t : TypeId} {fz : Nat × Nat} (h : W.heap[p.block]? = some (.cells cs t fz)) : KeepsFrom B W (W.setCell p u) := by
  refine ⟨by simp [World.setCell], fun k o _ hk ho => ?_⟩
  rw [Below.heap_setCell W p u k (fun e => ?_)]
  · exact hk
  · subst e
    rw [h] at hk
    cases hk
    cases ho

end Go.Proofs.Ytdklmeamhcgohaa
