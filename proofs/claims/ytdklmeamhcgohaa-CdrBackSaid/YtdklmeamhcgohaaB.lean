/- A writer's state (its block and its row of bytes), and what appends do to it; the contract of (*cdr.Writer).pad. -/
import Derived.Test.YtdklmeamhcgohaaA
import Derived.Laws.AppendOwn
import Derived.Maps.AppendAt
import Derived.OwnWalk
import Derived.LoopTactic
namespace Go.Proofs.Ytdklmeamhcgohaa
open Go.RowKit

/-- Bytes as cells. -/
def bcells (l : List UInt8) : List Value := l.map fun b => Value.int .u8 b.toNat

theorem bcells_append (a b : List UInt8) : bcells (a ++ b) = bcells a ++ bcells b := by simp [bcells]
theorem bcells_length (a : List UInt8) : (bcells a).length = a.length := by simp [bcells]

/-- WHAT WRITING DOES TO MEMORY: of what was there only the writer's block b and its row have changed; a new row is a new block. -/
structure Wrote (W W' : World) (b : Nat) (sv sv' : Value) : Prop where
  os : W'.os = W.os
  tape : W'.tape = W.tape
  output : W'.output = W.output
  size : W.heap.size ≤ W'.heap.size
  block : ∀ k, k < W.heap.size → k ≠ b → some k ≠ sv.ownBlock → W'.heap[k]? = W.heap[k]?
  own : ∀ g, sv'.ownBlock = some g → sv.ownBlock = some g ∨ W.heap.size ≤ g

theorem Wrote.refl (W : World) (b : Nat) (sv : Value) : Wrote W W b sv sv := ⟨rfl, rfl, rfl, Nat.le_refl _, fun _ _ _ _ => rfl, fun _ h => .inl h⟩

theorem Wrote.trans {A B C : World} {b : Nat} {s t u : Value} (h : Wrote A B b s t) (k : Wrote B C b t u) : Wrote A C b s u := by
  refine ⟨k.os.trans h.os, k.tape.trans h.tape, k.output.trans h.output, Nat.le_trans h.size k.size, fun i hi hb hs => ?_, fun g hg => ?_⟩
  · refine (k.block i (Nat.lt_of_lt_of_le hi h.size) hb fun e => ?_).trans (h.block i hi hb hs)
    rcases h.own i e.symm with h1 | h1
    · exact hs h1.symm
    · omega
  · rcases k.own g hg with h1 | h1
    · exact h.own g h1
    · exact .inr (Nat.le_trans h.size h1)

theorem Wrote.drewN {A B : World} {b : Nat} {s t : Value} (h : Wrote A B b s t) (n : Nat) : Wrote A (B.drewN n) b s t := ⟨h.os, h.tape, h.output, h.size, h.block, h.own⟩
theorem Wrote.alloc {A B : World} {b : Nat} {s t : Value} (h : Wrote A B b s t) (o : Obj) : Wrote A (B.alloc o) b s t :=
  h.trans ⟨rfl, rfl, rfl, by simp, fun k hk _ _ => Below.heap_alloc B o k hk, fun _ h => .inl h⟩

theorem WAt.kept {W W' : World} {row : Option Nat} {b : Nat} {big : Bool} {a : Int} {sv : Value} (h : WAt W b big a sv) (hg : W.grownBy W' row) (hne : some b ≠ row) : WAt W' b big a sv := (hg.block b h.lt hne).trans h
theorem WAt.alloc {W : World} {b : Nat} {big : Bool} {a : Int} {sv : Value} (h : WAt W b big a sv) (o : Obj) : WAt (W.alloc o) b big a sv := h.kept (World.grownBy_alloc W o none) (by simp)
theorem WAt.set {W : World} {b : Nat} {big : Bool} {a : Int} {sv : Value} (sv' : Value) (h : WAt W b big a sv) : WAt (W.setCell ⟨b, 2, none⟩ sv') b big a sv' := by
  obtain ⟨hlt, hk⟩ := Array.getElem?_eq_some_iff.1 h
  show (W.heap.modify b _)[b]? = _
  rw [Array.getElem?_eq_getElem (by rw [Array.size_modify]; exact hlt), Array.getElem_modify_self, hk]
  rfl

theorem grownBy_setCell2 (W : World) (a : Addr) (v : Value) : W.grownBy (W.setCell a v) (some a.block) :=
  ⟨rfl, rfl, rfl, by simp [World.setCell], fun k _ hk => Below.heap_setCell _ _ _ k (fun e => hk (by rw [e]))⟩

/-- The row of bytes is not the writer's own block: they are of different types. -/
theorem WAt.not_row {W : World} {b : Nat} {big : Bool} {a : Int} {sv : Value} (h : WAt W b big a sv) {base size k : Nat} {v : Value} {xs : List Value} (hr : W.ownsRow base 5 size v k xs) : some b ≠ v.ownBlock := by
  rcases hr.2 with ⟨rfl, _⟩ | ⟨g, cap, cur, rfl, _, hgb, _⟩
  · simp [Value.ownBlock]
  · intro e'
    obtain rfl : b = g := by simpa [Value.ownBlock] using e'
    have := (show W.heap[b]? = _ from h).symm.trans hgb
    simp at this

/-- BEHIND AN append AND THE STORE OF ITS RESULT INTO THE WRITER. -/
theorem WAt.appended {W w1 : World} {b : Nat} {big : Bool} {a : Int} {v v' : Value} {k m : Nat} {xs ys : List Value} {W0 : World}
    (hv : WAt W b big a v) (hrow : W.ownsRow 0 5 1 v k xs) (hal : W.grownBy W0 none) (hown' : w1.ownsRow 0 5 1 v' m ys) (hgrow : W0.grownBy w1 v.ownBlock)
    (hat : v'.ownBlock = v.ownBlock ∨ v'.ownBlock = some W0.heap.size) :
    WAt w1 b big a v ∧ WAt (w1.setCell ⟨b, 2, none⟩ v') b big a v' ∧ (w1.setCell ⟨b, 2, none⟩ v').ownsRow 0 5 1 v' m ys ∧ Wrote W (w1.setCell ⟨b, 2, none⟩ v') b v v' := by
  have hv0 : WAt W0 b big a v := hv.kept hal (by simp)
  have hr0 : W0.ownsRow 0 5 1 v k xs := hrow.kept hal (by cases hb : v.ownBlock <;> simp)
  have hv1 : WAt w1 b big a v := hv0.kept hgrow (hv0.not_row hr0)
  refine ⟨hv1, hv1.set v', hown'.kept (grownBy_setCell2 w1 ⟨b, 2, none⟩ v') (.inr (hv1.not_row hown').symm), ?_⟩
  have hs := grownBy_setCell2 w1 ⟨b, 2, none⟩ v'
  refine ⟨hs.os.trans (hgrow.os.trans hal.os), hs.tape.trans (hgrow.tape.trans hal.tape), hs.output.trans (hgrow.output.trans hal.output), Nat.le_trans hal.size (Nat.le_trans hgrow.size hs.size), fun i hi hb hne => ?_, fun g hg => ?_⟩
  · have h1 : i < W0.heap.size := Nat.lt_of_lt_of_le hi hal.size
    rw [hs.block i (Nat.lt_of_lt_of_le h1 hgrow.size) (fun e => hb (by simpa using e)), hgrow.block i h1 hne, hal.block i hi (by simp)]
  · rcases hat with h1 | h1
    · exact .inl (h1 ▸ hg)
    · right
      rw [h1] at hg
      have : W0.heap.size = g := by simpa using hg
      rw [← this]; exact hal.size

theorem Try.info5 : (Try.prog.info? 5).map (fun i => (i.zero, i.size, i.bytes)) = some (some (.int .u8 0), 1, 1) := by kernel_rfl

/-- A WRITER THAT HOLDS BYTES. -/
def Holds (W : World) (b : Nat) (big : Bool) (a : Int) (sv : Value) (out : List UInt8) : Prop :=
  WAt W b big a sv ∧ W.ownsRow 0 5 1 sv out.length (bcells out)

theorem Holds.drewN {W : World} {b : Nat} {big : Bool} {a : Int} {sv : Value} {out : List UInt8} (h : Holds W b big a sv out) (n : Nat) : Holds (W.drewN n) b big a sv out := h
theorem Holds.alloc {W : World} {b : Nat} {big : Bool} {a : Int} {sv : Value} {out : List UInt8} (h : Holds W b big a sv out) (o : Obj) : Holds (W.alloc o) b big a sv out := ⟨h.1.alloc o, h.2.alloc o⟩

/-- The slice is written out, and as long as the bytes. -/
theorem Holds.form {W : World} {b : Nat} {big : Bool} {a : Int} {sv : Value} {out : List UInt8} (h : Holds W b big a sv out) : ∃ ao cap, sv = .slice ao out.length cap := by
  rcases h.2.2 with ⟨rfl, h0⟩ | ⟨g, cap, _, rfl, _⟩
  · exact ⟨none, 0, by rw [h0]⟩
  · exact ⟨_, cap, rfl⟩

theorem ownsRow_succ' {W : World} {base : Nat} {e : TypeId} {size : Nat} {v : Value} {k : Nat} {xs : List Value} (h : W.ownsRow base e size v (k + 1) xs) : ∃ g cap, v = .slice (some ⟨g, 0, none⟩) (k + 1) cap := by
  rcases h.2 with ⟨_, h0⟩ | ⟨g, cap, _, rfl, _⟩
  · omega
  · exact ⟨g, cap, rfl⟩

theorem repl_snoc (k : Nat) : List.replicate (k + 1) (0 : UInt8) = List.replicate k 0 ++ [0] := List.replicate_succ' ..

set_option maxRecDepth 100000 in
set_option maxHeartbeats 800000 in
theorem pad_any (b : Nat) (big : Bool) (a s : Int) (sv : Value) (out : List UInt8) (w : World) (h : Holds w b big a sv out) (ha : 0 ≤ a) (ha2 : a ≤ 7) (hL : out.length ≤ 100000000)
    (hs : 1 ≤ s) (hs2 : s ≤ 8) (p : Nat) (hp : padN (a + out.length) s = p) :
    Calls Try.prog 86 #[.pointer (some ⟨b, 0, none⟩), .int .i64 s] w fun e w' => e = .returned (.tuple #[]) ∧ ∃ sv', Holds w' b big a sv' (out ++ List.replicate p 0) ∧ Wrote w w' b sv sv' := by
  obtain ⟨i0, hi, hz0, hz1, hz2⟩ := info_parts Try.info5
  have hpb := padN_bd (a + out.length) s hs
  have hp8 : p < 8 := by omega
  have HP := Lib.hid hp
  clear hp hpb
  obtain ⟨ao, cap, rfl⟩ := h.form
  go_enter Try.func86, Try.ntmps86
  go_wp2_with (first | (go_at_call 15; refine (place_any b big a ao out.length cap _ h.1 ha ha2 (by omega)).mono ?_; rintro e w1 ⟨rfl, nq, rfl⟩) | (go_at_call 81; refine (padding_any _ s _ (by omega) (by omega) hs hs2).mono ?_; rintro e w1 ⟨rfl, rfl⟩; rw [HP.out]))
  go_loopw [8] (fun i wr => ∃ k : Nat, i = .int .i64 k ∧ k ≤ p ∧ ∃ sv', Holds wr b big a sv' (out ++ List.replicate k 0) ∧ Wrote w wr b (.slice ao out.length cap) sv') (fun i _ => p - (intOf i).toNat)
  case atStart => exact ⟨0, rfl, Nat.zero_le _, _, by simpa using h.drewN nq, (Wrote.refl _ _ _).drewN nq⟩
  case round =>
    obtain ⟨k, rfl, hk, sv1, hh, hw⟩ := hrel
    obtain ⟨o, ho⟩ : ∃ o, out ++ List.replicate k (0 : UInt8) = o := ⟨_, rfl⟩
    rw [ho] at hh
    have hol : o.length ≤ 200000000 := by rw [← ho]; simp; omega
    have HO := Lib.hid ho
    clear ho
    have c2 := hh.1.c2
    by_cases hlt : k < p
    · go_wp2_with (at_builtin; refine wpList_append_own_at _ rfl _ _ 54 rfl 0 5 i0 (.int .u8 0) 1 1 Try.underlying54 hi hz0 hz1 hz2 rfl (by decide) _ _ _ rfl (hh.2.alloc _) ⟨wr.heap.size, 0, none⟩ 1 1 [.int .u8 0] rfl rfl (cell_one_new _ _ _) (by simp [Value.oneCell']) (by unfold maxLen; omega) (by omega) (Nat.zero_le _) ?_; intro v' w1 hown' hgrow _ hat; obtain ⟨g', cap', rfl⟩ := ownsRow_succ' hown'; obtain ⟨hv1, hv2, hr2, hw2⟩ := WAt.appended hh.1 hh.2 (World.grownBy_alloc _ _ _) hown' hgrow hat; have hc1 := hv1.c2; have hf1 := hv1.f2)
      go_roundw
      case rel =>
        refine ⟨k + 1, by go_num, hlt, _, ⟨hv2, ?_⟩, hw.trans hw2⟩
        rw [repl_snoc, ← List.append_assoc, HO.out, bcells_append, List.length_append]
        exact hr2
      case measure => simp [intOf]; omega
    · obtain rfl : k = p := by omega
      go_wp2
      go_end0
      exact ⟨rfl, _, by rw [HO.out]; exact hh, hw⟩

end Go.Proofs.Ytdklmeamhcgohaa
