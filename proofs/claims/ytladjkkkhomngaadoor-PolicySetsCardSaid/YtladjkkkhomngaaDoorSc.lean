/- The contract of slices.Clone at policies. -/
import Derived.Test.YtladjkkkhomngaaDoorSb
import Derived.Test.YtladjkkkhomngaaDoorTf
namespace Go.Proofs.YtladjkkkhomngaaDoor
set_option maxRecDepth 8000
open Go.RowKit Go.Sort Go.BigFrame

set_option maxRecDepth 100000 in
set_option maxHeartbeats 1000000 in
theorem clone_nil (w : World) : Calls Tryd.prog 35 #[.slice none 0 0] w fun e w' => e = .returned (.slice none 0 0) ∧ w = w' := by
  have he : ∀ w : World, (binOp .eql 22 (.slice none 0 0) (.slice none 0 0)).run Tryd.prog w = .ok (.bool true) w := fun _ => rfl
  go_enter Tryd.func35, Tryd.ntmps35
  go_wp2_with fail
  go_ret
  exact ⟨rfl, rfl⟩

set_option maxRecDepth 100000 in
set_option maxHeartbeats 1000000 in
theorem clone_some (ad : Addr) (l : List PolD) (cap : Nat) (w : World) (h : (⟨some ad, l, cap⟩ : SlD).Ok w) (hl : l.length ≤ 1000) :
    Calls Tryd.prog 35 #[.slice (some ad) l.length cap] w fun e w' => ∃ sv, e = .returned sv ∧ sv ≠ .slice none 0 0 ∧ w'.ownsRow w.heap.size 24 2 sv l.length (polCells l) ∧ Below w.heap.size w w' := by
  have HR := Lib.hid h
  have HL := Lib.hid hl
  have he : ∀ w : World, (binOp .eql 22 (.slice (some ad) l.length cap) (.slice none 0 0)).run Tryd.prog w = .ok (.bool false) w := fun _ => rfl
  obtain ⟨i0, hi, hz0, hz1, hz2⟩ := info_parts Tryd.info46
  clear h hl
  go_enter Tryd.func35, Tryd.ntmps35
  go_wp2_with (at_builtin; refine wpList_append_own_at _ rfl _ _ 22 rfl w.heap.size 24 i0 (.agg #[.int .i64 0, .int .i64 0]) 2 16 under22 hi hz0 hz1 hz2 rfl (by decide) (.slice (some ⟨w.heap.size, 0, none⟩) 0 0) 0 [] rfl ⟨rfl, .inr ⟨w.heap.size, 0, #[], rfl, Nat.le_refl _, heap_alloc_new _ _, Nat.le_refl _, Nat.zero_le _, rfl, rfl⟩⟩ ad l.length cap (polCells l) rfl (polCells_len l) ?hc (polCells_one l) (by have := HL.out; unfold maxLen; omega) (by have := HL.out; omega) (by simp) ?_)
  case hc =>
    have hok := HR.out.below (((Below.refl _ _).alloc (Nat.le_refl _) (Obj.cells #[] 24 (0, 0))) : Below w.heap.size w (w.alloc (Obj.cells #[] 24 (0, 0))))
    rcases hok.row with h0 | ⟨b, off, h1, _, hp⟩
    · simp only at h0
      subst h0
      intro j u hu
      simp [polCells] at hu
    · simp only [Option.some.injEq] at h1
      subst h1
      exact row_cells hp
  intro v3 w3 hown3 hgrow3 hnil3 _
  have O3 := Lib.hid hown3
  have G3 := Lib.hid hgrow3
  have N3 : Hid (v3 ≠ .slice none 0 0) := Lib.hid fun e => by first | exact hnil3 e | exact absurd (hnil3.1 e).1 (by simp)
  clear hown3 hgrow3 hnil3
  go_wp2_with fail
  go_ret
  refine ⟨_, rfl, N3.out, by have := O3.out; simpa using this, ?_⟩
  have hb : Below w.heap.size w (w.alloc (Obj.cells #[] 24 (0, 0))) := (Below.refl _ _).alloc (Nat.le_refl _) _
  exact ⟨G3.out.os.trans hb.os, G3.out.tape.trans hb.tape, G3.out.output.trans hb.output, Nat.le_trans hb.size G3.out.size, fun j hj => (G3.out.block j (Nat.lt_of_lt_of_le hj hb.size) (by simp [Value.ownBlock]; omega)).trans (hb.block j hj)⟩

end Go.Proofs.YtladjkkkhomngaaDoor
