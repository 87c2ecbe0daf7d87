/- to: a number at another scale. -/
import Derived.Test.YticbjhogdfpdkaaDoorN
namespace Go.Proofs.YticbjhogdfpdkaaDoor
set_option maxRecDepth 8000
open Go.RowKit Go.Shelf

set_option maxRecDepth 100000 in
set_option maxHeartbeats 8000000 in
theorem to_any (n : Nat) (s t : Int) (b : Bool) (w : World) (hn : n < 10 ^ 128) (h1 : -1000 ≤ t - s) (h2 : t - s ≤ 1000) :
    Calls Tryd.prog 61 #[.agg (nC n s b), .int .i64 t] w fun e w' => e = .returned (.agg (nC (moved n (t - s)) t b)) ∧ Below w.heap.size w w' := by
  have HS : Hid (NumAt ((w.alloc (.cells (nC n s b) 45)).alloc (.cells (nC 0 0 false) 45)) w.heap.size n s b ∧ NumAt ((w.alloc (.cells (nC n s b) 45)).alloc (.cells (nC 0 0 false) 45)) (w.heap.size + 1) 0 0 false ∧ Below w.heap.size w ((w.alloc (.cells (nC n s b) 45)).alloc (.cells (nC 0 0 false) 45))) := Lib.hid (by
    have at_ : ∀ (x : World) (o : Obj) (k : Nat), k = x.heap.size → (x.alloc o).heap[k]? = some o := fun x o k hk => by subst hk; exact World.alloc_heap_new x o
    have old_ : ∀ (x : World) (o : Obj) (k : Nat) (u : Obj), x.heap[k]? = some u → (x.alloc o).heap[k]? = some u := fun x o k u hk => (Below.heap_alloc _ _ _ (blk_lt hk)).trans hk
    exact ⟨old_ _ _ _ _ (at_ _ _ _ rfl), at_ _ _ _ (by simp), (((Below.refl _ _).alloc (Nat.le_refl _) _).alloc (by simp) _)⟩)
  have SH := Lib.hid fun wx => shifted_any n (t - s) wx hn h1 h2
  clear hn
  go_enter Tryd.func61, Tryd.ntmps61
  have LD := Lib.hid (load_dig HS.out.1.dig)
  have c1 := HS.out.1.scale
  have c2 := HS.out.1.sign
  go_wp2_with (first
    | (go_at_call 90; refine (SH.out _).mono ?_; rintro e w3 ⟨rfl, hb3⟩; have H1 := Lib.hid (HS.out.1.below hb3); have H2 := Lib.hid (HS.out.2.1.below hb3); have B3 := Lib.hid (HS.out.2.2.trans (hb3.mono HS.out.2.2.size)); clear hb3)
    | (rw [zero45]; refine wpList_loadV rfl 43 _ rfl ⟨w.heap.size, 0, none⟩ rfl _ LD.out ?_)
    | (refine wpList_storeV rfl 43 _ _ rfl ⟨w.heap.size, 0, none⟩ rfl _ rfl _ (store_numdig (m := moved n (t - s)) H1.out) ?_; have H3 := Lib.hid (H1.out.setDig (m := moved n (t - s))); have H4 := Lib.hid (show NumAt (w3.setCells w.heap.size 0 (dL (moved n (t - s)))) (w.heap.size + 1) 0 0 false from (heap_setCells_other w.heap.size (dL (moved n (t - s))) 0 w3 (w.heap.size + 1) (by omega)).trans H2.out); have B4 := Lib.hid (below_setCells w.heap.size (dL (moved n (t - s))) 0 B3.out (Nat.le_refl _)); generalize w3.setCells w.heap.size 0 (dL (moved n (t - s))) = W4 at H3 H4 B4 ⊢; have c3 := H3.out.scale; have f3 := frozen_at H3.out 128)
    | refine wpList_loadV rfl 45 _ rfl ⟨w.heap.size, 0, none⟩ rfl _ (load_num H3.out.setScale) ?_
    | refine wpList_storeV rfl 45 _ _ rfl ⟨w.heap.size + 1, 0, none⟩ rfl _ rfl _ (store_num (m := moved n (t - s)) (t := t) (c := b) (H4.out.other ⟨w.heap.size, 128, none⟩ (.int .i64 t) (by simp only; omega))) ?_)
  refine bodyPost_ret (ret_num rfl rfl (H4.out.other ⟨w.heap.size, 128, none⟩ (.int .i64 t) (by simp only; omega)).put) rfl ⟨rfl, ?_⟩
  have b4 := B4.out
  exact ⟨b4.os, b4.tape, b4.output, by have := b4.size; simpa [World.setCell] using this, fun j hj => (setRow_other _ _ j _ (by omega)).trans ((heap_setCell_other _ _ _ _ (by simp only; omega)).trans (b4.block j hj))⟩

end Go.Proofs.YticbjhogdfpdkaaDoor
