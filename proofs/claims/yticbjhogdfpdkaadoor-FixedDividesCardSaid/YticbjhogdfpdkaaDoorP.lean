/- level: two numbers at one scale. -/
import Derived.Test.YticbjhogdfpdkaaDoorO
namespace Go.Proofs.YticbjhogdfpdkaaDoor
set_option maxRecDepth 8000
open Go.RowKit Go.Shelf

theorem ret_twonum {fn : Func} {p q : Tmp} {W : World} {R S a b : Nat} {s t : Int} {x y : Bool} {tmps : Array Value} (h : fn.results = #[.cell p 45, .cell q 45]) (hp : tmps.getD p undef = .pointer (some ⟨R, 0, none⟩)) (hq : tmps.getD q undef = .pointer (some ⟨S, 0, none⟩)) (ha : NumAt W R a s x) (hb : NumAt W S b t y) :
    (results fn tmps).run Tryd.prog W = .ok (.tuple #[.agg (nC a s x), .agg (nC b t y)]) W := by
  have hp' : tmps[p]?.getD undef = .pointer (some ⟨R, 0, none⟩) := by simpa using hp
  have hq' : tmps[q]?.getD undef = .pointer (some ⟨S, 0, none⟩) := by simpa using hq
  simp [results, h, hp', hq', asAddr, load_num ha, load_num hb, Result.andThen]
theorem range_num {W : World} {B n : Nat} {s : Int} {b : Bool} (h : NumAt W B n s b) : W.rangeAt B 0 (nL n s b) := fun j v hv => by
  rw [Nat.zero_add, cells_at h j]
  simpa only [nC, List.getElem?_toArray] using hv
theorem below_row {K R : Nat} {w W : World} {cs : Array Value} (h : Below K w W) (hk : K ≤ R) : Below K w (W.setRow R cs) :=
  ⟨h.os, h.tape, h.output, by simpa using h.size, fun j hj => (setRow_other W R j cs (by omega)).trans (h.block j hj)⟩

set_option maxRecDepth 100000 in
set_option maxHeartbeats 8000000 in
theorem level_any (n m : Nat) (s t : Int) (b c : Bool) (w : World) (hn : n < 10 ^ 128) (hm : m < 10 ^ 128) (h1 : 0 ≤ s) (h2 : s ≤ 900) (h3 : 0 ≤ t) (h4 : t ≤ 900) :
    Calls Tryd.prog 84 #[.agg (nC n s b), .agg (nC m t c)] w fun e w' => e = .returned (.tuple #[.agg (nC (moved n (max s t - s)) (max s t) b), .agg (nC (moved m (max s t - t)) (max s t) c)]) ∧ Below w.heap.size w w' := by
  have HS : Hid (NumAt ((((w.alloc (.cells (nC n s b) 45)).alloc (.cells (nC m t c) 45)).alloc (.cells (nC 0 0 false) 45)).alloc (.cells (nC 0 0 false) 45)) w.heap.size n s b ∧ NumAt ((((w.alloc (.cells (nC n s b) 45)).alloc (.cells (nC m t c) 45)).alloc (.cells (nC 0 0 false) 45)).alloc (.cells (nC 0 0 false) 45)) (w.heap.size + 1) m t c
      ∧ NumAt ((((w.alloc (.cells (nC n s b) 45)).alloc (.cells (nC m t c) 45)).alloc (.cells (nC 0 0 false) 45)).alloc (.cells (nC 0 0 false) 45)) (w.heap.size + 1 + 1) 0 0 false ∧ NumAt ((((w.alloc (.cells (nC n s b) 45)).alloc (.cells (nC m t c) 45)).alloc (.cells (nC 0 0 false) 45)).alloc (.cells (nC 0 0 false) 45)) (w.heap.size + 1 + 1 + 1) 0 0 false
      ∧ Below w.heap.size w ((((w.alloc (.cells (nC n s b) 45)).alloc (.cells (nC m t c) 45)).alloc (.cells (nC 0 0 false) 45)).alloc (.cells (nC 0 0 false) 45))) := Lib.hid (by
    have at_ : ∀ (x : World) (o : Obj) (k : Nat), k = x.heap.size → (x.alloc o).heap[k]? = some o := fun x o k hk => by subst hk; exact World.alloc_heap_new x o
    have old_ : ∀ (x : World) (o : Obj) (k : Nat) (u : Obj), x.heap[k]? = some u → (x.alloc o).heap[k]? = some u := fun x o k u hk => (Below.heap_alloc _ _ _ (blk_lt hk)).trans hk
    exact ⟨old_ _ _ _ _ (old_ _ _ _ _ (old_ _ _ _ _ (at_ _ _ _ rfl))), old_ _ _ _ _ (old_ _ _ _ _ (at_ _ _ _ (by simp))), old_ _ _ _ _ (at_ _ _ _ (by simp)), at_ _ _ _ (by simp), ((((Below.refl _ _).alloc (Nat.le_refl _) _).alloc (by simp) _).alloc (by simp; omega) _).alloc (by simp; omega) _⟩)
  have T1 := Lib.hid fun wx => to_any n s (max s t) b wx hn (by omega) (by omega)
  have T2 := Lib.hid fun wx => to_any m t (max s t) c wx hm (by omega) (by omega)
  clear hn hm
  obtain ⟨z, hz⟩ : ∃ z, max s t = z := ⟨_, rfl⟩
  rw [hz] at T1 T2 ⊢
  obtain ⟨N1, hN1⟩ : ∃ N, moved n (z - s) = N := ⟨_, rfl⟩
  obtain ⟨N2, hN2⟩ : ∃ N, moved m (z - t) = N := ⟨_, rfl⟩
  rw [hN1] at T1 ⊢
  rw [hN2] at T2 ⊢
  obtain ⟨fs, hu⟩ := under45
  have hl1 : (Tryd.prog.info? 45).map (·.size) = some (nL n s b).length := by rw [size45, nL_len]
  have hl2 : (Tryd.prog.info? 45).map (·.size) = some (nL m t c).length := by rw [size45, nL_len]
  clear hN1 hN2
  have hc1 : (nL n s b).toArray = nC n s b := rfl
  have hc2 : (nL m t c).toArray = nC m t c := rfl
  go_enter Tryd.func84, Tryd.ntmps84
  have c1 := HS.out.1.scale
  have c2 := HS.out.2.1.scale
  rw [← zero45] at c1 c2
  go_wp2_with fail
  all_goals
    (first | (have hzz : s = z := (by omega); subst hzz) | (have hzz : t = z := (by omega); subst hzz))
    rw [zero45]
    have hS0 := HS.out
    refine wp_region_held_drew (S := fun w' => w'.rangeAt w.heap.size 0 (nL n s b) ∧ w'.rangeAt (w.heap.size + 1) 0 (nL m t c)) (by kernel_rfl) (by simpa using ⟨range_num hS0.1, range_num hS0.2.1⟩) (fun hHeld => ?_)
    refine wpAnyH_take (i := 0) (oi := ({ dst := some 12, op := Op.load 45 (Operand.tmp 2), type := 45, pos := "number.go:194", after := #[], guard := none } : Oper)) (v := _) rfl (by kernel_rfl) (by kernel_rfl) (by kernel_rfl) (fun _ _ _ h => h) (yieldsIf_load_mid (by rfl) _ _ rfl _ _ rfl (nL n s b) _ (fun _ h => h.1) hu rfl hl1) hHeld ?_
    try simp only [Act.put, List.setIfInBounds_toArray, List.set_cons_zero, List.set_cons_succ]
    refine wpAnyH_take (i := 1) (oi := ({ dst := some 13, op := Op.move (Operand.tmp 6), type := 3, pos := "number.go:194", after := #[], guard := none } : Oper)) (v := _) rfl (by kernel_rfl) (by kernel_rfl) (by kernel_rfl) (fun _ _ _ h => h) (.inl ⟨by rfl, fun _ _ => rfl⟩) hHeld ?_
    try simp only [Act.put, List.setIfInBounds_toArray, List.set_cons_zero, List.set_cons_succ]
    refine wpAnyH_take (i := 3) (oi := ({ dst := some 15, op := Op.load 45 (Operand.tmp 3), type := 45, pos := "number.go:194", after := #[], guard := none } : Oper)) (v := _) rfl (by kernel_rfl) (by kernel_rfl) (by kernel_rfl) (fun _ _ _ h => h) (yieldsIf_load_mid (by rfl) _ _ rfl _ _ rfl (nL m t c) _ (fun _ h => h.2) hu rfl hl2) hHeld ?_
    try simp only [Act.put, List.setIfInBounds_toArray, List.set_cons_zero, List.set_cons_succ]
    refine wpAnyH_take (i := 4) (oi := ({ dst := some 16, op := Op.move (Operand.tmp 6), type := 3, pos := "number.go:194", after := #[], guard := none } : Oper)) (v := _) rfl (by kernel_rfl) (by kernel_rfl) (by kernel_rfl) (fun _ _ _ h => h) (.inl ⟨by rfl, fun _ _ => rfl⟩) hHeld ?_
    try simp only [Act.put, List.setIfInBounds_toArray, List.set_cons_zero, List.set_cons_succ]
    refine wpAnyH_ready (rs := [2]) (by kernel_rfl) (by simp) ?_
    refine AllReadyH.cons (o := ({ dst := some 14, op := Op.call { callee := Callee.value (Operand.func 61), args := #[Operand.tmp 12, Operand.tmp 13], argTypes := #[45, 3] }, type := 45, pos := "number.go:194", after := #[{ on := 0, ground := Ground.data }, { on := 1, ground := Ground.data }], guard := none } : Oper)) rfl (fun K hK => ?_) AllReadyH.nil
    rw [if_pos (by rfl)]
    go_simp
    go_at_call 61
    refine (T1.out _).mono ?_
    rintro e w3 ⟨rfl, hb3⟩
    have hb0 : Below (w.heap.size + 1 + 1 + 1 + 1) ((((w.alloc (.cells (nC n s b) 45)).alloc (.cells (nC m t c) 45)).alloc (.cells (nC 0 0 false) 45)).alloc (.cells (nC 0 0 false) 45)) w3 := by
      have := (show Below ((((w.alloc (.cells (nC n s b) 45)).alloc (.cells (nC m t c) 45)).alloc (.cells (nC 0 0 false) 45)).alloc (.cells (nC 0 0 false) 45)).drew.heap.size ((((w.alloc (.cells (nC n s b) 45)).alloc (.cells (nC m t c) 45)).alloc (.cells (nC 0 0 false) 45)).alloc (.cells (nC 0 0 false) 45)) ((((w.alloc (.cells (nC n s b) 45)).alloc (.cells (nC m t c) 45)).alloc (.cells (nC 0 0 false) 45)).alloc (.cells (nC 0 0 false) 45)).drew from ⟨rfl, rfl, rfl, Nat.le_refl _, fun _ _ => rfl⟩).trans hb3
      exact this.mono (by simp)
    clear hb3
    have a1 : NumAt w3 w.heap.size n s b := (hb0.block _ (by omega)).trans hS0.1
    have a2 : NumAt w3 (w.heap.size + 1) m t c := (hb0.block _ (by omega)).trans hS0.2.1
    have a3 : NumAt w3 (w.heap.size + 1 + 1) 0 0 false := (hb0.block _ (by omega)).trans hS0.2.2.1
    have a4 : NumAt w3 (w.heap.size + 1 + 1 + 1) 0 0 false := (hb0.block _ (by omega)).trans hS0.2.2.2.1
    have a5 : Below w.heap.size w w3 := hS0.2.2.2.2.trans (hb0.mono (by omega))
    clear hb0 hS0 hHeld
    dsimp only
    refine hK.out _ _ ⟨range_num a1, range_num a2⟩ (fun _ => ?_)
    clear hK K
    refine wpAnyH_ready (rs := [5]) (by kernel_rfl) (by simp) ?_
    refine AllReadyH.cons (o := ({ dst := some 17, op := Op.call { callee := Callee.value (Operand.func 61), args := #[Operand.tmp 15, Operand.tmp 16], argTypes := #[45, 3] }, type := 45, pos := "number.go:194", after := #[{ on := 3, ground := Ground.data }, { on := 4, ground := Ground.data }, { on := 2, ground := Ground.chain }], guard := none } : Oper)) rfl (fun K hK => ?_) AllReadyH.nil
    rw [if_pos (by rfl)]
    go_simp
    go_at_call 61
    refine (T2.out _).mono ?_
    rintro e w4 ⟨rfl, hb4⟩
    have b1 := a1.below hb4
    have b2 := a2.below hb4
    have b3 := a3.below hb4
    have b4 := a4.below hb4
    have b5 := a5.trans (hb4.mono a5.size)
    clear a1 a2 a3 a4 a5 hb4
    dsimp only
    refine hK.out _ _ ⟨range_num b1, range_num b2⟩ (fun _ => ?_)
    clear hK K
    refine wpAnyH_ready (rs := [6]) (by kernel_rfl) (by simp) ?_
    refine AllReadyH.cons (o := ({ dst := none, op := Op.store 45 (Operand.tmp 4) (Operand.tmp 14), type := 0, pos := "number.go:194", after := #[{ on := 2, ground := Ground.data }, { on := 5, ground := Ground.chain }, { on := 0, ground := Ground.phase }, { on := 1, ground := Ground.phase }, { on := 2, ground := Ground.phase }, { on := 3, ground := Ground.textOnly Departure.lateStores }, { on := 4, ground := Ground.textOnly Departure.lateStores }, { on := 5, ground := Ground.textOnly Departure.lateStoresUnsure }], guard := none } : Oper)) rfl (fun K hK => ?_) AllReadyH.nil
    rw [if_pos (by rfl)]
    refine wp_store_row _ _ _ rfl (w.heap.size + 1 + 1) _ rfl rfl 45 _ b3 (by rw [size45, nC_size]) (by rw [nC_size, nC_size]) (nC_one _ _ _) ?_
    try simp only [Act.put]
  case inl =>
    have d1 : NumAt (w4.setRow (w.heap.size + 1 + 1) (nC N1 t b)) w.heap.size n s b := b1.row (by omega)
    have d2 : NumAt (w4.setRow (w.heap.size + 1 + 1) (nC N1 t b)) (w.heap.size + 1) m t c := b2.row (by omega)
    have d3 : NumAt (w4.setRow (w.heap.size + 1 + 1) (nC N1 t b)) (w.heap.size + 1 + 1) N1 t b := b3.put
    have d4 : NumAt (w4.setRow (w.heap.size + 1 + 1) (nC N1 t b)) (w.heap.size + 1 + 1 + 1) 0 0 false := b4.row (by omega)
    have d5 := below_row (cs := nC N1 t b) b5 (show w.heap.size ≤ w.heap.size + 1 + 1 by omega)
    refine hK.out _ _ ⟨range_num d1, range_num d2⟩ (fun _ => ?_)
    clear hK K b1 b2 b3 b4 b5
    generalize w4.setRow (w.heap.size + 1 + 1) (nC N1 t b) = W5 at d1 d2 d3 d4 d5 ⊢
    refine wpAnyH_ready (rs := [7]) (by kernel_rfl) (by simp) ?_
    refine AllReadyH.cons (o := ({ dst := none, op := Op.store 45 (Operand.tmp 5) (Operand.tmp 17), type := 0, pos := "number.go:194", after := #[{ on := 5, ground := Ground.data }, { on := 6, ground := Ground.chain }, { on := 0, ground := Ground.phase }, { on := 1, ground := Ground.phase }, { on := 2, ground := Ground.phase }, { on := 3, ground := Ground.phase }, { on := 4, ground := Ground.phase }, { on := 5, ground := Ground.phase }, { on := 6, ground := Ground.phase }], guard := none } : Oper)) rfl (fun K hK => ?_) AllReadyH.nil
    rw [if_pos (by rfl)]
    refine wp_store_row _ _ _ rfl (w.heap.size + 1 + 1 + 1) _ rfl rfl 45 _ d4 (by rw [size45, nC_size]) (by rw [nC_size, nC_size]) (nC_one _ _ _) ?_
    try simp only [Act.put]
    refine hK.out _ _ ⟨range_num (d1.row (by omega)), range_num (d2.row (by omega))⟩ (fun _ => ?_)
    clear hK K
    refine wpAnyH_done (by kernel_rfl) ?_ _
    go_wp2_with fail
    exact bodyPost_ret (ret_twonum rfl rfl rfl (d3.row (by omega)) d4.put) rfl ⟨rfl, below_row d5 (by omega)⟩
  case inr =>
    have d1 : NumAt (w4.setRow (w.heap.size + 1 + 1) (nC N1 s b)) w.heap.size n s b := b1.row (by omega)
    have d2 : NumAt (w4.setRow (w.heap.size + 1 + 1) (nC N1 s b)) (w.heap.size + 1) m t c := b2.row (by omega)
    have d3 : NumAt (w4.setRow (w.heap.size + 1 + 1) (nC N1 s b)) (w.heap.size + 1 + 1) N1 s b := b3.put
    have d4 : NumAt (w4.setRow (w.heap.size + 1 + 1) (nC N1 s b)) (w.heap.size + 1 + 1 + 1) 0 0 false := b4.row (by omega)
    have d5 := below_row (cs := nC N1 s b) b5 (show w.heap.size ≤ w.heap.size + 1 + 1 by omega)
    refine hK.out _ _ ⟨range_num d1, range_num d2⟩ (fun _ => ?_)
    clear hK K b1 b2 b3 b4 b5
    generalize w4.setRow (w.heap.size + 1 + 1) (nC N1 s b) = W5 at d1 d2 d3 d4 d5 ⊢
    refine wpAnyH_ready (rs := [7]) (by kernel_rfl) (by simp) ?_
    refine AllReadyH.cons (o := ({ dst := none, op := Op.store 45 (Operand.tmp 5) (Operand.tmp 17), type := 0, pos := "number.go:194", after := #[{ on := 5, ground := Ground.data }, { on := 6, ground := Ground.chain }, { on := 0, ground := Ground.phase }, { on := 1, ground := Ground.phase }, { on := 2, ground := Ground.phase }, { on := 3, ground := Ground.phase }, { on := 4, ground := Ground.phase }, { on := 5, ground := Ground.phase }, { on := 6, ground := Ground.phase }], guard := none } : Oper)) rfl (fun K hK => ?_) AllReadyH.nil
    rw [if_pos (by rfl)]
    refine wp_store_row _ _ _ rfl (w.heap.size + 1 + 1 + 1) _ rfl rfl 45 _ d4 (by rw [size45, nC_size]) (by rw [nC_size, nC_size]) (nC_one _ _ _) ?_
    try simp only [Act.put]
    refine hK.out _ _ ⟨range_num (d1.row (by omega)), range_num (d2.row (by omega))⟩ (fun _ => ?_)
    clear hK K
    refine wpAnyH_done (by kernel_rfl) ?_ _
    go_wp2_with fail
    exact bodyPost_ret (ret_twonum rfl rfl rfl (d3.row (by omega)) d4.put) rfl ⟨rfl, below_row d5 (by omega)⟩

end Go.Proofs.YticbjhogdfpdkaaDoor
