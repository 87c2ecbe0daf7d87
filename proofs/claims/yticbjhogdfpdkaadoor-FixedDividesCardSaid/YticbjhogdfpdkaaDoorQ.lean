/- minus. -/
import Derived.Test.YticbjhogdfpdkaaDoorP
import Derived.Test.YticbjhogdfpdkaaDoorNa
namespace Go.Proofs.YticbjhogdfpdkaaDoor
set_option maxRecDepth 8000
open Go.RowKit Go.Shelf

theorem at_block (x : World) (o : Obj) (k : Nat) (hk : k = x.heap.size) : (x.alloc o).heap[k]? = some o := by subst hk; exact World.alloc_heap_new x o
theorem old_block (x : World) (o : Obj) (k : Nat) (u : Obj) (hk : x.heap[k]? = some u) : (x.alloc o).heap[k]? = some u := (Below.heap_alloc _ _ _ (blk_lt hk)).trans hk

theorem wp_build45 {o : Oper} {a : Act} {w : World} {K : Act → World → Prop} {Q : Exit → Act → World → Prop} (x y z : Operand) (ho : o.op = .build 45 #[(0, x), (1, y), (2, z)]) (n : Nat) (s : Int) (b : Bool)
    (hx : a.eval x = .agg (dC n)) (hy : a.eval y = .int .i64 s) (hz : a.eval z = .bool b) (h : K (a.put o.dst (.agg (nC n s b))) w) : o.wp Tryd.prog a w K Q := by
  have hc : Tryd.prog.built 45 ((#[(0, x), (1, y), (2, z)] : Array (Nat × Operand)).map fun (i, x) => (i, a.eval x)).toList = some (nC n s b) := by
    have : ((#[(0, x), (1, y), (2, z)] : Array (Nat × Operand)).map fun (i, x) => (i, a.eval x)).toList = [(0, .agg (dC n)), (1, .int .i64 s), (2, .bool b)] := by simp [hx, hy, hz]
    rw [this]
    exact built45 n s b
  exact wp_build 45 _ ho (by rw [hc]; rfl) (by rw [hc]; exact h)

set_option maxRecDepth 100000 in
set_option maxHeartbeats 8000000 in
theorem times_any (n m : Nat) (s t : Int) (b c : Bool) (w : World) (hn : n < 10 ^ 128) (hp : n * m < 10 ^ 128) (h1 : 0 ≤ s) (h2 : s ≤ 900) (h3 : 0 ≤ t) (h4 : t ≤ 900) :
    Calls Tryd.prog 47 #[.agg (nC n s b), .agg (nC m t c)] w fun e w' => e = .returned (.agg (nC (n * m) (s + t) (b != c))) ∧ Below w.heap.size w w' := by
  have HS : Hid (NumAt (((w.alloc (.cells (nC n s b) 45)).alloc (.cells (nC m t c) 45)).alloc (.cells (nC 0 0 false) 45)) w.heap.size n s b ∧ NumAt (((w.alloc (.cells (nC n s b) 45)).alloc (.cells (nC m t c) 45)).alloc (.cells (nC 0 0 false) 45)) (w.heap.size + 1) m t c
      ∧ NumAt (((w.alloc (.cells (nC n s b) 45)).alloc (.cells (nC m t c) 45)).alloc (.cells (nC 0 0 false) 45)) (w.heap.size + 1 + 1) 0 0 false
      ∧ Below w.heap.size w (((w.alloc (.cells (nC n s b) 45)).alloc (.cells (nC m t c) 45)).alloc (.cells (nC 0 0 false) 45))) := Lib.hid
    ⟨old_block _ _ _ _ (old_block _ _ _ _ (at_block _ _ _ rfl)), old_block _ _ _ _ (at_block _ _ _ (by simp)), at_block _ _ _ (by simp), (((Below.refl _ _).alloc (Nat.le_refl _) _).alloc (by simp) _).alloc (by simp; omega) _⟩
  have PR := Lib.hid fun wx (ha : DigAt wx w.heap.size n) (hb : DigAt wx (w.heap.size + 1) m) => product_any w.heap.size (w.heap.size + 1) n m wx ha hb hn hp
  clear hn hp
  go_enter Tryd.func47, Tryd.ntmps47
  go_wp2_with fail
  rw [zero45]
  have hS0 := HS.out
  have r1 := hS0.1.scale
  have r2 := hS0.2.1.scale
  have r3 := hS0.1.sign
  have r4 := hS0.2.1.sign
  refine wp_region_held_drew (S := fun w' => w'.cell? ⟨w.heap.size, 128, none⟩ = some (.int .i64 s) ∧ w'.cell? ⟨w.heap.size + 1, 128, none⟩ = some (.int .i64 t) ∧ w'.cell? ⟨w.heap.size, 129, none⟩ = some (.bool b) ∧ w'.cell? ⟨w.heap.size + 1, 129, none⟩ = some (.bool c)) (by kernel_rfl) ⟨r1, r2, r3, r4⟩ (fun hHeld => ?_)
  clear r1 r2 r3 r4
  refine wpAnyH_take (i := 0) (oi := ({ dst := some 5, op := Op.fieldAddr 45 (Operand.tmp 2) 0, type := 0, pos := "number.go:216", after := #[], guard := none } : Oper)) (v := ?_) rfl (by kernel_rfl) (by kernel_rfl) (by kernel_rfl) (fun _ _ _ h => h) (Or.inl ⟨by rfl, ?_⟩) hHeld ?_
  rotate_left 1
  · intro w' hSw
    obtain ⟨q1, q2, q3, q4⟩ := hSw
    go_simp
    all_goals with_reducible rfl
  simp only [Act.put, List.setIfInBounds_toArray, List.set_cons_zero, List.set_cons_succ]
  refine wpAnyH_take (i := 1) (oi := ({ dst := some 6, op := Op.fieldAddr 45 (Operand.tmp 3) 0, type := 0, pos := "number.go:216", after := #[], guard := none } : Oper)) (v := ?_) rfl (by kernel_rfl) (by kernel_rfl) (by kernel_rfl) (fun _ _ _ h => h) (Or.inl ⟨by rfl, ?_⟩) hHeld ?_
  rotate_left 1
  · intro w' hSw
    obtain ⟨q1, q2, q3, q4⟩ := hSw
    go_simp
    all_goals with_reducible rfl
  simp only [Act.put, List.setIfInBounds_toArray, List.set_cons_zero, List.set_cons_succ]
  refine wpAnyH_take (i := 3) (oi := ({ dst := some 8, op := Op.fieldAddr 45 (Operand.tmp 2) 1, type := 0, pos := "number.go:216", after := #[], guard := none } : Oper)) (v := ?_) rfl (by kernel_rfl) (by kernel_rfl) (by kernel_rfl) (fun _ _ _ h => h) (Or.inl ⟨by rfl, ?_⟩) hHeld ?_
  rotate_left 1
  · intro w' hSw
    obtain ⟨q1, q2, q3, q4⟩ := hSw
    go_simp
    all_goals with_reducible rfl
  simp only [Act.put, List.setIfInBounds_toArray, List.set_cons_zero, List.set_cons_succ]
  refine wpAnyH_take (i := 5) (oi := ({ dst := some 10, op := Op.fieldAddr 45 (Operand.tmp 3) 1, type := 0, pos := "number.go:216", after := #[], guard := none } : Oper)) (v := ?_) rfl (by kernel_rfl) (by kernel_rfl) (by kernel_rfl) (fun _ _ _ h => h) (Or.inl ⟨by rfl, ?_⟩) hHeld ?_
  rotate_left 1
  · intro w' hSw
    obtain ⟨q1, q2, q3, q4⟩ := hSw
    go_simp
    all_goals with_reducible rfl
  simp only [Act.put, List.setIfInBounds_toArray, List.set_cons_zero, List.set_cons_succ]
  refine wpAnyH_take (i := 8) (oi := ({ dst := some 13, op := Op.fieldAddr 45 (Operand.tmp 2) 2, type := 0, pos := "number.go:216", after := #[], guard := none } : Oper)) (v := ?_) rfl (by kernel_rfl) (by kernel_rfl) (by kernel_rfl) (fun _ _ _ h => h) (Or.inl ⟨by rfl, ?_⟩) hHeld ?_
  rotate_left 1
  · intro w' hSw
    obtain ⟨q1, q2, q3, q4⟩ := hSw
    go_simp
    all_goals with_reducible rfl
  simp only [Act.put, List.setIfInBounds_toArray, List.set_cons_zero, List.set_cons_succ]
  refine wpAnyH_take (i := 10) (oi := ({ dst := some 15, op := Op.fieldAddr 45 (Operand.tmp 3) 2, type := 0, pos := "number.go:216", after := #[], guard := none } : Oper)) (v := ?_) rfl (by kernel_rfl) (by kernel_rfl) (by kernel_rfl) (fun _ _ _ h => h) (Or.inl ⟨by rfl, ?_⟩) hHeld ?_
  rotate_left 1
  · intro w' hSw
    obtain ⟨q1, q2, q3, q4⟩ := hSw
    go_simp
    all_goals with_reducible rfl
  simp only [Act.put, List.setIfInBounds_toArray, List.set_cons_zero, List.set_cons_succ]
  refine wpAnyH_take (i := 4) (oi := ({ dst := some 9, op := Op.load 3 (Operand.tmp 8), type := 3, pos := "number.go:216", after := #[{ on := 3, ground := Ground.data }], guard := none } : Oper)) (v := ?_) rfl (by kernel_rfl) (by kernel_rfl) (by kernel_rfl) (fun _ _ _ h => h) (Or.inl ⟨by rfl, ?_⟩) hHeld ?_
  rotate_left 1
  · intro w' hSw
    obtain ⟨q1, q2, q3, q4⟩ := hSw
    go_simp
    all_goals with_reducible rfl
  simp only [Act.put, List.setIfInBounds_toArray, List.set_cons_zero, List.set_cons_succ]
  refine wpAnyH_take (i := 6) (oi := ({ dst := some 11, op := Op.load 3 (Operand.tmp 10), type := 3, pos := "number.go:216", after := #[{ on := 5, ground := Ground.data }], guard := none } : Oper)) (v := ?_) rfl (by kernel_rfl) (by kernel_rfl) (by kernel_rfl) (fun _ _ _ h => h) (Or.inl ⟨by rfl, ?_⟩) hHeld ?_
  rotate_left 1
  · intro w' hSw
    obtain ⟨q1, q2, q3, q4⟩ := hSw
    go_simp
    all_goals with_reducible rfl
  simp only [Act.put, List.setIfInBounds_toArray, List.set_cons_zero, List.set_cons_succ]
  refine wpAnyH_take (i := 9) (oi := ({ dst := some 14, op := Op.load 4 (Operand.tmp 13), type := 4, pos := "number.go:216", after := #[{ on := 8, ground := Ground.data }], guard := none } : Oper)) (v := ?_) rfl (by kernel_rfl) (by kernel_rfl) (by kernel_rfl) (fun _ _ _ h => h) (Or.inl ⟨by rfl, ?_⟩) hHeld ?_
  rotate_left 1
  · intro w' hSw
    obtain ⟨q1, q2, q3, q4⟩ := hSw
    go_simp
    all_goals with_reducible rfl
  simp only [Act.put, List.setIfInBounds_toArray, List.set_cons_zero, List.set_cons_succ]
  refine wpAnyH_take (i := 11) (oi := ({ dst := some 16, op := Op.load 4 (Operand.tmp 15), type := 4, pos := "number.go:216", after := #[{ on := 10, ground := Ground.data }], guard := none } : Oper)) (v := ?_) rfl (by kernel_rfl) (by kernel_rfl) (by kernel_rfl) (fun _ _ _ h => h) (Or.inl ⟨by rfl, ?_⟩) hHeld ?_
  rotate_left 1
  · intro w' hSw
    obtain ⟨q1, q2, q3, q4⟩ := hSw
    go_simp
    all_goals with_reducible rfl
  simp only [Act.put, List.setIfInBounds_toArray, List.set_cons_zero, List.set_cons_succ]
  refine wpAnyH_take (i := 7) (oi := ({ dst := some 12, op := Op.binOp BinOp.add 3 (Operand.tmp 9) (Operand.tmp 11) 3, type := 3, pos := "number.go:216", after := #[{ on := 4, ground := Ground.data }, { on := 6, ground := Ground.data }], guard := none } : Oper)) (v := ?_) rfl (by kernel_rfl) (by kernel_rfl) (by kernel_rfl) (fun _ _ _ h => h) (Or.inl ⟨by rfl, ?_⟩) hHeld ?_
  rotate_left 1
  · intro w' hSw
    obtain ⟨q1, q2, q3, q4⟩ := hSw
    go_simp
    all_goals with_reducible rfl
  simp only [Act.put, List.setIfInBounds_toArray, List.set_cons_zero, List.set_cons_succ]
  refine wpAnyH_take (i := 12) (oi := ({ dst := some 17, op := Op.binOp BinOp.neq 4 (Operand.tmp 14) (Operand.tmp 16) 4, type := 4, pos := "number.go:216", after := #[{ on := 9, ground := Ground.data }, { on := 11, ground := Ground.data }], guard := none } : Oper)) (v := ?_) rfl (by kernel_rfl) (by kernel_rfl) (by kernel_rfl) (fun _ _ _ h => h) (Or.inl ⟨by rfl, ?_⟩) hHeld ?_
  rotate_left 1
  · intro w' hSw
    obtain ⟨q1, q2, q3, q4⟩ := hSw
    go_simp
    all_goals with_reducible rfl
  simp only [Act.put, List.setIfInBounds_toArray, List.set_cons_zero, List.set_cons_succ]
  refine wpAnyH_ready (rs := [2]) (by kernel_rfl) (by simp) ?_
  refine AllReadyH.cons (o := ({ dst := some 7, op := Op.call { callee := Callee.value (Operand.func 88), args := #[Operand.tmp 5, Operand.tmp 6], argTypes := #[87, 87] }, type := 43, pos := "number.go:216", after := #[{ on := 0, ground := Ground.data }, { on := 1, ground := Ground.data }], guard := none } : Oper)) rfl (fun K hK => ?_) AllReadyH.nil
  rw [if_pos (by rfl)]
  go_simp
  go_at_call 88
  refine (PR.out (World.drew _) (hS0.1.dig.same rfl) (hS0.2.1.dig.same rfl)).mono ?_
  rintro e w3 ⟨rfl, hb3⟩
  have hb0 : Below (w.heap.size + 1 + 1 + 1) (((w.alloc (.cells (nC n s b) 45)).alloc (.cells (nC m t c) 45)).alloc (.cells (nC 0 0 false) 45)) w3 := by
    have := (show Below (((w.alloc (.cells (nC n s b) 45)).alloc (.cells (nC m t c) 45)).alloc (.cells (nC 0 0 false) 45)).drew.heap.size (((w.alloc (.cells (nC n s b) 45)).alloc (.cells (nC m t c) 45)).alloc (.cells (nC 0 0 false) 45)) (((w.alloc (.cells (nC n s b) 45)).alloc (.cells (nC m t c) 45)).alloc (.cells (nC 0 0 false) 45)).drew from ⟨rfl, rfl, rfl, Nat.le_refl _, fun _ _ => rfl⟩).trans hb3
    exact this.mono (by simp)
  clear hb3
  have a1 : NumAt w3 w.heap.size n s b := (hb0.block _ (by omega)).trans hS0.1
  have a2 : NumAt w3 (w.heap.size + 1) m t c := (hb0.block _ (by omega)).trans hS0.2.1
  have a3 : NumAt w3 (w.heap.size + 1 + 1) 0 0 false := (hb0.block _ (by omega)).trans hS0.2.2.1
  have a5 : Below w.heap.size w w3 := hS0.2.2.2.trans (hb0.mono (by omega))
  clear hb0 hS0 hHeld
  dsimp only
  refine hK.out _ _ ⟨a1.scale, a2.scale, a1.sign, a2.sign⟩ (fun _ => ?_)
  clear hK K
  refine wpAnyH_ready (rs := [13]) (by kernel_rfl) (by simp) ?_
  refine AllReadyH.cons (o := ({ dst := some 18, op := Op.build 45 #[(0, Operand.tmp 7), (1, Operand.tmp 12), (2, Operand.tmp 17)], type := 45, pos := "number.go:216", after := #[{ on := 2, ground := Ground.data }, { on := 7, ground := Ground.data }, { on := 12, ground := Ground.data }], guard := none } : Oper)) rfl (fun K hK => ?_) AllReadyH.nil
  rw [if_pos (by rfl)]
  refine wp_build45 _ _ _ rfl (n * m) (IntKind.i64.wrap (s + t)) (!b == c) rfl rfl rfl ?_
  simp only [Act.put, List.setIfInBounds_toArray, List.set_cons_zero, List.set_cons_succ]
  refine hK.out _ _ ⟨a1.scale, a2.scale, a1.sign, a2.sign⟩ (fun _ => ?_)
  clear hK K
  have hw : IntKind.i64.wrap (s + t) = s + t := by rw [IntKind.wrap_i64]; omega
  rw [hw]
  refine wpAnyH_ready (rs := [14]) (by kernel_rfl) (by simp) ?_
  refine AllReadyH.cons (o := ({ dst := none, op := Op.store 45 (Operand.tmp 4) (Operand.tmp 18), type := 0, pos := "number.go:216", after := #[{ on := 13, ground := Ground.data }, { on := 2, ground := Ground.chain }, { on := 0, ground := Ground.phase }, { on := 1, ground := Ground.phase }, { on := 2, ground := Ground.phase }, { on := 3, ground := Ground.phase }, { on := 4, ground := Ground.phase }, { on := 5, ground := Ground.phase }, { on := 6, ground := Ground.phase }, { on := 7, ground := Ground.phase }, { on := 8, ground := Ground.phase }, { on := 9, ground := Ground.phase }, { on := 10, ground := Ground.phase }, { on := 11, ground := Ground.phase }, { on := 12, ground := Ground.phase }, { on := 13, ground := Ground.phase }], guard := none } : Oper)) rfl (fun K hK => ?_) AllReadyH.nil
  rw [if_pos (by rfl)]
  refine wp_store_row _ _ _ rfl (w.heap.size + 1 + 1) _ rfl rfl 45 _ a3 (by rw [size45, nC_size]) (by rw [nC_size, nC_size]) (nC_one _ _ _) ?_
  try simp only [Act.put]
  refine hK.out _ _ ⟨(a1.row (by omega)).scale, (a2.row (by omega)).scale, (a1.row (by omega)).sign, (a2.row (by omega)).sign⟩ (fun _ => ?_)
  clear hK K
  refine wpAnyH_done (by kernel_rfl) ?_ _
  go_wp2_with fail
  exact bodyPost_ret (ret_num rfl rfl a3.put) rfl ⟨rfl, below_row a5 (by omega)⟩

end Go.Proofs.YticbjhogdfpdkaaDoor
